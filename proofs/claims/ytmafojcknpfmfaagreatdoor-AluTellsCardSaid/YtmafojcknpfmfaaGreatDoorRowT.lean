/- Two or three objects that lie at the heap's end: what lies there, and what storing a row into one of them makes. Nothing of any program. -/
import Derived.Test.YtmafojcknpfmfaaGreatDoorRowM
import Derived.Deep.Draws
namespace Go.Proofs.YtmafojcknpfmfaaGreatDoor
open Go.RowKit

theorem at2_0 (w : World) (o0 o1 : Obj) (n : Nat) (h : n = w.heap.size) : ((w.alloc o0).alloc o1).heap[n]? = some o0 := by
  rw [heap_lt _ _ _ (by rw [World.size_alloc]; omega), heap_atn _ _ _ h]
theorem at2_1 (w : World) (o0 o1 : Obj) (n : Nat) (h : n = w.heap.size + 1) : ((w.alloc o0).alloc o1).heap[n]? = some o1 := by
  rw [heap_atn _ _ _ (by rw [World.size_alloc]; omega)]
theorem at3_0 (w : World) (o0 o1 o2 : Obj) (n : Nat) (h : n = w.heap.size) : (((w.alloc o0).alloc o1).alloc o2).heap[n]? = some o0 := by
  rw [heap_lt _ _ _ (by rw [World.size_alloc, World.size_alloc]; omega), at2_0 _ _ _ _ h]
theorem at3_1 (w : World) (o0 o1 o2 : Obj) (n : Nat) (h : n = w.heap.size + 1) : (((w.alloc o0).alloc o1).alloc o2).heap[n]? = some o1 := by
  rw [heap_lt _ _ _ (by rw [World.size_alloc, World.size_alloc]; omega), at2_1 _ _ _ _ h]
theorem at3_2 (w : World) (o0 o1 o2 : Obj) (n : Nat) (h : n = w.heap.size + 2) : (((w.alloc o0).alloc o1).alloc o2).heap[n]? = some o2 := by
  rw [heap_atn _ _ _ (by rw [World.size_alloc, World.size_alloc]; omega)]
theorem set2_0 (w : World) (c c' : Array Value) (t : TypeId) (o1 : Obj) (n : Nat) (h : n = w.heap.size) : ((w.alloc (.cells c t)).alloc o1).setRow n c' = (w.alloc (.cells c' t)).alloc o1 := by
  rw [setRow_alloc_past _ _ _ _ (by rw [World.size_alloc]; omega), setRow_atn _ _ _ _ _ h]
theorem set2_1 (w : World) (c c' : Array Value) (t : TypeId) (o0 : Obj) (n : Nat) (h : n = w.heap.size + 1) : ((w.alloc o0).alloc (.cells c t)).setRow n c' = (w.alloc o0).alloc (.cells c' t) := by
  rw [setRow_atn _ _ _ _ _ (by rw [World.size_alloc]; omega)]
theorem set3_0 (w : World) (c c' : Array Value) (t : TypeId) (o1 o2 : Obj) (n : Nat) (h : n = w.heap.size) : (((w.alloc (.cells c t)).alloc o1).alloc o2).setRow n c' = ((w.alloc (.cells c' t)).alloc o1).alloc o2 := by
  rw [setRow_alloc_past _ _ _ _ (by rw [World.size_alloc, World.size_alloc]; omega), set2_0 _ _ _ _ _ _ h]
theorem set3_1 (w : World) (c c' : Array Value) (t : TypeId) (o0 o2 : Obj) (n : Nat) (h : n = w.heap.size + 1) : (((w.alloc o0).alloc (.cells c t)).alloc o2).setRow n c' = ((w.alloc o0).alloc (.cells c' t)).alloc o2 := by
  rw [setRow_alloc_past _ _ _ _ (by rw [World.size_alloc, World.size_alloc]; omega), set2_1 _ _ _ _ _ _ h]
theorem set3_2 (w : World) (c c' : Array Value) (t : TypeId) (o0 o1 : Obj) (n : Nat) (h : n = w.heap.size + 2) : (((w.alloc o0).alloc o1).alloc (.cells c t)).setRow n c' = ((w.alloc o0).alloc o1).alloc (.cells c' t) := by
  rw [setRow_atn _ _ _ _ _ (by rw [World.size_alloc, World.size_alloc]; omega)]
theorem heap_drewN (w : World) (d : Nat) : (w.drewN d).heap = w.heap := rfl
theorem setCell_drewN' (w : World) (d : Nat) (a : Addr) (v : Value) : (w.drewN d).setCell a v = (w.setCell a v).drewN d := rfl
theorem drewN_drew' (w : World) (d : Nat) : (w.drewN d).drew = w.drewN (d + 1) := rfl
theorem below2 {B : Nat} {w w1 : World} (hb : Below B w w1) (hB : B ≤ w1.heap.size) (o0 o1 : Obj) : Below B w ((w1.alloc o0).alloc o1) :=
  (hb.alloc hB _).alloc (by rw [World.size_alloc]; omega) _
theorem below3 {B : Nat} {w w1 : World} (hb : Below B w w1) (hB : B ≤ w1.heap.size) (o0 o1 o2 : Obj) : Below B w (((w1.alloc o0).alloc o1).alloc o2) :=
  (below2 hb hB _ _).alloc (by rw [World.size_alloc, World.size_alloc]; omega) _
end Go.Proofs.YtmafojcknpfmfaaGreatDoor
