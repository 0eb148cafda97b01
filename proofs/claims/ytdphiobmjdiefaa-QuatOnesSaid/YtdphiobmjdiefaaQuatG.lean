/- Layer 10's steps upon package mill's mill of words: products, and rates. Conditions: the numbers are of the kind int32. -/
import Derived.Test.YtdphiobmjdiefaaQuatH
namespace Go.Proofs.Ytdphiobmjdiefaa
open Go.RowKit

/-- The operations of the region of mul, in numbers; an order in which they may come up. -/
def mulInfos : List (Nat × Nat × Nat × Nat) := [(0, 0, 8, 8), (1, 1, 9, 128), (2, 2, 10, 256), (3, 0, 11, 8), (4, 8, 12, 1024), (5, 0, 13, 16), (6, 32, 14, 4096), (7, 0, 15, 32), (8, 128, 16, 16384), (9, 336, 17, 43008), (10, 0, 18, 16), (11, 1024, 19, 131072), (12, 0, 20, 32), (13, 4096, 21, 524288), (14, 10752, 22, 1310720), (15, 0, 23, 16), (16, 32768, 24, 4194304), (17, 0, 25, 32), (18, 131072, 26, 16777216), (19, 344064, 27, 41943040), (20, 0, 28, 16), (21, 1048576, 29, 134217728), (22, 0, 30, 32), (23, 4194304, 31, 536870912), (24, 11010048, 32, 1342177280), (25, 17317888, 33, 2216689664), (26, 50332164, 34, 4295033344), (27, 0, 35, 8), (28, 134217728, 36, 17179869184), (29, 268435456, 37, 34359738368), (30, 0, 38, 8), (31, 1073741824, 39, 137438953472), (32, 0, 40, 16), (33, 4294967296, 41, 549755813888), (34, 0, 42, 32), (35, 17179869184, 43, 2199023255552), (36, 45164265472, 44, 5772436045824), (37, 0, 45, 16), (38, 137438953472, 46, 17592186044416), (39, 0, 47, 32), (40, 549755813888, 48, 70368744177664), (41, 1443109011456, 49, 175921860444160), (42, 0, 50, 16), (43, 4398046511104, 51, 562949953421312), (44, 0, 52, 32), (45, 17592186044416, 53, 2251799813685248), (46, 46179488366592, 54, 5629499534213120), (47, 0, 55, 16), (48, 140737488355328, 56, 18014398509481984), (49, 0, 57, 32), (50, 562949953421312, 58, 72057594037927936), (51, 1477743627730944, 59, 180143985094819840), (52, 2324367581118464, 60, 297519050383163392), (53, 6755468697403392, 61, 576469617115922432), (54, 0, 62, 8), (55, 18014398509481984, 63, 2305843009213693952), (56, 36028797018963968, 64, 4611686018427387904), (57, 0, 65, 8), (58, 144115188075855872, 66, 18446744073709551616), (59, 0, 67, 16), (60, 576460752303423488, 68, 73786976294838206464), (61, 0, 69, 32), (62, 2305843009213693952, 70, 295147905179352825856), (63, 6061845098440687616, 71, 774763251095801167872), (64, 0, 72, 16), (65, 18446744073709551616, 73, 2361183241434822606848), (66, 0, 74, 32), (67, 73786976294838206464, 75, 9444732965739290427392), (68, 193690812773950291968, 76, 23611832414348226068480), (69, 0, 77, 16), (70, 590295810358705651712, 78, 75557863725914323419136), (71, 0, 79, 32), (72, 2361183241434822606848, 80, 302231454903657293676544), (73, 6198106008766409342976, 81, 755578637259143234191360), (74, 0, 82, 16), (75, 18889465931478580854784, 83, 2417851639229258349412352), (76, 0, 84, 32), (77, 75557863725914323419136, 85, 9671406556917033397649408), (78, 198339392280525098975232, 86, 24178516392292583494123520), (79, 311971335774575936929792, 87, 39932330979145719927013376), (80, 906703660140602773733376, 88, 77372442270329021447274496), (81, 0, 89, 8), (82, 2417851639229258349412352, 90, 309485009821345068724781056), (83, 4835703278458516698824704, 91, 618970019642690137449562112), (84, 0, 92, 8), (85, 19342813113834066795298816, 93, 2475880078570760549798248448), (86, 0, 94, 16), (87, 77371252455336267181195264, 95, 9903520314283042199192993792), (88, 0, 96, 32), (89, 309485009821345068724781056, 97, 39614081257132168796771975168), (90, 813607076600645434577256448, 98, 103986963299971943091526434816), (91, 0, 99, 16), (92, 2475880078570760549798248448, 100, 316912650057057350374175801344), (93, 0, 101, 32), (94, 9903520314283042199192993792, 102, 1267650600228229401496703205376), (95, 25996740824992985772881608704, 103, 3169126500570573503741758013440), (96, 0, 104, 16), (97, 79228162514264337593543950336, 105, 10141204801825835211973625643008), (98, 0, 106, 32), (99, 316912650057057350374175801344, 107, 40564819207303340847894502572032), (100, 831895706399775544732211478528, 108, 101412048018258352119736256430080), (101, 0, 109, 16), (102, 2535301200456458802993406410752, 110, 324518553658426726783156020576256), (103, 0, 111, 32), (104, 10141204801825835211973625643008, 112, 1298074214633706907132624082305024), (105, 26620662604792817431430767312896, 113, 3245185536584267267831560205762560), (106, 41872083888788702418187977752576, 114, 5359626737764953909528061152329728), (107, 121695705233355864840991804489728, 115, 10384753411334723071116454645465088), (108, 162259278038139192013406506844160, 116, 20769187588881816577716032876052480), (109, 649037107316853453566312041152511, 0, 41538374868278621028243970633760832)]
def mulOrder : List (Bool × Nat × Nat) := [(true, 0, 1), (true, 1, 3), (true, 2, 7), (true, 3, 15), (true, 4, 31), (true, 5, 63), (true, 6, 127), (true, 7, 255), (true, 8, 511), (true, 10, 1535), (true, 11, 3583), (true, 12, 7679), (true, 13, 15871), (true, 15, 48639), (true, 16, 114175), (true, 17, 245247), (true, 18, 507391), (true, 20, 1555967), (true, 21, 3653119), (true, 22, 7847423), (true, 23, 16236031), (true, 27, 150453759), (true, 28, 418889215), (true, 29, 955760127), (true, 30, 2029501951), (true, 31, 4176985599), (true, 32, 8471952895), (true, 33, 17061887487), (true, 34, 34241756671), (true, 35, 68601495039), (true, 37, 206040448511), (true, 38, 480918355455), (true, 39, 1030674169343), (true, 40, 2130185797119), (true, 42, 6528232308223), (true, 43, 15324325330431), (true, 44, 32916511374847), (true, 45, 68100883463679), (true, 47, 208838371819007), (true, 48, 490313348529663), (true, 49, 1053263301950975), (true, 50, 2179163208793599), (true, 54, 20193561718275583), (true, 55, 56222358737239551), (true, 56, 128279952775167487), (true, 57, 272395140851023359), (true, 58, 560625517002735103), (true, 59, 1137086269306158591), (true, 60, 2290007773913005567), (true, 61, 4595850783126699519), (true, 62, 9207536801554087423), (true, 64, 27654280875263639039), (true, 65, 64547769022682742271), (true, 66, 138334745317520948735), (true, 67, 285908697907197361663), (true, 69, 876204508265903013375), (true, 70, 2056796128983314316799), (true, 71, 4417979370418136923647), (true, 72, 9140345853287782137343), (true, 74, 28029811784766362992127), (true, 75, 65808743647723524701695), (true, 76, 141366607373637848120831), (true, 77, 292482334825466494959103), (true, 81, 2710333974054724844371455), (true, 82, 7546037252513241543196159), (true, 83, 17217443809430274940845567), (true, 84, 36560256923264341736144383), (true, 85, 75245883150932475326742015), (true, 86, 152617135606268742507937279), (true, 87, 307359640516941276870327807), (true, 88, 616844650338286345595108863), (true, 89, 1235814669980976483044670975), (true, 91, 3711694748551737032842919423), (true, 92, 8663454905693258132439416319), (true, 93, 18566975219976300331632410111), (true, 94, 38374015848542384730018397695), (true, 96, 117602178362806722323562348031), (true, 97, 276058503391335397510650248703), (true, 98, 592971153448392747884826050047), (true, 99, 1226796453562507448633177652735), (true, 101, 3762097654018966251626584063487), (true, 102, 8832700054931883857613396884991), (true, 103, 18973904856757719069587022527999), (true, 104, 39256314460409389493534273814015), (false, 9, 39256314460409389493534273814527), (false, 14, 39256314460409389493534273830911), (false, 19, 39256314460409389493534274355199), (false, 24, 39256314460409389493534291132415), (false, 25, 39256314460409389493534324686847), (false, 26, 39256314460409389493534391795711), (false, 36, 39256314460409389493603111272447), (false, 41, 39256314460409389495802134527999), (false, 46, 39256314460409389566170878705663), (false, 51, 39256314460409391817970692390911), (false, 52, 39256314460409396321570319761407), (false, 53, 39256314460409405328769574502399), (false, 63, 39256314460418628700806429278207), (false, 68, 39256314460713776605985782104063), (false, 73, 39256314470158509571725072531455), (false, 78, 39256314772389964475382366207999), (false, 79, 39256315376852874282696953561087), (false, 80, 39256316585778693897326128267263), (false, 90, 39257554525817979277601027391487), (false, 95, 39297168607075111446397799366655), (false, 100, 40564819207303340847894502572031), (false, 105, 81129638414606681695789005144063), (false, 106, 162259276829213363391578010288127), (false, 107, 324518553658426726783156020576255), (true, 108, 649037107316853453566312041152511), (false, 109, 1298074214633706907132624082305023)]
set_option maxRecDepth 100000 in
set_option maxHeartbeats 16000000 in
theorem mMul_v (p0 p1 p2 p3 q0 q1 q2 q3 r0 r1 r2 r3 : Int) (w : World) (bp0 : -2147483648 ≤ p0) (Bp0 : p0 ≤ 2147483647) (bp1 : -2147483648 ≤ p1) (Bp1 : p1 ≤ 2147483647) (bp2 : -2147483648 ≤ p2) (Bp2 : p2 ≤ 2147483647) (bp3 : -2147483648 ≤ p3) (Bp3 : p3 ≤ 2147483647) (bq0 : -2147483648 ≤ q0) (Bq0 : q0 ≤ 2147483647) (bq1 : -2147483648 ≤ q1) (Bq1 : q1 ≤ 2147483647) (bq2 : -2147483648 ≤ q2) (Bq2 : q2 ≤ 2147483647) (bq3 : -2147483648 ≤ q3) (Bq3 : q3 ≤ 2147483647)
    (h0 : wDo 4 (wDo 4 (wDo 4 (wMulq p0 q0) (wMulq p1 q1)) (wMulq p2 q2)) (wMulq p3 q3) = r0) (h1 : wDo 4 (wDo 3 (wDo 3 (wMulq p0 q1) (wMulq p1 q0)) (wMulq p2 q3)) (wMulq p3 q2) = r1) (h2 : wDo 3 (wDo 3 (wDo 4 (wMulq p0 q2) (wMulq p1 q3)) (wMulq p2 q0)) (wMulq p3 q1) = r2) (h3 : wDo 3 (wDo 4 (wDo 3 (wMulq p0 q3) (wMulq p1 q2)) (wMulq p2 q1)) (wMulq p3 q0) = r3) :
    Calls Try.prog 16 #[.agg #[.iface 45 (.agg #[])], .agg #[.int .i32 p0, .int .i32 p1, .int .i32 p2, .int .i32 p3], .agg #[.int .i32 q0, .int .i32 q1, .int .i32 q2, .int .i32 q3]] w fun e w' => e = .returned (.agg #[.int .i32 r0, .int .i32 r1, .int .i32 r2, .int .i32 r3]) ∧ Below w.heap.size w w' := by
  have H0 := Lib.hid h0
  have H1 := Lib.hid h1
  have H2 := Lib.hid h2
  have H3 := Lib.hid h3
  clear h0 h1 h2 h3
  obtain ⟨W, hW⟩ : ∃ W, (((w.alloc (.cells #[.iface 45 (.agg #[])] 38)).alloc (.cells #[.int .i32 p0, .int .i32 p1, .int .i32 p2, .int .i32 p3] 22)).alloc (.cells #[.int .i32 q0, .int .i32 q1, .int .i32 q2, .int .i32 q3] 22)).alloc (.cells #[.int .i32 0, .int .i32 0, .int .i32 0, .int .i32 0] 22) = W := ⟨_, rfl⟩
  have hbW : Below w.heap.size w W := by rw [← hW]; exact ((((Below.refl w.heap.size w).alloc (by exact Nat.le_refl _) _).alloc (by simp; try omega) _).alloc (by simp; try omega) _).alloc (by simp; try omega) _
  have hzW : w.heap.size + 1 + 1 + 1 ≤ W.heap.size := by rw [← hW]; simp
  have c00 : W.cell? ⟨w.heap.size, 0, none⟩ = some (.iface 45 (.agg #[])) := by subst hW; go_cell
  have c10 : W.cell? ⟨w.heap.size + 1, 0, none⟩ = some (.int .i32 p0) := by subst hW; go_cell
  have c11 : W.cell? ⟨w.heap.size + 1, 1, none⟩ = some (.int .i32 p1) := by subst hW; go_cell
  have c12 : W.cell? ⟨w.heap.size + 1, 2, none⟩ = some (.int .i32 p2) := by subst hW; go_cell
  have c13 : W.cell? ⟨w.heap.size + 1, 3, none⟩ = some (.int .i32 p3) := by subst hW; go_cell
  have c20 : W.cell? ⟨w.heap.size + 1 + 1, 0, none⟩ = some (.int .i32 q0) := by subst hW; go_cell
  have c21 : W.cell? ⟨w.heap.size + 1 + 1, 1, none⟩ = some (.int .i32 q1) := by subst hW; go_cell
  have c22 : W.cell? ⟨w.heap.size + 1 + 1, 2, none⟩ = some (.int .i32 q2) := by subst hW; go_cell
  have c23 : W.cell? ⟨w.heap.size + 1 + 1, 3, none⟩ = some (.int .i32 q3) := by subst hW; go_cell
  have HF := Lib.hid (show ∀ w', Below (w.heap.size + 1 + 1 + 1) W w' → (w'.cell? ⟨w.heap.size, 0, none⟩ = some (.iface 45 (.agg #[])) ∧ w'.cell? ⟨w.heap.size + 1, 0, none⟩ = some (.int .i32 p0) ∧ w'.cell? ⟨w.heap.size + 1, 1, none⟩ = some (.int .i32 p1) ∧ w'.cell? ⟨w.heap.size + 1, 2, none⟩ = some (.int .i32 p2) ∧ w'.cell? ⟨w.heap.size + 1, 3, none⟩ = some (.int .i32 p3) ∧ w'.cell? ⟨w.heap.size + 1 + 1, 0, none⟩ = some (.int .i32 q0) ∧ w'.cell? ⟨w.heap.size + 1 + 1, 1, none⟩ = some (.int .i32 q1) ∧ w'.cell? ⟨w.heap.size + 1 + 1, 2, none⟩ = some (.int .i32 q2) ∧ w'.cell? ⟨w.heap.size + 1 + 1, 3, none⟩ = some (.int .i32 q3)) from fun w' h => ⟨(h.cell (p := ⟨w.heap.size, 0, none⟩) (by simp; try omega)).trans c00, (h.cell (p := ⟨w.heap.size + 1, 0, none⟩) (by simp; try omega)).trans c10, (h.cell (p := ⟨w.heap.size + 1, 1, none⟩) (by simp; try omega)).trans c11, (h.cell (p := ⟨w.heap.size + 1, 2, none⟩) (by simp; try omega)).trans c12, (h.cell (p := ⟨w.heap.size + 1, 3, none⟩) (by simp; try omega)).trans c13, (h.cell (p := ⟨w.heap.size + 1 + 1, 0, none⟩) (by simp; try omega)).trans c20, (h.cell (p := ⟨w.heap.size + 1 + 1, 1, none⟩) (by simp; try omega)).trans c21, (h.cell (p := ⟨w.heap.size + 1 + 1, 2, none⟩) (by simp; try omega)).trans c22, (h.cell (p := ⟨w.heap.size + 1 + 1, 3, none⟩) (by simp; try omega)).trans c23⟩)
  have hR : FourAt W (w.heap.size + 1 + 1 + 1) (pt 0 0 0 0) ∧ 0 ≤ w.heap.size + 1 + 1 + 1 ∧ w.heap.size + 1 + 1 + 1 < W.heap.size := by
    rw [← hW]; exact ⟨by simpa using FourAt.new (((w.alloc (.cells #[.iface 45 (.agg #[])] 38)).alloc (.cells #[.int .i32 p0, .int .i32 p1, .int .i32 p2, .int .i32 p3] 22)).alloc (.cells #[.int .i32 q0, .int .i32 q1, .int .i32 q2, .int .i32 q3] 22)) 0 0 0 0 22, Nat.zero_le _, by simp⟩
  have HW := Lib.hid hW
  have HZ := Lib.hid hzW
  clear hW hzW c00 c10 c11 c12 c13 c20 c21 c22 c23
  go_enter Try.func16, Try.ntmps16
  go_wp2
  rw [HW.out]
  dsimp only [List.append]
  replace hR := drew4 hR
  have hS := Sdrew HF.out HZ.out
  refine wp_region_seq mulInfos mulOrder (fun w' => (w'.cell? ⟨w.heap.size, 0, none⟩ = some (.iface 45 (.agg #[])) ∧ w'.cell? ⟨w.heap.size + 1, 0, none⟩ = some (.int .i32 p0) ∧ w'.cell? ⟨w.heap.size + 1, 1, none⟩ = some (.int .i32 p1) ∧ w'.cell? ⟨w.heap.size + 1, 2, none⟩ = some (.int .i32 p2) ∧ w'.cell? ⟨w.heap.size + 1, 3, none⟩ = some (.int .i32 p3) ∧ w'.cell? ⟨w.heap.size + 1 + 1, 0, none⟩ = some (.int .i32 q0) ∧ w'.cell? ⟨w.heap.size + 1 + 1, 1, none⟩ = some (.int .i32 q1) ∧ w'.cell? ⟨w.heap.size + 1 + 1, 2, none⟩ = some (.int .i32 q2) ∧ w'.cell? ⟨w.heap.size + 1 + 1, 3, none⟩ = some (.int .i32 q3)) ∧ Below (w.heap.size + 1 + 1 + 1) W w' ∧ w.heap.size + 1 + 1 + 1 ≤ w'.heap.size) (by kernel_rfl) (by kernel_rfl) (by kernel_rfl) (by kernel_rfl) (by kernel_rfl) hS ?_
  unfold mulOrder
  (refine SeqH.fieldAddr (v := ?_) rfl rfl ?_ ?_; rotate_left; (intro w' hw'; (try dsimp only at hw'); go_simp; try with_reducible rfl); simp only [Act.put, List.setIfInBounds_toArray, List.set_cons_zero, List.set_cons_succ])
  (refine SeqH.fieldAddr (v := ?_) rfl rfl ?_ ?_; rotate_left; (intro w' hw'; (try dsimp only at hw'); go_simp; try with_reducible rfl); simp only [Act.put, List.setIfInBounds_toArray, List.set_cons_zero, List.set_cons_succ])
  (refine SeqH.load (v := ?_) rfl rfl ?_ ?_; rotate_left; (intro w' hw'; (try dsimp only at hw'); go_simp; try with_reducible rfl); simp only [Act.put, List.setIfInBounds_toArray, List.set_cons_zero, List.set_cons_succ])
  (refine SeqH.fieldAddr (v := ?_) rfl rfl ?_ ?_; rotate_left; (intro w' hw'; (try dsimp only at hw'); go_simp; try with_reducible rfl); simp only [Act.put, List.setIfInBounds_toArray, List.set_cons_zero, List.set_cons_succ])
  (refine SeqH.load (v := ?_) rfl rfl ?_ ?_; rotate_left; (intro w' hw'; (try dsimp only at hw'); go_simp; try with_reducible rfl); simp only [Act.put, List.setIfInBounds_toArray, List.set_cons_zero, List.set_cons_succ])
  (refine SeqH.indexAddr (v := ?_) rfl rfl ?_ ?_; rotate_left; (intro w' hw'; (try dsimp only at hw'); go_simp; try with_reducible rfl); simp only [Act.put, List.setIfInBounds_toArray, List.set_cons_zero, List.set_cons_succ])
  (refine SeqH.load (v := ?_) rfl rfl ?_ ?_; rotate_left; (intro w' hw'; (try dsimp only at hw'); go_simp; try with_reducible rfl); simp only [Act.put, List.setIfInBounds_toArray, List.set_cons_zero, List.set_cons_succ])
  (refine SeqH.indexAddr (v := ?_) rfl rfl ?_ ?_; rotate_left; (intro w' hw'; (try dsimp only at hw'); go_simp; try with_reducible rfl); simp only [Act.put, List.setIfInBounds_toArray, List.set_cons_zero, List.set_cons_succ])
  (refine SeqH.load (v := ?_) rfl rfl ?_ ?_; rotate_left; (intro w' hw'; (try dsimp only at hw'); go_simp; try with_reducible rfl); simp only [Act.put, List.setIfInBounds_toArray, List.set_cons_zero, List.set_cons_succ])
  (refine SeqH.indexAddr (v := ?_) rfl rfl ?_ ?_; rotate_left; (intro w' hw'; (try dsimp only at hw'); go_simp; try with_reducible rfl); simp only [Act.put, List.setIfInBounds_toArray, List.set_cons_zero, List.set_cons_succ])
  (refine SeqH.load (v := ?_) rfl rfl ?_ ?_; rotate_left; (intro w' hw'; (try dsimp only at hw'); go_simp; try with_reducible rfl); simp only [Act.put, List.setIfInBounds_toArray, List.set_cons_zero, List.set_cons_succ])
  (refine SeqH.indexAddr (v := ?_) rfl rfl ?_ ?_; rotate_left; (intro w' hw'; (try dsimp only at hw'); go_simp; try with_reducible rfl); simp only [Act.put, List.setIfInBounds_toArray, List.set_cons_zero, List.set_cons_succ])
  (refine SeqH.load (v := ?_) rfl rfl ?_ ?_; rotate_left; (intro w' hw'; (try dsimp only at hw'); go_simp; try with_reducible rfl); simp only [Act.put, List.setIfInBounds_toArray, List.set_cons_zero, List.set_cons_succ])
  (refine SeqH.indexAddr (v := ?_) rfl rfl ?_ ?_; rotate_left; (intro w' hw'; (try dsimp only at hw'); go_simp; try with_reducible rfl); simp only [Act.put, List.setIfInBounds_toArray, List.set_cons_zero, List.set_cons_succ])
  (refine SeqH.load (v := ?_) rfl rfl ?_ ?_; rotate_left; (intro w' hw'; (try dsimp only at hw'); go_simp; try with_reducible rfl); simp only [Act.put, List.setIfInBounds_toArray, List.set_cons_zero, List.set_cons_succ])
  (refine SeqH.indexAddr (v := ?_) rfl rfl ?_ ?_; rotate_left; (intro w' hw'; (try dsimp only at hw'); go_simp; try with_reducible rfl); simp only [Act.put, List.setIfInBounds_toArray, List.set_cons_zero, List.set_cons_succ])
  (refine SeqH.load (v := ?_) rfl rfl ?_ ?_; rotate_left; (intro w' hw'; (try dsimp only at hw'); go_simp; try with_reducible rfl); simp only [Act.put, List.setIfInBounds_toArray, List.set_cons_zero, List.set_cons_succ])
  (refine SeqH.indexAddr (v := ?_) rfl rfl ?_ ?_; rotate_left; (intro w' hw'; (try dsimp only at hw'); go_simp; try with_reducible rfl); simp only [Act.put, List.setIfInBounds_toArray, List.set_cons_zero, List.set_cons_succ])
  (refine SeqH.load (v := ?_) rfl rfl ?_ ?_; rotate_left; (intro w' hw'; (try dsimp only at hw'); go_simp; try with_reducible rfl); simp only [Act.put, List.setIfInBounds_toArray, List.set_cons_zero, List.set_cons_succ])
  (refine SeqH.indexAddr (v := ?_) rfl rfl ?_ ?_; rotate_left; (intro w' hw'; (try dsimp only at hw'); go_simp; try with_reducible rfl); simp only [Act.put, List.setIfInBounds_toArray, List.set_cons_zero, List.set_cons_succ])
  (refine SeqH.load (v := ?_) rfl rfl ?_ ?_; rotate_left; (intro w' hw'; (try dsimp only at hw'); go_simp; try with_reducible rfl); simp only [Act.put, List.setIfInBounds_toArray, List.set_cons_zero, List.set_cons_succ])
  (refine SeqH.fieldAddr (v := ?_) rfl rfl ?_ ?_; rotate_left; (intro w' hw'; (try dsimp only at hw'); go_simp; try with_reducible rfl); simp only [Act.put, List.setIfInBounds_toArray, List.set_cons_zero, List.set_cons_succ])
  (refine SeqH.fieldAddr (v := ?_) rfl rfl ?_ ?_; rotate_left; (intro w' hw'; (try dsimp only at hw'); go_simp; try with_reducible rfl); simp only [Act.put, List.setIfInBounds_toArray, List.set_cons_zero, List.set_cons_succ])
  (refine SeqH.load (v := ?_) rfl rfl ?_ ?_; rotate_left; (intro w' hw'; (try dsimp only at hw'); go_simp; try with_reducible rfl); simp only [Act.put, List.setIfInBounds_toArray, List.set_cons_zero, List.set_cons_succ])
  (refine SeqH.fieldAddr (v := ?_) rfl rfl ?_ ?_; rotate_left; (intro w' hw'; (try dsimp only at hw'); go_simp; try with_reducible rfl); simp only [Act.put, List.setIfInBounds_toArray, List.set_cons_zero, List.set_cons_succ])
  (refine SeqH.load (v := ?_) rfl rfl ?_ ?_; rotate_left; (intro w' hw'; (try dsimp only at hw'); go_simp; try with_reducible rfl); simp only [Act.put, List.setIfInBounds_toArray, List.set_cons_zero, List.set_cons_succ])
  (refine SeqH.indexAddr (v := ?_) rfl rfl ?_ ?_; rotate_left; (intro w' hw'; (try dsimp only at hw'); go_simp; try with_reducible rfl); simp only [Act.put, List.setIfInBounds_toArray, List.set_cons_zero, List.set_cons_succ])
  (refine SeqH.load (v := ?_) rfl rfl ?_ ?_; rotate_left; (intro w' hw'; (try dsimp only at hw'); go_simp; try with_reducible rfl); simp only [Act.put, List.setIfInBounds_toArray, List.set_cons_zero, List.set_cons_succ])
  (refine SeqH.indexAddr (v := ?_) rfl rfl ?_ ?_; rotate_left; (intro w' hw'; (try dsimp only at hw'); go_simp; try with_reducible rfl); simp only [Act.put, List.setIfInBounds_toArray, List.set_cons_zero, List.set_cons_succ])
  (refine SeqH.load (v := ?_) rfl rfl ?_ ?_; rotate_left; (intro w' hw'; (try dsimp only at hw'); go_simp; try with_reducible rfl); simp only [Act.put, List.setIfInBounds_toArray, List.set_cons_zero, List.set_cons_succ])
  (refine SeqH.indexAddr (v := ?_) rfl rfl ?_ ?_; rotate_left; (intro w' hw'; (try dsimp only at hw'); go_simp; try with_reducible rfl); simp only [Act.put, List.setIfInBounds_toArray, List.set_cons_zero, List.set_cons_succ])
  (refine SeqH.load (v := ?_) rfl rfl ?_ ?_; rotate_left; (intro w' hw'; (try dsimp only at hw'); go_simp; try with_reducible rfl); simp only [Act.put, List.setIfInBounds_toArray, List.set_cons_zero, List.set_cons_succ])
  (refine SeqH.indexAddr (v := ?_) rfl rfl ?_ ?_; rotate_left; (intro w' hw'; (try dsimp only at hw'); go_simp; try with_reducible rfl); simp only [Act.put, List.setIfInBounds_toArray, List.set_cons_zero, List.set_cons_succ])
  (refine SeqH.load (v := ?_) rfl rfl ?_ ?_; rotate_left; (intro w' hw'; (try dsimp only at hw'); go_simp; try with_reducible rfl); simp only [Act.put, List.setIfInBounds_toArray, List.set_cons_zero, List.set_cons_succ])
  (refine SeqH.indexAddr (v := ?_) rfl rfl ?_ ?_; rotate_left; (intro w' hw'; (try dsimp only at hw'); go_simp; try with_reducible rfl); simp only [Act.put, List.setIfInBounds_toArray, List.set_cons_zero, List.set_cons_succ])
  (refine SeqH.load (v := ?_) rfl rfl ?_ ?_; rotate_left; (intro w' hw'; (try dsimp only at hw'); go_simp; try with_reducible rfl); simp only [Act.put, List.setIfInBounds_toArray, List.set_cons_zero, List.set_cons_succ])
  (refine SeqH.indexAddr (v := ?_) rfl rfl ?_ ?_; rotate_left; (intro w' hw'; (try dsimp only at hw'); go_simp; try with_reducible rfl); simp only [Act.put, List.setIfInBounds_toArray, List.set_cons_zero, List.set_cons_succ])
  (refine SeqH.load (v := ?_) rfl rfl ?_ ?_; rotate_left; (intro w' hw'; (try dsimp only at hw'); go_simp; try with_reducible rfl); simp only [Act.put, List.setIfInBounds_toArray, List.set_cons_zero, List.set_cons_succ])
  (refine SeqH.indexAddr (v := ?_) rfl rfl ?_ ?_; rotate_left; (intro w' hw'; (try dsimp only at hw'); go_simp; try with_reducible rfl); simp only [Act.put, List.setIfInBounds_toArray, List.set_cons_zero, List.set_cons_succ])
  (refine SeqH.load (v := ?_) rfl rfl ?_ ?_; rotate_left; (intro w' hw'; (try dsimp only at hw'); go_simp; try with_reducible rfl); simp only [Act.put, List.setIfInBounds_toArray, List.set_cons_zero, List.set_cons_succ])
  (refine SeqH.indexAddr (v := ?_) rfl rfl ?_ ?_; rotate_left; (intro w' hw'; (try dsimp only at hw'); go_simp; try with_reducible rfl); simp only [Act.put, List.setIfInBounds_toArray, List.set_cons_zero, List.set_cons_succ])
  (refine SeqH.load (v := ?_) rfl rfl ?_ ?_; rotate_left; (intro w' hw'; (try dsimp only at hw'); go_simp; try with_reducible rfl); simp only [Act.put, List.setIfInBounds_toArray, List.set_cons_zero, List.set_cons_succ])
  (refine SeqH.fieldAddr (v := ?_) rfl rfl ?_ ?_; rotate_left; (intro w' hw'; (try dsimp only at hw'); go_simp; try with_reducible rfl); simp only [Act.put, List.setIfInBounds_toArray, List.set_cons_zero, List.set_cons_succ])
  (refine SeqH.fieldAddr (v := ?_) rfl rfl ?_ ?_; rotate_left; (intro w' hw'; (try dsimp only at hw'); go_simp; try with_reducible rfl); simp only [Act.put, List.setIfInBounds_toArray, List.set_cons_zero, List.set_cons_succ])
  (refine SeqH.load (v := ?_) rfl rfl ?_ ?_; rotate_left; (intro w' hw'; (try dsimp only at hw'); go_simp; try with_reducible rfl); simp only [Act.put, List.setIfInBounds_toArray, List.set_cons_zero, List.set_cons_succ])
  (refine SeqH.fieldAddr (v := ?_) rfl rfl ?_ ?_; rotate_left; (intro w' hw'; (try dsimp only at hw'); go_simp; try with_reducible rfl); simp only [Act.put, List.setIfInBounds_toArray, List.set_cons_zero, List.set_cons_succ])
  (refine SeqH.load (v := ?_) rfl rfl ?_ ?_; rotate_left; (intro w' hw'; (try dsimp only at hw'); go_simp; try with_reducible rfl); simp only [Act.put, List.setIfInBounds_toArray, List.set_cons_zero, List.set_cons_succ])
  (refine SeqH.indexAddr (v := ?_) rfl rfl ?_ ?_; rotate_left; (intro w' hw'; (try dsimp only at hw'); go_simp; try with_reducible rfl); simp only [Act.put, List.setIfInBounds_toArray, List.set_cons_zero, List.set_cons_succ])
  (refine SeqH.load (v := ?_) rfl rfl ?_ ?_; rotate_left; (intro w' hw'; (try dsimp only at hw'); go_simp; try with_reducible rfl); simp only [Act.put, List.setIfInBounds_toArray, List.set_cons_zero, List.set_cons_succ])
  (refine SeqH.indexAddr (v := ?_) rfl rfl ?_ ?_; rotate_left; (intro w' hw'; (try dsimp only at hw'); go_simp; try with_reducible rfl); simp only [Act.put, List.setIfInBounds_toArray, List.set_cons_zero, List.set_cons_succ])
  (refine SeqH.load (v := ?_) rfl rfl ?_ ?_; rotate_left; (intro w' hw'; (try dsimp only at hw'); go_simp; try with_reducible rfl); simp only [Act.put, List.setIfInBounds_toArray, List.set_cons_zero, List.set_cons_succ])
  (refine SeqH.indexAddr (v := ?_) rfl rfl ?_ ?_; rotate_left; (intro w' hw'; (try dsimp only at hw'); go_simp; try with_reducible rfl); simp only [Act.put, List.setIfInBounds_toArray, List.set_cons_zero, List.set_cons_succ])
  (refine SeqH.load (v := ?_) rfl rfl ?_ ?_; rotate_left; (intro w' hw'; (try dsimp only at hw'); go_simp; try with_reducible rfl); simp only [Act.put, List.setIfInBounds_toArray, List.set_cons_zero, List.set_cons_succ])
  (refine SeqH.indexAddr (v := ?_) rfl rfl ?_ ?_; rotate_left; (intro w' hw'; (try dsimp only at hw'); go_simp; try with_reducible rfl); simp only [Act.put, List.setIfInBounds_toArray, List.set_cons_zero, List.set_cons_succ])
  (refine SeqH.load (v := ?_) rfl rfl ?_ ?_; rotate_left; (intro w' hw'; (try dsimp only at hw'); go_simp; try with_reducible rfl); simp only [Act.put, List.setIfInBounds_toArray, List.set_cons_zero, List.set_cons_succ])
  (refine SeqH.indexAddr (v := ?_) rfl rfl ?_ ?_; rotate_left; (intro w' hw'; (try dsimp only at hw'); go_simp; try with_reducible rfl); simp only [Act.put, List.setIfInBounds_toArray, List.set_cons_zero, List.set_cons_succ])
  (refine SeqH.load (v := ?_) rfl rfl ?_ ?_; rotate_left; (intro w' hw'; (try dsimp only at hw'); go_simp; try with_reducible rfl); simp only [Act.put, List.setIfInBounds_toArray, List.set_cons_zero, List.set_cons_succ])
  (refine SeqH.indexAddr (v := ?_) rfl rfl ?_ ?_; rotate_left; (intro w' hw'; (try dsimp only at hw'); go_simp; try with_reducible rfl); simp only [Act.put, List.setIfInBounds_toArray, List.set_cons_zero, List.set_cons_succ])
  (refine SeqH.load (v := ?_) rfl rfl ?_ ?_; rotate_left; (intro w' hw'; (try dsimp only at hw'); go_simp; try with_reducible rfl); simp only [Act.put, List.setIfInBounds_toArray, List.set_cons_zero, List.set_cons_succ])
  (refine SeqH.indexAddr (v := ?_) rfl rfl ?_ ?_; rotate_left; (intro w' hw'; (try dsimp only at hw'); go_simp; try with_reducible rfl); simp only [Act.put, List.setIfInBounds_toArray, List.set_cons_zero, List.set_cons_succ])
  (refine SeqH.load (v := ?_) rfl rfl ?_ ?_; rotate_left; (intro w' hw'; (try dsimp only at hw'); go_simp; try with_reducible rfl); simp only [Act.put, List.setIfInBounds_toArray, List.set_cons_zero, List.set_cons_succ])
  (refine SeqH.indexAddr (v := ?_) rfl rfl ?_ ?_; rotate_left; (intro w' hw'; (try dsimp only at hw'); go_simp; try with_reducible rfl); simp only [Act.put, List.setIfInBounds_toArray, List.set_cons_zero, List.set_cons_succ])
  (refine SeqH.load (v := ?_) rfl rfl ?_ ?_; rotate_left; (intro w' hw'; (try dsimp only at hw'); go_simp; try with_reducible rfl); simp only [Act.put, List.setIfInBounds_toArray, List.set_cons_zero, List.set_cons_succ])
  (refine SeqH.fieldAddr (v := ?_) rfl rfl ?_ ?_; rotate_left; (intro w' hw'; (try dsimp only at hw'); go_simp; try with_reducible rfl); simp only [Act.put, List.setIfInBounds_toArray, List.set_cons_zero, List.set_cons_succ])
  (refine SeqH.fieldAddr (v := ?_) rfl rfl ?_ ?_; rotate_left; (intro w' hw'; (try dsimp only at hw'); go_simp; try with_reducible rfl); simp only [Act.put, List.setIfInBounds_toArray, List.set_cons_zero, List.set_cons_succ])
  (refine SeqH.load (v := ?_) rfl rfl ?_ ?_; rotate_left; (intro w' hw'; (try dsimp only at hw'); go_simp; try with_reducible rfl); simp only [Act.put, List.setIfInBounds_toArray, List.set_cons_zero, List.set_cons_succ])
  (refine SeqH.fieldAddr (v := ?_) rfl rfl ?_ ?_; rotate_left; (intro w' hw'; (try dsimp only at hw'); go_simp; try with_reducible rfl); simp only [Act.put, List.setIfInBounds_toArray, List.set_cons_zero, List.set_cons_succ])
  (refine SeqH.load (v := ?_) rfl rfl ?_ ?_; rotate_left; (intro w' hw'; (try dsimp only at hw'); go_simp; try with_reducible rfl); simp only [Act.put, List.setIfInBounds_toArray, List.set_cons_zero, List.set_cons_succ])
  (refine SeqH.indexAddr (v := ?_) rfl rfl ?_ ?_; rotate_left; (intro w' hw'; (try dsimp only at hw'); go_simp; try with_reducible rfl); simp only [Act.put, List.setIfInBounds_toArray, List.set_cons_zero, List.set_cons_succ])
  (refine SeqH.load (v := ?_) rfl rfl ?_ ?_; rotate_left; (intro w' hw'; (try dsimp only at hw'); go_simp; try with_reducible rfl); simp only [Act.put, List.setIfInBounds_toArray, List.set_cons_zero, List.set_cons_succ])
  (refine SeqH.indexAddr (v := ?_) rfl rfl ?_ ?_; rotate_left; (intro w' hw'; (try dsimp only at hw'); go_simp; try with_reducible rfl); simp only [Act.put, List.setIfInBounds_toArray, List.set_cons_zero, List.set_cons_succ])
  (refine SeqH.load (v := ?_) rfl rfl ?_ ?_; rotate_left; (intro w' hw'; (try dsimp only at hw'); go_simp; try with_reducible rfl); simp only [Act.put, List.setIfInBounds_toArray, List.set_cons_zero, List.set_cons_succ])
  (refine SeqH.indexAddr (v := ?_) rfl rfl ?_ ?_; rotate_left; (intro w' hw'; (try dsimp only at hw'); go_simp; try with_reducible rfl); simp only [Act.put, List.setIfInBounds_toArray, List.set_cons_zero, List.set_cons_succ])
  (refine SeqH.load (v := ?_) rfl rfl ?_ ?_; rotate_left; (intro w' hw'; (try dsimp only at hw'); go_simp; try with_reducible rfl); simp only [Act.put, List.setIfInBounds_toArray, List.set_cons_zero, List.set_cons_succ])
  (refine SeqH.indexAddr (v := ?_) rfl rfl ?_ ?_; rotate_left; (intro w' hw'; (try dsimp only at hw'); go_simp; try with_reducible rfl); simp only [Act.put, List.setIfInBounds_toArray, List.set_cons_zero, List.set_cons_succ])
  (refine SeqH.load (v := ?_) rfl rfl ?_ ?_; rotate_left; (intro w' hw'; (try dsimp only at hw'); go_simp; try with_reducible rfl); simp only [Act.put, List.setIfInBounds_toArray, List.set_cons_zero, List.set_cons_succ])
  (refine SeqH.indexAddr (v := ?_) rfl rfl ?_ ?_; rotate_left; (intro w' hw'; (try dsimp only at hw'); go_simp; try with_reducible rfl); simp only [Act.put, List.setIfInBounds_toArray, List.set_cons_zero, List.set_cons_succ])
  (refine SeqH.load (v := ?_) rfl rfl ?_ ?_; rotate_left; (intro w' hw'; (try dsimp only at hw'); go_simp; try with_reducible rfl); simp only [Act.put, List.setIfInBounds_toArray, List.set_cons_zero, List.set_cons_succ])
  (refine SeqH.indexAddr (v := ?_) rfl rfl ?_ ?_; rotate_left; (intro w' hw'; (try dsimp only at hw'); go_simp; try with_reducible rfl); simp only [Act.put, List.setIfInBounds_toArray, List.set_cons_zero, List.set_cons_succ])
  (refine SeqH.load (v := ?_) rfl rfl ?_ ?_; rotate_left; (intro w' hw'; (try dsimp only at hw'); go_simp; try with_reducible rfl); simp only [Act.put, List.setIfInBounds_toArray, List.set_cons_zero, List.set_cons_succ])
  (refine SeqH.indexAddr (v := ?_) rfl rfl ?_ ?_; rotate_left; (intro w' hw'; (try dsimp only at hw'); go_simp; try with_reducible rfl); simp only [Act.put, List.setIfInBounds_toArray, List.set_cons_zero, List.set_cons_succ])
  (refine SeqH.load (v := ?_) rfl rfl ?_ ?_; rotate_left; (intro w' hw'; (try dsimp only at hw'); go_simp; try with_reducible rfl); simp only [Act.put, List.setIfInBounds_toArray, List.set_cons_zero, List.set_cons_succ])
  (refine SeqH.indexAddr (v := ?_) rfl rfl ?_ ?_; rotate_left; (intro w' hw'; (try dsimp only at hw'); go_simp; try with_reducible rfl); simp only [Act.put, List.setIfInBounds_toArray, List.set_cons_zero, List.set_cons_succ])
  (refine SeqH.load (v := ?_) rfl rfl ?_ ?_; rotate_left; (intro w' hw'; (try dsimp only at hw'); go_simp; try with_reducible rfl); simp only [Act.put, List.setIfInBounds_toArray, List.set_cons_zero, List.set_cons_succ])
  refine SeqH.call rfl enter_mulq ?ha (keepG4 HF.out (mulq_v p0 q0 _ _ bp0 Bp0 bq0 Bq0 rfl) hS) fun w1 hS' hq => ?_
  case ha => rfl
  replace hS := hS'
  clear hS'
  replace hR := keep4 hR hq
  simp only [Act.put, List.setIfInBounds_toArray, List.set_cons_zero, List.set_cons_succ]
  refine SeqH.call rfl enter_minus ?ha (keepG4 HF.out (minus_v p1 q1 _) hS) fun w1 hS' hq => ?_
  case ha => rfl
  replace hS := hS'
  clear hS'
  replace hR := keep4 hR hq
  simp only [Act.put, List.setIfInBounds_toArray, List.set_cons_zero, List.set_cons_succ]
  refine SeqH.call rfl enter_minus ?ha (keepG4 HF.out (minus_v p2 q2 _) hS) fun w1 hS' hq => ?_
  case ha => rfl
  replace hS := hS'
  clear hS'
  replace hR := keep4 hR hq
  simp only [Act.put, List.setIfInBounds_toArray, List.set_cons_zero, List.set_cons_succ]
  refine SeqH.call rfl enter_minus ?ha (keepG4 HF.out (minus_v p3 q3 _) hS) fun w1 hS' hq => ?_
  case ha => rfl
  replace hS := hS'
  clear hS'
  replace hR := keep4 hR hq
  simp only [Act.put, List.setIfInBounds_toArray, List.set_cons_zero, List.set_cons_succ]
  refine SeqH.step rfl rfl (fun K hK => ?_)
  go_simp
  refine hK _ _ (Sall HF.out hS _) ?_
  clear hK K
  (try simp only [Act.put, List.setIfInBounds_toArray, List.set_cons_zero, List.set_cons_succ])
  refine SeqH.call rfl enter_total ?ha (keepG4 HF.out (total3_o (wMulq p0 q0) 4 p1 q1 4 p2 q2 4 p3 q3 r0 _ _ (wMulq_bd _ _) (Or.inr rfl) (Or.inr rfl) (Or.inr rfl) bp1 Bp1 bq1 Bq1 bp2 Bp2 bq2 Bq2 bp3 Bp3 bq3 Bq3 H0.out) (Sall HF.out hS _)) fun w1 hS' hq => ?_
  case ha => rfl
  replace hS := hS'
  clear hS'
  replace hR := keep4a hR hq
  simp only [Act.put, List.setIfInBounds_toArray, List.set_cons_zero, List.set_cons_succ]
  refine SeqH.call rfl enter_mulq ?ha (keepG4 HF.out (mulq_v p0 q1 _ _ bp0 Bp0 bq1 Bq1 rfl) hS) fun w1 hS' hq => ?_
  case ha => rfl
  replace hS := hS'
  clear hS'
  replace hR := keep4 hR hq
  simp only [Act.put, List.setIfInBounds_toArray, List.set_cons_zero, List.set_cons_succ]
  refine SeqH.call rfl enter_plus ?ha (keepG4 HF.out (plus_v p1 q0 _) hS) fun w1 hS' hq => ?_
  case ha => rfl
  replace hS := hS'
  clear hS'
  replace hR := keep4 hR hq
  simp only [Act.put, List.setIfInBounds_toArray, List.set_cons_zero, List.set_cons_succ]
  refine SeqH.call rfl enter_plus ?ha (keepG4 HF.out (plus_v p2 q3 _) hS) fun w1 hS' hq => ?_
  case ha => rfl
  replace hS := hS'
  clear hS'
  replace hR := keep4 hR hq
  simp only [Act.put, List.setIfInBounds_toArray, List.set_cons_zero, List.set_cons_succ]
  refine SeqH.call rfl enter_minus ?ha (keepG4 HF.out (minus_v p3 q2 _) hS) fun w1 hS' hq => ?_
  case ha => rfl
  replace hS := hS'
  clear hS'
  replace hR := keep4 hR hq
  simp only [Act.put, List.setIfInBounds_toArray, List.set_cons_zero, List.set_cons_succ]
  refine SeqH.step rfl rfl (fun K hK => ?_)
  go_simp
  refine hK _ _ (Sall HF.out hS _) ?_
  clear hK K
  (try simp only [Act.put, List.setIfInBounds_toArray, List.set_cons_zero, List.set_cons_succ])
  refine SeqH.call rfl enter_total ?ha (keepG4 HF.out (total3_o (wMulq p0 q1) 3 p1 q0 3 p2 q3 4 p3 q2 r1 _ _ (wMulq_bd _ _) (Or.inl rfl) (Or.inl rfl) (Or.inr rfl) bp1 Bp1 bq0 Bq0 bp2 Bp2 bq3 Bq3 bp3 Bp3 bq2 Bq2 H1.out) (Sall HF.out hS _)) fun w1 hS' hq => ?_
  case ha => rfl
  replace hS := hS'
  clear hS'
  replace hR := keep4a hR hq
  simp only [Act.put, List.setIfInBounds_toArray, List.set_cons_zero, List.set_cons_succ]
  refine SeqH.call rfl enter_mulq ?ha (keepG4 HF.out (mulq_v p0 q2 _ _ bp0 Bp0 bq2 Bq2 rfl) hS) fun w1 hS' hq => ?_
  case ha => rfl
  replace hS := hS'
  clear hS'
  replace hR := keep4 hR hq
  simp only [Act.put, List.setIfInBounds_toArray, List.set_cons_zero, List.set_cons_succ]
  refine SeqH.call rfl enter_minus ?ha (keepG4 HF.out (minus_v p1 q3 _) hS) fun w1 hS' hq => ?_
  case ha => rfl
  replace hS := hS'
  clear hS'
  replace hR := keep4 hR hq
  simp only [Act.put, List.setIfInBounds_toArray, List.set_cons_zero, List.set_cons_succ]
  refine SeqH.call rfl enter_plus ?ha (keepG4 HF.out (plus_v p2 q0 _) hS) fun w1 hS' hq => ?_
  case ha => rfl
  replace hS := hS'
  clear hS'
  replace hR := keep4 hR hq
  simp only [Act.put, List.setIfInBounds_toArray, List.set_cons_zero, List.set_cons_succ]
  refine SeqH.call rfl enter_plus ?ha (keepG4 HF.out (plus_v p3 q1 _) hS) fun w1 hS' hq => ?_
  case ha => rfl
  replace hS := hS'
  clear hS'
  replace hR := keep4 hR hq
  simp only [Act.put, List.setIfInBounds_toArray, List.set_cons_zero, List.set_cons_succ]
  refine SeqH.step rfl rfl (fun K hK => ?_)
  go_simp
  refine hK _ _ (Sall HF.out hS _) ?_
  clear hK K
  (try simp only [Act.put, List.setIfInBounds_toArray, List.set_cons_zero, List.set_cons_succ])
  refine SeqH.call rfl enter_total ?ha (keepG4 HF.out (total3_o (wMulq p0 q2) 4 p1 q3 3 p2 q0 3 p3 q1 r2 _ _ (wMulq_bd _ _) (Or.inr rfl) (Or.inl rfl) (Or.inl rfl) bp1 Bp1 bq3 Bq3 bp2 Bp2 bq0 Bq0 bp3 Bp3 bq1 Bq1 H2.out) (Sall HF.out hS _)) fun w1 hS' hq => ?_
  case ha => rfl
  replace hS := hS'
  clear hS'
  replace hR := keep4a hR hq
  simp only [Act.put, List.setIfInBounds_toArray, List.set_cons_zero, List.set_cons_succ]
  refine SeqH.call rfl enter_mulq ?ha (keepG4 HF.out (mulq_v p0 q3 _ _ bp0 Bp0 bq3 Bq3 rfl) hS) fun w1 hS' hq => ?_
  case ha => rfl
  replace hS := hS'
  clear hS'
  replace hR := keep4 hR hq
  simp only [Act.put, List.setIfInBounds_toArray, List.set_cons_zero, List.set_cons_succ]
  refine SeqH.call rfl enter_plus ?ha (keepG4 HF.out (plus_v p1 q2 _) hS) fun w1 hS' hq => ?_
  case ha => rfl
  replace hS := hS'
  clear hS'
  replace hR := keep4 hR hq
  simp only [Act.put, List.setIfInBounds_toArray, List.set_cons_zero, List.set_cons_succ]
  refine SeqH.call rfl enter_minus ?ha (keepG4 HF.out (minus_v p2 q1 _) hS) fun w1 hS' hq => ?_
  case ha => rfl
  replace hS := hS'
  clear hS'
  replace hR := keep4 hR hq
  simp only [Act.put, List.setIfInBounds_toArray, List.set_cons_zero, List.set_cons_succ]
  refine SeqH.call rfl enter_plus ?ha (keepG4 HF.out (plus_v p3 q0 _) hS) fun w1 hS' hq => ?_
  case ha => rfl
  replace hS := hS'
  clear hS'
  replace hR := keep4 hR hq
  simp only [Act.put, List.setIfInBounds_toArray, List.set_cons_zero, List.set_cons_succ]
  refine SeqH.step rfl rfl (fun K hK => ?_)
  go_simp
  refine hK _ _ (Sall HF.out hS _) ?_
  clear hK K
  (try simp only [Act.put, List.setIfInBounds_toArray, List.set_cons_zero, List.set_cons_succ])
  refine SeqH.call rfl enter_total ?ha (keepG4 HF.out (total3_o (wMulq p0 q3) 3 p1 q2 4 p2 q1 3 p3 q0 r3 _ _ (wMulq_bd _ _) (Or.inl rfl) (Or.inr rfl) (Or.inl rfl) bp1 Bp1 bq2 Bq2 bp2 Bp2 bq1 Bq1 bp3 Bp3 bq0 Bq0 H3.out) (Sall HF.out hS _)) fun w1 hS' hq => ?_
  case ha => rfl
  replace hS := hS'
  clear hS'
  replace hR := keep4a hR hq; have d0 := hR.1.c 0 (by decide); have d1 := hR.1.c 1 (by decide); have d2 := hR.1.c 2 (by decide); have d3 := hR.1.c 3 (by decide); have f0 := hR.1.z 0 (by decide); have f1 := hR.1.z 1 (by decide); have f2 := hR.1.z 2 (by decide); have f3 := hR.1.z 3 (by decide)
  simp only [Act.put, List.setIfInBounds_toArray, List.set_cons_zero, List.set_cons_succ]
  (refine SeqH.take (v := ?_) rfl rfl ?_ ?_; rotate_left; (intro w' hw'; (try dsimp only at hw'); go_simp; try with_reducible rfl); (simp only [Act.put, List.setIfInBounds_toArray]); (try simp only [List.set_cons_zero, List.set_cons_succ]))
  refine SeqH.step rfl rfl (fun K hK => ?_)
  go_simp
  refine hK _ _ (Sset HF.out hS _ _ _ _) ?_
  clear hK K
  (try simp only [Act.put, List.setIfInBounds_toArray, List.set_cons_zero, List.set_cons_succ])
  refine SeqH.done (NoPanic.normal ?_)
  have hn4 := F4set hR.1 r0 r1 r2 r3
  have hB4 := hbW.trans ((set4_below hS.2.1 (Nat.le_refl _) (.int .i32 r0) (.int .i32 r1) (.int .i32 r2) (.int .i32 r3)).mono (by omega))
  generalize (((w1.setCell ⟨w.heap.size + 1 + 1 + 1, 0, none⟩ (.int .i32 r0)).setCell ⟨w.heap.size + 1 + 1 + 1, 1, none⟩ (.int .i32 r1)).setCell ⟨w.heap.size + 1 + 1 + 1, 2, none⟩ (.int .i32 r2)).setCell ⟨w.heap.size + 1 + 1 + 1, 3, none⟩ (.int .i32 r3) = W3 at hn4 hB4 hS ⊢
  have x0 := hn4.c 0 (by decide)
  have x1 := hn4.c 1 (by decide)
  have x2 := hn4.c 2 (by decide)
  have x3 := hn4.c 3 (by decide)
  go_wp2
  (try simp only [Exit.inBlock, Exit.then])
  exact bodyPost_ret (v := .agg #[.int .i32 r0, .int .i32 r1, .int .i32 r2, .int .i32 r3]) (by simp [results, Try.results16, go_sem, pt, x0, x1, x2, x3]) rfl ⟨rfl, hB4⟩

/-- The operations of the region of rate, in numbers; an order in which they may come up. -/
def rateInfos : List (Nat × Nat × Nat × Nat) := [(0, 0, 8, 8), (1, 1, 9, 128), (2, 2, 10, 256), (3, 0, 11, 8), (4, 8, 12, 1024), (5, 16, 13, 2048), (6, 32, 14, 4096), (7, 0, 15, 16), (8, 128, 16, 16384), (9, 0, 17, 32), (10, 512, 18, 65536), (11, 1344, 19, 163840), (12, 0, 20, 16), (13, 4096, 21, 524288), (14, 0, 22, 32), (15, 16384, 23, 2097152), (16, 43008, 24, 5242880), (17, 0, 25, 16), (18, 131072, 26, 16777216), (19, 0, 27, 32), (20, 524288, 28, 67108864), (21, 1376256, 29, 167772160), (22, 2164736, 30, 277086208), (23, 6291524, 31, 536879616), (24, 0, 32, 8), (25, 16777216, 33, 2147483648), (26, 33554432, 34, 4294967296), (27, 0, 35, 8), (28, 134217728, 36, 17179869184), (29, 0, 37, 16), (30, 536870912, 38, 68719476736), (31, 0, 39, 32), (32, 2147483648, 40, 274877906944), (33, 5645533184, 41, 721554505728), (34, 0, 42, 16), (35, 17179869184, 43, 2199023255552), (36, 0, 44, 32), (37, 68719476736, 45, 8796093022208), (38, 180388626432, 46, 21990232555520), (39, 0, 47, 16), (40, 549755813888, 48, 70368744177664), (41, 0, 49, 32), (42, 2199023255552, 50, 281474976710656), (43, 5772436045824, 51, 703687441776640), (44, 9070970929152, 52, 1161084278931456), (45, 26396936110080, 53, 2252907915247616), (46, 0, 54, 8), (47, 70368744177664, 55, 9007199254740992), (48, 140737488355328, 56, 18014398509481984), (49, 0, 57, 8), (50, 562949953421312, 58, 72057594037927936), (51, 0, 59, 16), (52, 2251799813685248, 60, 288230376151711744), (53, 0, 61, 32), (54, 9007199254740992, 62, 1152921504606846976), (55, 23679082415783936, 63, 3026418949592973312), (56, 0, 64, 16), (57, 72057594037927936, 65, 9223372036854775808), (58, 0, 66, 32), (59, 288230376151711744, 67, 36893488147419103232), (60, 756604737398243328, 68, 92233720368547758080), (61, 0, 69, 16), (62, 2305843009213693952, 70, 295147905179352825856), (63, 0, 71, 32), (64, 9223372036854775808, 72, 1180591620717411303424), (65, 24211351596743786496, 73, 2951479051793528258560), (66, 38046409652025950208, 74, 4869940435459321626624), (67, 110716774714252984320, 75, 9449380680554736779264), (68, 0, 76, 8), (69, 295147905179352825856, 77, 37778931862957161709568), (70, 590295810358705651712, 78, 75557863725914323419136), (71, 0, 79, 8), (72, 2361183241434822606848, 80, 302231454903657293676544), (73, 0, 81, 16), (74, 9444732965739290427392, 82, 1208925819614629174706176), (75, 0, 83, 32), (76, 37778931862957161709568, 84, 4835703278458516698824704), (77, 99317270092852225900544, 85, 12693721105953606334414848), (78, 0, 86, 16), (79, 302231454903657293676544, 87, 38685626227668133590597632), (80, 0, 88, 32), (81, 1208925819614629174706176, 89, 154742504910672534362390528), (82, 3173430276488401583603712, 90, 386856262276681335905976320), (83, 0, 91, 16), (84, 9671406556917033397649408, 92, 1237940039285380274899124224), (85, 0, 93, 32), (86, 38685626227668133590597632, 94, 4951760157141521099596496896), (87, 101549768847628850675318784, 95, 12379400392853802748991242240), (88, 159578208189131051061215232, 96, 20426010648208774535835549696), (89, 464379811051090149145313280, 97, 39633575185973454692214112256), (90, 618970167216677911506452480, 98, 79228181403734772672825917440), (91, 2475880078570760549798248447, 0, 158456325028528675187087900736)]
def rateOrder : List (Bool × Nat × Nat) := [(true, 0, 1), (true, 1, 3), (true, 2, 7), (true, 3, 15), (true, 4, 31), (true, 5, 63), (true, 7, 191), (true, 8, 447), (true, 9, 959), (true, 10, 1983), (true, 12, 6079), (true, 13, 14271), (true, 14, 30655), (true, 15, 63423), (true, 17, 194495), (true, 18, 456639), (true, 19, 980927), (true, 20, 2029503), (true, 24, 18806719), (true, 25, 52361151), (true, 26, 119470015), (true, 27, 253687743), (true, 28, 522123199), (true, 29, 1058994111), (true, 30, 2132735935), (true, 31, 4280219583), (true, 32, 8575186879), (true, 34, 25755056063), (true, 35, 60114794431), (true, 36, 128834271167), (true, 37, 266273224639), (true, 39, 816029038527), (true, 40, 1915540666303), (true, 41, 4114563921855), (true, 42, 8512610432959), (true, 46, 78881354610623), (true, 47, 219618842965951), (true, 48, 501093819676607), (true, 49, 1064043773097919), (true, 50, 2189943679940543), (true, 51, 4441743493625791), (true, 52, 8945343120996287), (true, 53, 17952542375737279), (true, 54, 35966940885219263), (true, 56, 108024534923147199), (true, 57, 252139722999003071), (true, 58, 540370099150714815), (true, 59, 1116830851454138303), (true, 61, 3422673860667832255), (true, 62, 8034359879095220159), (true, 63, 17257731915949995967), (true, 64, 35704475989659547583), (true, 68, 330852381169012373439), (true, 69, 921148191527718025151), (true, 70, 2101739812245129328575), (true, 71, 4462923053679951935423), (true, 72, 9185289536549597149119), (true, 73, 18630022502288887576511), (true, 74, 37519488433767468431295), (true, 75, 75298420296724630140863), (true, 76, 150856284022638953559999), (true, 78, 453087738926296247236543), (true, 79, 1057550648733610834589631), (true, 80, 2266476468348240009295807), (true, 81, 4684328107577498358708159), (true, 83, 14355734664494531756357567), (true, 84, 33698547778328598551656383), (true, 85, 72384174005996732142254015), (true, 86, 149755426461332999323449279), (false, 6, 149755426461332999323449343), (false, 11, 149755426461332999323451391), (false, 16, 149755426461332999323516927), (false, 21, 149755426461332999325614079), (false, 22, 149755426461332999329808383), (false, 23, 149755426461332999338196991), (false, 33, 149755426461333007928131583), (false, 38, 149755426461333282806038527), (false, 43, 149755426461342078899060735), (false, 44, 149755426461359671085105151), (false, 45, 149755426461394855457193983), (false, 55, 149755426497423652476157951), (false, 60, 149755427650345157083004927), (false, 65, 149755464543833304502108159), (false, 66, 149755538330809599340314623), (false, 67, 149755685904762189016727551), (false, 77, 149906801632214017663565823), (false, 82, 154742504910672534362390527), (false, 87, 309485009821345068724781055), (false, 88, 618970019642690137449562111), (false, 89, 1237940039285380274899124223), (true, 90, 2475880078570760549798248447), (false, 91, 4951760157141521099596496895)]
set_option maxRecDepth 100000 in
set_option maxHeartbeats 16000000 in
theorem mRate_v (q0 q1 q2 q3 v0 v1 v2 r0 r1 r2 r3 : Int) (w : World) (bq0 : -2147483648 ≤ q0) (Bq0 : q0 ≤ 2147483647) (bq1 : -2147483648 ≤ q1) (Bq1 : q1 ≤ 2147483647) (bq2 : -2147483648 ≤ q2) (Bq2 : q2 ≤ 2147483647) (bq3 : -2147483648 ≤ q3) (Bq3 : q3 ≤ 2147483647) (bv0 : -2147483648 ≤ v0) (Bv0 : v0 ≤ 2147483647) (bv1 : -2147483648 ≤ v1) (Bv1 : v1 ≤ 2147483647) (bv2 : -2147483648 ≤ v2) (Bv2 : v2 ≤ 2147483647)
    (h0 : wDo 4 (wDo 4 (wDo 4 (0) (wMulq q1 v0)) (wMulq q2 v1)) (wMulq q3 v2) = r0) (h1 : wDo 4 (wDo 3 (wMulq q0 v0) (wMulq q2 v2)) (wMulq q3 v1) = r1) (h2 : wDo 3 (wDo 4 (wMulq q0 v1) (wMulq q1 v2)) (wMulq q3 v0) = r2) (h3 : wDo 4 (wDo 3 (wMulq q0 v2) (wMulq q1 v1)) (wMulq q2 v0) = r3) :
    Calls Try.prog 17 #[.agg #[.iface 45 (.agg #[])], .agg #[.int .i32 q0, .int .i32 q1, .int .i32 q2, .int .i32 q3], .agg #[.int .i32 v0, .int .i32 v1, .int .i32 v2]] w fun e w' => e = .returned (.agg #[.int .i32 r0, .int .i32 r1, .int .i32 r2, .int .i32 r3]) ∧ Below w.heap.size w w' := by
  have H0 := Lib.hid h0
  have H1 := Lib.hid h1
  have H2 := Lib.hid h2
  have H3 := Lib.hid h3
  clear h0 h1 h2 h3
  obtain ⟨W, hW⟩ : ∃ W, (((w.alloc (.cells #[.iface 45 (.agg #[])] 38)).alloc (.cells #[.int .i32 q0, .int .i32 q1, .int .i32 q2, .int .i32 q3] 22)).alloc (.cells #[.int .i32 v0, .int .i32 v1, .int .i32 v2] 28)).alloc (.cells #[.int .i32 0, .int .i32 0, .int .i32 0, .int .i32 0] 22) = W := ⟨_, rfl⟩
  have hbW : Below w.heap.size w W := by rw [← hW]; exact ((((Below.refl w.heap.size w).alloc (by exact Nat.le_refl _) _).alloc (by simp; try omega) _).alloc (by simp; try omega) _).alloc (by simp; try omega) _
  have hzW : w.heap.size + 1 + 1 + 1 ≤ W.heap.size := by rw [← hW]; simp
  have c00 : W.cell? ⟨w.heap.size, 0, none⟩ = some (.iface 45 (.agg #[])) := by subst hW; go_cell
  have c10 : W.cell? ⟨w.heap.size + 1, 0, none⟩ = some (.int .i32 q0) := by subst hW; go_cell
  have c11 : W.cell? ⟨w.heap.size + 1, 1, none⟩ = some (.int .i32 q1) := by subst hW; go_cell
  have c12 : W.cell? ⟨w.heap.size + 1, 2, none⟩ = some (.int .i32 q2) := by subst hW; go_cell
  have c13 : W.cell? ⟨w.heap.size + 1, 3, none⟩ = some (.int .i32 q3) := by subst hW; go_cell
  have c20 : W.cell? ⟨w.heap.size + 1 + 1, 0, none⟩ = some (.int .i32 v0) := by subst hW; go_cell
  have c21 : W.cell? ⟨w.heap.size + 1 + 1, 1, none⟩ = some (.int .i32 v1) := by subst hW; go_cell
  have c22 : W.cell? ⟨w.heap.size + 1 + 1, 2, none⟩ = some (.int .i32 v2) := by subst hW; go_cell
  have HF := Lib.hid (show ∀ w', Below (w.heap.size + 1 + 1 + 1) W w' → (w'.cell? ⟨w.heap.size, 0, none⟩ = some (.iface 45 (.agg #[])) ∧ w'.cell? ⟨w.heap.size + 1, 0, none⟩ = some (.int .i32 q0) ∧ w'.cell? ⟨w.heap.size + 1, 1, none⟩ = some (.int .i32 q1) ∧ w'.cell? ⟨w.heap.size + 1, 2, none⟩ = some (.int .i32 q2) ∧ w'.cell? ⟨w.heap.size + 1, 3, none⟩ = some (.int .i32 q3) ∧ w'.cell? ⟨w.heap.size + 1 + 1, 0, none⟩ = some (.int .i32 v0) ∧ w'.cell? ⟨w.heap.size + 1 + 1, 1, none⟩ = some (.int .i32 v1) ∧ w'.cell? ⟨w.heap.size + 1 + 1, 2, none⟩ = some (.int .i32 v2)) from fun w' h => ⟨(h.cell (p := ⟨w.heap.size, 0, none⟩) (by simp; try omega)).trans c00, (h.cell (p := ⟨w.heap.size + 1, 0, none⟩) (by simp; try omega)).trans c10, (h.cell (p := ⟨w.heap.size + 1, 1, none⟩) (by simp; try omega)).trans c11, (h.cell (p := ⟨w.heap.size + 1, 2, none⟩) (by simp; try omega)).trans c12, (h.cell (p := ⟨w.heap.size + 1, 3, none⟩) (by simp; try omega)).trans c13, (h.cell (p := ⟨w.heap.size + 1 + 1, 0, none⟩) (by simp; try omega)).trans c20, (h.cell (p := ⟨w.heap.size + 1 + 1, 1, none⟩) (by simp; try omega)).trans c21, (h.cell (p := ⟨w.heap.size + 1 + 1, 2, none⟩) (by simp; try omega)).trans c22⟩)
  have hR : FourAt W (w.heap.size + 1 + 1 + 1) (pt 0 0 0 0) ∧ 0 ≤ w.heap.size + 1 + 1 + 1 ∧ w.heap.size + 1 + 1 + 1 < W.heap.size := by
    rw [← hW]; exact ⟨by simpa using FourAt.new (((w.alloc (.cells #[.iface 45 (.agg #[])] 38)).alloc (.cells #[.int .i32 q0, .int .i32 q1, .int .i32 q2, .int .i32 q3] 22)).alloc (.cells #[.int .i32 v0, .int .i32 v1, .int .i32 v2] 28)) 0 0 0 0 22, Nat.zero_le _, by simp⟩
  have HW := Lib.hid hW
  have HZ := Lib.hid hzW
  clear hW hzW c00 c10 c11 c12 c13 c20 c21 c22
  go_enter Try.func17, Try.ntmps17
  go_wp2
  rw [HW.out]
  dsimp only [List.append]
  replace hR := drew4 hR
  have hS := Sdrew HF.out HZ.out
  refine wp_region_seq rateInfos rateOrder (fun w' => (w'.cell? ⟨w.heap.size, 0, none⟩ = some (.iface 45 (.agg #[])) ∧ w'.cell? ⟨w.heap.size + 1, 0, none⟩ = some (.int .i32 q0) ∧ w'.cell? ⟨w.heap.size + 1, 1, none⟩ = some (.int .i32 q1) ∧ w'.cell? ⟨w.heap.size + 1, 2, none⟩ = some (.int .i32 q2) ∧ w'.cell? ⟨w.heap.size + 1, 3, none⟩ = some (.int .i32 q3) ∧ w'.cell? ⟨w.heap.size + 1 + 1, 0, none⟩ = some (.int .i32 v0) ∧ w'.cell? ⟨w.heap.size + 1 + 1, 1, none⟩ = some (.int .i32 v1) ∧ w'.cell? ⟨w.heap.size + 1 + 1, 2, none⟩ = some (.int .i32 v2)) ∧ Below (w.heap.size + 1 + 1 + 1) W w' ∧ w.heap.size + 1 + 1 + 1 ≤ w'.heap.size) (by kernel_rfl) (by kernel_rfl) (by kernel_rfl) (by kernel_rfl) (by kernel_rfl) hS ?_
  unfold rateOrder
  (refine SeqH.fieldAddr (v := ?_) rfl rfl ?_ ?_; rotate_left; (intro w' hw'; (try dsimp only at hw'); go_simp; try with_reducible rfl); simp only [Act.put, List.setIfInBounds_toArray, List.set_cons_zero, List.set_cons_succ])
  (refine SeqH.fieldAddr (v := ?_) rfl rfl ?_ ?_; rotate_left; (intro w' hw'; (try dsimp only at hw'); go_simp; try with_reducible rfl); simp only [Act.put, List.setIfInBounds_toArray, List.set_cons_zero, List.set_cons_succ])
  (refine SeqH.load (v := ?_) rfl rfl ?_ ?_; rotate_left; (intro w' hw'; (try dsimp only at hw'); go_simp; try with_reducible rfl); simp only [Act.put, List.setIfInBounds_toArray, List.set_cons_zero, List.set_cons_succ])
  (refine SeqH.fieldAddr (v := ?_) rfl rfl ?_ ?_; rotate_left; (intro w' hw'; (try dsimp only at hw'); go_simp; try with_reducible rfl); simp only [Act.put, List.setIfInBounds_toArray, List.set_cons_zero, List.set_cons_succ])
  (refine SeqH.fieldAddr (v := ?_) rfl rfl ?_ ?_; rotate_left; (intro w' hw'; (try dsimp only at hw'); go_simp; try with_reducible rfl); simp only [Act.put, List.setIfInBounds_toArray, List.set_cons_zero, List.set_cons_succ])
  (refine SeqH.load (v := ?_) rfl rfl ?_ ?_; rotate_left; (intro w' hw'; (try dsimp only at hw'); go_simp; try with_reducible rfl); simp only [Act.put, List.setIfInBounds_toArray, List.set_cons_zero, List.set_cons_succ])
  (refine SeqH.indexAddr (v := ?_) rfl rfl ?_ ?_; rotate_left; (intro w' hw'; (try dsimp only at hw'); go_simp; try with_reducible rfl); simp only [Act.put, List.setIfInBounds_toArray, List.set_cons_zero, List.set_cons_succ])
  (refine SeqH.load (v := ?_) rfl rfl ?_ ?_; rotate_left; (intro w' hw'; (try dsimp only at hw'); go_simp; try with_reducible rfl); simp only [Act.put, List.setIfInBounds_toArray, List.set_cons_zero, List.set_cons_succ])
  (refine SeqH.indexAddr (v := ?_) rfl rfl ?_ ?_; rotate_left; (intro w' hw'; (try dsimp only at hw'); go_simp; try with_reducible rfl); simp only [Act.put, List.setIfInBounds_toArray, List.set_cons_zero, List.set_cons_succ])
  (refine SeqH.load (v := ?_) rfl rfl ?_ ?_; rotate_left; (intro w' hw'; (try dsimp only at hw'); go_simp; try with_reducible rfl); simp only [Act.put, List.setIfInBounds_toArray, List.set_cons_zero, List.set_cons_succ])
  (refine SeqH.indexAddr (v := ?_) rfl rfl ?_ ?_; rotate_left; (intro w' hw'; (try dsimp only at hw'); go_simp; try with_reducible rfl); simp only [Act.put, List.setIfInBounds_toArray, List.set_cons_zero, List.set_cons_succ])
  (refine SeqH.load (v := ?_) rfl rfl ?_ ?_; rotate_left; (intro w' hw'; (try dsimp only at hw'); go_simp; try with_reducible rfl); simp only [Act.put, List.setIfInBounds_toArray, List.set_cons_zero, List.set_cons_succ])
  (refine SeqH.indexAddr (v := ?_) rfl rfl ?_ ?_; rotate_left; (intro w' hw'; (try dsimp only at hw'); go_simp; try with_reducible rfl); simp only [Act.put, List.setIfInBounds_toArray, List.set_cons_zero, List.set_cons_succ])
  (refine SeqH.load (v := ?_) rfl rfl ?_ ?_; rotate_left; (intro w' hw'; (try dsimp only at hw'); go_simp; try with_reducible rfl); simp only [Act.put, List.setIfInBounds_toArray, List.set_cons_zero, List.set_cons_succ])
  (refine SeqH.indexAddr (v := ?_) rfl rfl ?_ ?_; rotate_left; (intro w' hw'; (try dsimp only at hw'); go_simp; try with_reducible rfl); simp only [Act.put, List.setIfInBounds_toArray, List.set_cons_zero, List.set_cons_succ])
  (refine SeqH.load (v := ?_) rfl rfl ?_ ?_; rotate_left; (intro w' hw'; (try dsimp only at hw'); go_simp; try with_reducible rfl); simp only [Act.put, List.setIfInBounds_toArray, List.set_cons_zero, List.set_cons_succ])
  (refine SeqH.indexAddr (v := ?_) rfl rfl ?_ ?_; rotate_left; (intro w' hw'; (try dsimp only at hw'); go_simp; try with_reducible rfl); simp only [Act.put, List.setIfInBounds_toArray, List.set_cons_zero, List.set_cons_succ])
  (refine SeqH.load (v := ?_) rfl rfl ?_ ?_; rotate_left; (intro w' hw'; (try dsimp only at hw'); go_simp; try with_reducible rfl); simp only [Act.put, List.setIfInBounds_toArray, List.set_cons_zero, List.set_cons_succ])
  (refine SeqH.fieldAddr (v := ?_) rfl rfl ?_ ?_; rotate_left; (intro w' hw'; (try dsimp only at hw'); go_simp; try with_reducible rfl); simp only [Act.put, List.setIfInBounds_toArray, List.set_cons_zero, List.set_cons_succ])
  (refine SeqH.fieldAddr (v := ?_) rfl rfl ?_ ?_; rotate_left; (intro w' hw'; (try dsimp only at hw'); go_simp; try with_reducible rfl); simp only [Act.put, List.setIfInBounds_toArray, List.set_cons_zero, List.set_cons_succ])
  (refine SeqH.load (v := ?_) rfl rfl ?_ ?_; rotate_left; (intro w' hw'; (try dsimp only at hw'); go_simp; try with_reducible rfl); simp only [Act.put, List.setIfInBounds_toArray, List.set_cons_zero, List.set_cons_succ])
  (refine SeqH.fieldAddr (v := ?_) rfl rfl ?_ ?_; rotate_left; (intro w' hw'; (try dsimp only at hw'); go_simp; try with_reducible rfl); simp only [Act.put, List.setIfInBounds_toArray, List.set_cons_zero, List.set_cons_succ])
  (refine SeqH.load (v := ?_) rfl rfl ?_ ?_; rotate_left; (intro w' hw'; (try dsimp only at hw'); go_simp; try with_reducible rfl); simp only [Act.put, List.setIfInBounds_toArray, List.set_cons_zero, List.set_cons_succ])
  (refine SeqH.indexAddr (v := ?_) rfl rfl ?_ ?_; rotate_left; (intro w' hw'; (try dsimp only at hw'); go_simp; try with_reducible rfl); simp only [Act.put, List.setIfInBounds_toArray, List.set_cons_zero, List.set_cons_succ])
  (refine SeqH.load (v := ?_) rfl rfl ?_ ?_; rotate_left; (intro w' hw'; (try dsimp only at hw'); go_simp; try with_reducible rfl); simp only [Act.put, List.setIfInBounds_toArray, List.set_cons_zero, List.set_cons_succ])
  (refine SeqH.indexAddr (v := ?_) rfl rfl ?_ ?_; rotate_left; (intro w' hw'; (try dsimp only at hw'); go_simp; try with_reducible rfl); simp only [Act.put, List.setIfInBounds_toArray, List.set_cons_zero, List.set_cons_succ])
  (refine SeqH.load (v := ?_) rfl rfl ?_ ?_; rotate_left; (intro w' hw'; (try dsimp only at hw'); go_simp; try with_reducible rfl); simp only [Act.put, List.setIfInBounds_toArray, List.set_cons_zero, List.set_cons_succ])
  (refine SeqH.indexAddr (v := ?_) rfl rfl ?_ ?_; rotate_left; (intro w' hw'; (try dsimp only at hw'); go_simp; try with_reducible rfl); simp only [Act.put, List.setIfInBounds_toArray, List.set_cons_zero, List.set_cons_succ])
  (refine SeqH.load (v := ?_) rfl rfl ?_ ?_; rotate_left; (intro w' hw'; (try dsimp only at hw'); go_simp; try with_reducible rfl); simp only [Act.put, List.setIfInBounds_toArray, List.set_cons_zero, List.set_cons_succ])
  (refine SeqH.indexAddr (v := ?_) rfl rfl ?_ ?_; rotate_left; (intro w' hw'; (try dsimp only at hw'); go_simp; try with_reducible rfl); simp only [Act.put, List.setIfInBounds_toArray, List.set_cons_zero, List.set_cons_succ])
  (refine SeqH.load (v := ?_) rfl rfl ?_ ?_; rotate_left; (intro w' hw'; (try dsimp only at hw'); go_simp; try with_reducible rfl); simp only [Act.put, List.setIfInBounds_toArray, List.set_cons_zero, List.set_cons_succ])
  (refine SeqH.indexAddr (v := ?_) rfl rfl ?_ ?_; rotate_left; (intro w' hw'; (try dsimp only at hw'); go_simp; try with_reducible rfl); simp only [Act.put, List.setIfInBounds_toArray, List.set_cons_zero, List.set_cons_succ])
  (refine SeqH.load (v := ?_) rfl rfl ?_ ?_; rotate_left; (intro w' hw'; (try dsimp only at hw'); go_simp; try with_reducible rfl); simp only [Act.put, List.setIfInBounds_toArray, List.set_cons_zero, List.set_cons_succ])
  (refine SeqH.indexAddr (v := ?_) rfl rfl ?_ ?_; rotate_left; (intro w' hw'; (try dsimp only at hw'); go_simp; try with_reducible rfl); simp only [Act.put, List.setIfInBounds_toArray, List.set_cons_zero, List.set_cons_succ])
  (refine SeqH.load (v := ?_) rfl rfl ?_ ?_; rotate_left; (intro w' hw'; (try dsimp only at hw'); go_simp; try with_reducible rfl); simp only [Act.put, List.setIfInBounds_toArray, List.set_cons_zero, List.set_cons_succ])
  (refine SeqH.fieldAddr (v := ?_) rfl rfl ?_ ?_; rotate_left; (intro w' hw'; (try dsimp only at hw'); go_simp; try with_reducible rfl); simp only [Act.put, List.setIfInBounds_toArray, List.set_cons_zero, List.set_cons_succ])
  (refine SeqH.fieldAddr (v := ?_) rfl rfl ?_ ?_; rotate_left; (intro w' hw'; (try dsimp only at hw'); go_simp; try with_reducible rfl); simp only [Act.put, List.setIfInBounds_toArray, List.set_cons_zero, List.set_cons_succ])
  (refine SeqH.load (v := ?_) rfl rfl ?_ ?_; rotate_left; (intro w' hw'; (try dsimp only at hw'); go_simp; try with_reducible rfl); simp only [Act.put, List.setIfInBounds_toArray, List.set_cons_zero, List.set_cons_succ])
  (refine SeqH.fieldAddr (v := ?_) rfl rfl ?_ ?_; rotate_left; (intro w' hw'; (try dsimp only at hw'); go_simp; try with_reducible rfl); simp only [Act.put, List.setIfInBounds_toArray, List.set_cons_zero, List.set_cons_succ])
  (refine SeqH.load (v := ?_) rfl rfl ?_ ?_; rotate_left; (intro w' hw'; (try dsimp only at hw'); go_simp; try with_reducible rfl); simp only [Act.put, List.setIfInBounds_toArray, List.set_cons_zero, List.set_cons_succ])
  (refine SeqH.indexAddr (v := ?_) rfl rfl ?_ ?_; rotate_left; (intro w' hw'; (try dsimp only at hw'); go_simp; try with_reducible rfl); simp only [Act.put, List.setIfInBounds_toArray, List.set_cons_zero, List.set_cons_succ])
  (refine SeqH.load (v := ?_) rfl rfl ?_ ?_; rotate_left; (intro w' hw'; (try dsimp only at hw'); go_simp; try with_reducible rfl); simp only [Act.put, List.setIfInBounds_toArray, List.set_cons_zero, List.set_cons_succ])
  (refine SeqH.indexAddr (v := ?_) rfl rfl ?_ ?_; rotate_left; (intro w' hw'; (try dsimp only at hw'); go_simp; try with_reducible rfl); simp only [Act.put, List.setIfInBounds_toArray, List.set_cons_zero, List.set_cons_succ])
  (refine SeqH.load (v := ?_) rfl rfl ?_ ?_; rotate_left; (intro w' hw'; (try dsimp only at hw'); go_simp; try with_reducible rfl); simp only [Act.put, List.setIfInBounds_toArray, List.set_cons_zero, List.set_cons_succ])
  (refine SeqH.indexAddr (v := ?_) rfl rfl ?_ ?_; rotate_left; (intro w' hw'; (try dsimp only at hw'); go_simp; try with_reducible rfl); simp only [Act.put, List.setIfInBounds_toArray, List.set_cons_zero, List.set_cons_succ])
  (refine SeqH.load (v := ?_) rfl rfl ?_ ?_; rotate_left; (intro w' hw'; (try dsimp only at hw'); go_simp; try with_reducible rfl); simp only [Act.put, List.setIfInBounds_toArray, List.set_cons_zero, List.set_cons_succ])
  (refine SeqH.indexAddr (v := ?_) rfl rfl ?_ ?_; rotate_left; (intro w' hw'; (try dsimp only at hw'); go_simp; try with_reducible rfl); simp only [Act.put, List.setIfInBounds_toArray, List.set_cons_zero, List.set_cons_succ])
  (refine SeqH.load (v := ?_) rfl rfl ?_ ?_; rotate_left; (intro w' hw'; (try dsimp only at hw'); go_simp; try with_reducible rfl); simp only [Act.put, List.setIfInBounds_toArray, List.set_cons_zero, List.set_cons_succ])
  (refine SeqH.indexAddr (v := ?_) rfl rfl ?_ ?_; rotate_left; (intro w' hw'; (try dsimp only at hw'); go_simp; try with_reducible rfl); simp only [Act.put, List.setIfInBounds_toArray, List.set_cons_zero, List.set_cons_succ])
  (refine SeqH.load (v := ?_) rfl rfl ?_ ?_; rotate_left; (intro w' hw'; (try dsimp only at hw'); go_simp; try with_reducible rfl); simp only [Act.put, List.setIfInBounds_toArray, List.set_cons_zero, List.set_cons_succ])
  (refine SeqH.indexAddr (v := ?_) rfl rfl ?_ ?_; rotate_left; (intro w' hw'; (try dsimp only at hw'); go_simp; try with_reducible rfl); simp only [Act.put, List.setIfInBounds_toArray, List.set_cons_zero, List.set_cons_succ])
  (refine SeqH.load (v := ?_) rfl rfl ?_ ?_; rotate_left; (intro w' hw'; (try dsimp only at hw'); go_simp; try with_reducible rfl); simp only [Act.put, List.setIfInBounds_toArray, List.set_cons_zero, List.set_cons_succ])
  (refine SeqH.fieldAddr (v := ?_) rfl rfl ?_ ?_; rotate_left; (intro w' hw'; (try dsimp only at hw'); go_simp; try with_reducible rfl); simp only [Act.put, List.setIfInBounds_toArray, List.set_cons_zero, List.set_cons_succ])
  (refine SeqH.fieldAddr (v := ?_) rfl rfl ?_ ?_; rotate_left; (intro w' hw'; (try dsimp only at hw'); go_simp; try with_reducible rfl); simp only [Act.put, List.setIfInBounds_toArray, List.set_cons_zero, List.set_cons_succ])
  (refine SeqH.load (v := ?_) rfl rfl ?_ ?_; rotate_left; (intro w' hw'; (try dsimp only at hw'); go_simp; try with_reducible rfl); simp only [Act.put, List.setIfInBounds_toArray, List.set_cons_zero, List.set_cons_succ])
  (refine SeqH.fieldAddr (v := ?_) rfl rfl ?_ ?_; rotate_left; (intro w' hw'; (try dsimp only at hw'); go_simp; try with_reducible rfl); simp only [Act.put, List.setIfInBounds_toArray, List.set_cons_zero, List.set_cons_succ])
  (refine SeqH.load (v := ?_) rfl rfl ?_ ?_; rotate_left; (intro w' hw'; (try dsimp only at hw'); go_simp; try with_reducible rfl); simp only [Act.put, List.setIfInBounds_toArray, List.set_cons_zero, List.set_cons_succ])
  (refine SeqH.indexAddr (v := ?_) rfl rfl ?_ ?_; rotate_left; (intro w' hw'; (try dsimp only at hw'); go_simp; try with_reducible rfl); simp only [Act.put, List.setIfInBounds_toArray, List.set_cons_zero, List.set_cons_succ])
  (refine SeqH.load (v := ?_) rfl rfl ?_ ?_; rotate_left; (intro w' hw'; (try dsimp only at hw'); go_simp; try with_reducible rfl); simp only [Act.put, List.setIfInBounds_toArray, List.set_cons_zero, List.set_cons_succ])
  (refine SeqH.indexAddr (v := ?_) rfl rfl ?_ ?_; rotate_left; (intro w' hw'; (try dsimp only at hw'); go_simp; try with_reducible rfl); simp only [Act.put, List.setIfInBounds_toArray, List.set_cons_zero, List.set_cons_succ])
  (refine SeqH.load (v := ?_) rfl rfl ?_ ?_; rotate_left; (intro w' hw'; (try dsimp only at hw'); go_simp; try with_reducible rfl); simp only [Act.put, List.setIfInBounds_toArray, List.set_cons_zero, List.set_cons_succ])
  (refine SeqH.indexAddr (v := ?_) rfl rfl ?_ ?_; rotate_left; (intro w' hw'; (try dsimp only at hw'); go_simp; try with_reducible rfl); simp only [Act.put, List.setIfInBounds_toArray, List.set_cons_zero, List.set_cons_succ])
  (refine SeqH.load (v := ?_) rfl rfl ?_ ?_; rotate_left; (intro w' hw'; (try dsimp only at hw'); go_simp; try with_reducible rfl); simp only [Act.put, List.setIfInBounds_toArray, List.set_cons_zero, List.set_cons_succ])
  (refine SeqH.indexAddr (v := ?_) rfl rfl ?_ ?_; rotate_left; (intro w' hw'; (try dsimp only at hw'); go_simp; try with_reducible rfl); simp only [Act.put, List.setIfInBounds_toArray, List.set_cons_zero, List.set_cons_succ])
  (refine SeqH.load (v := ?_) rfl rfl ?_ ?_; rotate_left; (intro w' hw'; (try dsimp only at hw'); go_simp; try with_reducible rfl); simp only [Act.put, List.setIfInBounds_toArray, List.set_cons_zero, List.set_cons_succ])
  (refine SeqH.indexAddr (v := ?_) rfl rfl ?_ ?_; rotate_left; (intro w' hw'; (try dsimp only at hw'); go_simp; try with_reducible rfl); simp only [Act.put, List.setIfInBounds_toArray, List.set_cons_zero, List.set_cons_succ])
  (refine SeqH.load (v := ?_) rfl rfl ?_ ?_; rotate_left; (intro w' hw'; (try dsimp only at hw'); go_simp; try with_reducible rfl); simp only [Act.put, List.setIfInBounds_toArray, List.set_cons_zero, List.set_cons_succ])
  (refine SeqH.indexAddr (v := ?_) rfl rfl ?_ ?_; rotate_left; (intro w' hw'; (try dsimp only at hw'); go_simp; try with_reducible rfl); simp only [Act.put, List.setIfInBounds_toArray, List.set_cons_zero, List.set_cons_succ])
  (refine SeqH.load (v := ?_) rfl rfl ?_ ?_; rotate_left; (intro w' hw'; (try dsimp only at hw'); go_simp; try with_reducible rfl); simp only [Act.put, List.setIfInBounds_toArray, List.set_cons_zero, List.set_cons_succ])
  refine SeqH.step rfl rfl (fun K hK => ?_)
  go_simp
  refine (keepG4 HF.out (words_word 0 _) hS).mono ?_
  rintro e w1 ⟨rfl, hS, hq⟩
  replace hR := keep4 hR hq
  (try dsimp only)
  refine hK _ _ hS ?_
  clear hK K
  simp only [Act.put, List.setIfInBounds_toArray, List.set_cons_zero, List.set_cons_succ]
  refine SeqH.call rfl enter_minus ?ha (keepG4 HF.out (minus_v q1 v0 _) hS) fun w1 hS' hq => ?_
  case ha => rfl
  replace hS := hS'
  clear hS'
  replace hR := keep4 hR hq
  simp only [Act.put, List.setIfInBounds_toArray, List.set_cons_zero, List.set_cons_succ]
  refine SeqH.call rfl enter_minus ?ha (keepG4 HF.out (minus_v q2 v1 _) hS) fun w1 hS' hq => ?_
  case ha => rfl
  replace hS := hS'
  clear hS'
  replace hR := keep4 hR hq
  simp only [Act.put, List.setIfInBounds_toArray, List.set_cons_zero, List.set_cons_succ]
  refine SeqH.call rfl enter_minus ?ha (keepG4 HF.out (minus_v q3 v2 _) hS) fun w1 hS' hq => ?_
  case ha => rfl
  replace hS := hS'
  clear hS'
  replace hR := keep4 hR hq
  simp only [Act.put, List.setIfInBounds_toArray, List.set_cons_zero, List.set_cons_succ]
  refine SeqH.step rfl rfl (fun K hK => ?_)
  go_simp
  refine hK _ _ (Sall HF.out hS _) ?_
  clear hK K
  (try simp only [Act.put, List.setIfInBounds_toArray, List.set_cons_zero, List.set_cons_succ])
  refine SeqH.call rfl enter_total ?ha (keepG4 HF.out (total3_o (0) 4 q1 v0 4 q2 v1 4 q3 v2 r0 _ _ ⟨by decide, by decide⟩ (Or.inr rfl) (Or.inr rfl) (Or.inr rfl) bq1 Bq1 bv0 Bv0 bq2 Bq2 bv1 Bv1 bq3 Bq3 bv2 Bv2 H0.out) (Sall HF.out hS _)) fun w1 hS' hq => ?_
  case ha => rfl
  replace hS := hS'
  clear hS'
  replace hR := keep4a hR hq
  simp only [Act.put, List.setIfInBounds_toArray, List.set_cons_zero, List.set_cons_succ]
  refine SeqH.call rfl enter_mulq ?ha (keepG4 HF.out (mulq_v q0 v0 _ _ bq0 Bq0 bv0 Bv0 rfl) hS) fun w1 hS' hq => ?_
  case ha => rfl
  replace hS := hS'
  clear hS'
  replace hR := keep4 hR hq
  simp only [Act.put, List.setIfInBounds_toArray, List.set_cons_zero, List.set_cons_succ]
  refine SeqH.call rfl enter_plus ?ha (keepG4 HF.out (plus_v q2 v2 _) hS) fun w1 hS' hq => ?_
  case ha => rfl
  replace hS := hS'
  clear hS'
  replace hR := keep4 hR hq
  simp only [Act.put, List.setIfInBounds_toArray, List.set_cons_zero, List.set_cons_succ]
  refine SeqH.call rfl enter_minus ?ha (keepG4 HF.out (minus_v q3 v1 _) hS) fun w1 hS' hq => ?_
  case ha => rfl
  replace hS := hS'
  clear hS'
  replace hR := keep4 hR hq
  simp only [Act.put, List.setIfInBounds_toArray, List.set_cons_zero, List.set_cons_succ]
  refine SeqH.step rfl rfl (fun K hK => ?_)
  go_simp
  refine hK _ _ (Sall HF.out hS _) ?_
  clear hK K
  (try simp only [Act.put, List.setIfInBounds_toArray, List.set_cons_zero, List.set_cons_succ])
  refine SeqH.call rfl enter_total ?ha (keepG4 HF.out (total2_o (wMulq q0 v0) 3 q2 v2 4 q3 v1 r1 _ _ (wMulq_bd _ _) (Or.inl rfl) (Or.inr rfl) bq2 Bq2 bv2 Bv2 bq3 Bq3 bv1 Bv1 H1.out) (Sall HF.out hS _)) fun w1 hS' hq => ?_
  case ha => rfl
  replace hS := hS'
  clear hS'
  replace hR := keep4a hR hq
  simp only [Act.put, List.setIfInBounds_toArray, List.set_cons_zero, List.set_cons_succ]
  refine SeqH.call rfl enter_mulq ?ha (keepG4 HF.out (mulq_v q0 v1 _ _ bq0 Bq0 bv1 Bv1 rfl) hS) fun w1 hS' hq => ?_
  case ha => rfl
  replace hS := hS'
  clear hS'
  replace hR := keep4 hR hq
  simp only [Act.put, List.setIfInBounds_toArray, List.set_cons_zero, List.set_cons_succ]
  refine SeqH.call rfl enter_minus ?ha (keepG4 HF.out (minus_v q1 v2 _) hS) fun w1 hS' hq => ?_
  case ha => rfl
  replace hS := hS'
  clear hS'
  replace hR := keep4 hR hq
  simp only [Act.put, List.setIfInBounds_toArray, List.set_cons_zero, List.set_cons_succ]
  refine SeqH.call rfl enter_plus ?ha (keepG4 HF.out (plus_v q3 v0 _) hS) fun w1 hS' hq => ?_
  case ha => rfl
  replace hS := hS'
  clear hS'
  replace hR := keep4 hR hq
  simp only [Act.put, List.setIfInBounds_toArray, List.set_cons_zero, List.set_cons_succ]
  refine SeqH.step rfl rfl (fun K hK => ?_)
  go_simp
  refine hK _ _ (Sall HF.out hS _) ?_
  clear hK K
  (try simp only [Act.put, List.setIfInBounds_toArray, List.set_cons_zero, List.set_cons_succ])
  refine SeqH.call rfl enter_total ?ha (keepG4 HF.out (total2_o (wMulq q0 v1) 4 q1 v2 3 q3 v0 r2 _ _ (wMulq_bd _ _) (Or.inr rfl) (Or.inl rfl) bq1 Bq1 bv2 Bv2 bq3 Bq3 bv0 Bv0 H2.out) (Sall HF.out hS _)) fun w1 hS' hq => ?_
  case ha => rfl
  replace hS := hS'
  clear hS'
  replace hR := keep4a hR hq
  simp only [Act.put, List.setIfInBounds_toArray, List.set_cons_zero, List.set_cons_succ]
  refine SeqH.call rfl enter_mulq ?ha (keepG4 HF.out (mulq_v q0 v2 _ _ bq0 Bq0 bv2 Bv2 rfl) hS) fun w1 hS' hq => ?_
  case ha => rfl
  replace hS := hS'
  clear hS'
  replace hR := keep4 hR hq
  simp only [Act.put, List.setIfInBounds_toArray, List.set_cons_zero, List.set_cons_succ]
  refine SeqH.call rfl enter_plus ?ha (keepG4 HF.out (plus_v q1 v1 _) hS) fun w1 hS' hq => ?_
  case ha => rfl
  replace hS := hS'
  clear hS'
  replace hR := keep4 hR hq
  simp only [Act.put, List.setIfInBounds_toArray, List.set_cons_zero, List.set_cons_succ]
  refine SeqH.call rfl enter_minus ?ha (keepG4 HF.out (minus_v q2 v0 _) hS) fun w1 hS' hq => ?_
  case ha => rfl
  replace hS := hS'
  clear hS'
  replace hR := keep4 hR hq
  simp only [Act.put, List.setIfInBounds_toArray, List.set_cons_zero, List.set_cons_succ]
  refine SeqH.step rfl rfl (fun K hK => ?_)
  go_simp
  refine hK _ _ (Sall HF.out hS _) ?_
  clear hK K
  (try simp only [Act.put, List.setIfInBounds_toArray, List.set_cons_zero, List.set_cons_succ])
  refine SeqH.call rfl enter_total ?ha (keepG4 HF.out (total2_o (wMulq q0 v2) 3 q1 v1 4 q2 v0 r3 _ _ (wMulq_bd _ _) (Or.inl rfl) (Or.inr rfl) bq1 Bq1 bv1 Bv1 bq2 Bq2 bv0 Bv0 H3.out) (Sall HF.out hS _)) fun w1 hS' hq => ?_
  case ha => rfl
  replace hS := hS'
  clear hS'
  replace hR := keep4a hR hq; have d0 := hR.1.c 0 (by decide); have d1 := hR.1.c 1 (by decide); have d2 := hR.1.c 2 (by decide); have d3 := hR.1.c 3 (by decide); have f0 := hR.1.z 0 (by decide); have f1 := hR.1.z 1 (by decide); have f2 := hR.1.z 2 (by decide); have f3 := hR.1.z 3 (by decide)
  simp only [Act.put, List.setIfInBounds_toArray, List.set_cons_zero, List.set_cons_succ]
  (refine SeqH.take (v := ?_) rfl rfl ?_ ?_; rotate_left; (intro w' hw'; (try dsimp only at hw'); go_simp; try with_reducible rfl); (simp only [Act.put, List.setIfInBounds_toArray]); (try simp only [List.set_cons_zero, List.set_cons_succ]))
  refine SeqH.step rfl rfl (fun K hK => ?_)
  go_simp
  refine hK _ _ (Sset HF.out hS _ _ _ _) ?_
  clear hK K
  (try simp only [Act.put, List.setIfInBounds_toArray, List.set_cons_zero, List.set_cons_succ])
  refine SeqH.done (NoPanic.normal ?_)
  have hn4 := F4set hR.1 r0 r1 r2 r3
  have hB4 := hbW.trans ((set4_below hS.2.1 (Nat.le_refl _) (.int .i32 r0) (.int .i32 r1) (.int .i32 r2) (.int .i32 r3)).mono (by omega))
  generalize (((w1.setCell ⟨w.heap.size + 1 + 1 + 1, 0, none⟩ (.int .i32 r0)).setCell ⟨w.heap.size + 1 + 1 + 1, 1, none⟩ (.int .i32 r1)).setCell ⟨w.heap.size + 1 + 1 + 1, 2, none⟩ (.int .i32 r2)).setCell ⟨w.heap.size + 1 + 1 + 1, 3, none⟩ (.int .i32 r3) = W3 at hn4 hB4 hS ⊢
  have x0 := hn4.c 0 (by decide)
  have x1 := hn4.c 1 (by decide)
  have x2 := hn4.c 2 (by decide)
  have x3 := hn4.c 3 (by decide)
  go_wp2
  (try simp only [Exit.inBlock, Exit.then])
  exact bodyPost_ret (v := .agg #[.int .i32 r0, .int .i32 r1, .int .i32 r2, .int .i32 r3]) (by simp [results, Try.results17, go_sem, pt, x0, x1, x2, x3]) rfl ⟨rfl, hB4⟩

end Go.Proofs.Ytdphiobmjdiefaa
