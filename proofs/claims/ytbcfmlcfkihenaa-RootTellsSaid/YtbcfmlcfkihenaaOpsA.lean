/- What package ops' functions answer. Conditions: the numbers are of the parameters' kinds; where a function reads a table, that the table lies as its text has it. -/
import Derived.Test.YtbcfmlcfkihenaaProg
import Derived.Test.YtbcfmlcfkihenaaOpsD
import Derived.Test.YtbcfmlcfkihenaaWordA
import Derived.Handy
import Derived.Lib.Hide
import Derived.Laws.Rows
import Derived.PlainAid
namespace Go.Proofs.Ytbcfmlcfkihenaa
open Go.RowKit

/-- The tables' cells lie in w as the program's text has them. -/
def shapesC : Array Value := #[.int .i64 1, .int .i64 23, .string ⟨#[100, 97, 98, 45]⟩, .int .i64 24, .int .i64 30, .string ⟨#[100, 97, 45, 45]⟩, .int .i64 31, .int .i64 31, .string ⟨#[100, 97, 45, 115]⟩, .int .i64 32, .int .i64 32, .string ⟨#[100, 97, 45, 117]⟩, .int .i64 33, .int .i64 33, .string ⟨#[100, 45, 45, 117]⟩, .int .i64 34, .int .i64 38, .string ⟨#[100, 97, 45, 117]⟩, .int .i64 39, .int .i64 39, .string ⟨#[45, 45, 45, 117]⟩, .int .i64 40, .int .i64 40, .string ⟨#[100, 45, 45, 117]⟩, .int .i64 41, .int .i64 41, .string ⟨#[45, 97, 45, 45]⟩, .int .i64 42, .int .i64 43, .string ⟨#[45, 45, 45, 45]⟩]
end Go.Proofs.Ytbcfmlcfkihenaa
