import Derived.Test.YtnjikgcigobcdaaGrow
import Derived.IntWalk
namespace Go.Proofs.Ytnjikgcigobcdaa
open Wd Go.ChangeShapes Go.WideShapes Go.RowKit Go.Sort
set_option linter.unusedVariables false

/-- what a device of so many pages has -/
def bankG (p : Int) : Int := p / 8
def imageG (p : Int) : Int := (32 * (p / 8) - 2) / 2
def logG (p : Int) : Int := 32 * (p / 8) - 2 - (32 * (p / 8) - 2) / 2
def dataG (p : Int) : Int := p - 1 - 2 * (p / 8)
def mayG (p : Int) : Bool := decide (64 ≤ p) && decide (p ≤ 1048576)
def geomV (p : Int) : Value := .agg #[.int .i64 p, .int .i64 (bankG p), .int .i64 (imageG p), .int .i64 (logG p), .int .i64 (dataG p)]
def noneV : Value := .agg #[.int .i64 0, .int .i64 0, .int .i64 0, .int .i64 0, .int .i64 0]

def bankP (B k : Int) : Int := if k = 1 then 32 * (1 + B) else 32
def pageP (B D p : Int) : Int := if 1 ≤ p ∧ p ≤ D then 32 * (2 * B + p) else 0

theorem bankP_bd (B k : Int) (hB : 0 ≤ B) (hB2 : B ≤ 200000) : 0 ≤ bankP B k ∧ bankP B k ≤ 6400032 := by
  unfold bankP; split <;> omega