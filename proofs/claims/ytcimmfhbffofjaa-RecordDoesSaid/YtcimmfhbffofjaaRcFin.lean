import Derived.Test.YtcimmfhbffofjaaRcBk
import Derived.Test.YtcimmfhbffofjaaRcDo
import Derived.Test.YtcimmfhbffofjaaRcDa
import Derived.Test.YtcimmfhbffofjaaRcDs
namespace Go.Proofs.Ytcimmfhbffofjaa
open Wd U Go.ChangeShapes Go.WideShapes Go.RowKit Go.Sort
set_option linter.unusedVariables false

theorem recordDoes_walk (e : Eff) {w : World} (oe : e.Ok w w.heap.size) (r : Int) (l : List Int) (A : Option Addr) (c : Nat) (hr : Row w w.heap.size A l.length (l.map (Value.int .u64))) (hok : ∀ y ∈ l, (Lit.int .u64 y).wf = true) (hc : l.length ≤ c) (hcm : c ≤ maxLen) :
    Calls Try.prog 3 #[e.val, .int .i64 r, .slice A l.length c] w (TrueB w) := by
  obtain ⟨m, hm, hsm, hrow⟩ := row_words hr hok
  rw [← hm] at hc ⊢
  exact does_walk recAwake_true dOf_any (dAll dOf_any) e r m A c oe hsm hc hcm hrow
theorem recordBack_walk {w : World} (l : List Eff) (A : Option Addr) (c : Nat) (hx : Effs w w.heap.size A l) (h1 : l.length ≤ c) (h2 : c ≤ maxLen) (ref : Int) (more : List Int) (D : Option Addr) (d : Nat) (hr : Row w w.heap.size D more.length (more.map (Value.int .u64))) (hok : ∀ y ∈ more, (Lit.int .u64 y).wf = true) (hd : more.length ≤ d) (hdm : d ≤ maxLen) :
    Calls Try.prog 4 #[.slice A l.length c, .int .i64 ref, .slice D more.length d] w (TrueB w) := by
  obtain ⟨m, hm, hsm, hrow⟩ := row_words hr hok
  rw [← hm] at hd ⊢
  exact back_walk l A c ref m D d hx (Nat.le_trans h1 h2) hsm hd hdm hrow
end Go.Proofs.Ytcimmfhbffofjaa
