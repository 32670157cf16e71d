import Derived.Test.YtblfhohoomkcmaaDoorNuFace
namespace Go.Proofs.YtblfhohoomkcmaaDoor
open Wd Go.ChangeShapes Go.WideShapes Go.RowKit Go.Sort
set_option linter.unusedVariables false

theorem refSplit_row (s : ByteArray) (w : World) (hs : s.size ≤ 1000) : Calls Tryd.prog 8 #[.string s] w (SplitC s.toList w) := by
  refine (refSplit_any s w hs).mono ?_
  rintro e w' ⟨v, bs, rfl, hl, ho, hb⟩
  obtain ⟨A, c, rfl, hc, hr⟩ := Row.of_own_cap ho
  exact ⟨A, c, bs, rfl, hl, hc, hr, hb⟩
end Go.Proofs.YtblfhohoomkcmaaDoor
