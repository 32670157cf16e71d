import Derived.Test.YtjopeephohdmlaaWoRd
namespace Go.Proofs.Ytjopeephohdmlaa
open Wd U Go.ChangeShapes Go.WideShapes Go.RowKit Go.Sort
theorem wordsReads_walk (l : List Int) (A : Option Addr) (c : Nat) {w : World} (hr : Row w w.heap.size A l.length (l.map (Value.int .u64))) (hu : ∀ y ∈ l, (Lit.int .u64 y).wf = true) (hcap : l.length ≤ c) (n : List Int) (E : Option Addr) (d : Nat) (he : Row w w.heap.size E n.length (n.map (Value.int .i64))) (hok : ∀ y ∈ n, (Lit.int .i64 y).wf = true) :
    Calls Try.prog 5 #[.slice A l.length c, .slice E n.length d] w (TrueB w) := by
  by_cases h1 : 60 < l.length
  · exact wordsReads_far _ _ A E c d w (.inl h1)
  · by_cases h2 : 30 < n.length
    · exact wordsReads_far _ _ A E c d w (.inr ⟨by omega, h2⟩)
    · obtain ⟨m, hm, hs, hr'⟩ := row_words hr hu
      rw [← hm] at h1 hcap ⊢
      exact wordsReads_any m n A E c d _ _ w rfl rfl (by omega) (by omega) hs hok hcap hr' he
end Go.Proofs.Ytjopeephohdmlaa
