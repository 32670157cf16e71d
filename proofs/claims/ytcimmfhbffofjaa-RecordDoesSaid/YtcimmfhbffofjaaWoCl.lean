import Derived.Test.YtcimmfhbffofjaaWoWr
import Derived.Test.YtcimmfhbffofjaaTrue
import Derived.Lib.SliceRun
namespace Go.Proofs.Ytcimmfhbffofjaa
open Wd U Go.ChangeShapes Go.WideShapes Go.RowKit Go.Sort
set_option linter.unusedVariables false

/-- words that a row holds somewhere, from a block on -/
def RdRow (w : World) (B : Nat) (v : Value) (xs : List Nat) : Prop :=
  (v = .slice none 0 0 ∧ xs = []) ∨ ∃ (q off c : Nat) (cs : Array Value), v = .slice (some ⟨q, off, none⟩) xs.length c ∧ xs.length ≤ c ∧ B ≤ q ∧ Cells w q 61 cs ∧ ∀ j x, xs[j]? = some x → cs[off + j]? = some (wd x)
theorem RdRow.of_own {w : World} {B : Nat} {v : Value} {xs : List Nat} (h : w.ownsRow B 61 1 v xs.length (xs.map wd)) : RdRow w B v xs := by
  rcases h.2 with ⟨rfl, h0⟩ | ⟨g, cap, cur, rfl, hb, hh, h1, h2, hs, ht⟩
  · exact .inl ⟨rfl, List.eq_nil_of_length_eq_zero h0⟩
  · refine .inr ⟨g, 0, cap, cur, rfl, h1, hb, hh, fun j x hj => ?_⟩
    rw [Nat.mul_one] at ht
    have hjn : j < xs.length := (List.getElem?_eq_some_iff.1 hj).1
    have e : (xs.map wd)[j]? = some (wd x) := by rw [List.getElem?_map, hj]; rfl
    rw [← ht, List.getElem?_take_of_lt hjn] at e
    rw [Nat.zero_add]
    simpa using e
theorem row_at {w : World} {q off n : Nat} {cs : Array Value} {xs : List Nat} (hn : xs.length = n) (hh : Cells w q 61 cs) (hx : ∀ j x, xs[j]? = some x → cs[off + j]? = some (wd x)) : Row w w.heap.size (some ⟨q, off, none⟩) n (xs.map wd) := by
  refine ⟨by rw [List.length_map]; exact hn, fun hp => ⟨q, off, rfl, hh.lt, fun j hj => ?_⟩⟩
  have hj' : j < xs.length := by simpa using hj
  rw [hh.cell, hx j xs[j] (List.getElem?_eq_getElem hj')]
  simp
theorem RdRow.row {w : World} {B : Nat} {v : Value} {xs : List Nat} (h : RdRow w B v xs) : ∃ A c, v = .slice A xs.length c ∧ xs.length ≤ c ∧ Row w w.heap.size A xs.length (xs.map wd) := by
  rcases h with ⟨rfl, rfl⟩ | ⟨q, off, c, cs, rfl, hc, _, hh, hx⟩
  · exact ⟨none, 0, rfl, Nat.le_refl _, Row.nil⟩
  · exact ⟨_, c, rfl, hc, row_at rfl hh hx⟩
theorem RdRow.keep {w w' : World} {B : Nat} {v : Value} {xs : List Nat} (h : RdRow w B v xs) (hk : ∀ g cs, Cells w g 61 cs → w'.heap[g]? = w.heap[g]?) : RdRow w' B v xs := by
  rcases h with h | ⟨q, off, c, cs, hv, hc, hB, hh, hx⟩
  · exact .inl h
  · exact .inr ⟨q, off, c, cs, hv, hc, hB, (hk q cs hh).trans hh, hx⟩
theorem RdRow.below {w w' : World} {B : Nat} {v : Value} {xs : List Nat} (h : RdRow w B v xs) (hb : Below w.heap.size w w') : RdRow w' B v xs := h.keep fun g cs hc => hb.block g hc.lt

def ClonedW (W : World) (xs : List Nat) (e : Ending) (w : World) : Prop := ∃ v, e = .returned v ∧ RdRow w W.heap.size v xs ∧ Below W.heap.size W w
set_option maxRecDepth 100000 in
theorem wclone {w : World} {B n c : Nat} {A : Option Addr} {xs : List Nat} (hn : xs.length = n) (h : Row w B A n (xs.map wd)) (hB : B ≤ w.heap.size) (hle : n ≤ 1000000) : Calls Try.prog 41 #[.slice A n c] w (ClonedW w xs) := by
  cases A with
  | none =>
    have h0 : n = 0 := by
      apply Classical.byContradiction
      intro hc
      obtain ⟨b, off, e, _⟩ := h.2 (by omega)
      cases e
    subst h0
    obtain rfl : xs = [] := List.eq_nil_of_length_eq_zero hn
    have hq := fun (w : World) => Lib.run_eql_slice_nil (P := Try.prog) w 25 61 none 0 c 0 0 Try.underlying25
    clear h hn
    go_enter Try.func41, Try.ntmps41
    go_wp2
    go_ret
    exact ⟨_, rfl, .inl ⟨rfl, rfl⟩, Below.refl _ _⟩
  | some a =>
    have ho : (w.alloc (.cells #[] 61)).ownsRow w.heap.size 61 1 (.slice (some ⟨w.heap.size, 0, none⟩) 0 0) 0 [] := ⟨rfl, .inr ⟨w.heap.size, 0, #[], rfl, Nat.le_refl _, Cells.new w _ _, Nat.le_refl _, by decide, rfl, rfl⟩⟩
    have HO := Lib.hid ho
    have hr' : Row (w.alloc (.cells #[] 61)) w.heap.size (some a) n (xs.map wd) := (h.more hB).below ((Below.refl w.heap.size w).alloc (Nat.le_refl _) _)
    have HR := Lib.hid hr'
    have HN := Lib.hid hn
    have hq := fun (w : World) => Lib.run_eql_slice_nil (P := Try.prog) w 25 61 (some a) n c 0 0 Try.underlying25
    clear ho hr' h hn
    go_enter Try.func41, Try.ntmps41
    go_wp2_with (at_builtin; refine wpList_append_row _ rfl (.tmp 5) (.tmp 6) 25 rfl w.heap.size 61 (.int .u64 0) 8 Try.underlying25 infoU64' rfl _ _ _ rfl HO.out _ (some a) n c (xs.map wd) rfl HR.out (oneW _) (by unfold maxLen; omega) (by omega) (by simp) ?_; intro v5 w5 hown5 hgr5 hat5; have HO5 := Lib.hid hown5; have HG5 := Lib.hid hgr5; have HA5 := Lib.hid hat5; clear hown5 hgr5 hat5)
    go_ret
    have hb5 : Below w.heap.size w w5 := ((Below.refl _ _).alloc (Nat.le_refl _) _).grown HG5.out (by simp) (own_base HO.out)
    have ho5 := HO5.out
    rw [Nat.zero_add, List.nil_append, ← HN.out] at ho5
    exact ⟨_, rfl, RdRow.of_own ho5, hb5⟩

/-- a Writer's words -/
theorem words_w {W w : World} {g : Nat} {xs : List Nat} (h : WrSt W g xs w) (hl : xs.length ≤ 100000) :
    Calls Try.prog 25 #[.pointer (some ⟨g, 0, none⟩)] w (ClonedW w xs) := by
  obtain ⟨h1, h2, v, h3, h4⟩ := h
  have c0 : w.cell? ⟨g, 0, none⟩ = some v := h3.cell 0
  obtain ⟨A, c, rfl, hr⟩ := Row.of_own h4
  obtain ⟨n, hn⟩ : ∃ n, xs.length = n := ⟨_, rfl⟩
  rw [hn] at c0 hr hl
  have HN := Lib.hid hn; have HR := Lib.hid hr
  clear h1 h3 h4 hr hn
  go_enter Try.func25, Try.ntmps25
  go_wp2_with (go_at_call 41; refine (wclone HN.out HR.out (Nat.le_refl _) (by omega)).mono ?_; rintro e w' ⟨v', rfl, r', b'⟩; have HR' := Lib.hid r'; have HB' := Lib.hid b'; clear r' b')
  go_ret
  exact ⟨_, rfl, HR'.out, HB'.out⟩
end Go.Proofs.Ytcimmfhbffofjaa
