import Derived.Test.YtajmboolgekdeaaPkRef
import Derived.Test.YtajmboolgekdeaaInMem
import Derived.Laws.IdiomStrings
namespace Go.Proofs.Ytajmboolgekdeaa
open Wd U Go.ChangeShapes Go.WideShapes Go.RowKit Go.Sort
set_option linter.unusedVariables false

/-! the document's words of a text; the project's Need -/
def needI (n : Int) : Int := if 0 < n then (n + 7) / 8 else 0
theorem need_is (n : Int) (h0 : -9223372036854775808 ≤ n) (h1 : n ≤ 9223372036854775807) (w : World) : Calls Try.prog 27 #[.int .i64 n] w fun e w' => e = .returned (.int .i64 (needI n)) ∧ w = w' := by
  by_cases h : n < 1
  · have e : needI n = 0 := by unfold needI; rw [if_neg (by omega)]
    rw [e]
    clear e
    go_enter Try.func27, Try.ntmps27
    go_wp2
    go_ret
    exact ⟨rfl, rfl⟩
  · have e : needI n = (n - 1) / 8 + 1 := by unfold needI; rw [if_pos (by omega)]; omega
    rw [e]
    clear e
    go_enter Try.func27, Try.ntmps27
    go_wp2
    go_ret
    exact ⟨rfl, rfl⟩

theorem needI_nat (n : Nat) : needI (n : Int) = ((need n : Nat) : Int) := by unfold needI need; split <;> omega
def bsOf (s : ByteArray) : List Nat := s.data.toList.map (·.toNat)
theorem bsOf_len (s : ByteArray) : (bsOf s).length = s.size := by unfold bsOf; rw [List.length_map, Array.length_toList]; rfl
theorem bsOf_bytes (s : ByteArray) : Bytes (bsOf s) := by
  intro x hx
  obtain ⟨y, _, rfl⟩ := List.mem_map.1 hx
  exact y.toNat_lt

theorem own_below {w w' : World} {base n sz : Nat} {e : TypeId} {v : Value} {xs : List Value} (h : w.ownsRow base e sz v n xs) (hb : Below w.heap.size w w') : w'.ownsRow base e sz v n xs := by
  rcases h with ⟨hl, h⟩
  refine ⟨hl, ?_⟩
  rcases h with h | ⟨g, cap, cur, hv, hg, hh, h1⟩
  · exact .inl h
  · exact .inr ⟨g, cap, cur, hv, hg, Cells.below' hh hb, h1⟩

/-- the bytes of a text, as a row -/
theorem bytes_row (w : World) (s : ByteArray) (n : Nat) (hn : s.size = n) (e : TypeId) (c : Nat) (fz : Nat × Nat) : Row (w.alloc (.cells (bytesRow s c) e fz)).drew.drew (w.alloc (.cells (bytesRow s c) e fz)).drew.drew.heap.size (some ⟨w.heap.size, 0, none⟩) n ((bsOf s).map bt) := by
  have hL := bsOf_len s
  subst hn
  refine ⟨by rw [List.length_map]; exact hL, fun _ => ⟨w.heap.size, 0, rfl, by simp, fun j hj => ?_⟩⟩
  rw [List.length_map] at hj
  have hh : (w.alloc (.cells (bytesRow s c) e fz)).drew.drew.heap[w.heap.size]? = some (.cells (bytesRow s c) e fz) := heap_alloc_new w _
  rw [Nat.zero_add, cell_of_row _ _ _ _ _ _ hh]
  unfold bytesRow bsOf at *
  have hj2 : j < s.data.size := by simpa using hj
  rw [Array.getElem?_append_left (by simpa using hj2)]
  simp [bt]
  exact ⟨_, Array.getElem?_eq_getElem hj2, rfl⟩

def encT (s : ByteArray) : List Nat := [s.size] ++ pk (bsOf s)

/-! the document's words of a text, and a text at a place of words -/
def TextD (s : ByteArray) (W : World) (e : Ending) (w : World) : Prop := ∃ v, e = .returned v ∧ w.ownsRow W.heap.size 52 1 v (encT s).length ((encT s).map wd) ∧ Below W.heap.size W w
theorem one_own (w : World) (k : Nat) : (w.alloc (.cells #[.int .u64 k] 52)).ownsRow w.heap.size 52 1 (.slice (some ⟨w.heap.size, 0, none⟩) 1 1) 1 [wd k] :=
  ⟨rfl, .inr ⟨w.heap.size, 1, #[.int .u64 k], rfl, Nat.le_refl _, Cells.new w _ _, Nat.le_refl _, by decide, rfl, rfl⟩⟩
theorem bytes_row1 (w : World) (s : ByteArray) (n : Nat) (hn : s.size = n) (e : TypeId) (c : Nat) (fz : Nat × Nat) : Row (w.alloc (.cells (bytesRow s c) e fz)).drew (w.alloc (.cells (bytesRow s c) e fz)).drew.heap.size (some ⟨w.heap.size, 0, none⟩) n ((bsOf s).map bt) := bytes_row w s n hn e c fz
set_option maxRecDepth 100000 in
set_option maxHeartbeats 4000000 in
theorem refText_any (s : ByteArray) (hs : s.size ≤ 1000) (w : World) : Calls Try.prog 28 #[.string s] w (TextD s w) := by
  obtain ⟨n, hn⟩ : ∃ n, s.size = n := ⟨_, rfl⟩
  have hcv : ∀ w, (convert 9 54 (.string s)).run Try.prog w = .ok (.slice (some ⟨w.heap.size, 0, none⟩) n (grownCap w s.size 0 5))
      (w.drew.alloc (.cells (bytesRow s (grownCap w s.size 0 5)) 5 ((bytesRow s (grownCap w s.size 0 5)).size, (bytesRow s (grownCap w s.size 0 5)).size + 1))) := fun w => by
    rw [run_bytes_of_string (P := Try.prog) w 9 54 5 s Try.underlying9 Try.underlying54 Try.underlying5, hn]
  have HN := Lib.hid hn
  have hL : (bsOf s).length = n := by rw [bsOf_len]; exact hn
  have HL := Lib.hid hL
  rw [hn] at hs
  have hpk : (pk (bsOf s)).length = need n := by rw [pk_len, hL]
  have hnd : need n ≤ 200 := by unfold need; omega
  have HPK := Lib.hid hpk
  have he : encT s = [n] ++ pk (bsOf s) := by unfold encT; rw [hn]
  have hel : (encT s).length = 1 + (pk (bsOf s)).length := by rw [he, List.length_append]; rfl
  have HE := Lib.hid he; have HEL := Lib.hid hel
  have hu : IntKind.u64.wrap (s.size : Int) = (n : Int) := by rw [hn, IntKind.wrap_u64]; omega
  have HU := Lib.hid hu
  have H1 := Lib.hid (one_own w n)
  clear hn hL hpk he hel hu
  go_enter Try.func28, Try.ntmps28
  go_wp2_with fail
  rw [HU.out]
  generalize grownCap (w.alloc (.cells #[.int .u64 (n : Int)] 52)) s.size 0 5 = cp
  have hrow := bytes_row1 (w.alloc (.cells #[.int .u64 (n : Int)] 52)) s n HN.out 5 cp ((bytesRow s cp).size, (bytesRow s cp).size + 1)
  have hs1 : (w.alloc (.cells #[.int .u64 (n : Int)] 52)).heap.size = w.heap.size + 1 := by simp
  have hb2 : Below (w.alloc (.cells #[.int .u64 (n : Int)] 52)).heap.size (w.alloc (.cells #[.int .u64 (n : Int)] 52)) ((w.alloc (.cells #[.int .u64 (n : Int)] 52)).alloc (.cells (bytesRow s cp) 5 ((bytesRow s cp).size, (bytesRow s cp).size + 1))).drew := below_drewN ((Below.refl _ _).alloc (Nat.le_refl _) _) 1
  rw [hs1] at hrow
  obtain ⟨w2, h2⟩ : ∃ w2, ((w.alloc (.cells #[.int .u64 (n : Int)] 52)).alloc (.cells (bytesRow s cp) 5 ((bytesRow s cp).size, (bytesRow s cp).size + 1))).drew = w2 := ⟨_, rfl⟩
  rw [h2] at hrow hb2 ⊢
  have HO2 := Lib.hid (own_below H1.out hb2)
  have HB2 := Lib.hid (((Below.refl w.heap.size w).alloc (Nat.le_refl _) (.cells #[.int .u64 (n : Int)] 52)).trans (hb2.mono (by simp)))
  clear h2 hb2 hs1
  refine (refPack_any (bsOf s) n HL.out (bsOf_bytes s) (some ⟨w.heap.size + 1, 0, none⟩) cp w2 (by omega) hrow).mono ?_
  rintro e' w3 ⟨v3, rfl, ho3, hb3⟩
  obtain ⟨A3, c3, rfl, hr3⟩ := Row.of_own ho3
  have HO3 := Lib.hid (own_below HO2.out hb3)
  have HB3 := Lib.hid (HB2.out.trans (hb3.mono HB2.out.size))
  have HR3 := Lib.hid hr3
  have hsz := HB3.out.size
  clear hrow ho3 hb3 hr3
  go_wp2_with (at_builtin; refine wpList_append_row _ rfl (.tmp 6) (.tmp 9) 47 rfl w.heap.size 52 (.int .u64 0) 8 Try.underlying47 infoU64' rfl (.slice (some ⟨w.heap.size, 0, none⟩) 1 1) 1 [wd n] rfl HO3.out _ A3 (pk (bsOf s)).length c3 ((pk (bsOf s)).map wd) rfl HR3.out (oneW _) (by rw [HPK.out]; unfold maxLen; omega) (by rw [HPK.out]; omega) hsz ?_; intro v5 w5 hown5 hgr5 hat5; have HO5 := Lib.hid hown5; have HG5 := Lib.hid hgr5; clear hown5 hgr5 hat5)
  go_ret
  refine ⟨_, rfl, ?_, HB3.out.grown HG5.out HB3.out.size (own_base HO3.out)⟩
  rw [HEL.out, HE.out]
  exact HO5.out
end Go.Proofs.Ytajmboolgekdeaa
