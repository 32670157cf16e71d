import Derived.Test.YtcimmfhbffofjaaWoUn
import Derived.Laws.IdiomStrings
import Derived.Deep.RegionLaw
namespace Go.Proofs.Ytcimmfhbffofjaa
open Wd U Go.ChangeShapes Go.WideShapes Go.RowKit Go.Sort
set_option linter.unusedVariables false

/-! a Writer's words -/
def bsOf (s : ByteArray) : List Nat := s.data.toList.map (·.toNat)
theorem bsOf_len (s : ByteArray) : (bsOf s).length = s.size := by unfold bsOf; rw [List.length_map, Array.length_toList]; rfl
theorem bsOf_bytes (s : ByteArray) : Bytes (bsOf s) := by
  intro x hx
  obtain ⟨y, _, rfl⟩ := List.mem_map.1 hx
  exact y.toNat_lt
def WrSt (W : World) (g : Nat) (xs : List Nat) (w : World) : Prop :=
  Below W.heap.size W w ∧ W.heap.size ≤ g ∧ ∃ v, Cells w g 55 #[v] ∧ w.ownsRow W.heap.size 61 1 v xs.length (xs.map wd)
theorem WrSt.new (W w : World) (hb : Below W.heap.size W w) : WrSt W w.heap.size [] (w.alloc (.cells #[.slice none 0 0] 55)) :=
  ⟨hb.alloc hb.size _, hb.size, _, Cells.new _ _ _, own_nil _ _ _⟩
theorem own_below {w w' : World} {base n sz : Nat} {e : TypeId} {v : Value} {xs : List Value} (h : w.ownsRow base e sz v n xs) (hb : Below w.heap.size w w') : w'.ownsRow base e sz v n xs := by
  rcases h with ⟨hl, h⟩
  refine ⟨hl, ?_⟩
  rcases h with h | ⟨g, cap, cur, hv, hg, hh, h1⟩
  · exact .inl h
  · exact .inr ⟨g, cap, cur, hv, hg, Cells.below' hh hb, h1⟩
theorem WrSt.below {W w w' : World} {g : Nat} {xs : List Nat} (h : WrSt W g xs w) (hb : Below w.heap.size w w') : WrSt W g xs w' := by
  obtain ⟨h1, h2, v, h3, h4⟩ := h
  exact ⟨h1.trans (hb.mono h1.size), h2, v, h3.below' hb, own_below h4 hb⟩
theorem WrSt.is_below {W w : World} {g : Nat} {xs : List Nat} (h : WrSt W g xs w) : Below W.heap.size W w := h.1
theorem WrSt.ne {w : World} {g n base : Nat} {xs : List Value} {v : Value} (h3 : Cells w g 55 #[v]) (h4 : w.ownsRow base 61 1 v n xs) : some g ≠ v.ownBlock := by
  intro e
  rcases h4.2 with ⟨rfl, _⟩ | ⟨g', cap, cur, rfl, _, hh, _⟩
  · cases e
  · have : g = g' := by simpa [Value.ownBlock] using e
    exact h3.ne (show Cells w g' 61 cur from hh) (by decide) this
theorem grow_alloc' {w w' : World} {o : Obj} {row : Option Nat} (h : (w.alloc o).grownBy w' row) : w.grownBy w' row :=
  ⟨h.os, h.tape, h.output, Nat.le_trans (by simp) h.size, fun k hk hn => (h.block k (by simp; omega) hn).trans (Below.heap_alloc w o k hk)⟩
/-- the row is another one, and the Writer holds it -/
theorem WrSt.put {W w w' : World} {g : Nat} {xs ys : List Nat} {v v' : Value} (h1 : Below W.heap.size W w) (h2 : W.heap.size ≤ g) (h3 : Cells w g 55 #[v]) (h4 : w.ownsRow W.heap.size 61 1 v xs.length (xs.map wd))
    (k1 : w'.ownsRow W.heap.size 61 1 v' (xs.length + ys.length) (xs.map wd ++ ys.map wd)) (k2 : w.grownBy w' v.ownBlock) : WrSt W g (xs ++ ys) (w'.setCell ⟨g, 0, none⟩ v') := by
  have hne := WrSt.ne h3 h4
  have hc := h3.grown k2 hne
  have hb : Below W.heap.size W w' := h1.grown k2 h1.size (own_base h4)
  refine ⟨hb.setCell (p := ⟨g, 0, none⟩) h2 _, h2, v', ?_, ?_⟩
  · have := hc.set 0 v'
    simpa using this
  · rw [List.length_append, List.map_append]
    rcases k1 with ⟨hl, k⟩
    refine ⟨hl, ?_⟩
    rcases k with k | ⟨g', cap, cur, hv, hg, hh, h1⟩
    · exact .inl k
    · exact .inr ⟨g', cap, cur, hv, hg, Cells.far (show Cells w' g' 61 cur from hh) (fun e => (hc.ne (show Cells w' g' 61 cur from hh) (by decide)) e.symm) _, h1⟩

def WroteR (W : World) (g : Nat) (xs : List Nat) (e : Ending) (w : World) : Prop := e = .returned (.tuple #[]) ∧ WrSt W g xs w
set_option maxRecDepth 100000 in
set_option maxHeartbeats 1000000 in
theorem num_w {W w : World} {g : Nat} {xs : List Nat} (h : WrSt W g xs w) (hl : xs.length ≤ 100000) (k : Nat) (hk : k ≤ 9223372036854775807) :
    Calls Try.prog 22 #[.pointer (some ⟨g, 0, none⟩), .int .i64 k] w (WroteR W g (xs ++ [k])) := by
  obtain ⟨h1, h2, v, h3, h4⟩ := h
  have c0 : w.cell? ⟨g, 0, none⟩ = some v := h3.cell 0
  have f0 := h3.free 0
  have hsh : v.ownBlock = none ∧ v = .slice none 0 0 ∨ ∃ q c, v = .slice (some ⟨q, 0, none⟩) xs.length c := by
    rcases h4.2 with ⟨rfl, _⟩ | ⟨g', cap, cur, rfl, _⟩
    · exact .inl ⟨rfl, rfl⟩
    · exact .inr ⟨g', cap, rfl⟩
  have hw : IntKind.u64.wrap (k : Int) = (k : Int) := by rw [IntKind.wrap_u64]; omega
  have H1 := Lib.hid h1; have H3 := Lib.hid h3; have H4 := Lib.hid h4
  have hsz := h1.size
  clear h1 h3 h4 hsh
  go_enter Try.func22, Try.ntmps22
  go_wp2_with (at_builtin; refine wpList_append_row _ rfl (.tmp 10) (.tmp 13) 25 rfl W.heap.size 61 (.int .u64 0) 8 Try.underlying25 infoU64' rfl v xs.length (xs.map wd) rfl (own_below H4.out ((Below.refl _ _).alloc (Nat.le_refl _) _)) _ (some ⟨w.heap.size, 0, none⟩) 1 1 [.int .u64 k] rfl (Row.one _ _ _) (by simp [Value.oneCell']) (by unfold maxLen; omega) (by omega) (by simp; omega) ?_; intro v5 w5 hown5 hgr5 hat5; obtain ⟨q5, k5, rfl, _, _, _, _⟩ := own_open hown5 (by omega); have hgr6 := grow_alloc' hgr5; have HO5 := Lib.hid hown5; have HG5 := Lib.hid hgr6; have hc5 := H3.out.grown hgr6 (WrSt.ne H3.out H4.out); have c5 : w5.cell? ⟨g, 0, none⟩ = some v := hc5.cell 0; have f5 := hc5.free 0; clear hown5 hgr5 hat5 hgr6 hc5)
  refine bodyPost_ret (results_none rfl _ _ _) rfl ?_
  exact ⟨rfl, WrSt.put (ys := [k]) H1.out h2 H3.out H4.out HO5.out HG5.out⟩

/-- the bytes of a text, as a row -/
theorem bytes_row (w : World) (s : ByteArray) (n : Nat) (hn : s.size = n) (e : TypeId) (c : Nat) (fz : Nat × Nat) : Row (w.alloc (.cells (bytesRow s c) e fz)).drew.drew (w.alloc (.cells (bytesRow s c) e fz)).drew.drew.heap.size (some ⟨w.heap.size, 0, none⟩) n ((bsOf s).map bt) := by
  have hL := bsOf_len s
  subst hn
  refine ⟨by rw [List.length_map]; exact hL, fun _ => ⟨w.heap.size, 0, rfl, by simp, fun j hj => ?_⟩⟩
  rw [List.length_map] at hj
  have hh : (w.alloc (.cells (bytesRow s c) e fz)).drew.drew.heap[w.heap.size]? = some (.cells (bytesRow s c) e fz) := heap_alloc_new w _
  rw [Nat.zero_add, cell_of_row _ _ _ _ _ _ hh]
  unfold bytesRow bsOf at *
  have hj2 : j < s.data.size := by simpa using hj
  rw [Array.getElem?_append_left (by simpa using hj2)]
  simp [bt]
  exact ⟨_, Array.getElem?_eq_getElem hj2, rfl⟩
theorem below_marked {w w' : World} {o : Obj} (h : Below (w.alloc o).drew.drew.heap.size (w.alloc o).drew.drew w') : Below w.heap.size w w' := by
  have b1 : Below w.heap.size w (w.alloc o).drew.drew := below_drewN ((Below.refl w.heap.size w).alloc (Nat.le_refl _) o) 2
  exact b1.trans (h.mono b1.size)
set_option maxRecDepth 100000 in
set_option maxHeartbeats 4000000 in
theorem text_w {W w : World} {g : Nat} {xs : List Nat} (h : WrSt W g xs w) (hl : xs.length ≤ 90000) (s : ByteArray) (hs : s.size ≤ 1000) :
    Calls Try.prog 23 #[.pointer (some ⟨g, 0, none⟩), .string s] w (WroteR W g (xs ++ [s.size] ++ pk (bsOf s))) := by
  have HW := Lib.hid h
  clear h
  obtain ⟨n, hn⟩ : ∃ n, s.size = n := ⟨_, rfl⟩
  have hcv : ∀ w, (convert 9 22 (.string s)).run Try.prog w = .ok (.slice (some ⟨w.heap.size, 0, none⟩) n (grownCap w s.size 0 5))
      (w.drew.alloc (.cells (bytesRow s (grownCap w s.size 0 5)) 5 ((bytesRow s (grownCap w s.size 0 5)).size, (bytesRow s (grownCap w s.size 0 5)).size + 1))) := fun w => by
    rw [run_bytes_of_string (P := Try.prog) w 9 22 5 s Try.underlying9 Try.underlying22 Try.underlying5, hn]
  have HN := Lib.hid hn
  have HCV := Lib.hid hcv
  clear hcv
  rw [hn] at hs ⊢
  have hn2 := hn
  clear hn
  go_enter Try.func23, Try.ntmps23
  go_wp2_with fail
  refine (num_w HW.out (by omega) n (by omega)).mono ?_
  rintro e w1 ⟨rfl, h1⟩
  obtain ⟨hb1, hg, v, hc, ho⟩ := h1
  have c0 : w1.cell? ⟨g, 0, none⟩ = some v := hc.cell 0
  have hcv := HCV.out
  have hL : (bsOf s).length = n := by rw [bsOf_len]; exact HN.out
  have HL := Lib.hid hL; have HB1 := Lib.hid hb1; have HC := Lib.hid hc; have HO := Lib.hid ho
  clear hL hb1 hc ho hn2
  go_upto_region 2 with fail
  have hgl := HC.out.lt
  have hsz := HB1.out.size
  have hnd : need n ≤ 200 := by unfold need; omega
  have hpk : (pk (bsOf s)).length = need n := by rw [pk_len, HL.out]
  have HPK := Lib.hid hpk
  clear hpk
  go_region_law (first
    | (go_simp; go_at_call 39; refine (wPack (bsOf s) n HL.out (bsOf_bytes s) _ _ _ (by omega) (bytes_row _ s n HN.out _ _ _)).mono ?_; rintro e w2 ⟨A2, c2, rfl, r2, b2⟩; have b1 := below_marked b2; have hc2 := HC.out.below' b1; have c02 : w2.cell? ⟨g, 0, none⟩ = some v := hc2.cell 0; have HO2 := Lib.hid (own_below HO.out b1); have HC2 := Lib.hid hc2; have HB2 := Lib.hid (HB1.out.trans (b1.mono HB1.out.size)); have HR2 := Lib.hid r2; have hsz2 := HB2.out.size; clear r2 b2 b1 hc2)
    | ((with_reducible refine step_shape (by rfl) ?_); refine wp_append_row _ (.tmp 14) (.tmp 17) 25 (by rfl) W.heap.size 61 (.int .u64 0) 8 Try.underlying25 infoU64' (by rfl) v _ _ (by rfl) HO2.out _ A2 (pk (bsOf s)).length c2 ((pk (bsOf s)).map wd) (by rfl) HR2.out (oneW _) (by rw [HPK.out, List.length_append, List.length_singleton]; unfold maxLen; omega) (by rw [HPK.out, List.length_append, List.length_singleton]; omega) (by omega) ?_; intro v5 w5 hown5 hgr5 hat5; obtain ⟨q5, k5, hq5, _, _, _, _⟩ := own_open hown5 (by rw [List.length_append, List.length_singleton]; omega); have HO5 := Lib.hid hown5; have HG5 := Lib.hid hgr5; have hc5 := HC2.out.grown hgr5 (WrSt.ne HC2.out HO2.out); have c5 : w5.cell? ⟨g, 0, none⟩ = some v := hc5.cell 0; have f5 := hc5.free 0; subst hq5; clear hown5 hgr5 hat5 hc5))
  all_goals
    go_wp2
    refine bodyPost_ret (results_none rfl _ _ _) rfl ?_
    have hput := WrSt.put (ys := pk (bsOf s)) HB2.out hg HC2.out HO2.out HO5.out HG5.out
    rw [List.length_append, List.length_singleton] at hput
    exact ⟨rfl, hput⟩
end Go.Proofs.Ytcimmfhbffofjaa
