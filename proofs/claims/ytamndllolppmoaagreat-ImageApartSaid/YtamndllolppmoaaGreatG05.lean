import Derived.Test.YtamndllolppmoaaGreatG04
import Derived.Laws.CopyOwn
import Derived.Maps.OwnOps
import Derived.Maps.OwnSet
import Derived.Maps.RangeWalk

namespace Go.Proofs.YtamndllolppmoaaGreat
open Wd Ino Go.RowKit Go.ChangeShapes Go.WideShapes Go.Sort
set_option linter.unusedVariables false
set_option maxRecDepth 100000

/-! of that size -/
def fitP (l : List Int) (K : Nat) : List Int := l.take K ++ List.replicate (K - l.length) 0
theorem fit_len (l : List Int) (K : Nat) : (fitP l K).length = K := by unfold fitP; rw [List.length_append, List.length_take, List.length_replicate]; omega
theorem needP_nat (n : Int) (h0 : 0 ≤ n) (h1 : n ≤ 16384) : ∃ K : Nat, needP n = (K : Int) ∧ K ≤ 64 := by
  unfold needP
  split
  · exact ⟨0, rfl, by omega⟩
  · exact ⟨((n - 1) / 256 + 1).toNat, by omega, by omega⟩
theorem sizeI : (Tryz.prog.info? 3).map (·.size) = some 1 := by kernel_rfl
def zeroI (W : World) (n : Nat) : World := W.alloc (.cells (Array.replicate n (Value.int .i64 0)) 3)
theorem zero_cells (W : World) (n : Nat) : (zeroI W n).heap[W.heap.size]? = some (.cells (List.replicate n (Value.int .i64 0)).toArray 3 (0, 0)) := by
  unfold zeroI; rw [List.toArray_replicate]; exact Cells.new _ _ _
theorem zero_below (W : World) (n : Nat) : Below W.heap.size W (zeroI W n) := (Below.refl _ _).alloc (Nat.le_refl _) _
theorem zero_src {W : World} {B n m : Nat} {A : Option Addr} {xs ys : List Value} (hr : Row W B A n xs) (hB : B ≤ W.heap.size) (hy : ∀ (j : Nat) (v : Value), ys[j]? = some v → xs[j]? = some v) :
    0 < ys.length → (some ⟨W.heap.size, 0, none⟩ : Option Addr) = some ⟨W.heap.size, 0, none⟩ ∧ ∃ ad, A = some ad ∧ ∀ j v, ys[j]? = some v → (zeroI W m).cell? (ad.add j) = some v := by
  intro h
  have h0 := hy 0 _ (List.getElem?_eq_getElem h)
  have hx := (List.getElem?_eq_some_iff.1 h0).1
  obtain ⟨b, off, rfl, hb, hc⟩ := hr.2 (by rw [← hr.1]; exact hx)
  refine ⟨rfl, _, rfl, fun j v hv => ?_⟩
  obtain ⟨hj, rfl⟩ := List.getElem?_eq_some_iff.1 (hy j v hv)
  have e : (⟨b, off, none⟩ : Addr).add j = ⟨b, off + j, none⟩ := by unfold Addr.add; split <;> simp_all
  rw [e]
  unfold zeroI
  rw [World.cell?_alloc_lt _ _ _ (by show b < W.heap.size; omega)]
  exact hc j hj
theorem make_ints (n : Nat) (W : World) (hn : n ≤ 10000) : (Instr.makeSlice 40 (.int .i64 (n : Int)) (.int .i64 (n : Int))).run Tryz.prog W = .ok (.slice (some ⟨W.heap.size, 0, none⟩) n n) (zeroI W n) := by
  have h := make_row (P := Tryz.prog) 40 3 (.int .i64 0) 8 Tryz.underlying40 infoI rfl n (by omega) (by omega) W
  rw [List.toArray_replicate] at h
  exact h
theorem fit_splice (l : List Int) (K : Nat) : splice (List.replicate K (Value.int .i64 0)) 0 ((l.take K).map iv) = (fitP l K).map iv := by
  unfold splice fitP
  rw [List.take_zero, List.nil_append, Nat.zero_add, List.drop_replicate, List.map_append, List.map_replicate, List.length_map, List.length_take]
  congr 2
  omega
theorem copy_ints (P : List Int) (n K : Nat) (hL : P.length = n) (A : Option Addr) (c : Nat) (W : World) (hr : Row W W.heap.size A n (P.map iv)) :
    ∃ w5, (Builtin.copy_ #[40, 40] 3 #[.slice (some ⟨W.heap.size, 0, none⟩) K K, .slice A n c]).run Tryz.prog (zeroI W K) = .ok (.int .i64 ((P.take K).length : Nat)) w5 ∧ Cells w5 W.heap.size 3 ((fitP P K).map iv).toArray ∧ Below W.heap.size W w5 := by
  have hcl : ((P.take K).map iv).length = Nat.min n K := by rw [List.length_map, List.length_take, hL]; exact Nat.min_comm _ _
  by_cases h0 : Nat.min n K = 0
  · refine ⟨zeroI W K, ?_, ?_, zero_below W K⟩
    · rw [run_copy_none (P := Tryz.prog) _ 40 40 3 3 _ A K K n c Tryz.underlying40 sizeI h0]
      have : (P.take K).length = 0 := by rw [List.length_map, h0] at hcl; exact hcl
      rw [this]; rfl
    · have hz := zero_cells W K
      have e := fit_splice P K
      have : (P.take K).map iv = [] := List.eq_nil_of_length_eq_zero (by rw [hcl, h0])
      rw [this] at e
      have e2 : splice (List.replicate K (Value.int .i64 0)) 0 [] = List.replicate K (Value.int .i64 0) := by simp [splice]
      rw [e2] at e
      rw [← e]
      exact hz
  · have hsrc := zero_src (m := K) (ys := (P.take K).map iv) hr (Nat.le_refl _) (fun j v hj => by rw [List.getElem?_map] at hj ⊢; rw [List.getElem?_take] at hj; split at hj; exact hj; cases hj)
    obtain ⟨_, ad, rfl, hs⟩ := hsrc (by rw [hcl]; omega)
    have hfit : 0 + ((P.take K).map iv).length ≤ (List.replicate K (Value.int .i64 0)).toArray.size := by rw [hcl]; simp; exact Nat.min_le_right _ _
    have h := run_copy_row (P := Tryz.prog) (zeroI W K) 40 40 3 3 W.heap.size 0 K K ad n c _ 3 ((P.take K).map iv) Tryz.underlying40 sizeI (zero_cells W K) hcl hs hfit (oneI _)
    have e : (((List.replicate K (Value.int .i64 0)).toArray.toList.take 0 ++ (P.take K).map iv ++ (List.replicate K (Value.int .i64 0)).toArray.toList.drop (0 + ((P.take K).map iv).length)).toArray) = ((fitP P K).map iv).toArray := by
      rw [← fit_splice P K]
      simp [splice]
    rw [e, List.length_map] at h
    exact ⟨_, h, setRow_heap (zeroI W K) W.heap.size _ _ 3 (0, 0) (zero_cells W K), below_setRow (zero_below W K) (Nat.le_refl _) _⟩
/-- what is left of a row from a place on -/
theorem drop_row {w : World} {B n m : Nat} {b off : Nat} {l : List Int} (h : Row w B (some ⟨b, off, none⟩) n (l.map iv)) (hm : m ≤ n) : Row w B (some ⟨b, off + m, none⟩) (n - m) ((l.drop m).map iv) := by
  refine ⟨by rw [List.length_map, List.length_drop]; have := h.1; rw [List.length_map] at this; omega, fun hp => ?_⟩
  have hl := h.1
  rw [List.length_map] at hl
  obtain ⟨b', off', e, hb, hc⟩ := h.2 (by omega)
  cases e
  refine ⟨b, off + m, rfl, hb, fun j hj => ?_⟩
  rw [List.length_map, List.length_drop] at hj
  have := hc (m + j) (by rw [List.length_map]; omega)
  rw [Nat.add_assoc]
  rw [this]
  simp
theorem sliced_row {w : World} {B n m c : Nat} {A : Option Addr} {l : List Int} (h : Row w B A n (l.map iv)) (hm : m ≤ n) (hc : n ≤ c) : Row w B (if c = m then A else A.map (·.add (m * 1))) (n - m) ((l.drop m).map iv) := by
  have hl := h.1
  rw [List.length_map] at hl
  by_cases hp : n - m = 0
  · exact ⟨by rw [List.length_map, List.length_drop]; omega, fun h0 => by omega⟩
  · obtain ⟨b, off, rfl, _⟩ := h.2 (by omega)
    rw [if_neg (by omega)]
    have e : (⟨b, off, none⟩ : Addr).add (m * 1) = ⟨b, off + m, none⟩ := by rw [Nat.mul_one]; unfold Addr.add; split <;> simp_all
    show Row w B (some ((⟨b, off, none⟩ : Addr).add (m * 1))) (n - m) ((l.drop m).map iv)
    rw [e]
    exact drop_row h hm
theorem run_sliced (A : Option Addr) (n m c : Nat) (hm : m ≤ n) (hc : n ≤ c) (w : World) : (Instr.slice 40 (.slice A n c) (some (.int .i64 (m : Int))) none none).run Tryz.prog w = .ok (.slice (if c = m then A else A.map (·.add (m * 1))) (n - m) (c - m)) w := by
  have he : Tryz.prog.elem 40 = 3 := by kernel_rfl
  have hs : (sizeOf 3).run Tryz.prog w = .ok 1 w := by
    have := sizeI
    obtain ⟨i, hi, _⟩ := info_parts infoI
    rw [hi] at this
    simp at this
    simp [sizeOf, typeInfo, hi, this]
  rw [run_slice_l (P := Tryz.prog) (t := 40) (a := A) (len := n) (cap := c) (ht := by rw [he]; exact Tryz.underlying40) (kl := .i64) (l := (m : Int)) (h0 := by omega) (h1 := by omega), he, hs, Int.toNat_natCast]
  rfl
/-- a node of that, and what was cut off -/
def ResizeD (n : Nd) (size : Int) (w : World) (e : Ending) (w' : World) : Prop := ∃ V A ac B bc G, e = .returned (.tuple #[V, G]) ∧ OwnN w' w.heap.size V n.ino n.kind n.links (if inB size 0 16384 = true then size else n.size) n.up (if inB size 0 16384 = true then fitP n.pages (needP size).toNat else n.pages) n.names A ac B bc ∧
  OwnI w' w.heap.size G (if inB size 0 16384 = true then refsP (n.pages.drop (needP size).toNat) else []) ∧ Below w.heap.size w w'
theorem results_node_tmp {fn : Func} {p u : Tmp} (h : fn.results = #[.cell p 55, .tmp u]) (tmps : Array Value) (w : World) (g : Nat) (cs : Array Value)
    (hp : tmps.getD p undef = .pointer (some ⟨g, 0, none⟩)) (hg : w.heap[g]? = some (.cells cs 55 (0, 0))) (hs : cs.size = 7) :
    (results fn tmps).run Tryz.prog w = .ok (.tuple #[.agg cs, tmps.getD u undef]) w := by
  have hi : (Tryz.prog.info? 55).map (·.size) = some cs.size := by rw [hs]; kernel_rfl
  have hp' : tmps[p]?.getD undef = .pointer (some ⟨g, 0, none⟩) := by simpa using hp
  simp [results, h, hp', asAddr, run_loadVar_row w g 55 55 cs (0, 0) _ hg Tryz.underlying55 rfl hi]
set_option maxHeartbeats 8000000 in
theorem iResize (n : Nd) (size : Int) (hz : i64R size) (w : World) (h : n.Ok w w.heap.size) (hp : n.pages.length ≤ 1000) (hq : n.names.length ≤ 1000) (hsz : ∀ e ∈ n.names, e.s.size ≤ 1000) :
    Calls Tryz.prog 137 #[n.val, .int .i64 size] w (ResizeD n size w) := by
  have KC := Lib.hid (fun w1 (b : Below w.heap.size w w1) => iCopy n w1 (h.in_.at_ b) hp hq hsz)
  obtain ⟨i, ki, l, s, u, A, ac, P, B, bc, N⟩ := n
  have hr := h.row
  have hcap := h.cap
  have hcle := h.cle
  unfold ResizeD
  dsimp only at hp hq hsz hr hcap hcle ⊢
  unfold Nd.val at KC ⊢
  dsimp only at KC ⊢
  have KW := Lib.hid (fun w => iWithin_is size 0 16384 w)
  obtain ⟨b1, hb1⟩ : ∃ b, inB size 0 16384 = b := ⟨_, rfl⟩
  rw [hb1] at KW ⊢
  have HRow := Lib.hid hr
  have HB0 := Lib.hid (((Below.refl w.heap.size w).alloc (Nat.le_refl _) (.cells (ncells i ki l s u (.slice A P.length ac) (.slice B N.length bc)) 55)).alloc (by simp) (.cells (ncells 0 0 0 0 0 (.slice none 0 0) (.slice none 0 0)) 55))
  have hc : Cells ((w.alloc (.cells (ncells i ki l s u (.slice A P.length ac) (.slice B N.length bc)) 55)).alloc (.cells (ncells 0 0 0 0 0 (.slice none 0 0) (.slice none 0 0)) 55)) w.heap.size 55 (ncells i ki l s u (.slice A P.length ac) (.slice B N.length bc)) := (Cells.new _ _ _).alloc _
  have hr2 : Cells ((w.alloc (.cells (ncells i ki l s u (.slice A P.length ac) (.slice B N.length bc)) 55)).alloc (.cells (ncells 0 0 0 0 0 (.slice none 0 0) (.slice none 0 0)) 55)) (w.heap.size + 1) 55 (ncells 0 0 0 0 0 (.slice none 0 0) (.slice none 0 0)) := by
    have := Cells.new (w.alloc (.cells (ncells i ki l s u (.slice A P.length ac) (.slice B N.length bc)) 55)) 55 (ncells 0 0 0 0 0 (.slice none 0 0) (.slice none 0 0)); simpa using this
  have HC := Lib.hid hc; have HR := Lib.hid hr2
  have hs2 : ((w.alloc (.cells (ncells i ki l s u (.slice A P.length ac) (.slice B N.length bc)) 55)).alloc (.cells (ncells 0 0 0 0 0 (.slice none 0 0) (.slice none 0 0)) 55)).heap.size = w.heap.size + 2 := by simp
  have HS2 := Lib.hid hs2
  unfold ncells at HB0 HC HR HS2
  clear hr hc hr2 hs2 hsz h
  cases b1
  · clear HRow hcap hcle hb1
    simp only [Bool.false_eq_true, if_false]
    go_enter Tryz.func137, Tryz.ntmps137
    go_wp2_with fail
    refine (KC.out _ HB0.out).mono ?_
    rintro e w2 ⟨V, A3, c3, B4, c4, rfl, ⟨rfl, oI, oE⟩, b2⟩
    have B2 := Lib.hid (HB0.out.trans (b2.mono HB0.out.size))
    have R2 := Lib.hid (HR.out.below' b2)
    rw [HS2.out] at oI oE
    have OI := Lib.hid oI; have OE := Lib.hid oE
    have hs : w.heap.size + 2 ≤ w2.heap.size := by have := b2.size; rw [HS2.out] at this; exact this
    unfold nv
    clear b2 oI oE KC
    go_wp2_with fail
    refine (KW.out _).mono ?_
    rintro e w3 ⟨rfl, rfl⟩
    have R3 := Lib.hid (R2.out.alloc (.cells (ncells i ki l s u (.slice A3 P.length c3) (.slice B4 N.length c4)) 55))
    have B3 := Lib.hid (B2.out.alloc B2.out.size (.cells (ncells i ki l s u (.slice A3 P.length c3) (.slice B4 N.length c4)) 55))
    have b3 := (Below.refl w2.heap.size w2).alloc (Nat.le_refl _) (.cells (ncells i ki l s u (.slice A3 P.length c3) (.slice B4 N.length c4)) 55)
    have OI3 := Lib.hid (OI.out.below b3)
    have OE3 := Lib.hid (OE.out.below b3)
    obtain ⟨d0, d1, d2, d3, d4, d5, d6⟩ := cells7 R3.out
    have z := fun j => Cells.free R3.out j
    unfold ncells at d0 d1 d2 d3 d4 d5 d6 z OI3 OE3 B3 R3
    clear b3 R2 B2 OI OE HS2 HR HC HB0
    go_wp2
    exact bodyPost_ret (results_node_tmp rfl _ _ (w.heap.size + 1) (ncells i ki l s u (.slice A3 P.length c3) (.slice B4 N.length c4)) rfl (set7_cells R3.out) rfl) rfl
      ⟨_, A3, c3, B4, c4, _, rfl, ⟨rfl, OwnI.mono (own_set7 OI3.out (by omega)) (by omega), OwnE.mono (own_set7 OE3.out (by omega)) (by omega)⟩, OwnI.nil _ _, set7_below B3.out (by omega)⟩
  · simp only [if_true]
    have hin : 0 ≤ size ∧ size ≤ 16384 := by unfold inB at hb1; simpa using hb1
    obtain ⟨K, hK, hK64⟩ := needP_nat size hin.1 hin.2
    rw [hK, Int.toNat_natCast]
    have KN := Lib.hid (fun w => iNeed_is size hz w)
    rw [hK] at KN
    clear hb1 hK hin hz
    go_enter Tryz.func137, Tryz.ntmps137
    go_wp2_with fail
    refine (KC.out _ HB0.out).mono ?_
    rintro e w2 ⟨V, A3, c3, B4, c4, rfl, ⟨rfl, oI, oE⟩, b2⟩
    rw [HS2.out] at oI oE
    have hs : w.heap.size + 2 ≤ w2.heap.size := by have := b2.size; rw [HS2.out] at this; exact this
    obtain ⟨hn, hhn⟩ : ∃ hn, w2.heap.size = hn := ⟨_, rfl⟩
    have b3 := (Below.refl w2.heap.size w2).alloc (Nat.le_refl _) (.cells (ncells i ki l s u (.slice A3 P.length c3) (.slice B4 N.length c4)) 55)
    have c3n := Cells.new w2 55 (ncells i ki l s u (.slice A3 P.length c3) (.slice B4 N.length c4))
    have hs3 : (w2.alloc (.cells (ncells i ki l s u (.slice A3 P.length c3) (.slice B4 N.length c4)) 55)).heap.size = w2.heap.size + 1 := by simp
    have hB2 := HB0.out.trans (b2.mono HB0.out.size)
    have hB3 := hB2.trans (b3.mono hB2.size)
    have c3g := (HC.out.below' b2).below' b3
    have c3r := (HR.out.below' b2).below' b3
    have oE3 := oE.below b3
    have hrow3 := (HRow.out.below hB3).more hB3.size
    unfold ncells at c3n hs3 hB3 oE3 hrow3 c3g c3r
    rw [hhn] at c3n hs3 hs
    unfold nv
    go_wp2_with fail
    refine (KW.out _).mono ?_
    rintro e w3 ⟨rfl, rfl⟩
    obtain ⟨W3, hW3⟩ : ∃ W3, w2.alloc (.cells #[.int .i64 i, .int .i64 ki, .int .i64 l, .int .i64 s, .int .i64 u, .slice A3 P.length c3, .slice B4 N.length c4] 55) = W3 := ⟨_, rfl⟩
    rw [hW3] at c3n hs3 hB3 oE3 hrow3 c3g c3r ⊢
    have C3n := Lib.hid c3n; have C3g := Lib.hid c3g; have C3r := Lib.hid c3r; have HS3 := Lib.hid hs3; have B3 := Lib.hid hB3; have OE3 := Lib.hid oE3; have Row3 := Lib.hid hrow3
    have hmk := fun W => make_ints K W (by omega)
    obtain ⟨w5, hcp, hc5, hb5⟩ := copy_ints P _ K rfl A ac W3 hrow3
    have B5 := Lib.hid hb5; have C5 := Lib.hid hc5
    have e5 := (cells7 (C3g.out.below' (zero_below W3 K))).2.2.2.2.2.1
    have f5 := (C3n.out.below' hb5).free 5
    have f3 := (C3n.out.below' hb5).free 3
    have g3 := (C3n.out.below' hb5).cell 3
    have g5 := (C3n.out.below' hb5).cell 5
    simp at g3 g5
    clear hs3 hB3 oE3 hrow3 c3r oI oE hW3 hhn b2 b3 hB2 HC HR HB0 HS2 KC KW c3n c3g hb5 hc5
    obtain ⟨m, hm⟩ : ∃ m, (P.take K).length = m := ⟨_, rfl⟩
    rw [hm] at hcp
    go_wp2_with (go_at_call 170; refine (KN.out _).mono ?_; rintro e w4 ⟨rfl, rfl⟩)
    have hmle : m ≤ P.length := by rw [← hm, List.length_take]; exact Nat.min_le_right _ _
    have hdrop : P.drop m = P.drop K := by
      rw [← hm, List.length_take]
      by_cases hk : K ≤ P.length
      · rw [Nat.min_eq_left hk]
      · rw [Nat.min_eq_right (by omega), List.drop_of_length_le (Nat.le_refl _), List.drop_of_length_le (by omega)]
    obtain ⟨W6, hW6⟩ : ∃ W6, (w5.setCell ⟨hn, 3, none⟩ (.int .i64 size)).setCell ⟨hn, 5, none⟩ (.slice (some ⟨W3.heap.size, 0, none⟩) K K) = W6 := ⟨_, rfl⟩
    have hs3 := HS3.out
    have hB5 := B5.out
    have c6n : Cells W6 hn 55 (ncells i ki l size u (.slice (some ⟨W3.heap.size, 0, none⟩) K K) (.slice B4 N.length c4)) := by
      rw [← hW6]
      have h0 : Cells _ hn 55 (ncells i ki l size u (.slice A3 P.length c3) (.slice B4 N.length c4)) := Cells.set (C3n.out.below' hB5) 3 (.int .i64 size)
      have h1 : Cells _ hn 55 (ncells i ki l size u (.slice (some ⟨W3.heap.size, 0, none⟩) K K) (.slice B4 N.length c4)) := Cells.set h0 5 (.slice (some ⟨W3.heap.size, 0, none⟩) K K)
      exact h1
    have c6g : Cells W6 w.heap.size 55 (ncells i ki l s u (.slice A P.length ac) (.slice B N.length bc)) := by
      rw [← hW6]
      exact ((C3g.out.below' hB5).far (p := ⟨hn, 3, none⟩) (by simp; omega) _).far (p := ⟨hn, 5, none⟩) (by simp; omega) _
    have c6r : Cells W6 (w.heap.size + 1) 55 (ncells 0 0 0 0 0 (.slice none 0 0) (.slice none 0 0)) := by
      rw [← hW6]
      exact ((C3r.out.below' hB5).far (p := ⟨hn, 3, none⟩) (by simp; omega) _).far (p := ⟨hn, 5, none⟩) (by simp; omega) _
    have c6p : Cells W6 W3.heap.size 3 ((fitP P K).map iv).toArray := by
      rw [← hW6]
      exact (C5.out.far (p := ⟨hn, 3, none⟩) (by simp; omega) _).far (p := ⟨hn, 5, none⟩) (by simp; omega) _
    have oE6 : OwnE W6 (w.heap.size + 2) (.slice B4 N.length c4) N := by
      rw [← hW6]
      exact own_apart (own_apart (OE3.out.below hB5) (C3n.out.below' hB5) (by decide) _ _) (Cells.set (C3n.out.below' hB5) 3 (.int .i64 size)) (by decide) _ _
    have b6 : Below w.heap.size w W6 := by
      rw [← hW6]
      exact ((B3.out.trans (hB5.mono B3.out.size)).setCell (p := ⟨hn, 3, none⟩) (by simp; omega) _).setCell (p := ⟨hn, 5, none⟩) (by simp; omega) _
    rw [hW6]
    have C6n := Lib.hid c6n; have C6g := Lib.hid c6g; have C6r := Lib.hid c6r; have C6p := Lib.hid c6p; have OE6 := Lib.hid oE6; have B6 := Lib.hid b6
    have hrow6 := (HRow.out.below b6).more b6.size
    have HP3 := Lib.hid (show w.heap.size + 2 ≤ W3.heap.size by omega)
    have hsr := sliced_row hrow6 hmle hcap
    have hsl := fun w => run_sliced A P.length m ac hmle hcap w
    have hql : (P.drop K).length = P.length - m := by rw [← hdrop, List.length_drop]
    rw [hdrop] at hsr
    obtain ⟨A', hA'⟩ : ∃ A', (if ac = m then A else A.map (·.add (m * 1))) = A' := ⟨_, rfl⟩
    obtain ⟨q, hq'⟩ : ∃ q, P.length - m = q := ⟨_, rfl⟩
    obtain ⟨qc, hqc⟩ : ∃ qc, ac - m = qc := ⟨_, rfl⟩
    rw [hA', hq'] at hsr hsl
    rw [hqc] at hsl
    rw [hq'] at hql
    have hq1 : q ≤ 1000 := by omega
    have HSR := Lib.hid hsr
    have KG := Lib.hid (fun w1 (b : Below W6.heap.size W6 w1) => iGather (P.drop K) q hql A' qc w1 hq1 ((HSR.out.below b).more b.size))
    obtain ⟨n0, n1, n2, n3, n4, n5, n6⟩ := cells7 c6n
    have g5' := (cells7 c6g).2.2.2.2.2.1
    have hm0 : (0 : Int) ≤ (m : Int) := Int.natCast_nonneg m
    have b0 : Below W6.heap.size W6 W6.drew := below_drewN (Below.refl _ _) 1
    clear hsr hW6 c6n c6g c6r c6p oE6 b6 hB5 hs3 hrow6 hA' hq' hqc hql hdrop g3 g5 f3 f5 e5 hcp hm hs HRow C3n C3g C3r B3 OE3 Row3 B5 C5 HS3 hmk hcap hcle hmle
    go_region_with (first
      | (go_at_call 115; (with_reducible refine (KG.out _ b0).mono ?_); rintro e' w7 ⟨vG, rfl, oG, bG⟩; obtain ⟨A7, c7, rfl, _⟩ := oG.row; have k7 : Below W6.heap.size W6 w7 := b0.trans (bG.mono b0.size); have x7 := cells7 (C6n.out.below' k7); obtain ⟨x0, x1, x2, x3, x4, x5, x6⟩ := x7; obtain ⟨d0, d1, d2, d3, d4, d5, d6⟩ := cells7 (C6r.out.below' k7); have z := fun j => Cells.free (C6r.out.below' k7) j))
    all_goals
      have hp3 := HP3.out
      have h7 := B6.out.trans (k7.mono B6.out.size)
      have hrow7 : OwnI w7 (w.heap.size + 2) (.slice (some ⟨W3.heap.size, 0, none⟩) K K) (fitP P K) :=
        ⟨by rw [List.length_map, Nat.mul_one], .inr ⟨W3.heap.size, K, ((fitP P K).map iv).toArray, by rw [fit_len], hp3, C6p.out.below' k7, by rw [fit_len]; exact Nat.le_refl _, by unfold maxLen; omega, by simp [fit_len], by rw [Nat.mul_one]; exact List.take_of_length_le (by simp)⟩⟩
      have oE7 := OE6.out.below k7
      have oG7 := OwnI.mono oG (show w.heap.size + 2 ≤ W6.drew.heap.size from (by have := B6.out.size; have := C6p.out.lt; show _ ≤ W6.heap.size; omega))
      have R7 := Lib.hid (C6r.out.below' k7)
      have E1 := Lib.hid (OwnI.mono (own_set7 hrow7 (g := w.heap.size + 1) (by omega) (i := i) (k := ki) (l := l) (s := size) (u := u) (p := .slice (some ⟨W3.heap.size, 0, none⟩) K K) (m := .slice B4 N.length c4)) (Nat.le_add_right w.heap.size 2))
      have E2 := Lib.hid (OwnE.mono (own_set7 oE7 (g := w.heap.size + 1) (by omega) (i := i) (k := ki) (l := l) (s := size) (u := u) (p := .slice (some ⟨W3.heap.size, 0, none⟩) K K) (m := .slice B4 N.length c4)) (Nat.le_add_right w.heap.size 2))
      have E3 := Lib.hid (OwnI.mono (own_set7 oG7 (g := w.heap.size + 1) (by omega) (i := i) (k := ki) (l := l) (s := size) (u := u) (p := .slice (some ⟨W3.heap.size, 0, none⟩) K K) (m := .slice B4 N.length c4)) (Nat.le_add_right w.heap.size 2))
      have E4 := Lib.hid (set7_below h7 (g := w.heap.size + 1) (Nat.le_add_right w.heap.size 1) (i := i) (k := ki) (l := l) (s := size) (u := u) (p := .slice (some ⟨W3.heap.size, 0, none⟩) K K) (m := .slice B4 N.length c4))
      clear oG7 oE7 hrow7 h7 hp3 hsl bG k7 oG z b0 n0 n1 n2 n3 n4 n5 n6 g5'
      go_wp2
      exact bodyPost_ret (results_node_tmp rfl _ _ (w.heap.size + 1) (ncells i ki l size u (.slice (some ⟨W3.heap.size, 0, none⟩) K K) (.slice B4 N.length c4)) rfl (set7_cells R7.out) rfl) rfl
        ⟨_, some ⟨W3.heap.size, 0, none⟩, K, B4, c4, .slice A7 (refsP (P.drop K)).length c7, rfl, ⟨by rw [fit_len]; rfl, by rw [fit_len]; exact E1.out, E2.out⟩, E3.out, E4.out⟩
end Go.Proofs.YtamndllolppmoaaGreat

namespace Go.Proofs.YtamndllolppmoaaGreat
open Wd Ino Go.RowKit Go.ChangeShapes Go.WideShapes Go.Sort
set_option linter.unusedVariables false
set_option maxRecDepth 100000

/-! a page put at a place -/
def putOk (i size : Int) : Bool := decide (size ≤ 16384) && inB i 0 (needP size - 1)
def putP (l : List Int) (i ref size : Int) : List Int := (fitP l (needP size).toNat).set i.toNat ref
def putV (l : List Int) (i size : Int) : Int := ((fitP l (needP size).toNat)[i.toNat]?).getD 0
def PutD (n : Nd) (i ref size : Int) (w : World) (e : Ending) (w' : World) : Prop := ∃ V A ac B bc, e = .returned (.tuple #[V, .int .i64 (if putOk i size = true then putV n.pages i size else 0)]) ∧
  OwnN w' w.heap.size V n.ino n.kind n.links (if putOk i size = true then size else n.size) n.up (if putOk i size = true then putP n.pages i ref size else n.pages) n.names A ac B bc ∧ Below w.heap.size w w'
theorem own_cells {w : World} {base g n c : Nat} {e : TypeId} {sz : Nat} {xs : List Value} (h : w.ownsRow base e sz (.slice (some ⟨g, 0, none⟩) n c) n xs) : ∃ cur, Cells w g e cur := by
  rcases h.2 with ⟨h0, _⟩ | ⟨g', cap, cur, hv, _, hh, _⟩
  · cases h0
  · injection hv with hv
    injection hv with hv
    injection hv with hv
    subst hv
    exact ⟨cur, hh⟩
theorem needP_bounds (n : Int) (h : i64R n) : 0 ≤ needP n ∧ needP n ≤ 36028797018963968 := by
  unfold i64R at h
  unfold needP
  split <;> omega
set_option maxHeartbeats 8000000 in
theorem iPut (n : Nd) (j ref size : Int) (hz : i64R size) (w : World) (h : n.Ok w w.heap.size) (hp : n.pages.length ≤ 1000) (hq : n.names.length ≤ 1000) (hsz : ∀ e ∈ n.names, e.s.size ≤ 1000) :
    Calls Tryz.prog 138 #[n.val, .int .i64 j, .int .i64 ref, .int .i64 size] w (PutD n j ref size w) := by
  have KC := Lib.hid (fun w1 (b : Below w.heap.size w w1) => iCopy n w1 (h.in_.at_ b) hp hq hsz)
  have KR := Lib.hid (fun w1 (b : Below w.heap.size w w1) => iResize n size hz w1 (h.at_ b) hp hq hsz)
  have KN := Lib.hid (fun w => iNeed_is size hz w)
  have hnb := needP_bounds size hz
  obtain ⟨i, ki, l, s, u, A, ac, P, B, bc, N⟩ := n
  unfold ResizeD at KR
  unfold PutD putOk
  dsimp only at hp hq hsz KR ⊢
  unfold Nd.val at KC KR ⊢
  dsimp only at KC KR ⊢
  obtain ⟨m, hm⟩ : ∃ m, needP size = m := ⟨_, rfl⟩
  rw [hm] at KN hnb ⊢
  have KW := Lib.hid (fun w => iWithin_is j 0 (m - 1) w)
  have HB0 := Lib.hid (((Below.refl w.heap.size w).alloc (Nat.le_refl _) (.cells (ncells i ki l s u (.slice A P.length ac) (.slice B N.length bc)) 55)).alloc (by simp) (.cells (ncells 0 0 0 0 0 (.slice none 0 0) (.slice none 0 0)) 55))
  have hr2 : Cells ((w.alloc (.cells (ncells i ki l s u (.slice A P.length ac) (.slice B N.length bc)) 55)).alloc (.cells (ncells 0 0 0 0 0 (.slice none 0 0) (.slice none 0 0)) 55)) (w.heap.size + 1) 55 (ncells 0 0 0 0 0 (.slice none 0 0) (.slice none 0 0)) := by
    have := Cells.new (w.alloc (.cells (ncells i ki l s u (.slice A P.length ac) (.slice B N.length bc)) 55)) 55 (ncells 0 0 0 0 0 (.slice none 0 0) (.slice none 0 0)); simpa using this
  have HR := Lib.hid hr2
  have hs2 : ((w.alloc (.cells (ncells i ki l s u (.slice A P.length ac) (.slice B N.length bc)) 55)).alloc (.cells (ncells 0 0 0 0 0 (.slice none 0 0) (.slice none 0 0)) 55)).heap.size = w.heap.size + 2 := by simp
  have HS2 := Lib.hid hs2
  unfold ncells at HB0 HR HS2
  have w1 : wrap64 (m - 1) = m - 1 := by unfold wrap64; omega
  have HM := Lib.hid hm
  clear hr2 hs2 hsz h hz hm
  by_cases h1 : 16384 < size
  · have q1 : decide (16384 < size) = true := decide_eq_true h1
    have q2 : decide (size ≤ 16384) = false := decide_eq_false (by omega)
    rw [q2, Bool.false_and]
    simp only [Bool.false_eq_true, if_false]
    clear h1 q2 w1 hnb KR KW KN
    go_enter Tryz.func138, Tryz.ntmps138
    go_wp2_with fail
    refine (KC.out _ HB0.out).mono ?_
    rintro e w2 ⟨V, A3, c3, B4, c4, rfl, ⟨rfl, oI, oE⟩, b2⟩
    have B2 := Lib.hid (HB0.out.trans (b2.mono HB0.out.size))
    have R2 := Lib.hid (HR.out.below' b2)
    rw [HS2.out] at oI oE
    have OI := Lib.hid oI; have OE := Lib.hid oE
    obtain ⟨d0, d1, d2, d3, d4, d5, d6⟩ := cells7 R2.out
    have z := fun j => Cells.free R2.out j
    unfold nv
    clear b2 oI oE KC
    go_wp2
    exact bodyPost_ret (results_node_tmp rfl _ _ (w.heap.size + 1) (ncells i ki l s u (.slice A3 P.length c3) (.slice B4 N.length c4)) rfl (set7_cells R2.out) rfl) rfl
      ⟨_, A3, c3, B4, c4, rfl, ⟨rfl, OwnI.mono (own_set7 OI.out (by omega)) (by omega), OwnE.mono (own_set7 OE.out (by omega)) (by omega)⟩, set7_below B2.out (by omega)⟩
  · have q1 : decide (16384 < size) = false := decide_eq_false h1
    have q2 : decide (size ≤ 16384) = true := decide_eq_true (by omega)
    rw [q2, Bool.true_and]
    cases hw : inB j 0 (m - 1)
    · rw [hw] at KW
      simp only [Bool.false_eq_true, if_false]
      clear h1 q2 KR
      go_enter Tryz.func138, Tryz.ntmps138
      go_wp2_with fail
      refine (KN.out _).mono ?_
      rintro e w1 ⟨rfl, rfl⟩
      go_wp2_with fail
      refine (KW.out _).mono ?_
      rintro e w1 ⟨rfl, rfl⟩
      go_wp2_with fail
      refine (KC.out _ HB0.out).mono ?_
      rintro e w2 ⟨V, A3, c3, B4, c4, rfl, ⟨rfl, oI, oE⟩, b2⟩
      have B2 := Lib.hid (HB0.out.trans (b2.mono HB0.out.size))
      have R2 := Lib.hid (HR.out.below' b2)
      rw [HS2.out] at oI oE
      have OI := Lib.hid oI; have OE := Lib.hid oE
      obtain ⟨d0, d1, d2, d3, d4, d5, d6⟩ := cells7 R2.out
      have z := fun j => Cells.free R2.out j
      unfold nv
      clear b2 oI oE KC
      go_wp2
      exact bodyPost_ret (results_node_tmp rfl _ _ (w.heap.size + 1) (ncells i ki l s u (.slice A3 P.length c3) (.slice B4 N.length c4)) rfl (set7_cells R2.out) rfl) rfl
        ⟨_, A3, c3, B4, c4, rfl, ⟨rfl, OwnI.mono (own_set7 OI.out (by omega)) (by omega), OwnE.mono (own_set7 OE.out (by omega)) (by omega)⟩, set7_below B2.out (by omega)⟩
    · rw [hw] at KW
      simp only [if_true]
      have hj : 0 ≤ j ∧ j ≤ m - 1 := by unfold inB at hw; simpa using hw
      have hsz : inB size 0 16384 = true := by
        have := HM.out
        unfold needP at this
        unfold inB
        rw [decide_eq_true (show size ≤ 16384 by omega), decide_eq_true (show 0 ≤ size by split at this <;> omega)]
        rfl
      obtain ⟨K, hK, hK64⟩ := needP_nat size (by unfold inB at hsz; simp at hsz; omega) (by omega)
      obtain ⟨jn, rfl⟩ : ∃ jn : Nat, j = (jn : Int) := ⟨j.toNat, by omega⟩
      have hjK : jn < K := by have := HM.out; omega
      have hPV : putV P (jn : Int) size = ((fitP P K)[jn]?).getD 0 := by unfold putV; rw [hK, Int.toNat_natCast, Int.toNat_natCast]
      have hPP : putP P (jn : Int) ref size = (fitP P K).set jn ref := by unfold putP; rw [hK, Int.toNat_natCast, Int.toNat_natCast]
      rw [hPV, hPP]
      rw [hsz] at KR
      simp only [if_true] at KR
      rw [hK, Int.toNat_natCast] at KR
      obtain ⟨F, hF⟩ : ∃ F, fitP P K = F := ⟨_, rfl⟩
      have hFl : F.length = K := by rw [← hF]; exact fit_len _ _
      rw [hF] at KR ⊢
      clear h1 q2 hw hj hsz hK hPV hPP KC hF
      have hjI : (jn : Int) < (K : Int) := Int.ofNat_lt.2 hjK
      have hj0 : (0 : Int) ≤ (jn : Int) := Int.natCast_nonneg jn
      obtain ⟨x, hx⟩ : ∃ x, F[jn]? = some x := ⟨_, List.getElem?_eq_getElem (by omega)⟩
      rw [hx, Option.getD_some]
      go_enter Tryz.func138, Tryz.ntmps138
      go_wp2_with fail
      refine (KN.out _).mono ?_
      rintro e w1 ⟨rfl, rfl⟩
      go_wp2_with fail
      refine (KW.out _).mono ?_
      rintro e w1 ⟨rfl, rfl⟩
      go_wp2_with fail
      refine (KR.out _ HB0.out).mono ?_
      rintro e w2 ⟨V, A3, c3, B4, c4, G, rfl, ⟨rfl, oI, oE⟩, oG, b2⟩
      rw [HS2.out] at oI oE
      unfold nv
      rw [hFl] at oI ⊢
      have o2 : w2.ownsRow (w.heap.size + 2) 3 1 (.slice A3 K c3) K (F.map iv) := by have h := oI; unfold OwnI at h; rwa [hFl] at h
      obtain ⟨g, cap, hA, hg, _, _, hgl⟩ := own_open o2 (by omega)
      injection hA with hA _ hcap
      subst hA
      subst hcap
      have b3 := (Below.refl w2.heap.size w2).alloc (Nat.le_refl _) (.cells (ncells i ki l size u (.slice (some ⟨g, 0, none⟩) K c3) (.slice B4 N.length c4)) 55)
      have o3 := own_below o2 b3
      have oE3 := oE.below b3
      have c3n := Cells.new w2 55 (ncells i ki l size u (.slice (some ⟨g, 0, none⟩) K c3) (.slice B4 N.length c4))
      have r3 := (HR.out.below' b2).below' b3
      have hb3 := HB0.out.trans (b2.mono HB0.out.size)
      have hB3 := hb3.trans (b3.mono hb3.size)
      have hs2 : w.heap.size + 2 ≤ w2.heap.size := by have := b2.size; rw [HS2.out] at this; exact this
      obtain ⟨hn, hhn⟩ : ∃ hn, w2.heap.size = hn := ⟨_, rfl⟩
      rw [hhn] at c3n hs2 hgl
      have HHN := Lib.hid hhn
      unfold ncells at b3 o3 oE3 c3n r3 hB3
      clear hhn b2 oI oE o2 b3 hb3 HR HB0 HS2 KR
      go_upto_region 4 with fail
      rw [HHN.out]
      obtain ⟨W3, hW3⟩ : ∃ W3, w2.alloc (.cells #[.int .i64 i, .int .i64 ki, .int .i64 l, .int .i64 size, .int .i64 u, .slice (some ⟨g, 0, none⟩) K c3, .slice B4 N.length c4] 55) = W3 := ⟨_, rfl⟩
      rw [hW3] at o3 oE3 c3n r3 hB3 ⊢
      obtain ⟨pc, pf⟩ := own_cell o3 (k := jn) (u := .int .i64 x) (by rw [List.getElem?_map, hx]; rfl)
      have c5 := c3n.cell 5
      simp at c5
      have O3 := Lib.hid o3; have OE3 := Lib.hid oE3; have C3n := Lib.hid c3n; have R3 := Lib.hid r3; have B3 := Lib.hid hB3
      clear hW3 o3 oE3 c3n r3 hB3 HHN
      go_upto_region 6 with fail
      obtain ⟨cur, hcur⟩ := own_cells O3.out
      have hgn : g < hn := hgl
      have OI4 := Lib.hid (own_set O3.out jn (.int .i64 ref))
      have OE4 := Lib.hid (own_apart OE3.out hcur (by decide) jn (.int .i64 ref))
      have C4n := Lib.hid (C3n.out.far (p := ⟨g, jn, none⟩) (by simp; omega) (.int .i64 ref))
      have R4 := Lib.hid (R3.out.far (p := ⟨g, jn, none⟩) (by simp; omega) (.int .i64 ref))
      have B4' := Lib.hid (B3.out.setCell (p := ⟨g, jn, none⟩) (by simp; omega) (.int .i64 ref))
      obtain ⟨W4, hW4⟩ : ∃ W4, W3.setCell ⟨g, jn, none⟩ (.int .i64 ref) = W4 := ⟨_, rfl⟩
      rw [hW4] at OI4 OE4 C4n R4 B4' ⊢
      obtain ⟨d0, d1, d2, d3, d4, d5, d6⟩ := cells7 R4.out
      obtain ⟨n0, n1, n2, n3, n4, n5, n6⟩ := cells7 C4n.out
      have z := fun j => Cells.free R4.out j
      clear hW4 hcur pc pf c5 O3 OE3 C3n R3 B3 hgn hgl
      go_wp2
      have hl2 : (F.set jn ref).length = K := by rw [List.length_set]; exact hFl
      have oI4 : OwnI W4 (w.heap.size + 2) (.slice (some ⟨g, 0, none⟩) (F.set jn ref).length c3) (F.set jn ref) := by
        unfold OwnI
        rw [hl2, List.map_set]
        exact OI4.out
      exact bodyPost_ret (results_node_tmp rfl _ _ (w.heap.size + 1) (ncells i ki l size u (.slice (some ⟨g, 0, none⟩) K c3) (.slice B4 N.length c4)) rfl (set7_cells R4.out) rfl) rfl
        ⟨_, some ⟨g, 0, none⟩, c3, B4, c4, rfl, ⟨by rw [hl2]; rfl, OwnI.mono (own_set7 oI4 (by omega)) (by omega), OwnE.mono (own_set7 OE4.out (by omega)) (by omega)⟩, set7_below B4'.out (by omega)⟩
end Go.Proofs.YtamndllolppmoaaGreat

/-! A map from int to any values, as a function: what its block holds, and what each operation makes of it. -/
namespace Sm
open Go Go.RowKit Go.Maps Go.ChangeMaps Go.MapKept

abbrev KI (x : Int) : Lit := .int .i64 x
abbrev VFn := Int → Option Value
def HR : Value → Option (DataW Value × List MemPlace) := fun v => some (.held v, [])
theorem key_lit (x : Int) : WideAt.IsKeyLit (KI x) := trivial
def Views (D : DataW Value) (F : VFn) : Prop := ∀ x, Maps.has D (KI x) = (F x).isSome ∧ ∀ c, F x = some c → ∀ z, D.atKey (KI x) z = .held c
theorem views_empty : Views (.map []) (fun _ => none) := fun x => ⟨rfl, fun c h => by cases h⟩
theorem Views.put {D : DataW Value} {F : VFn} (h : Views D F) (hm : IsMap D) (x : Int) (c : Value) : Views (D.put (KI x) (.held c)) (fun y => if y = x then some c else F y) := by
  intro y
  by_cases e : y = x
  · subst e
    simp only [if_true]
    exact ⟨by rw [has_put_same hm (key_lit y)]; rfl, fun c' hc z => by rw [atKey_put_same hm (key_lit y)]; cases hc; rfl⟩
  · simp only [if_neg e]
    have hne : KI y ≠ KI x := fun h => e (by injection h)
    exact ⟨by rw [has_put_other hne]; exact (h y).1, fun c' hc z => by rw [atKey_put_other hne]; exact (h y).2 c' hc z⟩
theorem Views.del {D : DataW Value} {F : VFn} (h : Views D F) (x : Int) : Views (D.del (KI x)) (fun y => if y = x then none else F y) := by
  intro y
  by_cases e : y = x
  · subst e
    simp only [if_true]
    exact ⟨by rw [has_del_same]; rfl, fun c' hc z => by cases hc⟩
  · simp only [if_neg e]
    have hne : KI y ≠ KI x := fun h => e (by injection h)
    exact ⟨by rw [has_del_other hne]; exact (h y).1, fun c' hc z => by rw [atKey_del_other hne]; exact (h y).2 c' hc z⟩
/-- block b is a map from int, of at most n entries, that holds what F says -/
def Mv (P : Program) (k : TypeId) (w : World) (b n : Nat) (F : VFn) : Prop := ∃ D : DataW Value, w.ownsMap P k HR b n D ∧ Views D F
section
variable {P : Program} {k e t : TypeId} {w w' : World} {b n : Nat} {F : VFn}
theorem Mv.lt (h : Mv P k w b n F) : b < w.heap.size := let ⟨_, h, _⟩ := h; h.lt
theorem Mv.same (h : Mv P k w b n F) (hb : w'.heap[b]? = w.heap[b]?) : Mv P k w' b n F := by
  obtain ⟨D, ⟨es, clock, h1, F1, h2, h3⟩, v⟩ := h
  exact ⟨D, ⟨es, clock, hb.trans h1, F1, h2, h3⟩, v⟩
theorem Mv.mono (h : Mv P k w b n F) {m : Nat} (hn : n ≤ m) : Mv P k w b m F := let ⟨D, h, v⟩ := h; ⟨D, h.mono hn, v⟩
theorem Mv.congr {G : VFn} (h : Mv P k w b n F) (hg : ∀ x, F x = G x) : Mv P k w b n G := by rw [← (funext hg : F = G)]; exact h
theorem Mv.made (w : World) (P : Program) (k : TypeId) : Mv P k (w.alloc (.map #[] 0)) w.heap.size 0 (fun _ => none) := ⟨_, World.ownsMap_made w P k _, views_empty⟩
theorem Mv.cells {c : Array Value} {T : TypeId} {g : Nat} (h : Mv P k w b n F) (hc : Wd.Cells w g T c) : b ≠ g := by
  rintro rfl
  obtain ⟨D, ⟨es, clock, h1, _⟩, _⟩ := h
  unfold Wd.Cells at hc
  rw [hc] at h1
  cases h1
theorem Mv.block (h : Mv P k w b n F) : ∃ es clock, w.heap[b]? = some (.map es clock) := let ⟨_, ⟨es, clock, h1, _⟩, _⟩ := h; ⟨es, clock, h1⟩
theorem Mv.clone {b' : Nat} (h : Mv P k w b n F) {es : Array MapEntry} {clock : Nat} (hb : w.heap[b]? = some (.map es clock)) (hb' : w'.heap[b']? = some (.map es clock)) : Mv P k w' b' n F := by
  obtain ⟨D, ⟨es', clock', h1, F1, h2, h3⟩, v⟩ := h
  rw [hb] at h1
  injection h1 with h1
  injection h1 with e1 e2
  subst e1 e2
  exact ⟨D, ⟨es, clock, hb', F1, h2, h3⟩, v⟩
theorem Views.at {D : DataW Value} {F : VFn} (v : Views D F) (x : Int) (z : Value) : D.atKey (KI x) (.held z) = .held ((F x).getD z) := by
  cases hx : F x with
  | none => exact atKey_of_not_has (by rw [(v x).1, hx]; rfl) _
  | some c => exact (v x).2 c hx _
theorem Mv.look (h : Mv P k w b n F) (K : Keyed P k) (ht : P.underlying t = some (.map k e)) (hk : P.underlying k = some (.int .i64)) {z : Value} (hz : (zeroValue e).run P w = .ok z w) (x : Int) (hx : (Lit.int .i64 x).wf = true) :
    (Instr.lookup t (.map (some b)) (.int .i64 x) false).run P w = .ok ((F x).getD z) w := by
  obtain ⟨D, h, v⟩ := h
  obtain ⟨c, ps, h1, h2⟩ := h.lookup K ht hz (show HR z = some (.held z, []) from rfl) (keyOf_int_mk hk hx)
  rw [v.at x] at h2
  unfold HR at h2
  injection h2 with h2
  injection h2 with h2 _
  injection h2 with h2
  rw [h1, h2]
theorem Mv.look_ok (h : Mv P k w b n F) (K : Keyed P k) (ht : P.underlying t = some (.map k e)) (hk : P.underlying k = some (.int .i64)) {z : Value} (hz : (zeroValue e).run P w = .ok z w) (x : Int) (hx : (Lit.int .i64 x).wf = true) :
    (Instr.lookup t (.map (some b)) (.int .i64 x) true).run P w = .ok (.tuple #[(F x).getD z, .bool (F x).isSome]) w := by
  obtain ⟨D, h, v⟩ := h
  obtain ⟨c, ps, h1, h2⟩ := h.look_ok K ht hz (show HR z = some (.held z, []) from rfl) (keyOf_int_mk hk hx)
  rw [v.at x] at h2
  unfold HR at h2
  injection h2 with h2
  injection h2 with h2 _
  injection h2 with h2
  rw [h1, h2, (v x).1]
theorem Mv.store (h : Mv P k w b n F) (K : Keyed P k) (ht : P.underlying t = some (.map k e)) (hk : P.underlying k = some (.int .i64)) (hn : n < maxLen) (x : Int) (c : Value) (hx : (Lit.int .i64 x).wf = true) :
    ∃ w', (Instr.mapUpdate t (.map (some b)) (.int .i64 x) c).run P w = .ok () w' ∧ Mv P k w' b (n + 1) (fun y => if y = x then some c else F y) ∧ w.mapTurned w' b := by
  obtain ⟨D, h, v⟩ := h
  obtain ⟨w', h1, h2, h3⟩ := h.store K ht hn (keyOf_int_mk hk hx) (show HR c = some (.held c, []) from rfl)
  exact ⟨w', h1, ⟨_, h2, v.put h.isMap x c⟩, h3⟩
theorem Mv.drop (h : Mv P k w b n F) (K : Keyed P k) (ht : P.underlying t = some (.map k e)) (hk : P.underlying k = some (.int .i64)) (x : Int) (hx : (Lit.int .i64 x).wf = true) (ty : TypeId) :
    ∃ w', (Builtin.delete_ #[t, k] ty #[.map (some b), .int .i64 x]).run P w = .ok (.tuple #[]) w' ∧ Mv P k w' b n (fun y => if y = x then none else F y) ∧ w.mapTurned w' b := by
  obtain ⟨D, h, v⟩ := h
  obtain ⟨w', h1, h2, h3⟩ := h.drop K ht (keyOf_int_mk hk hx) ty
  exact ⟨w', h1, ⟨_, h2, v.del x⟩, h3⟩
theorem turned_block (h : w.mapTurned w' b) {q : Nat} (hq : q ≠ b) : w'.heap[q]? = w.heap[q]? := by
  obtain ⟨es, clock, es', clock', hb, rfl⟩ := h
  exact heap_setBlock_other hb _ hq
theorem turned_size (h : w.mapTurned w' b) : w'.heap.size = w.heap.size := by
  obtain ⟨es, clock, es', clock', hb, rfl⟩ := h
  simp [setBlock]
theorem turned_below (h : w.mapTurned w' b) {B : Nat} {w0 : World} (h0 : Below B w0 w) (hb : B ≤ b) : Below B w0 w' := by
  have hs := turned_size h
  have hk := fun q hq => turned_block h (q := q) hq
  obtain ⟨es, clock, es', clock', hb', rfl⟩ := h
  exact ⟨h0.os, h0.tape, h0.output, by rw [hs]; exact h0.size, fun q hq => (hk q (by omega)).trans (h0.block q hq)⟩
end
end Sm
