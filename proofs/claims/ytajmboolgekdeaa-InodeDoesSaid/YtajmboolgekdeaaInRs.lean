import Derived.Test.YtajmboolgekdeaaInCo
import Derived.Laws.CopyOwn
namespace Go.Proofs.Ytajmboolgekdeaa
open Wd Ino Go.RowKit Go.ChangeShapes Go.WideShapes Go.Sort
set_option linter.unusedVariables false
set_option maxRecDepth 100000

/-! of that size -/
def fitP (l : List Int) (K : Nat) : List Int := l.take K ++ List.replicate (K - l.length) 0
theorem fit_len (l : List Int) (K : Nat) : (fitP l K).length = K := by unfold fitP; rw [List.length_append, List.length_take, List.length_replicate]; omega
theorem needP_nat (n : Int) (h0 : 0 ≤ n) (h1 : n ≤ 16384) : ∃ K : Nat, needP n = (K : Int) ∧ K ≤ 64 := by
  unfold needP
  split
  · exact ⟨0, rfl, by omega⟩
  · exact ⟨((n - 1) / 256 + 1).toNat, by omega, by omega⟩
theorem sizeI : (Try.prog.info? 3).map (·.size) = some 1 := by kernel_rfl
def zeroI (W : World) (n : Nat) : World := W.alloc (.cells (Array.replicate n (Value.int .i64 0)) 3)
theorem zero_cells (W : World) (n : Nat) : (zeroI W n).heap[W.heap.size]? = some (.cells (List.replicate n (Value.int .i64 0)).toArray 3 (0, 0)) := by
  unfold zeroI; rw [List.toArray_replicate]; exact Cells.new _ _ _
theorem zero_below (W : World) (n : Nat) : Below W.heap.size W (zeroI W n) := (Below.refl _ _).alloc (Nat.le_refl _) _
theorem zero_src {W : World} {B n m : Nat} {A : Option Addr} {xs ys : List Value} (hr : Row W B A n xs) (hB : B ≤ W.heap.size) (hy : ∀ (j : Nat) (v : Value), ys[j]? = some v → xs[j]? = some v) :
    0 < ys.length → (some ⟨W.heap.size, 0, none⟩ : Option Addr) = some ⟨W.heap.size, 0, none⟩ ∧ ∃ ad, A = some ad ∧ ∀ j v, ys[j]? = some v → (zeroI W m).cell? (ad.add j) = some v := by
  intro h
  have h0 := hy 0 _ (List.getElem?_eq_getElem h)
  have hx := (List.getElem?_eq_some_iff.1 h0).1
  obtain ⟨b, off, rfl, hb, hc⟩ := hr.2 (by rw [← hr.1]; exact hx)
  refine ⟨rfl, _, rfl, fun j v hv => ?_⟩
  obtain ⟨hj, rfl⟩ := List.getElem?_eq_some_iff.1 (hy j v hv)
  have e : (⟨b, off, none⟩ : Addr).add j = ⟨b, off + j, none⟩ := by unfold Addr.add; split <;> simp_all
  rw [e]
  unfold zeroI
  rw [World.cell?_alloc_lt _ _ _ (by show b < W.heap.size; omega)]
  exact hc j hj
theorem make_ints (n : Nat) (W : World) (hn : n ≤ 10000) : (Instr.makeSlice 22 (.int .i64 (n : Int)) (.int .i64 (n : Int))).run Try.prog W = .ok (.slice (some ⟨W.heap.size, 0, none⟩) n n) (zeroI W n) := by
  have h := make_row (P := Try.prog) 22 3 (.int .i64 0) 8 Try.underlying22 infoI rfl n (by omega) (by omega) W
  rw [List.toArray_replicate] at h
  exact h
theorem fit_splice (l : List Int) (K : Nat) : splice (List.replicate K (Value.int .i64 0)) 0 ((l.take K).map iv) = (fitP l K).map iv := by
  unfold splice fitP
  rw [List.take_zero, List.nil_append, Nat.zero_add, List.drop_replicate, List.map_append, List.map_replicate, List.length_map, List.length_take]
  congr 2
  omega
theorem copy_ints (P : List Int) (n K : Nat) (hL : P.length = n) (A : Option Addr) (c : Nat) (W : World) (hr : Row W W.heap.size A n (P.map iv)) :
    ∃ w5, (Builtin.copy_ #[22, 22] 3 #[.slice (some ⟨W.heap.size, 0, none⟩) K K, .slice A n c]).run Try.prog (zeroI W K) = .ok (.int .i64 ((P.take K).length : Nat)) w5 ∧ Cells w5 W.heap.size 3 ((fitP P K).map iv).toArray ∧ Below W.heap.size W w5 := by
  have hcl : ((P.take K).map iv).length = Nat.min n K := by rw [List.length_map, List.length_take, hL]; exact Nat.min_comm _ _
  by_cases h0 : Nat.min n K = 0
  · refine ⟨zeroI W K, ?_, ?_, zero_below W K⟩
    · rw [run_copy_none (P := Try.prog) _ 22 22 3 3 _ A K K n c Try.underlying22 sizeI h0]
      have : (P.take K).length = 0 := by rw [List.length_map, h0] at hcl; exact hcl
      rw [this]; rfl
    · have hz := zero_cells W K
      have e := fit_splice P K
      have : (P.take K).map iv = [] := List.eq_nil_of_length_eq_zero (by rw [hcl, h0])
      rw [this] at e
      have e2 : splice (List.replicate K (Value.int .i64 0)) 0 [] = List.replicate K (Value.int .i64 0) := by simp [splice]
      rw [e2] at e
      rw [← e]
      exact hz
  · have hsrc := zero_src (m := K) (ys := (P.take K).map iv) hr (Nat.le_refl _) (fun j v hj => by rw [List.getElem?_map] at hj ⊢; rw [List.getElem?_take] at hj; split at hj; exact hj; cases hj)
    obtain ⟨_, ad, rfl, hs⟩ := hsrc (by rw [hcl]; omega)
    have hfit : 0 + ((P.take K).map iv).length ≤ (List.replicate K (Value.int .i64 0)).toArray.size := by rw [hcl]; simp; exact Nat.min_le_right _ _
    have h := run_copy_row (P := Try.prog) (zeroI W K) 22 22 3 3 W.heap.size 0 K K ad n c _ 3 ((P.take K).map iv) Try.underlying22 sizeI (zero_cells W K) hcl hs hfit (oneI _)
    have e : (((List.replicate K (Value.int .i64 0)).toArray.toList.take 0 ++ (P.take K).map iv ++ (List.replicate K (Value.int .i64 0)).toArray.toList.drop (0 + ((P.take K).map iv).length)).toArray) = ((fitP P K).map iv).toArray := by
      rw [← fit_splice P K]
      simp [splice]
    rw [e, List.length_map] at h
    exact ⟨_, h, setRow_heap (zeroI W K) W.heap.size _ _ 3 (0, 0) (zero_cells W K), below_setRow (zero_below W K) (Nat.le_refl _) _⟩
/-- what is left of a row from a place on -/
theorem drop_row {w : World} {B n m : Nat} {b off : Nat} {l : List Int} (h : Row w B (some ⟨b, off, none⟩) n (l.map iv)) (hm : m ≤ n) : Row w B (some ⟨b, off + m, none⟩) (n - m) ((l.drop m).map iv) := by
  refine ⟨by rw [List.length_map, List.length_drop]; have := h.1; rw [List.length_map] at this; omega, fun hp => ?_⟩
  have hl := h.1
  rw [List.length_map] at hl
  obtain ⟨b', off', e, hb, hc⟩ := h.2 (by omega)
  cases e
  refine ⟨b, off + m, rfl, hb, fun j hj => ?_⟩
  rw [List.length_map, List.length_drop] at hj
  have := hc (m + j) (by rw [List.length_map]; omega)
  rw [Nat.add_assoc]
  rw [this]
  simp
theorem sliced_row {w : World} {B n m c : Nat} {A : Option Addr} {l : List Int} (h : Row w B A n (l.map iv)) (hm : m ≤ n) (hc : n ≤ c) : Row w B (if c = m then A else A.map (·.add (m * 1))) (n - m) ((l.drop m).map iv) := by
  have hl := h.1
  rw [List.length_map] at hl
  by_cases hp : n - m = 0
  · exact ⟨by rw [List.length_map, List.length_drop]; omega, fun h0 => by omega⟩
  · obtain ⟨b, off, rfl, _⟩ := h.2 (by omega)
    rw [if_neg (by omega)]
    have e : (⟨b, off, none⟩ : Addr).add (m * 1) = ⟨b, off + m, none⟩ := by rw [Nat.mul_one]; unfold Addr.add; split <;> simp_all
    show Row w B (some ((⟨b, off, none⟩ : Addr).add (m * 1))) (n - m) ((l.drop m).map iv)
    rw [e]
    exact drop_row h hm
theorem run_sliced (A : Option Addr) (n m c : Nat) (hm : m ≤ n) (hc : n ≤ c) (w : World) : (Instr.slice 22 (.slice A n c) (some (.int .i64 (m : Int))) none none).run Try.prog w = .ok (.slice (if c = m then A else A.map (·.add (m * 1))) (n - m) (c - m)) w := by
  have he : Try.prog.elem 22 = 3 := by kernel_rfl
  have hs : (sizeOf 3).run Try.prog w = .ok 1 w := by
    have := sizeI
    obtain ⟨i, hi, _⟩ := info_parts infoI
    rw [hi] at this
    simp at this
    simp [sizeOf, typeInfo, hi, this]
  rw [run_slice_l (P := Try.prog) (t := 22) (a := A) (len := n) (cap := c) (ht := by rw [he]; exact Try.underlying22) (kl := .i64) (l := (m : Int)) (h0 := by omega) (h1 := by omega), he, hs, Int.toNat_natCast]
  rfl
/-- a node of that, and what was cut off -/
def ResizeD (n : Nd) (size : Int) (w : World) (e : Ending) (w' : World) : Prop := ∃ V A ac B bc G, e = .returned (.tuple #[V, G]) ∧ OwnN w' w.heap.size V n.ino n.kind n.links (if inB size 0 16384 = true then size else n.size) n.up (if inB size 0 16384 = true then fitP n.pages (needP size).toNat else n.pages) n.names A ac B bc ∧
  OwnI w' w.heap.size G (if inB size 0 16384 = true then refsP (n.pages.drop (needP size).toNat) else []) ∧ Below w.heap.size w w'
theorem results_node_tmp {fn : Func} {p u : Tmp} (h : fn.results = #[.cell p 25, .tmp u]) (tmps : Array Value) (w : World) (g : Nat) (cs : Array Value)
    (hp : tmps.getD p undef = .pointer (some ⟨g, 0, none⟩)) (hg : w.heap[g]? = some (.cells cs 25 (0, 0))) (hs : cs.size = 7) :
    (results fn tmps).run Try.prog w = .ok (.tuple #[.agg cs, tmps.getD u undef]) w := by
  have hi : (Try.prog.info? 25).map (·.size) = some cs.size := by rw [hs]; kernel_rfl
  have hp' : tmps[p]?.getD undef = .pointer (some ⟨g, 0, none⟩) := by simpa using hp
  simp [results, h, hp', asAddr, run_loadVar_row w g 25 25 cs (0, 0) _ hg Try.underlying25 rfl hi]
set_option maxHeartbeats 8000000 in
theorem iResize (n : Nd) (size : Int) (hz : i64R size) (w : World) (h : n.Ok w w.heap.size) (hp : n.pages.length ≤ 1000) (hq : n.names.length ≤ 1000) (hsz : ∀ e ∈ n.names, e.s.size ≤ 1000) :
    Calls Try.prog 8 #[n.val, .int .i64 size] w (ResizeD n size w) := by
  have KC := Lib.hid (fun w1 (b : Below w.heap.size w w1) => iCopy n w1 (h.in_.at_ b) hp hq hsz)
  obtain ⟨i, ki, l, s, u, A, ac, P, B, bc, N⟩ := n
  have hr := h.row
  have hcap := h.cap
  have hcle := h.cle
  unfold ResizeD
  dsimp only at hp hq hsz hr hcap hcle ⊢
  unfold Nd.val at KC ⊢
  dsimp only at KC ⊢
  have KW := Lib.hid (fun w => iWithin_is size 0 16384 w)
  obtain ⟨b1, hb1⟩ : ∃ b, inB size 0 16384 = b := ⟨_, rfl⟩
  rw [hb1] at KW ⊢
  have HRow := Lib.hid hr
  have HB0 := Lib.hid (((Below.refl w.heap.size w).alloc (Nat.le_refl _) (.cells (ncells i ki l s u (.slice A P.length ac) (.slice B N.length bc)) 25)).alloc (by simp) (.cells (ncells 0 0 0 0 0 (.slice none 0 0) (.slice none 0 0)) 25))
  have hc : Cells ((w.alloc (.cells (ncells i ki l s u (.slice A P.length ac) (.slice B N.length bc)) 25)).alloc (.cells (ncells 0 0 0 0 0 (.slice none 0 0) (.slice none 0 0)) 25)) w.heap.size 25 (ncells i ki l s u (.slice A P.length ac) (.slice B N.length bc)) := (Cells.new _ _ _).alloc _
  have hr2 : Cells ((w.alloc (.cells (ncells i ki l s u (.slice A P.length ac) (.slice B N.length bc)) 25)).alloc (.cells (ncells 0 0 0 0 0 (.slice none 0 0) (.slice none 0 0)) 25)) (w.heap.size + 1) 25 (ncells 0 0 0 0 0 (.slice none 0 0) (.slice none 0 0)) := by
    have := Cells.new (w.alloc (.cells (ncells i ki l s u (.slice A P.length ac) (.slice B N.length bc)) 25)) 25 (ncells 0 0 0 0 0 (.slice none 0 0) (.slice none 0 0)); simpa using this
  have HC := Lib.hid hc; have HR := Lib.hid hr2
  have hs2 : ((w.alloc (.cells (ncells i ki l s u (.slice A P.length ac) (.slice B N.length bc)) 25)).alloc (.cells (ncells 0 0 0 0 0 (.slice none 0 0) (.slice none 0 0)) 25)).heap.size = w.heap.size + 2 := by simp
  have HS2 := Lib.hid hs2
  unfold ncells at HB0 HC HR HS2
  clear hr hc hr2 hs2 hsz h
  cases b1
  · clear HRow hcap hcle hb1
    simp only [Bool.false_eq_true, if_false]
    go_enter Try.func8, Try.ntmps8
    go_wp2_with fail
    refine (KC.out _ HB0.out).mono ?_
    rintro e w2 ⟨V, A3, c3, B4, c4, rfl, ⟨rfl, oI, oE⟩, b2⟩
    have B2 := Lib.hid (HB0.out.trans (b2.mono HB0.out.size))
    have R2 := Lib.hid (HR.out.below' b2)
    rw [HS2.out] at oI oE
    have OI := Lib.hid oI; have OE := Lib.hid oE
    have hs : w.heap.size + 2 ≤ w2.heap.size := by have := b2.size; rw [HS2.out] at this; exact this
    unfold nv
    clear b2 oI oE KC
    go_wp2_with fail
    refine (KW.out _).mono ?_
    rintro e w3 ⟨rfl, rfl⟩
    have R3 := Lib.hid (R2.out.alloc (.cells (ncells i ki l s u (.slice A3 P.length c3) (.slice B4 N.length c4)) 25))
    have B3 := Lib.hid (B2.out.alloc B2.out.size (.cells (ncells i ki l s u (.slice A3 P.length c3) (.slice B4 N.length c4)) 25))
    have b3 := (Below.refl w2.heap.size w2).alloc (Nat.le_refl _) (.cells (ncells i ki l s u (.slice A3 P.length c3) (.slice B4 N.length c4)) 25)
    have OI3 := Lib.hid (OI.out.below b3)
    have OE3 := Lib.hid (OE.out.below b3)
    obtain ⟨d0, d1, d2, d3, d4, d5, d6⟩ := cells7 R3.out
    have z := fun j => Cells.free R3.out j
    unfold ncells at d0 d1 d2 d3 d4 d5 d6 z OI3 OE3 B3 R3
    clear b3 R2 B2 OI OE HS2 HR HC HB0
    go_wp2
    exact bodyPost_ret (results_node_tmp rfl _ _ (w.heap.size + 1) (ncells i ki l s u (.slice A3 P.length c3) (.slice B4 N.length c4)) rfl (set7_cells R3.out) rfl) rfl
      ⟨_, A3, c3, B4, c4, _, rfl, ⟨rfl, OwnI.mono (own_set7 OI3.out (by omega)) (by omega), OwnE.mono (own_set7 OE3.out (by omega)) (by omega)⟩, OwnI.nil _ _, set7_below B3.out (by omega)⟩
  · simp only [if_true]
    have hin : 0 ≤ size ∧ size ≤ 16384 := by unfold inB at hb1; simpa using hb1
    obtain ⟨K, hK, hK64⟩ := needP_nat size hin.1 hin.2
    rw [hK, Int.toNat_natCast]
    have KN := Lib.hid (fun w => iNeed_is size hz w)
    rw [hK] at KN
    clear hb1 hK hin hz
    go_enter Try.func8, Try.ntmps8
    go_wp2_with fail
    refine (KC.out _ HB0.out).mono ?_
    rintro e w2 ⟨V, A3, c3, B4, c4, rfl, ⟨rfl, oI, oE⟩, b2⟩
    rw [HS2.out] at oI oE
    have hs : w.heap.size + 2 ≤ w2.heap.size := by have := b2.size; rw [HS2.out] at this; exact this
    obtain ⟨hn, hhn⟩ : ∃ hn, w2.heap.size = hn := ⟨_, rfl⟩
    have b3 := (Below.refl w2.heap.size w2).alloc (Nat.le_refl _) (.cells (ncells i ki l s u (.slice A3 P.length c3) (.slice B4 N.length c4)) 25)
    have c3n := Cells.new w2 25 (ncells i ki l s u (.slice A3 P.length c3) (.slice B4 N.length c4))
    have hs3 : (w2.alloc (.cells (ncells i ki l s u (.slice A3 P.length c3) (.slice B4 N.length c4)) 25)).heap.size = w2.heap.size + 1 := by simp
    have hB2 := HB0.out.trans (b2.mono HB0.out.size)
    have hB3 := hB2.trans (b3.mono hB2.size)
    have c3g := (HC.out.below' b2).below' b3
    have c3r := (HR.out.below' b2).below' b3
    have oE3 := oE.below b3
    have hrow3 := (HRow.out.below hB3).more hB3.size
    unfold ncells at c3n hs3 hB3 oE3 hrow3 c3g c3r
    rw [hhn] at c3n hs3 hs
    unfold nv
    go_wp2_with fail
    refine (KW.out _).mono ?_
    rintro e w3 ⟨rfl, rfl⟩
    obtain ⟨W3, hW3⟩ : ∃ W3, w2.alloc (.cells #[.int .i64 i, .int .i64 ki, .int .i64 l, .int .i64 s, .int .i64 u, .slice A3 P.length c3, .slice B4 N.length c4] 25) = W3 := ⟨_, rfl⟩
    rw [hW3] at c3n hs3 hB3 oE3 hrow3 c3g c3r ⊢
    have C3n := Lib.hid c3n; have C3g := Lib.hid c3g; have C3r := Lib.hid c3r; have HS3 := Lib.hid hs3; have B3 := Lib.hid hB3; have OE3 := Lib.hid oE3; have Row3 := Lib.hid hrow3
    have hmk := fun W => make_ints K W (by omega)
    obtain ⟨w5, hcp, hc5, hb5⟩ := copy_ints P _ K rfl A ac W3 hrow3
    have B5 := Lib.hid hb5; have C5 := Lib.hid hc5
    have e5 := (cells7 (C3g.out.below' (zero_below W3 K))).2.2.2.2.2.1
    have f5 := (C3n.out.below' hb5).free 5
    have f3 := (C3n.out.below' hb5).free 3
    have g3 := (C3n.out.below' hb5).cell 3
    have g5 := (C3n.out.below' hb5).cell 5
    simp at g3 g5
    clear hs3 hB3 oE3 hrow3 c3r oI oE hW3 hhn b2 b3 hB2 HC HR HB0 HS2 KC KW c3n c3g hb5 hc5
    obtain ⟨m, hm⟩ : ∃ m, (P.take K).length = m := ⟨_, rfl⟩
    rw [hm] at hcp
    go_wp2_with (go_at_call 18; refine (KN.out _).mono ?_; rintro e w4 ⟨rfl, rfl⟩)
    have hmle : m ≤ P.length := by rw [← hm, List.length_take]; exact Nat.min_le_right _ _
    have hdrop : P.drop m = P.drop K := by
      rw [← hm, List.length_take]
      by_cases hk : K ≤ P.length
      · rw [Nat.min_eq_left hk]
      · rw [Nat.min_eq_right (by omega), List.drop_of_length_le (Nat.le_refl _), List.drop_of_length_le (by omega)]
    obtain ⟨W6, hW6⟩ : ∃ W6, (w5.setCell ⟨hn, 3, none⟩ (.int .i64 size)).setCell ⟨hn, 5, none⟩ (.slice (some ⟨W3.heap.size, 0, none⟩) K K) = W6 := ⟨_, rfl⟩
    have hs3 := HS3.out
    have hB5 := B5.out
    have c6n : Cells W6 hn 25 (ncells i ki l size u (.slice (some ⟨W3.heap.size, 0, none⟩) K K) (.slice B4 N.length c4)) := by
      rw [← hW6]
      have h0 : Cells _ hn 25 (ncells i ki l size u (.slice A3 P.length c3) (.slice B4 N.length c4)) := Cells.set (C3n.out.below' hB5) 3 (.int .i64 size)
      have h1 : Cells _ hn 25 (ncells i ki l size u (.slice (some ⟨W3.heap.size, 0, none⟩) K K) (.slice B4 N.length c4)) := Cells.set h0 5 (.slice (some ⟨W3.heap.size, 0, none⟩) K K)
      exact h1
    have c6g : Cells W6 w.heap.size 25 (ncells i ki l s u (.slice A P.length ac) (.slice B N.length bc)) := by
      rw [← hW6]
      exact ((C3g.out.below' hB5).far (p := ⟨hn, 3, none⟩) (by simp; omega) _).far (p := ⟨hn, 5, none⟩) (by simp; omega) _
    have c6r : Cells W6 (w.heap.size + 1) 25 (ncells 0 0 0 0 0 (.slice none 0 0) (.slice none 0 0)) := by
      rw [← hW6]
      exact ((C3r.out.below' hB5).far (p := ⟨hn, 3, none⟩) (by simp; omega) _).far (p := ⟨hn, 5, none⟩) (by simp; omega) _
    have c6p : Cells W6 W3.heap.size 3 ((fitP P K).map iv).toArray := by
      rw [← hW6]
      exact (C5.out.far (p := ⟨hn, 3, none⟩) (by simp; omega) _).far (p := ⟨hn, 5, none⟩) (by simp; omega) _
    have oE6 : OwnE W6 (w.heap.size + 2) (.slice B4 N.length c4) N := by
      rw [← hW6]
      exact own_apart (own_apart (OE3.out.below hB5) (C3n.out.below' hB5) (by decide) _ _) (Cells.set (C3n.out.below' hB5) 3 (.int .i64 size)) (by decide) _ _
    have b6 : Below w.heap.size w W6 := by
      rw [← hW6]
      exact ((B3.out.trans (hB5.mono B3.out.size)).setCell (p := ⟨hn, 3, none⟩) (by simp; omega) _).setCell (p := ⟨hn, 5, none⟩) (by simp; omega) _
    rw [hW6]
    have C6n := Lib.hid c6n; have C6g := Lib.hid c6g; have C6r := Lib.hid c6r; have C6p := Lib.hid c6p; have OE6 := Lib.hid oE6; have B6 := Lib.hid b6
    have hrow6 := (HRow.out.below b6).more b6.size
    have HP3 := Lib.hid (show w.heap.size + 2 ≤ W3.heap.size by omega)
    have hsr := sliced_row hrow6 hmle hcap
    have hsl := fun w => run_sliced A P.length m ac hmle hcap w
    have hql : (P.drop K).length = P.length - m := by rw [← hdrop, List.length_drop]
    rw [hdrop] at hsr
    obtain ⟨A', hA'⟩ : ∃ A', (if ac = m then A else A.map (·.add (m * 1))) = A' := ⟨_, rfl⟩
    obtain ⟨q, hq'⟩ : ∃ q, P.length - m = q := ⟨_, rfl⟩
    obtain ⟨qc, hqc⟩ : ∃ qc, ac - m = qc := ⟨_, rfl⟩
    rw [hA', hq'] at hsr hsl
    rw [hqc] at hsl
    rw [hq'] at hql
    have hq1 : q ≤ 1000 := by omega
    have HSR := Lib.hid hsr
    have KG := Lib.hid (fun w1 (b : Below W6.heap.size W6 w1) => iGather (P.drop K) q hql A' qc w1 hq1 ((HSR.out.below b).more b.size))
    obtain ⟨n0, n1, n2, n3, n4, n5, n6⟩ := cells7 c6n
    have g5' := (cells7 c6g).2.2.2.2.2.1
    have hm0 : (0 : Int) ≤ (m : Int) := Int.natCast_nonneg m
    have b0 : Below W6.heap.size W6 W6.drew := below_drewN (Below.refl _ _) 1
    clear hsr hW6 c6n c6g c6r c6p oE6 b6 hB5 hs3 hrow6 hA' hq' hqc hql hdrop g3 g5 f3 f5 e5 hcp hm hs HRow C3n C3g C3r B3 OE3 Row3 B5 C5 HS3 hmk hcap hcle hmle
    go_region_with (first
      | (go_at_call 24; (with_reducible refine (KG.out _ b0).mono ?_); rintro e' w7 ⟨vG, rfl, oG, bG⟩; obtain ⟨A7, c7, rfl, _⟩ := oG.row; have k7 : Below W6.heap.size W6 w7 := b0.trans (bG.mono b0.size); have x7 := cells7 (C6n.out.below' k7); obtain ⟨x0, x1, x2, x3, x4, x5, x6⟩ := x7; obtain ⟨d0, d1, d2, d3, d4, d5, d6⟩ := cells7 (C6r.out.below' k7); have z := fun j => Cells.free (C6r.out.below' k7) j))
    all_goals
      have hp3 := HP3.out
      have h7 := B6.out.trans (k7.mono B6.out.size)
      have hrow7 : OwnI w7 (w.heap.size + 2) (.slice (some ⟨W3.heap.size, 0, none⟩) K K) (fitP P K) :=
        ⟨by rw [List.length_map, Nat.mul_one], .inr ⟨W3.heap.size, K, ((fitP P K).map iv).toArray, by rw [fit_len], hp3, C6p.out.below' k7, by rw [fit_len]; exact Nat.le_refl _, by unfold maxLen; omega, by simp [fit_len], by rw [Nat.mul_one]; exact List.take_of_length_le (by simp)⟩⟩
      have oE7 := OE6.out.below k7
      have oG7 := OwnI.mono oG (show w.heap.size + 2 ≤ W6.drew.heap.size from (by have := B6.out.size; have := C6p.out.lt; show _ ≤ W6.heap.size; omega))
      have R7 := Lib.hid (C6r.out.below' k7)
      have E1 := Lib.hid (OwnI.mono (own_set7 hrow7 (g := w.heap.size + 1) (by omega) (i := i) (k := ki) (l := l) (s := size) (u := u) (p := .slice (some ⟨W3.heap.size, 0, none⟩) K K) (m := .slice B4 N.length c4)) (Nat.le_add_right w.heap.size 2))
      have E2 := Lib.hid (OwnE.mono (own_set7 oE7 (g := w.heap.size + 1) (by omega) (i := i) (k := ki) (l := l) (s := size) (u := u) (p := .slice (some ⟨W3.heap.size, 0, none⟩) K K) (m := .slice B4 N.length c4)) (Nat.le_add_right w.heap.size 2))
      have E3 := Lib.hid (OwnI.mono (own_set7 oG7 (g := w.heap.size + 1) (by omega) (i := i) (k := ki) (l := l) (s := size) (u := u) (p := .slice (some ⟨W3.heap.size, 0, none⟩) K K) (m := .slice B4 N.length c4)) (Nat.le_add_right w.heap.size 2))
      have E4 := Lib.hid (set7_below h7 (g := w.heap.size + 1) (Nat.le_add_right w.heap.size 1) (i := i) (k := ki) (l := l) (s := size) (u := u) (p := .slice (some ⟨W3.heap.size, 0, none⟩) K K) (m := .slice B4 N.length c4))
      clear oG7 oE7 hrow7 h7 hp3 hsl bG k7 oG z b0 n0 n1 n2 n3 n4 n5 n6 g5'
      go_wp2
      exact bodyPost_ret (results_node_tmp rfl _ _ (w.heap.size + 1) (ncells i ki l size u (.slice (some ⟨W3.heap.size, 0, none⟩) K K) (.slice B4 N.length c4)) rfl (set7_cells R7.out) rfl) rfl
        ⟨_, some ⟨W3.heap.size, 0, none⟩, K, B4, c4, .slice A7 (refsP (P.drop K)).length c7, rfl, ⟨by rw [fit_len]; rfl, by rw [fit_len]; exact E1.out, E2.out⟩, E3.out, E4.out⟩
end Go.Proofs.Ytajmboolgekdeaa
