import Derived.Test.YtjopeephohdmlaaWoTx
import Derived.Test.YtjopeephohdmlaaWoPack
import Derived.Deep.LoopGhost
import Derived.Deep.DeepCutAuto
namespace Go.Proofs.Ytjopeephohdmlaa
open Wd U Go.ChangeShapes Go.WideShapes Go.RowKit Go.Sort
set_option linter.unusedVariables false

/-! a Writer that nobody made -/
theorem wnum_nil (w : World) (k : Int) : Calls Try.prog 15 #[.pointer none, .int .i64 k] w fun e w' => e = .returned (.tuple #[]) ∧ w = w' := by
  go_enter Try.func15, Try.ntmps15
  go_wp2
  go_end0
  exact ⟨rfl, rfl⟩
theorem wtext_nil (w : World) (s : ByteArray) : Calls Try.prog 14 #[.pointer none, .string s] w fun e w' => e = .returned (.tuple #[]) ∧ w = w' := by
  go_enter Try.func14, Try.ntmps14
  go_wp2
  go_end0
  exact ⟨rfl, rfl⟩
theorem wwords_nil (w : World) : Calls Try.prog 17 #[.pointer none] w fun e w' => e = .returned (.slice none 0 0) ∧ w = w' := by
  go_enter Try.func17, Try.ntmps17
  go_wp2
  go_ret
  exact ⟨rfl, rfl⟩

def leftL (l : List Nat) (n : Nat) (bad : Bool) : List Nat := if bad = true then [] else l.drop n
def ReadRel (W : World) (g : Nat) (l : List Nat) (M k : Nat) (a b idx : Value) (wr : World) : Prop := ∃ (j n : Nat) (bad : Bool), j ≤ M ∧ k = M - j ∧ idx = .int .i64 j ∧ a = .int .i64 n ∧ b = .bool bad ∧ n ≤ l.length ∧ RdSt W g (leftL l n bad) bad wr
def ReadCut (W : World) (g : Nat) (l : List Nat) (a b : Value) (wx : World) : Prop := ∃ (n : Nat) (bad : Bool), a = .int .i64 n ∧ b = .bool bad ∧ n ≤ l.length ∧ RdSt W g (leftL l n bad) bad wx
theorem ReadCut.mk' {W wx : World} {g : Nat} {l : List Nat} (n : Nat) (bad : Bool) {xs : List Nat} (hn : n ≤ l.length) (hx : xs = leftL l n bad) (h : RdSt W g xs bad wx) : ReadCut W g l (.int .i64 n) (.bool bad) wx := by
  subst hx
  exact ⟨n, bad, rfl, rfl, hn, h⟩
theorem no_text {most : Int} {xs : List Nat} {bad : Bool} (h : textOk most xs = false) : textV most xs = { data := #[] } ∧ textX most xs = [] ∧ textB most xs bad = true := by
  unfold textV textX textB
  rw [h]
  exact ⟨rfl, rfl, rfl⟩
theorem yes_text {most : Int} {x k : Nat} {t : List Nat} {bad : Bool} (hk : need x = k) (h : textOk most (x :: t) = true) : textV most (x :: t) = strOf (bytesOf (t.take k) x) ∧ textX most (x :: t) = t.drop k ∧ textB most (x :: t) bad = bad := by
  subst hk
  unfold textV textX textB
  rw [h]
  exact ⟨rfl, rfl, rfl⟩
theorem no_num {xs : List Nat} {bad : Bool} (h : numOk xs = false) : numV xs = 0 ∧ numX xs = [] ∧ numB xs bad = true := by
  unfold numV numX numB
  rw [h]
  exact ⟨rfl, rfl, rfl⟩
theorem yes_num {x : Nat} {t : List Nat} {bad : Bool} (h : x ≤ 4611686018427387904) : numV (x :: t) = x ∧ numX (x :: t) = t ∧ numB (x :: t) bad = bad := by
  have ok : numOk (x :: t) = true := decide_eq_true h
  unfold numV numX numB
  rw [ok]
  exact ⟨rfl, rfl, rfl⟩
theorem row_drop {w : World} {B n k b o : Nat} {xs : List Value} (h : Row w B (some ⟨b, o, none⟩) n xs) (hk : k ≤ n) : Row w B (some ⟨b, o + k, none⟩) (n - k) (xs.drop k) := by
  refine ⟨by rw [List.length_drop, h.1], fun hp => ?_⟩
  obtain ⟨b', off, e, hb, hc⟩ := h.2 (by omega)
  injection e with e
  injection e with e1 e2
  subst e1 e2
  refine ⟨b, o + k, rfl, hb, fun j hj => ?_⟩
  have hj' : k + j < xs.length := by rw [List.length_drop] at hj; omega
  have := hc (k + j) hj'
  rw [List.getElem_drop, ← this]
  congr 2
  omega

set_option maxRecDepth 100000 in
theorem wordsReads_far (L M : Nat) (A E : Option Addr) (c d : Nat) (w : World) (h : 60 < L ∨ L ≤ 60 ∧ 30 < M) :
    Calls Try.prog 5 #[.slice A L c, .slice E M d] w (TrueB w) := by
  rcases h with h | ⟨h1, h2⟩
  · have d1 : decide ((L : Int) > 60) = true := decide_eq_true (by omega)
    go_enter Try.func5, Try.ntmps5
    go_wp2_with fail
    refine (wordsAwake_true _).mono ?_
    rintro e w2 ⟨rfl, hb⟩
    have HB := Lib.hid hb
    clear hb
    go_wp2
    go_ret
    exact ⟨rfl, HB.out⟩
  · have d1 : decide ((L : Int) > 60) = false := decide_eq_false (by omega)
    have d2 : decide ((M : Int) > 30) = true := decide_eq_true (by omega)
    go_enter Try.func5, Try.ntmps5
    go_wp2_with fail
    refine (wordsAwake_true _).mono ?_
    rintro e w2 ⟨rfl, hb⟩
    have HB := Lib.hid hb
    clear hb
    go_wp2
    go_ret
    exact ⟨rfl, HB.out⟩

set_option maxRecDepth 100000 in
set_option maxHeartbeats 4000000 in
theorem wordsReads_any (l : List Nat) (asks : List Int) (A E : Option Addr) (c d L M : Nat) (w : World) (hL : l.length = L) (hM : asks.length = M) (hl : L ≤ 60) (hm : M ≤ 30) (hs : Small l) (hok : ∀ y ∈ asks, (Lit.int .i64 y).wf = true) (hcap : L ≤ c)
    (hr : Row w w.heap.size A L (l.map wd)) (he : Row w w.heap.size E M (asks.map (Value.int .i64))) :
    Calls Try.prog 5 #[.slice A L c, .slice E M d] w (TrueB w) := by
  have d1 : decide ((L : Int) > 60) = false := decide_eq_false (by omega)
  have d2 : decide ((M : Int) > 30) = false := decide_eq_false (by omega)
  have HL := Lib.hid hL; have HM := Lib.hid hM; have HS := Lib.hid hs; have HOK := Lib.hid hok; have HR := Lib.hid hr; have HE := Lib.hid he
  clear hL hM hs hok hr he
  go_enter Try.func5, Try.ntmps5
  go_wp2_with fail
  refine (wordsAwake_true _).mono ?_
  rintro e w1 ⟨rfl, hb1⟩
  have HB1 := Lib.hid hb1
  clear hb1
  go_wp2_with fail
  refine (new_r HB1.out HL.out HS.out (HR.out.below HB1.out) HB1.out.size (by omega)).mono ?_
  rintro e w2 ⟨g, rfl, h2⟩
  have H2 := Lib.hid h2
  clear h2
  go_wp2
  go_loopg [6, 7, 32] M (fun k a b idx wr => ReadRel w g l M k a b idx wr)
  case atStart => exact ⟨0, 0, false, Nat.zero_le _, rfl, rfl, rfl, rfl, Nat.zero_le _, by unfold leftL; simpa using H2.out⟩
  case round =>
    obtain ⟨j, n, bad, hj, rfl, rfl, rfl, rfl, hn, h3⟩ := hrel
    have hnL : n ≤ L := by have := HL.out; omega
    have HNl := Lib.hid hn
    have HB3 := Lib.hid h3.b
    clear hn
    by_cases hlt : j < M
    · obtain ⟨b1, o1, a, rfl, _, hx, cx⟩ := (HE.out.below HB3.out).get hlt
      have hwf : IntKind.i64.min ≤ a ∧ a ≤ IntKind.i64.max := by simpa [Lit.wf] using HOK.out a (List.mem_of_getElem? hx)
      have m1 : IntKind.i64.min = -9223372036854775808 := by decide
      have m2 : IntKind.i64.max = 9223372036854775807 := by decide
      have ha0 : -9223372036854775808 ≤ a := by omega
      have ha1 : a ≤ 9223372036854775807 := by omega
      have hjM : (j : Int) < (M : Int) := by omega
      clear hx hwf m1 m2 hj
      go_upto_if 37 with fail
      go_cut [6, 7, 10, 11, 12, 13, 14, 15] from 37 to 134 (fun at_ b _ _ _ _ _ _ wx => ReadCut w g l at_ b wx)
      case first =>
        cases bad with
        | true =>
          have HX := Lib.hid (show RdSt w g [] true wr from h3)
          have HLE := Lib.hid (show ([] : List Nat).length ≤ 100 by simp)
          clear h3
          by_cases ha : a < 0
          · have q0 : decide (a < 0) = true := decide_eq_true ha
            rw [q0]
            clear ha
            obtain ⟨t1, t2, t3⟩ := no_num (xs := []) (bad := true) rfl
            have N1 := Lib.hid t1; have N2 := Lib.hid t2; have N3 := Lib.hid t3
            clear t1 t2 t3
            go_wp2_with (go_at_call 19; refine (num_r HX.out).mono ?_; rintro e w4 ⟨rfl, h4⟩; rw [N2.out, N3.out] at h4; rw [N1.out]; have H4 := Lib.hid h4; clear h4)
            go_meet
            exact ReadCut.mk' n true HNl.out rfl H4.out
          · have q0 : decide (a < 0) = false := decide_eq_false ha
            rw [q0]
            obtain ⟨t1, t2, t3⟩ := no_text (most := a) (xs := []) (bad := true) rfl
            have N1 := Lib.hid t1; have N2 := Lib.hid t2; have N3 := Lib.hid t3
            clear t1 t2 t3
            clear ha
            go_wp2_with (first
              | (go_at_call 18; refine (text_r HX.out a (by omega) (by omega) (.inl HLE.out)).mono ?_; rintro e w4 ⟨rfl, h4⟩; rw [N2.out, N3.out] at h4; rw [N1.out]; have H4 := Lib.hid h4; clear h4))
            go_meet
            exact ReadCut.mk' n true HNl.out rfl H4.out
        | false =>
          by_cases hnl : n < L
          · obtain ⟨b2, o2, x, rfl, _, hx2, cx2⟩ := (HR.out.below HB3.out).get hnl
            have hdr : l.drop n = x :: l.drop (n + 1) := by
              obtain ⟨hj, he⟩ := List.getElem?_eq_some_iff.1 hx2
              rw [List.drop_eq_getElem_cons hj, he]
            have HDR := Lib.hid hdr
            have hx0 := HS.out.at hx2
            have HX := Lib.hid (show RdSt w g (x :: l.drop (n + 1)) false wr from by rw [← hdr]; exact h3)
            have htl : (l.drop (n + 1)).length = L - (n + 1) := by rw [List.length_drop, HL.out]
            have HTL := Lib.hid htl
            have HLE := Lib.hid (show (x :: l.drop (n + 1)).length ≤ 100 by rw [List.length_cons, htl]; omega)
            have HN1 : n + 1 ≤ L := hnl
            have HNL1 := Lib.hid (show n + 1 ≤ l.length by have := HL.out; omega)
            unfold wd at cx2
            have hnl' : (n : Int) < (L : Int) := by omega
            clear hdr hx2 h3 htl
            by_cases ha : a < 0
            · have q0 : decide (a < 0) = true := decide_eq_true ha
              rw [q0]
              clear ha
              by_cases hx1 : x ≤ 4611686018427387904
              · have q1 : decide ((x : Int) ≤ 4611686018427387904) = true := decide_eq_true (by omega)
                have hw : IntKind.i64.wrap (x : Int) = (x : Int) := by rw [IntKind.wrap_i64]; omega
                have hself : ((x : Int) != (x : Int)) = false := by simp
                obtain ⟨t1, t2, t3⟩ := yes_num (t := l.drop (n + 1)) (bad := false) hx1
                have N1 := Lib.hid t1; have N2 := Lib.hid t2; have N3 := Lib.hid t3
                clear t1 t2 t3
                have hx1' : (x : Int) ≤ 4611686018427387904 := by omega
                clear hx1
                go_wp2_with (go_at_call 19; refine (num_r HX.out).mono ?_; rintro e w4 ⟨rfl, h4⟩; rw [N2.out, N3.out] at h4; rw [N1.out]; have H4 := Lib.hid h4; clear h4)
                go_meet
                exact ReadCut.mk' (n + 1) false HNL1.out rfl H4.out
              · have q1 : decide ((x : Int) ≤ 4611686018427387904) = false := decide_eq_false (by omega)
                obtain ⟨t1, t2, t3⟩ := no_num (xs := x :: l.drop (n + 1)) (bad := false) (decide_eq_false hx1)
                have N1 := Lib.hid t1; have N2 := Lib.hid t2; have N3 := Lib.hid t3
                clear t1 t2 t3
                clear hx1
                go_wp2_with (go_at_call 19; refine (num_r HX.out).mono ?_; rintro e w4 ⟨rfl, h4⟩; rw [N2.out, N3.out] at h4; rw [N1.out]; have H4 := Lib.hid h4; clear h4)
                go_meet
                exact ReadCut.mk' n true HNl.out rfl H4.out
            · have q0 : decide (a < 0) = false := decide_eq_false ha
              rw [q0]
              have hwa : IntKind.u64.wrap a = a := by rw [IntKind.wrap_u64]; omega
              obtain ⟨k, hk⟩ : ∃ k, need x = k := ⟨_, rfl⟩
              have hkI : needI (x : Int) = (k : Int) := by rw [needI_nat, hk]
              have HK := Lib.hid hk; have HKI := Lib.hid hkI
              by_cases hxa : (x : Int) ≤ a
              · have q1 : decide ((x : Int) ≤ a) = true := decide_eq_true hxa
                by_cases hx20 : x ≤ 1048576
                · have q2 : decide ((x : Int) ≤ 1048576) = true := decide_eq_true (by omega)
                  have hw : IntKind.i64.wrap (x : Int) = (x : Int) := by rw [IntKind.wrap_i64]; omega
                  by_cases hkn : (k : Int) < (L : Int) - (n : Int)
                  · have q3 : decide ((k : Int) < (L : Int) - (n : Int)) = true := decide_eq_true hkn
                    have hkb : n + 1 + k ≤ L := by omega
                    have htk : ((l.drop (n + 1)).take k).length = k := by rw [List.length_take, HTL.out]; omega
                    have hsm : Small ((l.drop (n + 1)).take k) := fun y hy => HS.out y (List.mem_of_mem_drop (List.mem_of_mem_take hy))
                    obtain ⟨b, hb⟩ : ∃ b, mayU ((l.drop (n + 1)).take k) (x : Int) = b := ⟨_, rfl⟩
                    have hto : textOk a (x :: l.drop (n + 1)) = b := by
                      rw [textOk_cons, hk, HTL.out, show decide (x ≤ topN) = true from decide_eq_true (by unfold topN; omega), show decide ((x : Int) ≤ a) = true from q1, show decide (k ≤ L - (n + 1)) = true from decide_eq_true (by omega), hb]
                      rfl
                    have hrow : Row wr wr.heap.size (some ⟨b2, o2 + (n + 1), none⟩) k (((l.drop (n + 1)).take k).map wd) := by
                      have h1 := row_drop (k := n + 1) (((HR.out.below HB3.out).more HB3.out.size)) (by omega)
                      have h2 := row_take (k := k) h1 (by omega)
                      rw [List.map_take, List.map_drop]
                      exact h2
                    have hrow0 : k = 0 → ∀ A', Row wr wr.heap.size A' k (((l.drop (n + 1)).take k).map wd) := fun h A' => by subst h; exact Row.nil
                    have HTK := Lib.hid htk; have HSM := Lib.hid hsm; have HMAY := Lib.hid hb; have HTO := Lib.hid hto; have HROW := Lib.hid hrow; have HROW0 := Lib.hid hrow0
                    have e1 : (n : Int) + 1 = ((n + 1 : Nat) : Int) := by omega
                    clear htk hsm hb hto hrow hrow0 hk hkI e1 hxa hkn ha
                    by_cases hcn : c = n + 1
                    · subst hcn
                      go_wp2_with (go_at_call 13; refine (need_is (x : Int) (by omega) (by omega) _).mono ?_; rintro e w' ⟨rfl, rfl⟩; rw [HKI.out])
                      all_goals
                        cases b with
                        | false =>
                          refine (refUnpack_any ((l.drop (n + 1)).take k) k (x : Int) HTK.out HSM.out (by omega) false HMAY.out _ _ _ (by first | exact HROW.out | exact HROW0.out (by omega) _)).mono ?_
                          rintro e w4 hu
                          obtain ⟨A4, c4, rfl, hr4, hb4⟩ := hu.rows
                          rw [show ubs ((l.drop (n + 1)).take k) (x : Int) false = [] from rfl] at hr4 ⊢
                          have hcv : (convert 22 9 (.slice A4 0 c4)).run Try.prog w4 = .ok (.string (strOf [])) w4 := run_bytes_row w4 A4 0 c4 w4.heap.size [] rfl hr4
                          have HX4 := Lib.hid (HX.out.below hb4)
                          obtain ⟨t1, t2, t3⟩ := no_text (bad := false) HTO.out
                          have N1 := Lib.hid t1; have N2 := Lib.hid t2; have N3 := Lib.hid t3
                          have HNk := Lib.hid (show n + 1 + k ≤ l.length by have := HL.out; omega)
                          clear hu hr4 hb4 t1 t2 t3
                          go_wp2_with (go_at_call 18; refine (text_r HX4.out a (by omega) (by omega) (.inl HLE.out)).mono ?_; rintro e w5 ⟨rfl, h5⟩; rw [N2.out, N3.out] at h5; rw [N1.out]; have H5 := Lib.hid h5; clear h5)
                          go_meet
                          exact ⟨n + 1 + k, true, by go_num, rfl, HNk.out, H5.out⟩
                        | true =>
                          refine (refUnpack_any ((l.drop (n + 1)).take k) k (x : Int) HTK.out HSM.out (by omega) true HMAY.out _ _ _ (by first | exact HROW.out | exact HROW0.out (by omega) _)).mono ?_
                          rintro e w4 hu
                          obtain ⟨A4, c4, rfl, hr4, hb4⟩ := hu.rows
                          rw [show ubs ((l.drop (n + 1)).take k) (x : Int) true = bytesOf ((l.drop (n + 1)).take k) x from by unfold ubs; rw [if_pos rfl, Int.toNat_natCast]] at hr4 ⊢
                          rw [bytesOf_len] at hr4 ⊢
                          have hcv : (convert 22 9 (.slice A4 x c4)).run Try.prog w4 = .ok (.string (strOf (bytesOf ((l.drop (n + 1)).take k) x))) w4 := run_bytes_row w4 A4 x c4 w4.heap.size _ (bytesOf_len _ _) hr4
                          have HX4 := Lib.hid (HX.out.below hb4)
                          obtain ⟨t1, t2, t3⟩ := yes_text (bad := false) HK.out HTO.out
                          obtain ⟨s, hs⟩ : ∃ s, strOf (bytesOf ((l.drop (n + 1)).take k) x) = s := ⟨_, rfl⟩
                          rw [hs] at t1 hcv
                          rw [List.drop_drop] at t2
                          have N1 := Lib.hid t1; have N2 := Lib.hid t2; have N3 := Lib.hid t3
                          have HNk := Lib.hid (show n + 1 + k ≤ l.length by have := HL.out; omega)
                          clear hu hr4 hb4 t1 t2 t3 hs
                          go_wp2_with (go_at_call 18; refine (text_r HX4.out a (by omega) (by omega) (.inl HLE.out)).mono ?_; rintro e w5 ⟨rfl, h5⟩; rw [N2.out, N3.out] at h5; rw [N1.out]; have H5 := Lib.hid h5; clear h5)
                          go_meet
                          exact ⟨n + 1 + k, false, by go_num, rfl, HNk.out, H5.out⟩
                    · skip
                      go_wp2_with (go_at_call 13; refine (need_is (x : Int) (by omega) (by omega) _).mono ?_; rintro e w' ⟨rfl, rfl⟩; rw [HKI.out])
                      all_goals
                        cases b with
                        | false =>
                          refine (refUnpack_any ((l.drop (n + 1)).take k) k (x : Int) HTK.out HSM.out (by omega) false HMAY.out _ _ _ (by first | exact HROW.out | exact HROW0.out (by omega) _)).mono ?_
                          rintro e w4 hu
                          obtain ⟨A4, c4, rfl, hr4, hb4⟩ := hu.rows
                          rw [show ubs ((l.drop (n + 1)).take k) (x : Int) false = [] from rfl] at hr4 ⊢
                          have hcv : (convert 22 9 (.slice A4 0 c4)).run Try.prog w4 = .ok (.string (strOf [])) w4 := run_bytes_row w4 A4 0 c4 w4.heap.size [] rfl hr4
                          have HX4 := Lib.hid (HX.out.below hb4)
                          obtain ⟨t1, t2, t3⟩ := no_text (bad := false) HTO.out
                          have N1 := Lib.hid t1; have N2 := Lib.hid t2; have N3 := Lib.hid t3
                          have HNk := Lib.hid (show n + 1 + k ≤ l.length by have := HL.out; omega)
                          clear hu hr4 hb4 t1 t2 t3
                          go_wp2_with (go_at_call 18; refine (text_r HX4.out a (by omega) (by omega) (.inl HLE.out)).mono ?_; rintro e w5 ⟨rfl, h5⟩; rw [N2.out, N3.out] at h5; rw [N1.out]; have H5 := Lib.hid h5; clear h5)
                          go_meet
                          exact ⟨n + 1 + k, true, by go_num, rfl, HNk.out, H5.out⟩
                        | true =>
                          refine (refUnpack_any ((l.drop (n + 1)).take k) k (x : Int) HTK.out HSM.out (by omega) true HMAY.out _ _ _ (by first | exact HROW.out | exact HROW0.out (by omega) _)).mono ?_
                          rintro e w4 hu
                          obtain ⟨A4, c4, rfl, hr4, hb4⟩ := hu.rows
                          rw [show ubs ((l.drop (n + 1)).take k) (x : Int) true = bytesOf ((l.drop (n + 1)).take k) x from by unfold ubs; rw [if_pos rfl, Int.toNat_natCast]] at hr4 ⊢
                          rw [bytesOf_len] at hr4 ⊢
                          have hcv : (convert 22 9 (.slice A4 x c4)).run Try.prog w4 = .ok (.string (strOf (bytesOf ((l.drop (n + 1)).take k) x))) w4 := run_bytes_row w4 A4 x c4 w4.heap.size _ (bytesOf_len _ _) hr4
                          have HX4 := Lib.hid (HX.out.below hb4)
                          obtain ⟨t1, t2, t3⟩ := yes_text (bad := false) HK.out HTO.out
                          obtain ⟨s, hs⟩ : ∃ s, strOf (bytesOf ((l.drop (n + 1)).take k) x) = s := ⟨_, rfl⟩
                          rw [hs] at t1 hcv
                          rw [List.drop_drop] at t2
                          have N1 := Lib.hid t1; have N2 := Lib.hid t2; have N3 := Lib.hid t3
                          have HNk := Lib.hid (show n + 1 + k ≤ l.length by have := HL.out; omega)
                          clear hu hr4 hb4 t1 t2 t3 hs
                          go_wp2_with (go_at_call 18; refine (text_r HX4.out a (by omega) (by omega) (.inl HLE.out)).mono ?_; rintro e w5 ⟨rfl, h5⟩; rw [N2.out, N3.out] at h5; rw [N1.out]; have H5 := Lib.hid h5; clear h5)
                          go_meet
                          exact ⟨n + 1 + k, false, by go_num, rfl, HNk.out, H5.out⟩
                  · have q3 : decide ((k : Int) < (L : Int) - (n : Int)) = false := decide_eq_false hkn
                    have hto : textOk a (x :: l.drop (n + 1)) = false := by rw [textOk_cons, hk, HTL.out, show decide (k ≤ L - (n + 1)) = false from decide_eq_false (by omega)]; simp
                    obtain ⟨t1, t2, t3⟩ := no_text (bad := false) hto
                    have N1 := Lib.hid t1; have N2 := Lib.hid t2; have N3 := Lib.hid t3
                    clear t1 t2 t3
                    clear hto hkn hk hkI ha
                    go_wp2_with (first
                      | (go_at_call 13; refine (need_is (x : Int) (by omega) (by omega) _).mono ?_; rintro e w' ⟨rfl, rfl⟩; rw [HKI.out])
                      | (go_at_call 18; refine (text_r HX.out a (by omega) (by omega) (.inl HLE.out)).mono ?_; rintro e w4 ⟨rfl, h4⟩; rw [N2.out, N3.out] at h4; rw [N1.out]; have H4 := Lib.hid h4; clear h4))
                    go_meet
                    exact ReadCut.mk' n true HNl.out rfl H4.out
                · have q2 : decide ((x : Int) ≤ 1048576) = false := decide_eq_false (by omega)
                  have hto : textOk a (x :: l.drop (n + 1)) = false := by rw [textOk_cons, hk, HTL.out, show decide (k ≤ L - (n + 1)) = false from decide_eq_false (by unfold need at hk; omega)]; simp
                  obtain ⟨t1, t2, t3⟩ := no_text (bad := false) hto
                  have N1 := Lib.hid t1; have N2 := Lib.hid t2; have N3 := Lib.hid t3
                  clear t1 t2 t3
                  clear hto hx20 hk hkI ha
                  go_wp2_with (first
                    | (go_at_call 13; refine (need_is (x : Int) (by omega) (by omega) _).mono ?_; rintro e w' ⟨rfl, rfl⟩; rw [HKI.out])
                    | (go_at_call 18; refine (text_r HX.out a (by omega) (by omega) (.inl HLE.out)).mono ?_; rintro e w4 ⟨rfl, h4⟩; rw [N2.out, N3.out] at h4; rw [N1.out]; have H4 := Lib.hid h4; clear h4))
                  go_meet
                  exact ReadCut.mk' n true HNl.out rfl H4.out
              · have q1 : decide ((x : Int) ≤ a) = false := decide_eq_false hxa
                have hto : textOk a (x :: l.drop (n + 1)) = false := by rw [textOk_cons, show decide ((x : Int) ≤ a) = false from q1]; simp
                obtain ⟨t1, t2, t3⟩ := no_text (bad := false) hto
                have N1 := Lib.hid t1; have N2 := Lib.hid t2; have N3 := Lib.hid t3
                clear t1 t2 t3
                clear hto hxa hk hkI ha
                go_wp2_with (first
                  | (go_at_call 13; refine (need_is (x : Int) (by omega) (by omega) _).mono ?_; rintro e w' ⟨rfl, rfl⟩; rw [HKI.out])
                  | (go_at_call 18; refine (text_r HX.out a (by omega) (by omega) (.inl HLE.out)).mono ?_; rintro e w4 ⟨rfl, h4⟩; rw [N2.out, N3.out] at h4; rw [N1.out]; have H4 := Lib.hid h4; clear h4))
                go_meet
                exact ReadCut.mk' n true HNl.out rfl H4.out
          · obtain rfl : n = L := by omega
            have HX := Lib.hid (show RdSt w g [] false wr from by have h := h3; unfold leftL at h; rw [if_neg (by decide), List.drop_of_length_le (by rw [HL.out]; exact Nat.le_refl _)] at h; exact h)
            have HLE := Lib.hid (show ([] : List Nat).length ≤ 100 by simp)
            clear h3 hnl
            by_cases ha : a < 0
            · have q0 : decide (a < 0) = true := decide_eq_true ha
              rw [q0]
              clear ha
              obtain ⟨t1, t2, t3⟩ := no_num (xs := []) (bad := false) rfl
              have N1 := Lib.hid t1; have N2 := Lib.hid t2; have N3 := Lib.hid t3
              clear t1 t2 t3
              go_wp2_with (go_at_call 19; refine (num_r HX.out).mono ?_; rintro e w4 ⟨rfl, h4⟩; rw [N2.out, N3.out] at h4; rw [N1.out]; have H4 := Lib.hid h4; clear h4)
              go_meet
              exact ReadCut.mk' n true HNl.out rfl H4.out
            · have q0 : decide (a < 0) = false := decide_eq_false ha
              rw [q0]
              obtain ⟨t1, t2, t3⟩ := no_text (most := a) (xs := []) (bad := false) rfl
              have N1 := Lib.hid t1; have N2 := Lib.hid t2; have N3 := Lib.hid t3
              clear t1 t2 t3
              clear ha
              go_wp2_with (first
                | (go_at_call 18; refine (text_r HX.out a (by omega) (by omega) (.inl HLE.out)).mono ?_; rintro e w4 ⟨rfl, h4⟩; rw [N2.out, N3.out] at h4; rw [N1.out]; have H4 := Lib.hid h4; clear h4))
              go_meet
              exact ReadCut.mk' n true HNl.out rfl H4.out
      case rest =>
      obtain ⟨n2, bad2, rfl, rfl, hn2, h4⟩ := hcut
      have H4 := Lib.hid h4
      have hn2L : n2 ≤ L := by have := HL.out; omega
      have HN2 := Lib.hid hn2
      clear h4 hn2 h3
      cases bad2 with
      | true =>
        go_wp2_with (first
          | (go_at_call 20; refine (bad_r H4.out).mono ?_; rintro e w' ⟨rfl, rfl⟩)
          | (go_at_call 21; refine (left_r H4.out).mono ?_; rintro e w' ⟨rfl, rfl⟩; rw [show (((leftL l n2 true).length : Nat) : Int) = 0 from rfl]))
        go_roundg (M - (j + 1))
        case measure => omega
        case rel => exact ⟨j + 1, n2, true, by omega, rfl, by go_num, rfl, rfl, HN2.out, H4.out⟩
      | false =>
        have hlen : (((leftL l n2 false).length : Nat) : Int) = (L : Int) - (n2 : Int) := by
          have := HL.out
          show (((l.drop n2).length : Nat) : Int) = _
          rw [List.length_drop]; omega
        have HLEN := Lib.hid hlen
        have hself : ((L : Int) - (n2 : Int) != (L : Int) - (n2 : Int)) = false := by simp
        clear hlen
        go_wp2_with (first
          | (go_at_call 20; refine (bad_r H4.out).mono ?_; rintro e w' ⟨rfl, rfl⟩)
          | (go_at_call 21; refine (left_r H4.out).mono ?_; rintro e w' ⟨rfl, rfl⟩; rw [HLEN.out]))
        go_roundg (M - (j + 1))
        case measure => omega
        case rel => exact ⟨j + 1, n2, false, by omega, rfl, by go_num, rfl, rfl, HN2.out, H4.out⟩
    · obtain rfl : j = M := by omega
      clear hj hlt h3
      go_wp2_with (first
        | (go_at_call 15; refine (wnum_nil _ _).mono ?_; rintro e w' ⟨rfl, rfl⟩)
        | (go_at_call 14; refine (wtext_nil _ _).mono ?_; rintro e w' ⟨rfl, rfl⟩)
        | (go_at_call 17; refine (wwords_nil _).mono ?_; rintro e w' ⟨rfl, rfl⟩)
        | (go_at_call 20; refine (bad_nil _).mono ?_; rintro e w' ⟨rfl, rfl⟩)
        | (go_at_call 19; refine (num_nil _).mono ?_; rintro e w' ⟨rfl, rfl⟩)
        | (go_at_call 21; refine (left_nil _).mono ?_; rintro e w' ⟨rfl, rfl⟩)
        | (go_at_call 18; refine (text_nil _ _).mono ?_; rintro e w' ⟨rfl, rfl⟩))
      go_ret
      exact ⟨rfl, HB3.out⟩
end Go.Proofs.Ytjopeephohdmlaa
