import Derived.Test.YtohilconpcgjeaaSoTop
namespace Go.Proofs.Ytohilconpcgjeaa
open Wd So Go.ChangeShapes Go.WideShapes Go.RowKit
set_option linter.unusedVariables false

theorem greater_any (x y : Nat) (hx : x < 18446744073709551616) (hy : y < 18446744073709551616) (w : World) : Calls Try.prog 28 #[.float .f64 x, .float .f64 y] w fun e w' => e = .returned (.bool (lsB y x)) ∧ w = w' := by
  go_enter Try.func28, Try.ntmps28
  go_wp2_with fail
  refine (less_any _ _ hy hx _).mono ?_
  rintro e w' ⟨rfl, rfl⟩
  go_wp2
  go_ret
  exact ⟨rfl, rfl⟩

/-- b stands at the end of all of them -/
def Ext (up : Bool) (b : Nat) (xs : List Nat) (k : Nat) : Prop := b ∈ xs ∧ ∀ j x, j < k → xs[j]? = some x → if up then rk x ≤ rk b else rk b ≤ rk x

def ExtRel (up : Bool) (xs : List Nat) (W : World) (iv bv : Value) (w : World) : Prop :=
  ∃ k b : Nat, k ≤ xs.length ∧ iv = .int .i64 k ∧ bv = .float .f64 b ∧ Ext up b xs k ∧ w = W

def ExtDone (up : Bool) (xs : List Nat) (W : World) (e : Ending) (w : World) : Prop :=
  ∃ b, e = .returned (.tuple #[.float .f64 b, .bool true]) ∧ Ext up b xs xs.length ∧ w = W

theorem ext_least {b : Nat} (h : cls b = 0) (x : Nat) : rk b ≤ rk x := by
  have hb : Fl.nan b = true := by
    unfold cls at h
    cases h1 : Fl.nan b
    · rw [h1] at h; simp only [Bool.false_eq_true, if_false] at h
      (repeat' split at h) <;> omega
    · rfl
  unfold rk
  rw [if_pos hb]
  have : Fl.rung x < 9223372036854775808 := by unfold Fl.rung; omega
  (repeat' split) <;> omega
theorem ext_most {b : Nat} (h : cls b = 6) (x : Nat) : rk x ≤ rk b := by
  have hb : Fl.nan b = false ∧ Fl.neg b = false ∧ Fl.rung b = Fl.inf := by
    unfold cls at h
    cases h1 : Fl.nan b <;> cases h2 : Fl.neg b <;> rw [h1, h2] at h <;> simp only [Bool.false_eq_true, if_false, if_true] at h <;> (try omega)
    · by_cases h3 : infB b = true
      · unfold infB at h3
        exact ⟨rfl, rfl, of_decide_eq_true h3⟩
      · rw [if_neg h3] at h
        split at h <;> omega
  obtain ⟨b1, b2, b3⟩ := hb
  unfold rk
  rw [b1, b2, b3]
  simp only [Bool.false_eq_true, if_false]
  have hi : Fl.inf = 9218868437227405312 := rfl
  cases h1 : Fl.nan x
  · have : Fl.rung x ≤ Fl.inf := by simpa [Fl.nan] using h1
    simp only [Bool.false_eq_true, if_false]
    split <;> omega
  · simp only [if_true]; omega

theorem Ext.step {up : Bool} {b x k : Nat} {xs : List Nat} (h : Ext up b xs k) (hx : xs[k]? = some x) : (if up then lsB b x else lsB x b) = false → Ext up b xs (k + 1) := by
  intro hc
  refine ⟨h.1, fun j y hj hy => ?_⟩
  by_cases e : j = k
  · subst e
    rw [hx] at hy
    cases hy
    cases up
    · simp only [Bool.false_eq_true, if_false] at hc ⊢
      unfold lsB at hc; have := of_decide_eq_false hc; omega
    · simp only [if_true] at hc ⊢
      unfold lsB at hc; have := of_decide_eq_false hc; omega
  · exact h.2 j y (by omega) hy
theorem Ext.turn {up : Bool} {b x k : Nat} {xs : List Nat} (h : Ext up b xs k) (hx : xs[k]? = some x) : (if up then lsB b x else lsB x b) = true → Ext up x xs (k + 1) := by
  intro hc
  refine ⟨List.mem_of_getElem? hx, fun j y hj hy => ?_⟩
  by_cases e : j = k
  · subst e
    rw [hx] at hy
    cases hy
    cases up <;> simp
  · have := h.2 j y (by omega) hy
    cases up
    · simp only [Bool.false_eq_true, if_false] at hc this ⊢
      unfold lsB at hc; have := of_decide_eq_true hc; omega
    · simp only [if_true] at hc this ⊢
      unfold lsB at hc; have := of_decide_eq_true hc; omega

set_option maxHeartbeats 1000000 in
theorem least_any (A : Option Addr) (c : Nat) (xs : List Nat) (w : World) (hpos : 0 < xs.length) (hn : xs.length ≤ 1000) (hwd : Words xs) (hr : Row w w.heap.size A xs.length (xs.map (Value.float .f64))) :
    Calls Try.prog 27 #[.slice A xs.length c, .int .i64 0, .func (.func 24) #[] #[]] w (ExtDone false xs w) := by
  obtain ⟨b0, off, x0, rfl, hb0, hx0, hc0⟩ := hr.get hpos
  have HR := Lib.hid hr; have HW := Lib.hid hwd; have HX0 := Lib.hid hx0
  have hne : ((xs.length : Int) == 0) = false := by rw [beq_eq_false_iff_ne]; omega
  rw [Nat.add_zero] at hc0
  clear hr hwd hx0
  go_enter Try.func27, Try.ntmps27
  go_wp2
  go_step3
  go_wp2
  go_step3
  go_wp2
  go_loopw [19, 8] (fun i b wr => ExtRel false xs w i b wr) (fun i _ _ => xs.length - (intOf i).toNat)
  case atStart => exact ⟨0, x0, Nat.zero_le _, rfl, rfl, ⟨List.mem_of_getElem? HX0.out, fun j x h => by omega⟩, rfl⟩
  case round =>
    obtain ⟨k, b, hk, rfl, rfl, hext, rfl⟩ := hrel
    have hwb := HW.out b hext.1
    have HE := Lib.hid hext
    clear hext
    by_cases hlt : k < xs.length
    · obtain ⟨b1, o1, x, e1, _, hx, cx⟩ := HR.out.get hlt
      obtain ⟨rfl, rfl⟩ : b0 = b1 ∧ off = o1 := by injection e1 with e1; injection e1 with e1 e2; exact ⟨e1, e2⟩
      have hwx := HW.out.at hx
      have HX := Lib.hid hx
      clear hx e1
      cases hcl : (cls b == 0)
      · cases hah : lsB x b
        · have HAH := Lib.hid hah
          go_wp2_with (first | (go_at_call 25; refine (class_any b hwb _).mono ?_; rintro e w' ⟨rfl, rfl⟩) | (go_at_call 24; refine (less_any x b hwx hwb _).mono ?_; rintro e w' ⟨rfl, rfl⟩))
          go_roundw
          case rel => exact ⟨k + 1, b, by omega, by go_num, rfl, HE.out.step HX.out (by simpa using HAH.out), rfl⟩
          case measure => simp [intOf]; omega
        · have HAH := Lib.hid hah
          go_wp2_with (first | (go_at_call 25; refine (class_any b hwb _).mono ?_; rintro e w' ⟨rfl, rfl⟩) | (go_at_call 24; refine (less_any x b hwx hwb _).mono ?_; rintro e w' ⟨rfl, rfl⟩))
          go_roundw
          case rel => exact ⟨k + 1, x, by omega, by go_num, rfl, HE.out.turn HX.out (by simpa using HAH.out), rfl⟩
          case measure => simp [intOf]; omega
      · have hcl' : cls b = 0 := by simpa using hcl
        have hend : Ext false b xs xs.length := ⟨HE.out.1, fun j y _ _ => by simpa using ext_least hcl' y⟩
        have HEND := Lib.hid hend
        clear hend hcl'
        go_wp2_with (first | (go_at_call 25; refine (class_any b hwb _).mono ?_; rintro e w' ⟨rfl, rfl⟩))
        try rw [Exit.noGoto_ret]
        go_ret2
        exact ⟨b, rfl, HEND.out, rfl⟩
    · obtain rfl : k = xs.length := by omega
      go_wp2
      try rw [Exit.noGoto_ret]
      go_ret2
      exact ⟨b, rfl, HE.out, rfl⟩

set_option maxHeartbeats 1000000 in
theorem most_any (A : Option Addr) (c : Nat) (xs : List Nat) (w : World) (hpos : 0 < xs.length) (hn : xs.length ≤ 1000) (hwd : Words xs) (hr : Row w w.heap.size A xs.length (xs.map (Value.float .f64))) :
    Calls Try.prog 27 #[.slice A xs.length c, .int .i64 6, .func (.func 28) #[] #[]] w (ExtDone true xs w) := by
  obtain ⟨b0, off, x0, rfl, hb0, hx0, hc0⟩ := hr.get hpos
  have HR := Lib.hid hr; have HW := Lib.hid hwd; have HX0 := Lib.hid hx0
  have hne : ((xs.length : Int) == 0) = false := by rw [beq_eq_false_iff_ne]; omega
  rw [Nat.add_zero] at hc0
  clear hr hwd hx0
  go_enter Try.func27, Try.ntmps27
  go_wp2
  go_step3
  go_wp2
  go_step3
  go_wp2
  go_loopw [19, 8] (fun i b wr => ExtRel true xs w i b wr) (fun i _ _ => xs.length - (intOf i).toNat)
  case atStart => exact ⟨0, x0, Nat.zero_le _, rfl, rfl, ⟨List.mem_of_getElem? HX0.out, fun j x h => by omega⟩, rfl⟩
  case round =>
    obtain ⟨k, b, hk, rfl, rfl, hext, rfl⟩ := hrel
    have hwb := HW.out b hext.1
    have HE := Lib.hid hext
    clear hext
    by_cases hlt : k < xs.length
    · obtain ⟨b1, o1, x, e1, _, hx, cx⟩ := HR.out.get hlt
      obtain ⟨rfl, rfl⟩ : b0 = b1 ∧ off = o1 := by injection e1 with e1; injection e1 with e1 e2; exact ⟨e1, e2⟩
      have hwx := HW.out.at hx
      have HX := Lib.hid hx
      clear hx e1
      cases hcl : (cls b == 6)
      · cases hah : lsB b x
        · have HAH := Lib.hid hah
          go_wp2_with (first | (go_at_call 25; refine (class_any b hwb _).mono ?_; rintro e w' ⟨rfl, rfl⟩) | (go_at_call 28; refine (greater_any x b hwx hwb _).mono ?_; rintro e w' ⟨rfl, rfl⟩))
          go_roundw
          case rel => exact ⟨k + 1, b, by omega, by go_num, rfl, HE.out.step HX.out (by simpa using HAH.out), rfl⟩
          case measure => simp [intOf]; omega
        · have HAH := Lib.hid hah
          go_wp2_with (first | (go_at_call 25; refine (class_any b hwb _).mono ?_; rintro e w' ⟨rfl, rfl⟩) | (go_at_call 28; refine (greater_any x b hwx hwb _).mono ?_; rintro e w' ⟨rfl, rfl⟩))
          go_roundw
          case rel => exact ⟨k + 1, x, by omega, by go_num, rfl, HE.out.turn HX.out (by simpa using HAH.out), rfl⟩
          case measure => simp [intOf]; omega
      · have hcl' : cls b = 6 := by simpa using hcl
        have hend : Ext true b xs xs.length := ⟨HE.out.1, fun j y _ _ => by simpa using ext_most hcl' y⟩
        have HEND := Lib.hid hend
        clear hend hcl'
        go_wp2_with (first | (go_at_call 25; refine (class_any b hwb _).mono ?_; rintro e w' ⟨rfl, rfl⟩))
        try rw [Exit.noGoto_ret]
        go_ret2
        exact ⟨b, rfl, HEND.out, rfl⟩
    · obtain rfl : k = xs.length := by omega
      go_wp2
      try rw [Exit.noGoto_ret]
      go_ret2
      exact ⟨b, rfl, HE.out, rfl⟩


/-- Min, Max: of none 0 and false -/
def EndsDone (up : Bool) (xs : List Nat) (W : World) (e : Ending) (w : World) : Prop :=
  ∃ b, e = .returned (.tuple #[.float .f64 b, .bool (decide (0 < xs.length))]) ∧ (0 < xs.length → Ext up b xs xs.length) ∧ (xs.length = 0 → b = 0) ∧ w = W

theorem none_any (A : Option Addr) (c : Nat) (k : Int) (f : Value) (w : World) : Calls Try.prog 27 #[.slice A 0 c, .int .i64 k, f] w fun e w' => e = .returned (.tuple #[.float .f64 0, .bool false]) ∧ w = w' := by
  go_enter Try.func27, Try.ntmps27
  go_wp2
  go_step3
  go_wp2
  try rw [Exit.noGoto_ret]
  go_ret2
  exact ⟨rfl, rfl⟩

theorem min_any (A : Option Addr) (c : Nat) (xs : List Nat) (w : World) (hn : xs.length ≤ 1000) (hwd : Words xs) (hr : Row w w.heap.size A xs.length (xs.map (Value.float .f64))) :
    Calls Try.prog 11 #[.slice A xs.length c] w (EndsDone false xs w) := by
  have HR := Lib.hid hr; have HW := Lib.hid hwd
  clear hr hwd
  by_cases h0 : 0 < xs.length
  · go_enter Try.func11, Try.ntmps11
    go_wp2_with fail
    refine (least_any A c xs _ h0 hn HW.out HR.out).mono ?_
    rintro e w2 ⟨b, rfl, hext, rfl⟩
    have HE := Lib.hid hext
    clear hext
    go_wp2
    go_ret2
    exact ⟨b, by rw [decide_eq_true h0]; rfl, fun _ => HE.out, fun h => by omega, rfl⟩
  · have e0 : xs.length = 0 := by omega
    have hd : decide (0 < xs.length) = false := decide_eq_false h0
    rw [e0]
    have HD := Lib.hid hd; have H0 := Lib.hid e0
    clear hd e0
    go_enter Try.func11, Try.ntmps11
    go_wp2_with fail
    refine (none_any A c _ _ _).mono ?_
    rintro e w2 ⟨rfl, rfl⟩
    go_wp2
    go_ret2
    exact ⟨0, by rw [HD.out]; rfl, fun h => absurd h h0, fun _ => rfl, rfl⟩

theorem max_any (A : Option Addr) (c : Nat) (xs : List Nat) (w : World) (hn : xs.length ≤ 1000) (hwd : Words xs) (hr : Row w w.heap.size A xs.length (xs.map (Value.float .f64))) :
    Calls Try.prog 12 #[.slice A xs.length c] w (EndsDone true xs w) := by
  have HR := Lib.hid hr; have HW := Lib.hid hwd
  clear hr hwd
  by_cases h0 : 0 < xs.length
  · go_enter Try.func12, Try.ntmps12
    go_wp2_with fail
    refine (most_any A c xs _ h0 hn HW.out HR.out).mono ?_
    rintro e w2 ⟨b, rfl, hext, rfl⟩
    have HE := Lib.hid hext
    clear hext
    go_wp2
    go_ret2
    exact ⟨b, by rw [decide_eq_true h0]; rfl, fun _ => HE.out, fun h => by omega, rfl⟩
  · have e0 : xs.length = 0 := by omega
    have hd : decide (0 < xs.length) = false := decide_eq_false h0
    rw [e0]
    have HD := Lib.hid hd; have H0 := Lib.hid e0
    clear hd e0
    go_enter Try.func12, Try.ntmps12
    go_wp2_with fail
    refine (none_any A c _ _ _).mono ?_
    rintro e w2 ⟨rfl, rfl⟩
    go_wp2
    go_ret2
    exact ⟨0, by rw [HD.out]; rfl, fun h => absurd h h0, fun _ => rfl, rfl⟩
end Go.Proofs.Ytohilconpcgjeaa
