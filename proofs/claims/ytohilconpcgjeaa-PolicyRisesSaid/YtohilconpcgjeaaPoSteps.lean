import Derived.Test.YtohilconpcgjeaaPoLaws
import Derived.Test.YtohilconpcgjeaaPoPlain
import Derived.Test.YtohilconpcgjeaaApp
namespace Go.Proofs.Ytohilconpcgjeaa
open Wd Go.ChangeShapes Go.WideShapes Go.RowKit
set_option linter.unusedVariables false

theorem infob2 : (Try.prog.info? 4).map (fun i => (i.zero, i.size, i.bytes)) = some (some (.bool false), 1, 1) := by kernel_rfl
theorem eager_is2 (K G L x : Nat) (b : Bool) (w : World) (h : Fl.geO (Fl.cv x) (Fl.cv L) = b) : Calls Try.prog 22 #[.agg #[.float .f64 K, .float .f64 G, .float .f64 L], .float .f64 x] w (BoolB b w) := by
  subst h; exact eager_any K G L x w
theorem plain_is2 (K G L : Nat) (b : Bool) (w : World) (h : plainB K G L = b) : Calls Try.prog 21 #[.agg #[.float .f64 K, .float .f64 G, .float .f64 L]] w (BoolB b w) := by
  subst h; exact plain_any K G L w

theorem score_len (K G L : Nat) (l : List Bool) (xs : List Value) (hx : xs = l.map Value.bool) (n : Nat) (h : l.length = n) (A : Option Addr) (c : Nat) (w : World) (hn : n ≤ 1000) (hl : Row w w.heap.size A n xs) :
    Calls Try.prog 20 #[.agg #[.float .f64 K, .float .f64 G, .float .f64 L], .slice A n c] w (FloatB (Fl.sc K G l) w) := by
  subst hx h; exact score_any K G L l A c w hn hl

theorem geO_lt (x y : Nat) (a : Fl.nan x = false) (b : Fl.nan y = false) : Fl.geO (Fl.cv x) (Fl.cv y) = !(FloatKind.f64.format.order x y == some .lt) := by
  rw [lt_key, a, b]
  unfold Fl.cv
  rw [a, b]
  show decide (Fl.key y ≤ Fl.key x) = !(true && true && decide (Fl.key x < Fl.key y))
  rw [Bool.eq_iff_iff]
  simp
theorem geO_nan (x y : Nat) (h : Fl.nan x = true ∨ Fl.nan y = true) : Fl.geO (Fl.cv x) (Fl.cv y) = false := by
  unfold Fl.cv
  rcases h with h | h <;> rw [h]
  · rfl
  · cases Fl.nan x <;> rfl
theorem plain_nan (K G L : Nat) (h : Fl.nan L = true) : plainB K G L = false := by
  unfold plainB; rw [h]; simp

set_option maxHeartbeats 4000000 in
theorem policySteps_any (K G L z : Nat) (s : Bool) (l : List Bool) (A : Option Addr) (c : Nat) (w : World) (hn : l.length ≤ 100) (hl : Row w w.heap.size A l.length (l.map Value.bool)) :
    Calls Try.prog 6 #[.agg #[.float .f64 K, .float .f64 G, .float .f64 L], .float .f64 z, .bool s, .slice A l.length c] w (TrueB w) := by
  have HL := Lib.hid hl; clear hl
  go_enter Try.func6, Try.ntmps6
  go_wp2_with fail
  refine (poAwake_any _).mono ?_
  rintro e w1 ⟨rfl, hb1⟩
  have hbx : Cells w1 w.heap.size 32 #[.float .f64 K, .float .f64 G, .float .f64 L] := (Cells.new w _ _).below' hb1
  have hb1' : Below w.heap.size w w1 := ((Below.refl _ _).alloc (Nat.le_refl _) _).trans (hb1.mono (by simp))
  have p0 := hbx.cell 0
  have p1 := hbx.cell 1
  have p2 := hbx.cell 2
  simp only [List.getElem?_toArray, List.getElem?_cons_zero, List.getElem?_cons_succ] at p0 p1 p2
  go_wp2_with fail
  refine (score_any K G L l A c _ (by omega) ((HL.out.below hb1').more hb1'.size)).mono ?_
  rintro e w2 ⟨r, rfl, hr, hcr, hb2⟩
  have HCR := Lib.hid hcr; clear hcr
  have hb2' : Below w.heap.size w w2 := hb1'.trans (hb2.mono hb1'.size)
  have hbx2 := hbx.below' hb2
  clear p0 p1 p2
  have p0 := hbx2.cell 0
  have p1 := hbx2.cell 1
  have p2 := hbx2.cell 2
  simp only [List.getElem?_toArray, List.getElem?_cons_zero, List.getElem?_cons_succ] at p0 p1 p2
  go_wp2_with fail
  refine (next_any K G L r s _).mono ?_
  rintro e w3 ⟨r2, rfl, hr2, hcr2, hb3⟩
  have hcr3 : Fl.cv r2 = Fl.sc K G (l ++ [s]) := by rw [hcr2, HCR.out, Fl.sc_snoc]
  have HCR2 := Lib.hid hcr3; clear hcr2 hcr3
  have hb3' : Below w.heap.size w w3 := hb2'.trans (hb3.mono hb2'.size)
  have hbx3 := hbx2.below' hb3
  clear p0 p1 p2
  have p0 := hbx3.cell 0
  have p1 := hbx3.cell 1
  have p2 := hbx3.cell 2
  simp only [List.getElem?_toArray, List.getElem?_cons_zero, List.getElem?_cons_succ] at p0 p1 p2
  have HR3 := Lib.hid ((HL.out.below hb3').more hb3'.size)
  have hz := hbx3.lt
  have n0 := World.new_ne w3 _ p0
  go_wp2
  go_region_held3 (fun w' => w'.cell? ⟨w.heap.size, 0, none⟩ = some (.float .f64 K) ∧ w'.cell? ⟨w.heap.size, 1, none⟩ = some (.float .f64 G) ∧ w'.cell? ⟨w.heap.size, 2, none⟩ = some (.float .f64 L)) (go_keep)
    (first
      | ((with_reducible refine step_shape (by rfl) ?_); refine wp_append_row _ (.const (.slice none 0 0)) (.tmp 24) 33 (by rfl) 0 4 (.bool false) 1 Try.underlying33 infob2 (by rfl) (.slice none 0 0) 0 [] (by rfl) (own_nil _ _ _) w3.heap.size A l.length c (l.map Value.bool) (by rfl) HR3.out (oneB l) (by unfold maxLen; omega) (by omega) (Nat.zero_le _) ?_; intro v4 w4 hown4 hgr4 hat4; have hz4 : w.heap.size < w4.heap.size := Nat.lt_of_lt_of_le hz hgr4.size; have hbw4 : Below w3.heap.size w3 w4 := below_of_grown_d hgr4; have q04 := hgr4.cell (a := ⟨w.heap.size, 0, none⟩) p0 (by simp [Value.ownBlock]); have q14 := hgr4.cell (a := ⟨w.heap.size, 1, none⟩) p1 (by simp [Value.ownBlock]); have q24 := hgr4.cell (a := ⟨w.heap.size, 2, none⟩) p2 (by simp [Value.ownBlock]); have m0 := World.new_ne w4 _ q04)
      | ((with_reducible refine step_shape (by rfl) ?_); refine wp_append_row _ (.const (.slice none 0 0)) (.tmp 24) 33 (by rfl) 0 4 (.bool false) 1 Try.underlying33 infob2 (by rfl) (.slice none 0 0) 0 [] (by rfl) (own_nil _ _ _) w3.heap.size A l.length c (l.map Value.bool) (by rfl) (HR3.out.below (((Below.refl w3.heap.size w3).drew).alloc (Nat.le_refl _) _)) (oneB l) (by unfold maxLen; omega) (by omega) (Nat.zero_le _) ?_; intro v4 w4 hown4 hgr4 hat4; have hz4 : w.heap.size < w4.heap.size := Nat.lt_of_lt_of_le (by simp; omega) hgr4.size; have hbw4 : Below w3.heap.size w3 w4 := (((Below.refl w3.heap.size w3).drew).alloc (Nat.le_refl _) _).trans ((below_of_grown hgr4).mono (by simp)); have k0 := (Below.cell (((Below.refl w3.heap.size w3).drew).alloc (Nat.le_refl _) (.cells #[.bool s] 4)) (p := ⟨w.heap.size, 0, none⟩) hz).trans p0; have k1 := (Below.cell (((Below.refl w3.heap.size w3).drew).alloc (Nat.le_refl _) (.cells #[.bool s] 4)) (p := ⟨w.heap.size, 1, none⟩) hz).trans p1; have k2 := (Below.cell (((Below.refl w3.heap.size w3).drew).alloc (Nat.le_refl _) (.cells #[.bool s] 4)) (p := ⟨w.heap.size, 2, none⟩) hz).trans p2; have q04 := hgr4.cell (a := ⟨w.heap.size, 0, none⟩) k0 (by simp [Value.ownBlock]); have q14 := hgr4.cell (a := ⟨w.heap.size, 1, none⟩) k1 (by simp [Value.ownBlock]); have q24 := hgr4.cell (a := ⟨w.heap.size, 2, none⟩) k2 (by simp [Value.ownBlock]))
      | ((with_reducible refine step_shape (by rfl) ?_); refine wp_append_row _ (.tmp 25) (.tmp 27) 33 (by rfl) 0 4 (.bool false) 1 Try.underlying33 infob2 (by rfl) v4 (0 + l.length) ([] ++ l.map Value.bool) (by rfl) (hown4.alloc _) _ (some ⟨w4.heap.size, 0, none⟩) 1 1 [.bool s] (by rfl) (Row.one _ _ _) (by simp [Value.oneCell']) (by unfold maxLen; omega) (by omega) (Nat.zero_le _) ?_; intro v5 w5 hown5 hgr5 hat5; obtain ⟨A5, c5, rfl, hrow5⟩ := Row.of_own hown5; have hrow6 : Row w5 w5.heap.size A5 (l.length + 1) (l.map Value.bool ++ [.bool s]) := row_eq hrow5 (Nat.zero_add _); clear hrow5; have hbw5 : Below w3.heap.size w3 w5 := (hbw4.alloc hbw4.size _).grown hgr5 (Nat.le_trans hbw4.size (by simp)) (base_of hat4); have hz5 : w.heap.size < w5.heap.size := Nat.lt_of_lt_of_le hz hbw5.size; have q05 := (hbw5.cell (p := ⟨w.heap.size, 0, none⟩) hz).trans p0; have q15 := (hbw5.cell (p := ⟨w.heap.size, 1, none⟩) hz).trans p1; have q25 := (hbw5.cell (p := ⟨w.heap.size, 2, none⟩) hz).trans p2)
      | ((with_reducible refine step_shape (by rfl) ?_); refine wp_append_row _ (.tmp 25) (.tmp 27) 33 (by rfl) 0 4 (.bool false) 1 Try.underlying33 infob2 (by rfl) v4 (0 + l.length) ([] ++ l.map Value.bool) (by rfl) hown4 _ (some ⟨w3.heap.size, 0, none⟩) 1 1 [.bool s] (by rfl) (Row.of_cells ((Cells.new w3.drew 4 #[.bool s]).grown hgr4 (by simp [Value.ownBlock])) (Nat.lt_of_lt_of_le (by simp) hgr4.size)) (by simp [Value.oneCell']) (by unfold maxLen; omega) (by omega) (Nat.zero_le _) ?_; intro v5 w5 hown5 hgr5 hat5; obtain ⟨A5, c5, rfl, hrow5⟩ := Row.of_own hown5; have hrow6 : Row w5 w5.heap.size A5 (l.length + 1) (l.map Value.bool ++ [.bool s]) := row_eq hrow5 (Nat.zero_add _); clear hrow5; have hbw5 : Below w3.heap.size w3 w5 := hbw4.grown hgr5 hbw4.size (base_of2 hat4 (by simp)); have hz5 : w.heap.size < w5.heap.size := Nat.lt_of_lt_of_le hz hbw5.size; have q05 := (hbw5.cell (p := ⟨w.heap.size, 0, none⟩) hz).trans p0; have q15 := (hbw5.cell (p := ⟨w.heap.size, 1, none⟩) hz).trans p1; have q25 := (hbw5.cell (p := ⟨w.heap.size, 2, none⟩) hz).trans p2)
      | (go_at_call 20; refine (score_len K G L (l ++ [s]) (l.map Value.bool ++ [.bool s]) (by simp) (l.length + 1) (by simp) A5 c5 _ (by omega) hrow6).mono ?_; rintro e w6 ⟨r6, rfl, hr6, hc6, hb6⟩; have hbw6 : Below w3.heap.size w3 w6 := hbw5.trans (hb6.mono hbw5.size); have hs6 : sameB r6 r2 = true := decide_eq_true (rk_cv hr6 hr2 (hc6.trans HCR2.out.symm)); have HC6 := Lib.hid hc6; clear hc6; have q06 := (hbw6.cell (p := ⟨w.heap.size, 0, none⟩) hz).trans p0; have q16 := (hbw6.cell (p := ⟨w.heap.size, 1, none⟩) hz).trans p1; have q26 := (hbw6.cell (p := ⟨w.heap.size, 2, none⟩) hz).trans p2)
      | (go_at_call 15; refine (refSame_is r6 r2 true hs6 _).mono ?_; rintro e w7 ⟨rfl, rfl⟩))
  all_goals
    have hb6' : Below w.heap.size w w6 := hb3'.trans (hbw6.mono hb3'.size)
    have hbx6 := hbx3.below' hbw6
    have HBX := Lib.hid hbx6
    clear hbx6
    have hz6 := HBX.out.lt
    have sz := order_self z
    have sl := order_self L
    have el := neq_self L
    cases a : Fl.nan z
    · cases b : Fl.nan L
      · rw [a] at sz
        rw [b] at sl el
        have hge := geO_lt z L a b
        have hlt : ∃ t, (FloatKind.f64.format.order z L == some .lt) = t := ⟨_, rfl⟩
        obtain ⟨t, hlt⟩ := hlt
        rw [hlt] at hge
        have HGE := Lib.hid hge
        clear hge a b
        go_wp2
        go_region_held (fun w' => w'.cell? ⟨w.heap.size, 0, none⟩ = some (.float .f64 K) ∧ w'.cell? ⟨w.heap.size, 1, none⟩ = some (.float .f64 G) ∧ w'.cell? ⟨w.heap.size, 2, none⟩ = some (.float .f64 L)) (go_keep)
          (first
            | (go_at_call 22; refine (eager_is2 K G L z (!t) _ HGE.out).mono ?_; rintro e w7 ⟨rfl, hb7⟩; have d0 := (hb7.cell (p := ⟨w.heap.size, 0, none⟩) hz6).trans q06; have d1 := (hb7.cell (p := ⟨w.heap.size, 1, none⟩) hz6).trans q16; have d2 := (hb7.cell (p := ⟨w.heap.size, 2, none⟩) hz6).trans q26))
        all_goals (cases t <;> (go_wp2; go_ret; exact ⟨rfl, hb6'.trans ((undrew hb7).mono hb6'.size)⟩))
      · rw [a] at sz
        rw [b] at sl el
        have hge := geO_nan z L (.inr b)
        have hpl := plain_nan K G L b
        have HGE := Lib.hid hge
        have HPL := Lib.hid hpl
        clear hge hpl a b
        go_wp2_with fail
        refine (eager_is2 K G L z false _ HGE.out).mono ?_
        rintro e w7 ⟨rfl, hb7⟩
        have d0 := (hb7.cell (p := ⟨w.heap.size, 0, none⟩) hz6).trans q06
        have d1 := (hb7.cell (p := ⟨w.heap.size, 1, none⟩) hz6).trans q16
        have d2 := (hb7.cell (p := ⟨w.heap.size, 2, none⟩) hz6).trans q26
        go_wp2_with fail
        refine (plain_is2 K G L false _ HPL.out).mono ?_
        rintro e w8 ⟨rfl, hb8⟩
        go_wp2
        go_ret
        exact ⟨rfl, hb6'.trans ((hb7.trans (hb8.mono hb7.size)).mono hb6'.size)⟩
    · rw [a] at sz
      have hge := geO_nan z L (.inl a)
      have HGE := Lib.hid hge
      clear hge
      cases b : Fl.nan L
      · rw [b] at sl el
        clear a b
        go_wp2_with fail
        refine (eager_is2 K G L z false _ HGE.out).mono ?_
        rintro e w7 ⟨rfl, hb7⟩
        have d0 := (hb7.cell (p := ⟨w.heap.size, 0, none⟩) hz6).trans q06
        have d1 := (hb7.cell (p := ⟨w.heap.size, 1, none⟩) hz6).trans q16
        have d2 := (hb7.cell (p := ⟨w.heap.size, 2, none⟩) hz6).trans q26
        go_wp2
        go_ret
        exact ⟨rfl, hb6'.trans (hb7.mono hb6'.size)⟩
      · have hpl := plain_nan K G L b
        have HPL := Lib.hid hpl
        rw [b] at sl el
        clear hpl a b
        go_wp2_with fail
        refine (eager_is2 K G L z false _ HGE.out).mono ?_
        rintro e w7 ⟨rfl, hb7⟩
        have d0 := (hb7.cell (p := ⟨w.heap.size, 0, none⟩) hz6).trans q06
        have d1 := (hb7.cell (p := ⟨w.heap.size, 1, none⟩) hz6).trans q16
        have d2 := (hb7.cell (p := ⟨w.heap.size, 2, none⟩) hz6).trans q26
        go_wp2_with fail
        refine (plain_is2 K G L false _ HPL.out).mono ?_
        rintro e w8 ⟨rfl, hb8⟩
        go_wp2
        go_ret
        exact ⟨rfl, hb6'.trans ((hb7.trans (hb8.mono hb7.size)).mono hb6'.size)⟩

theorem policySteps_far (K G L z : Nat) (s : Bool) (n : Nat) (A : Option Addr) (c : Nat) (w : World) (hn : 100 < n) :
    Calls Try.prog 6 #[.agg #[.float .f64 K, .float .f64 G, .float .f64 L], .float .f64 z, .bool s, .slice A n c] w (TrueB w) := by
  have hd : decide ((100 : Int) < (n : Int)) = true := decide_eq_true (by omega)
  go_enter Try.func6, Try.ntmps6
  go_wp2_with fail
  refine (poAwake_any _).mono ?_
  rintro e w1 ⟨rfl, hb1⟩
  go_wp2
  go_ret
  exact ⟨rfl, ((Below.refl _ _).alloc (Nat.le_refl _) _).trans (hb1.mono (by simp))⟩

theorem policySteps_walk (K G L z : Nat) (_ : (Lit.float .f64 z).wf = true) (s : Bool) (l : List Bool) (A : Option Addr) (c : Nat) {w : World} (hr : Row w w.heap.size A l.length (l.map Value.bool)) (_ : ∀ y ∈ l, True) (_ : l.length ≤ maxLen) (_ : World) :
    Calls Try.prog 6 #[.agg #[.float .f64 K, .float .f64 G, .float .f64 L], .float .f64 z, .bool s, .slice A l.length c] w (TrueB w) := by
  by_cases hn : l.length ≤ 100
  · exact policySteps_any K G L z s l A c w hn hr
  · exact policySteps_far K G L z s l.length A c w (by omega)
end Go.Proofs.Ytohilconpcgjeaa
