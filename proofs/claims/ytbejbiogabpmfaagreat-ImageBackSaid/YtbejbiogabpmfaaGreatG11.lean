import Derived.Test.YtbejbiogabpmfaaGreatG10
import Derived.Test.YtbejbiogabpmfaaGreatG05
import Derived.Deep.DeepCutAuto

namespace Go.Proofs.YtbejbiogabpmfaaGreat
open Wd U Go.RowKit Go.ChangeShapes Go.WideShapes Go.Sort
set_option linter.unusedVariables false

/-! whether an effect may be, plainly -/
@[irreducible] def ndB (n : Int) : Bool := decide (1 ≤ n ∧ n ≤ 1048576)
@[irreducible] def nmB (s : ByteArray) : Bool := decide (nameN s.toList = 0)
@[irreducible] def emB (s : ByteArray) : Bool := s.toList.isEmpty
def Eff.place (e : Eff) : Bool := ndB e.dir && nmB e.name
def Eff.noPlace (e : Eff) : Bool := decide (e.dir = 0) && emB e.name
def Eff.noOther (e : Eff) : Bool := decide (e.dst = 0) && emB e.other
def Eff.noData (e : Eff) : Bool := decide (e.data.length = 0)
def Eff.mayBe (e : Eff) : Bool :=
  if e.kind = 1 then e.place && e.noOther && e.noData && (decide (e.page = 1) || decide (e.page = 2)) && decide (e.size = 0)
  else if e.kind = 2 ∨ e.kind = 3 ∨ e.kind = 4 then e.place && e.noOther && e.noData && decide (e.page = 0) && decide (e.size = 0)
  else if e.kind = 5 then e.place && ndB e.dst && nmB e.other && e.noData && decide (e.page = 0) && decide (e.size = 0)
  else if e.kind = 6 then e.noPlace && e.noOther && e.noData && decide (e.page = 0) && decide (0 ≤ e.size) && decide (e.size ≤ 16384)
  else if e.kind = 7 then e.noPlace && e.noOther && decide (e.data.length = 256) && decide (0 ≤ e.page) && decide (e.page ≤ 63) && decide (e.size ≤ 16384) && decide (256 * e.page < e.size)
  else if e.kind = 8 then e.noPlace && e.noOther && e.noData && decide (e.page = 0) && decide (e.size = 0)
  else false
def Eff.check (e : Eff) : Bool := e.mayBe && ndB e.ino
def errB (b : Bool) (bad : Int) : Int := if b then 0 else bad

theorem number_any (n : Int) (w : World) : Calls Tryz.prog 97 #[.int .i64 n] w fun e w' => e = .returned (.bool (ndB n)) ∧ w = w' := by
  by_cases h1 : n ≥ 1
  · have q1 : decide (n ≥ 1) = true := decide_eq_true h1
    by_cases h2 : n ≤ 1048576
    · have q2 : decide (n ≤ 1048576) = true := decide_eq_true h2
      have e : ndB n = true := by unfold ndB; exact decide_eq_true ⟨h1, h2⟩
      have E := Lib.hid e
      clear e h1 h2
      go_enter Tryz.func97, Tryz.ntmps97
      go_wp2
      go_ret
      exact ⟨by rw [E.out]; rfl, rfl⟩
    · have q2 : decide (n ≤ 1048576) = false := decide_eq_false h2
      have e : ndB n = false := by unfold ndB; exact decide_eq_false fun h => h2 h.2
      have E := Lib.hid e
      clear e h1 h2
      go_enter Tryz.func97, Tryz.ntmps97
      go_wp2
      go_ret
      exact ⟨by rw [E.out]; rfl, rfl⟩
  · have q1 : decide (n ≥ 1) = false := decide_eq_false h1
    have e : ndB n = false := by unfold ndB; exact decide_eq_false fun h => h1 h.1
    have E := Lib.hid e
    clear e h1
    go_enter Tryz.func97, Tryz.ntmps97
    go_wp2
    go_ret
    exact ⟨by rw [E.out]; rfl, rfl⟩
theorem name_is (s : ByteArray) (hs : s.size ≤ 1000) (w : World) : Calls Tryz.prog 98 #[.string s] w fun e w' => ∃ n : Int, e = .returned (.int .i64 n) ∧ (n == 0) = nmB s ∧ w = w' := by
  refine (refName_any s hs w).mono ?_
  rintro e w' ⟨rfl, rfl⟩
  exact ⟨_, rfl, by unfold nmB; rfl, rfl⟩

set_option maxRecDepth 100000 in
set_option maxHeartbeats 4000000 in
set_option linter.unusedSimpArgs false in
theorem refCheck_any (e : Eff) (w : World) (ok : e.Ok w w.heap.size) (h1 : e.name.size ≤ 100) (h2 : e.other.size ≤ 100) (h3 : e.data.length ≤ 300) :
    Calls Tryz.prog 62 #[e.val] w (Grows (.int .i64 (errB e.check 92)) w) := by
  obtain ⟨kind, ino, dir, dst, page, size, name, other, A, cp, data⟩ := e
  have hp : i64R page := ok.page
  unfold i64R at hp
  obtain ⟨n, hn⟩ : ∃ n, data.length = n := ⟨_, rfl⟩
  obtain ⟨P, hP⟩ : ∃ P, Eff.place ⟨kind, ino, dir, dst, page, size, name, other, A, cp, data⟩ = P := ⟨_, rfl⟩
  obtain ⟨NP, hNP⟩ : ∃ NP, Eff.noPlace ⟨kind, ino, dir, dst, page, size, name, other, A, cp, data⟩ = NP := ⟨_, rfl⟩
  obtain ⟨NO, hNO⟩ : ∃ NO, Eff.noOther ⟨kind, ino, dir, dst, page, size, name, other, A, cp, data⟩ = NO := ⟨_, rfl⟩
  obtain ⟨ND, hND⟩ : ∃ ND, Eff.noData ⟨kind, ino, dir, dst, page, size, name, other, A, cp, data⟩ = ND := ⟨_, rfl⟩
  obtain ⟨C, hC⟩ : ∃ C, Eff.mayBe ⟨kind, ino, dir, dst, page, size, name, other, A, cp, data⟩ = C := ⟨_, rfl⟩
  have hval : Eff.val ⟨kind, ino, dir, dst, page, size, name, other, A, cp, data⟩ = .agg #[.int .i64 kind, .int .i64 ino, .int .i64 dir, .int .i64 dst, .int .i64 page, .int .i64 size, .string name, .string other, .slice A n cp] := by unfold Eff.val; rw [hn]
  have hck : errB (Eff.check ⟨kind, ino, dir, dst, page, size, name, other, A, cp, data⟩) 92 = errB (C && ndB ino) 92 := by unfold Eff.check; rw [hC]
  rw [hval, hck]
  have hn3 : n ≤ 300 := by rw [← hn]; exact h3
  have HP := Lib.hid hP; have HNP := Lib.hid hNP; have HNO := Lib.hid hNO; have HND := Lib.hid hND; have HC := Lib.hid hC; have HN := Lib.hid hn
  clear hP hNP hNO hND hC hval hck ok h3 hn
  go_enter Tryz.func62, Tryz.ntmps62
  go_upto_region 1 with fail
  obtain ⟨w1, hw1⟩ : ∃ w1, w.alloc (.cells #[.int .i64 kind, .int .i64 ino, .int .i64 dir, .int .i64 dst, .int .i64 page, .int .i64 size, .string name, .string other, .slice A n cp] 64) = w1 := ⟨_, rfl⟩
  have hg1 : ∃ q os, w1 = grow (w.drewN q) os := by rw [← hw1]; exact grow_one w _
  have hc : Cells w1 w.heap.size 64 #[.int .i64 kind, .int .i64 ino, .int .i64 dir, .int .i64 dst, .int .i64 page, .int .i64 size, .string name, .string other, .slice A n cp] := by rw [← hw1]; exact Cells.new _ _ _
  obtain ⟨g, hg⟩ : ∃ g, w.heap.size = g := ⟨_, rfl⟩
  rw [hg] at hc ⊢
  rw [hw1]
  have HG1 := Lib.hid hg1
  have c0 : w1.cell? ⟨g, 0, none⟩ = some (.int .i64 kind) := hc.cell 0
  have c1 : w1.cell? ⟨g, 1, none⟩ = some (.int .i64 ino) := hc.cell 1
  have c2 : w1.cell? ⟨g, 2, none⟩ = some (.int .i64 dir) := hc.cell 2
  have c3 : w1.cell? ⟨g, 3, none⟩ = some (.int .i64 dst) := hc.cell 3
  have c4 : w1.cell? ⟨g, 4, none⟩ = some (.int .i64 page) := hc.cell 4
  have c5 : w1.cell? ⟨g, 5, none⟩ = some (.int .i64 size) := hc.cell 5
  have c6 : w1.cell? ⟨g, 6, none⟩ = some (.string name) := hc.cell 6
  have c7 : w1.cell? ⟨g, 7, none⟩ = some (.string other) := hc.cell 7
  have c8 : w1.cell? ⟨g, 8, none⟩ = some (.slice A n cp) := hc.cell 8
  clear hw1 hg1 hc hg
  have h1' : name.size ≤ 1000 := Nat.le_trans h1 (by omega)
  have h2' : other.size ≤ 1000 := Nat.le_trans h2 (by omega)
  clear h1 h2
  go_cut [3] from 8 to 16 (fun b wx => b = .bool P ∧ wx = w1)
  case first =>
    cases hd : ndB dir
    · have e : P = false := by rw [← HP.out]; unfold Eff.place; show (ndB dir && nmB name) = false; rw [hd]; rfl
      have E := Lib.hid e; have HD := Lib.hid hd
      clear e hd
      go_wp2_with (go_at_call 97; refine (number_any dir _).mono ?_; rintro e w' ⟨rfl, rfl⟩; rw [HD.out])
      go_meet
      exact ⟨by rw [E.out], rfl⟩
    · cases hm : nmB name
      · have e : P = false := by rw [← HP.out]; unfold Eff.place; show (ndB dir && nmB name) = false; rw [hd, hm]; rfl
        have E := Lib.hid e; have HD := Lib.hid hd; have HM := Lib.hid hm
        clear e hd hm
        go_wp2_with (first
          | (go_at_call 97; refine (number_any dir _).mono ?_; rintro e w' ⟨rfl, rfl⟩; rw [HD.out])
          | (go_at_call 98; refine (name_is name h1' _).mono ?_; rintro e w' ⟨nn, rfl, hnn, rfl⟩; rw [HM.out] at hnn))
        go_meet
        exact ⟨by rw [E.out], rfl⟩
      · have e : P = true := by rw [← HP.out]; unfold Eff.place; show (ndB dir && nmB name) = true; rw [hd, hm]; rfl
        have E := Lib.hid e; have HD := Lib.hid hd; have HM := Lib.hid hm
        clear e hd hm
        go_wp2_with (first
          | (go_at_call 97; refine (number_any dir _).mono ?_; rintro e w' ⟨rfl, rfl⟩; rw [HD.out])
          | (go_at_call 98; refine (name_is name h1' _).mono ?_; rintro e w' ⟨nn, rfl, hnn, rfl⟩; rw [HM.out] at hnn))
        go_meet
        exact ⟨by rw [E.out], rfl⟩
  case rest =>
  obtain ⟨rfl, rfl⟩ := hcut
  go_upto_region 2 with fail
  go_cut [4] from 17 to 24 (fun b wx => b = .bool NP ∧ wx = wc)
  case first =>
    by_cases hd : dir = 0
    · have q0 : (dir == 0) = true := by simpa using hd
      cases hm : name.toList.isEmpty
      · have e : NP = false := by rw [← HNP.out]; unfold Eff.noPlace emB; show (decide (dir = 0) && name.toList.isEmpty) = false; rw [hm]; simp
        have E := Lib.hid e
        clear e hd
        go_wp2_with fail
        go_meet
        exact ⟨by rw [E.out], rfl⟩
      · have e : NP = true := by rw [← HNP.out]; unfold Eff.noPlace emB; show (decide (dir = 0) && name.toList.isEmpty) = true; rw [hm]; simp [hd]
        have E := Lib.hid e
        clear e hd
        go_wp2_with fail
        go_meet
        exact ⟨by rw [E.out], rfl⟩
    · have q0 : (dir == 0) = false := by simpa using hd
      have e : NP = false := by rw [← HNP.out]; unfold Eff.noPlace; show (decide (dir = 0) && emB name) = false; simp [hd]
      have E := Lib.hid e
      clear e hd
      go_wp2_with fail
      go_meet
      exact ⟨by rw [E.out], rfl⟩
  case rest =>
  obtain ⟨rfl, rfl⟩ := hcut
  go_upto_region 3 with fail
  go_cut [5] from 25 to 32 (fun b wx => b = .bool NO ∧ wx = wc)
  case first =>
    by_cases hd : dst = 0
    · have q0 : (dst == 0) = true := by simpa using hd
      cases hm : other.toList.isEmpty
      · have e : NO = false := by rw [← HNO.out]; unfold Eff.noOther emB; show (decide (dst = 0) && other.toList.isEmpty) = false; rw [hm]; simp
        have E := Lib.hid e
        clear e hd
        go_wp2_with fail
        go_meet
        exact ⟨by rw [E.out], rfl⟩
      · have e : NO = true := by rw [← HNO.out]; unfold Eff.noOther emB; show (decide (dst = 0) && other.toList.isEmpty) = true; rw [hm]; simp [hd]
        have E := Lib.hid e
        clear e hd
        go_wp2_with fail
        go_meet
        exact ⟨by rw [E.out], rfl⟩
    · have q0 : (dst == 0) = false := by simpa using hd
      have e : NO = false := by rw [← HNO.out]; unfold Eff.noOther; show (decide (dst = 0) && emB other) = false; simp [hd]
      have E := Lib.hid e
      clear e hd
      go_wp2_with fail
      go_meet
      exact ⟨by rw [E.out], rfl⟩
  case rest =>
  obtain ⟨rfl, rfl⟩ := hcut
  go_upto_region 4 with fail
  go_cut [6] from 33 to 36 (fun b wx => b = .bool ND ∧ wx = wc)
  case first =>
    by_cases hd : n = 0
    · have q0 : ((n : Int) == 0) = true := by simp [hd]
      have e : ND = true := by rw [← HND.out]; unfold Eff.noData; show decide (data.length = 0) = true; rw [HN.out]; simp [hd]
      have E := Lib.hid e
      clear e hd
      go_wp2_with fail
      go_meet
      exact ⟨by rw [E.out], rfl⟩
    · have q0 : ((n : Int) == 0) = false := by simp; omega
      have e : ND = false := by rw [← HND.out]; unfold Eff.noData; show decide (data.length = 0) = false; rw [HN.out]; simp [hd]
      have E := Lib.hid e
      clear e hd
      go_wp2_with fail
      go_meet
      exact ⟨by rw [E.out], rfl⟩
  case rest =>
  obtain ⟨rfl, rfl⟩ := hcut
  by_cases k1 : kind = 1
  · subst k1
    cases P
    · have e : C = false := by rw [← HC.out]; simp only [Eff.mayBe, HP.out, HNP.out, HNO.out, HND.out] <;> simp []
      have E := Lib.hid e
      clear e
      go_wp2_with fail
      go_ret
      exact ⟨by rw [E.out]; rfl, HG1.out⟩
    · cases NO
      · have e : C = false := by rw [← HC.out]; simp only [Eff.mayBe, HP.out, HNP.out, HNO.out, HND.out] <;> simp []
        have E := Lib.hid e
        clear e
        go_wp2_with fail
        go_ret
        exact ⟨by rw [E.out]; rfl, HG1.out⟩
      · cases ND
        · have e : C = false := by rw [← HC.out]; simp only [Eff.mayBe, HP.out, HNP.out, HNO.out, HND.out] <;> simp []
          have E := Lib.hid e
          clear e
          go_wp2_with fail
          go_ret
          exact ⟨by rw [E.out]; rfl, HG1.out⟩
        · by_cases h11a : page = 1
          · have qh11a : (page == 1) = true := by simpa using h11a
            by_cases h12 : size = 0
            · have qh120 : (size == 0) = true := by simpa using h12
              have e : C = true := by rw [← HC.out]; simp only [Eff.mayBe, HP.out, HNP.out, HNO.out, HND.out] <;> simp [h11a, h12]
              have E := Lib.hid e
              clear e h11a h12
              cases hi : ndB ino
              · have HI := Lib.hid hi
                clear hi
                go_wp2_with (first
                  | (go_at_call 97; refine (number_any ino _).mono ?_; rintro e w' ⟨rfl, rfl⟩; rw [HI.out]))
                go_ret
                exact ⟨by rw [E.out, HI.out]; rfl, HG1.out⟩
              · have HI := Lib.hid hi
                clear hi
                go_wp2_with (first
                  | (go_at_call 97; refine (number_any ino _).mono ?_; rintro e w' ⟨rfl, rfl⟩; rw [HI.out]))
                go_ret
                exact ⟨by rw [E.out, HI.out]; rfl, HG1.out⟩
            · have qh120 : (size == 0) = false := by simpa using h12
              have e : C = false := by rw [← HC.out]; simp only [Eff.mayBe, HP.out, HNP.out, HNO.out, HND.out] <;> simp [h11a, h12]
              have E := Lib.hid e
              clear e h11a h12
              go_wp2_with fail
              go_ret
              exact ⟨by rw [E.out]; rfl, HG1.out⟩
          · have qh11a : (page == 1) = false := by simpa using h11a
            by_cases h11b : page = 2
            · have qh11b : (page == 2) = true := by simpa using h11b
              by_cases h13 : size = 0
              · have qh130 : (size == 0) = true := by simpa using h13
                have e : C = true := by rw [← HC.out]; simp only [Eff.mayBe, HP.out, HNP.out, HNO.out, HND.out] <;> simp [h11a, h11b, h13]
                have E := Lib.hid e
                clear e h11a h11b h13
                cases hi : ndB ino
                · have HI := Lib.hid hi
                  clear hi
                  go_wp2_with (first
                    | (go_at_call 97; refine (number_any ino _).mono ?_; rintro e w' ⟨rfl, rfl⟩; rw [HI.out]))
                  go_ret
                  exact ⟨by rw [E.out, HI.out]; rfl, HG1.out⟩
                · have HI := Lib.hid hi
                  clear hi
                  go_wp2_with (first
                    | (go_at_call 97; refine (number_any ino _).mono ?_; rintro e w' ⟨rfl, rfl⟩; rw [HI.out]))
                  go_ret
                  exact ⟨by rw [E.out, HI.out]; rfl, HG1.out⟩
              · have qh130 : (size == 0) = false := by simpa using h13
                have e : C = false := by rw [← HC.out]; simp only [Eff.mayBe, HP.out, HNP.out, HNO.out, HND.out] <;> simp [h11a, h11b, h13]
                have E := Lib.hid e
                clear e h11a h11b h13
                go_wp2_with fail
                go_ret
                exact ⟨by rw [E.out]; rfl, HG1.out⟩
            · have qh11b : (page == 2) = false := by simpa using h11b
              have e : C = false := by rw [← HC.out]; simp only [Eff.mayBe, HP.out, HNP.out, HNO.out, HND.out] <;> simp [h11a, h11b]
              have E := Lib.hid e
              clear e h11a h11b
              go_wp2_with fail
              go_ret
              exact ⟨by rw [E.out]; rfl, HG1.out⟩
  have kq1 : (kind == 1) = false := by simpa using k1
  by_cases k2 : kind = 2
  · subst k2
    cases P
    · have e : C = false := by rw [← HC.out]; simp only [Eff.mayBe, HP.out, HNP.out, HNO.out, HND.out] <;> simp []
      have E := Lib.hid e
      clear e
      go_wp2_with fail
      go_ret
      exact ⟨by rw [E.out]; rfl, HG1.out⟩
    · cases NO
      · have e : C = false := by rw [← HC.out]; simp only [Eff.mayBe, HP.out, HNP.out, HNO.out, HND.out] <;> simp []
        have E := Lib.hid e
        clear e
        go_wp2_with fail
        go_ret
        exact ⟨by rw [E.out]; rfl, HG1.out⟩
      · cases ND
        · have e : C = false := by rw [← HC.out]; simp only [Eff.mayBe, HP.out, HNP.out, HNO.out, HND.out] <;> simp []
          have E := Lib.hid e
          clear e
          go_wp2_with fail
          go_ret
          exact ⟨by rw [E.out]; rfl, HG1.out⟩
        · by_cases h14 : page = 0
          · have qh140 : (page == 0) = true := by simpa using h14
            by_cases h15 : size = 0
            · have qh150 : (size == 0) = true := by simpa using h15
              have e : C = true := by rw [← HC.out]; simp only [Eff.mayBe, HP.out, HNP.out, HNO.out, HND.out] <;> simp [h14, h15]
              have E := Lib.hid e
              clear e h14 h15
              cases hi : ndB ino
              · have HI := Lib.hid hi
                clear hi
                go_wp2_with (first
                  | (go_at_call 97; refine (number_any ino _).mono ?_; rintro e w' ⟨rfl, rfl⟩; rw [HI.out]))
                go_ret
                exact ⟨by rw [E.out, HI.out]; rfl, HG1.out⟩
              · have HI := Lib.hid hi
                clear hi
                go_wp2_with (first
                  | (go_at_call 97; refine (number_any ino _).mono ?_; rintro e w' ⟨rfl, rfl⟩; rw [HI.out]))
                go_ret
                exact ⟨by rw [E.out, HI.out]; rfl, HG1.out⟩
            · have qh150 : (size == 0) = false := by simpa using h15
              have e : C = false := by rw [← HC.out]; simp only [Eff.mayBe, HP.out, HNP.out, HNO.out, HND.out] <;> simp [h14, h15]
              have E := Lib.hid e
              clear e h14 h15
              go_wp2_with fail
              go_ret
              exact ⟨by rw [E.out]; rfl, HG1.out⟩
          · have qh140 : (page == 0) = false := by simpa using h14
            have e : C = false := by rw [← HC.out]; simp only [Eff.mayBe, HP.out, HNP.out, HNO.out, HND.out] <;> simp [h14]
            have E := Lib.hid e
            clear e h14
            go_wp2_with fail
            go_ret
            exact ⟨by rw [E.out]; rfl, HG1.out⟩
  have kq2 : (kind == 2) = false := by simpa using k2
  by_cases k3 : kind = 3
  · subst k3
    cases P
    · have e : C = false := by rw [← HC.out]; simp only [Eff.mayBe, HP.out, HNP.out, HNO.out, HND.out] <;> simp []
      have E := Lib.hid e
      clear e
      go_wp2_with fail
      go_ret
      exact ⟨by rw [E.out]; rfl, HG1.out⟩
    · cases NO
      · have e : C = false := by rw [← HC.out]; simp only [Eff.mayBe, HP.out, HNP.out, HNO.out, HND.out] <;> simp []
        have E := Lib.hid e
        clear e
        go_wp2_with fail
        go_ret
        exact ⟨by rw [E.out]; rfl, HG1.out⟩
      · cases ND
        · have e : C = false := by rw [← HC.out]; simp only [Eff.mayBe, HP.out, HNP.out, HNO.out, HND.out] <;> simp []
          have E := Lib.hid e
          clear e
          go_wp2_with fail
          go_ret
          exact ⟨by rw [E.out]; rfl, HG1.out⟩
        · by_cases h16 : page = 0
          · have qh160 : (page == 0) = true := by simpa using h16
            by_cases h17 : size = 0
            · have qh170 : (size == 0) = true := by simpa using h17
              have e : C = true := by rw [← HC.out]; simp only [Eff.mayBe, HP.out, HNP.out, HNO.out, HND.out] <;> simp [h16, h17]
              have E := Lib.hid e
              clear e h16 h17
              cases hi : ndB ino
              · have HI := Lib.hid hi
                clear hi
                go_wp2_with (first
                  | (go_at_call 97; refine (number_any ino _).mono ?_; rintro e w' ⟨rfl, rfl⟩; rw [HI.out]))
                go_ret
                exact ⟨by rw [E.out, HI.out]; rfl, HG1.out⟩
              · have HI := Lib.hid hi
                clear hi
                go_wp2_with (first
                  | (go_at_call 97; refine (number_any ino _).mono ?_; rintro e w' ⟨rfl, rfl⟩; rw [HI.out]))
                go_ret
                exact ⟨by rw [E.out, HI.out]; rfl, HG1.out⟩
            · have qh170 : (size == 0) = false := by simpa using h17
              have e : C = false := by rw [← HC.out]; simp only [Eff.mayBe, HP.out, HNP.out, HNO.out, HND.out] <;> simp [h16, h17]
              have E := Lib.hid e
              clear e h16 h17
              go_wp2_with fail
              go_ret
              exact ⟨by rw [E.out]; rfl, HG1.out⟩
          · have qh160 : (page == 0) = false := by simpa using h16
            have e : C = false := by rw [← HC.out]; simp only [Eff.mayBe, HP.out, HNP.out, HNO.out, HND.out] <;> simp [h16]
            have E := Lib.hid e
            clear e h16
            go_wp2_with fail
            go_ret
            exact ⟨by rw [E.out]; rfl, HG1.out⟩
  have kq3 : (kind == 3) = false := by simpa using k3
  by_cases k4 : kind = 4
  · subst k4
    cases P
    · have e : C = false := by rw [← HC.out]; simp only [Eff.mayBe, HP.out, HNP.out, HNO.out, HND.out] <;> simp []
      have E := Lib.hid e
      clear e
      go_wp2_with fail
      go_ret
      exact ⟨by rw [E.out]; rfl, HG1.out⟩
    · cases NO
      · have e : C = false := by rw [← HC.out]; simp only [Eff.mayBe, HP.out, HNP.out, HNO.out, HND.out] <;> simp []
        have E := Lib.hid e
        clear e
        go_wp2_with fail
        go_ret
        exact ⟨by rw [E.out]; rfl, HG1.out⟩
      · cases ND
        · have e : C = false := by rw [← HC.out]; simp only [Eff.mayBe, HP.out, HNP.out, HNO.out, HND.out] <;> simp []
          have E := Lib.hid e
          clear e
          go_wp2_with fail
          go_ret
          exact ⟨by rw [E.out]; rfl, HG1.out⟩
        · by_cases h18 : page = 0
          · have qh180 : (page == 0) = true := by simpa using h18
            by_cases h19 : size = 0
            · have qh190 : (size == 0) = true := by simpa using h19
              have e : C = true := by rw [← HC.out]; simp only [Eff.mayBe, HP.out, HNP.out, HNO.out, HND.out] <;> simp [h18, h19]
              have E := Lib.hid e
              clear e h18 h19
              cases hi : ndB ino
              · have HI := Lib.hid hi
                clear hi
                go_wp2_with (first
                  | (go_at_call 97; refine (number_any ino _).mono ?_; rintro e w' ⟨rfl, rfl⟩; rw [HI.out]))
                go_ret
                exact ⟨by rw [E.out, HI.out]; rfl, HG1.out⟩
              · have HI := Lib.hid hi
                clear hi
                go_wp2_with (first
                  | (go_at_call 97; refine (number_any ino _).mono ?_; rintro e w' ⟨rfl, rfl⟩; rw [HI.out]))
                go_ret
                exact ⟨by rw [E.out, HI.out]; rfl, HG1.out⟩
            · have qh190 : (size == 0) = false := by simpa using h19
              have e : C = false := by rw [← HC.out]; simp only [Eff.mayBe, HP.out, HNP.out, HNO.out, HND.out] <;> simp [h18, h19]
              have E := Lib.hid e
              clear e h18 h19
              go_wp2_with fail
              go_ret
              exact ⟨by rw [E.out]; rfl, HG1.out⟩
          · have qh180 : (page == 0) = false := by simpa using h18
            have e : C = false := by rw [← HC.out]; simp only [Eff.mayBe, HP.out, HNP.out, HNO.out, HND.out] <;> simp [h18]
            have E := Lib.hid e
            clear e h18
            go_wp2_with fail
            go_ret
            exact ⟨by rw [E.out]; rfl, HG1.out⟩
  have kq4 : (kind == 4) = false := by simpa using k4
  by_cases k5 : kind = 5
  · subst k5
    cases P
    · have e : C = false := by rw [← HC.out]; simp only [Eff.mayBe, HP.out, HNP.out, HNO.out, HND.out] <;> simp []
      have E := Lib.hid e
      clear e
      go_wp2_with fail
      go_ret
      exact ⟨by rw [E.out]; rfl, HG1.out⟩
    · cases ht : ndB dst
      · have HT := Lib.hid ht
        have HM : _ := Lib.hid (rfl : nmB other = nmB other)
        have e : C = false := by rw [← HC.out]; simp only [Eff.mayBe, HP.out, HNP.out, HNO.out, HND.out] <;> simp [ht]
        have E := Lib.hid e
        clear e ht
        go_wp2_with (first
          | (go_at_call 97; refine (number_any dst _).mono ?_; rintro e w' ⟨rfl, rfl⟩; rw [HT.out])
          | (go_at_call 98; refine (name_is other h2' _).mono ?_; rintro e w' ⟨nn, rfl, hnn, rfl⟩; rw [HM.out] at hnn))
        go_ret
        exact ⟨by rw [E.out]; rfl, HG1.out⟩
      · cases hm : nmB other
        · have HT := Lib.hid ht; have HM := Lib.hid hm
          have e : C = false := by rw [← HC.out]; simp only [Eff.mayBe, HP.out, HNP.out, HNO.out, HND.out] <;> simp [ht, hm]
          have E := Lib.hid e
          clear e ht hm
          go_wp2_with (first
            | (go_at_call 97; refine (number_any dst _).mono ?_; rintro e w' ⟨rfl, rfl⟩; rw [HT.out])
            | (go_at_call 98; refine (name_is other h2' _).mono ?_; rintro e w' ⟨nn, rfl, hnn, rfl⟩; rw [HM.out] at hnn))
          go_ret
          exact ⟨by rw [E.out]; rfl, HG1.out⟩
        · have HT := Lib.hid ht; have HM := Lib.hid hm
          cases ND
          · have e : C = false := by rw [← HC.out]; simp only [Eff.mayBe, HP.out, HNP.out, HNO.out, HND.out] <;> simp [ht, hm]
            have E := Lib.hid e
            clear e ht hm
            go_wp2_with (first
              | (go_at_call 97; refine (number_any dst _).mono ?_; rintro e w' ⟨rfl, rfl⟩; rw [HT.out])
              | (go_at_call 98; refine (name_is other h2' _).mono ?_; rintro e w' ⟨nn, rfl, hnn, rfl⟩; rw [HM.out] at hnn))
            go_ret
            exact ⟨by rw [E.out]; rfl, HG1.out⟩
          · by_cases h21 : page = 0
            · have qh210 : (page == 0) = true := by simpa using h21
              by_cases h22 : size = 0
              · have qh220 : (size == 0) = true := by simpa using h22
                have e : C = true := by rw [← HC.out]; simp only [Eff.mayBe, HP.out, HNP.out, HNO.out, HND.out] <;> simp [ht, hm, h21, h22]
                have E := Lib.hid e
                clear e ht hm h21 h22
                cases hi : ndB ino
                · have HI := Lib.hid hi
                  clear hi
                  go_wp2_with (first
                    | (go_at_call 97; refine (number_any dst _).mono ?_; rintro e w' ⟨rfl, rfl⟩; rw [HT.out])
                    | (go_at_call 97; refine (number_any ino _).mono ?_; rintro e w' ⟨rfl, rfl⟩; rw [HI.out])
                    | (go_at_call 98; refine (name_is other h2' _).mono ?_; rintro e w' ⟨nn, rfl, hnn, rfl⟩; rw [HM.out] at hnn))
                  go_ret
                  exact ⟨by rw [E.out, HI.out]; rfl, HG1.out⟩
                · have HI := Lib.hid hi
                  clear hi
                  go_wp2_with (first
                    | (go_at_call 97; refine (number_any dst _).mono ?_; rintro e w' ⟨rfl, rfl⟩; rw [HT.out])
                    | (go_at_call 97; refine (number_any ino _).mono ?_; rintro e w' ⟨rfl, rfl⟩; rw [HI.out])
                    | (go_at_call 98; refine (name_is other h2' _).mono ?_; rintro e w' ⟨nn, rfl, hnn, rfl⟩; rw [HM.out] at hnn))
                  go_ret
                  exact ⟨by rw [E.out, HI.out]; rfl, HG1.out⟩
              · have qh220 : (size == 0) = false := by simpa using h22
                have e : C = false := by rw [← HC.out]; simp only [Eff.mayBe, HP.out, HNP.out, HNO.out, HND.out] <;> simp [ht, hm, h21, h22]
                have E := Lib.hid e
                clear e ht hm h21 h22
                go_wp2_with (first
                  | (go_at_call 97; refine (number_any dst _).mono ?_; rintro e w' ⟨rfl, rfl⟩; rw [HT.out])
                  | (go_at_call 98; refine (name_is other h2' _).mono ?_; rintro e w' ⟨nn, rfl, hnn, rfl⟩; rw [HM.out] at hnn))
                go_ret
                exact ⟨by rw [E.out]; rfl, HG1.out⟩
            · have qh210 : (page == 0) = false := by simpa using h21
              have e : C = false := by rw [← HC.out]; simp only [Eff.mayBe, HP.out, HNP.out, HNO.out, HND.out] <;> simp [ht, hm, h21]
              have E := Lib.hid e
              clear e ht hm h21
              go_wp2_with (first
                | (go_at_call 97; refine (number_any dst _).mono ?_; rintro e w' ⟨rfl, rfl⟩; rw [HT.out])
                | (go_at_call 98; refine (name_is other h2' _).mono ?_; rintro e w' ⟨nn, rfl, hnn, rfl⟩; rw [HM.out] at hnn))
              go_ret
              exact ⟨by rw [E.out]; rfl, HG1.out⟩
  have kq5 : (kind == 5) = false := by simpa using k5
  by_cases k6 : kind = 6
  · subst k6
    cases NP
    · have e : C = false := by rw [← HC.out]; simp only [Eff.mayBe, HP.out, HNP.out, HNO.out, HND.out] <;> simp []
      have E := Lib.hid e
      clear e
      go_wp2_with fail
      go_ret
      exact ⟨by rw [E.out]; rfl, HG1.out⟩
    · cases NO
      · have e : C = false := by rw [← HC.out]; simp only [Eff.mayBe, HP.out, HNP.out, HNO.out, HND.out] <;> simp []
        have E := Lib.hid e
        clear e
        go_wp2_with fail
        go_ret
        exact ⟨by rw [E.out]; rfl, HG1.out⟩
      · cases ND
        · have e : C = false := by rw [← HC.out]; simp only [Eff.mayBe, HP.out, HNP.out, HNO.out, HND.out] <;> simp []
          have E := Lib.hid e
          clear e
          go_wp2_with fail
          go_ret
          exact ⟨by rw [E.out]; rfl, HG1.out⟩
        · by_cases h23 : page = 0
          · have qh230 : (page == 0) = true := by simpa using h23
            by_cases h24 : size ≥ 0
            · have qh240 : decide (size ≥ 0) = true := by simpa using h24
              by_cases h25 : size ≤ 16384
              · have qh250 : decide (size ≤ 16384) = true := by simpa using h25
                have e : C = true := by rw [← HC.out]; simp only [Eff.mayBe, HP.out, HNP.out, HNO.out, HND.out] <;> simp [h23, h24, h25]
                have E := Lib.hid e
                clear e h23
                cases hi : ndB ino
                · have HI := Lib.hid hi
                  clear hi
                  go_wp2_with (first
                    | (go_at_call 97; refine (number_any ino _).mono ?_; rintro e w' ⟨rfl, rfl⟩; rw [HI.out]))
                  go_ret
                  exact ⟨by rw [E.out, HI.out]; rfl, HG1.out⟩
                · have HI := Lib.hid hi
                  clear hi
                  go_wp2_with (first
                    | (go_at_call 97; refine (number_any ino _).mono ?_; rintro e w' ⟨rfl, rfl⟩; rw [HI.out]))
                  go_ret
                  exact ⟨by rw [E.out, HI.out]; rfl, HG1.out⟩
              · have qh250 : decide (size ≤ 16384) = false := by simpa using h25
                have e : C = false := by rw [← HC.out]; simp only [Eff.mayBe, HP.out, HNP.out, HNO.out, HND.out] <;> simp [h23, h24, h25]
                have E := Lib.hid e
                clear e h23
                go_wp2_with fail
                go_ret
                exact ⟨by rw [E.out]; rfl, HG1.out⟩
            · have qh240 : decide (size ≥ 0) = false := by simpa using h24
              have e : C = false := by rw [← HC.out]; simp only [Eff.mayBe, HP.out, HNP.out, HNO.out, HND.out] <;> simp [h23, h24]
              have E := Lib.hid e
              clear e h23
              go_wp2_with fail
              go_ret
              exact ⟨by rw [E.out]; rfl, HG1.out⟩
          · have qh230 : (page == 0) = false := by simpa using h23
            have e : C = false := by rw [← HC.out]; simp only [Eff.mayBe, HP.out, HNP.out, HNO.out, HND.out] <;> simp [h23]
            have E := Lib.hid e
            clear e h23
            go_wp2_with fail
            go_ret
            exact ⟨by rw [E.out]; rfl, HG1.out⟩
  have kq6 : (kind == 6) = false := by simpa using k6
  by_cases k7 : kind = 7
  · subst k7
    cases NP
    · have e : C = false := by rw [← HC.out]; simp only [Eff.mayBe, HP.out, HNP.out, HNO.out, HND.out] <;> simp [HN.out]
      have E := Lib.hid e
      clear e
      go_wp2_with fail
      go_ret
      exact ⟨by rw [E.out]; rfl, HG1.out⟩
    · cases NO
      · have e : C = false := by rw [← HC.out]; simp only [Eff.mayBe, HP.out, HNP.out, HNO.out, HND.out] <;> simp [HN.out]
        have E := Lib.hid e
        clear e
        go_wp2_with fail
        go_ret
        exact ⟨by rw [E.out]; rfl, HG1.out⟩
      · by_cases h26 : n = 256
        · have qh260 : ((n : Int) == 256) = true := by simp [h26]
          by_cases h27 : page ≥ 0
          · have qh270 : decide (page ≥ 0) = true := by simpa using h27
            by_cases h28 : page ≤ 63
            · have qh280 : decide (page ≤ 63) = true := by simpa using h28
              by_cases h29 : size ≤ 16384
              · have qh290 : decide (size ≤ 16384) = true := by simpa using h29
                by_cases h30 : size > 256 * page
                · have qh300 : decide (size > 256 * page) = true := by simpa using h30
                  have e : C = true := by rw [← HC.out]; simp only [Eff.mayBe, HP.out, HNP.out, HNO.out, HND.out] <;> simp [HN.out, h26, h27, h28, h29, h30]
                  have E := Lib.hid e
                  clear e h26
                  cases hi : ndB ino
                  · have HI := Lib.hid hi
                    clear hi
                    go_wp2_with (first
                      | (go_at_call 97; refine (number_any ino _).mono ?_; rintro e w' ⟨rfl, rfl⟩; rw [HI.out]))
                    go_ret
                    exact ⟨by rw [E.out, HI.out]; rfl, HG1.out⟩
                  · have HI := Lib.hid hi
                    clear hi
                    go_wp2_with (first
                      | (go_at_call 97; refine (number_any ino _).mono ?_; rintro e w' ⟨rfl, rfl⟩; rw [HI.out]))
                    go_ret
                    exact ⟨by rw [E.out, HI.out]; rfl, HG1.out⟩
                · have qh300 : decide (size > 256 * page) = false := by simpa using h30
                  have e : C = false := by rw [← HC.out]; simp only [Eff.mayBe, HP.out, HNP.out, HNO.out, HND.out] <;> simp [HN.out, h26, h27, h28, h29, h30]
                  have E := Lib.hid e
                  clear e h26
                  go_wp2_with fail
                  go_ret
                  exact ⟨by rw [E.out]; rfl, HG1.out⟩
              · have qh290 : decide (size ≤ 16384) = false := by simpa using h29
                have e : C = false := by rw [← HC.out]; simp only [Eff.mayBe, HP.out, HNP.out, HNO.out, HND.out] <;> simp [HN.out, h26, h27, h28, h29]
                have E := Lib.hid e
                clear e h26
                go_wp2_with fail
                go_ret
                exact ⟨by rw [E.out]; rfl, HG1.out⟩
            · have qh280 : decide (page ≤ 63) = false := by simpa using h28
              have e : C = false := by rw [← HC.out]; simp only [Eff.mayBe, HP.out, HNP.out, HNO.out, HND.out] <;> simp [HN.out, h26, h27, h28]
              have E := Lib.hid e
              clear e h26
              go_wp2_with fail
              go_ret
              exact ⟨by rw [E.out]; rfl, HG1.out⟩
          · have qh270 : decide (page ≥ 0) = false := by simpa using h27
            have e : C = false := by rw [← HC.out]; simp only [Eff.mayBe, HP.out, HNP.out, HNO.out, HND.out] <;> simp [HN.out, h26, h27]
            have E := Lib.hid e
            clear e h26
            go_wp2_with fail
            go_ret
            exact ⟨by rw [E.out]; rfl, HG1.out⟩
        · have qh260 : ((n : Int) == 256) = false := by simp; omega
          have e : C = false := by rw [← HC.out]; simp only [Eff.mayBe, HP.out, HNP.out, HNO.out, HND.out] <;> simp [HN.out, h26]
          have E := Lib.hid e
          clear e h26
          go_wp2_with fail
          go_ret
          exact ⟨by rw [E.out]; rfl, HG1.out⟩
  have kq7 : (kind == 7) = false := by simpa using k7
  by_cases k8 : kind = 8
  · subst k8
    cases NP
    · have e : C = false := by rw [← HC.out]; simp only [Eff.mayBe, HP.out, HNP.out, HNO.out, HND.out] <;> simp []
      have E := Lib.hid e
      clear e
      go_wp2_with fail
      go_ret
      exact ⟨by rw [E.out]; rfl, HG1.out⟩
    · cases NO
      · have e : C = false := by rw [← HC.out]; simp only [Eff.mayBe, HP.out, HNP.out, HNO.out, HND.out] <;> simp []
        have E := Lib.hid e
        clear e
        go_wp2_with fail
        go_ret
        exact ⟨by rw [E.out]; rfl, HG1.out⟩
      · cases ND
        · have e : C = false := by rw [← HC.out]; simp only [Eff.mayBe, HP.out, HNP.out, HNO.out, HND.out] <;> simp []
          have E := Lib.hid e
          clear e
          go_wp2_with fail
          go_ret
          exact ⟨by rw [E.out]; rfl, HG1.out⟩
        · by_cases h31 : page = 0
          · have qh310 : (page == 0) = true := by simpa using h31
            by_cases h32 : size = 0
            · have qh320 : (size == 0) = true := by simpa using h32
              have e : C = true := by rw [← HC.out]; simp only [Eff.mayBe, HP.out, HNP.out, HNO.out, HND.out] <;> simp [h31, h32]
              have E := Lib.hid e
              clear e h31 h32
              cases hi : ndB ino
              · have HI := Lib.hid hi
                clear hi
                go_wp2_with (first
                  | (go_at_call 97; refine (number_any ino _).mono ?_; rintro e w' ⟨rfl, rfl⟩; rw [HI.out]))
                go_ret
                exact ⟨by rw [E.out, HI.out]; rfl, HG1.out⟩
              · have HI := Lib.hid hi
                clear hi
                go_wp2_with (first
                  | (go_at_call 97; refine (number_any ino _).mono ?_; rintro e w' ⟨rfl, rfl⟩; rw [HI.out]))
                go_ret
                exact ⟨by rw [E.out, HI.out]; rfl, HG1.out⟩
            · have qh320 : (size == 0) = false := by simpa using h32
              have e : C = false := by rw [← HC.out]; simp only [Eff.mayBe, HP.out, HNP.out, HNO.out, HND.out] <;> simp [h31, h32]
              have E := Lib.hid e
              clear e h31 h32
              go_wp2_with fail
              go_ret
              exact ⟨by rw [E.out]; rfl, HG1.out⟩
          · have qh310 : (page == 0) = false := by simpa using h31
            have e : C = false := by rw [← HC.out]; simp only [Eff.mayBe, HP.out, HNP.out, HNO.out, HND.out] <;> simp [h31]
            have E := Lib.hid e
            clear e h31
            go_wp2_with fail
            go_ret
            exact ⟨by rw [E.out]; rfl, HG1.out⟩
  have kq8 : (kind == 8) = false := by simpa using k8
  have e : C = false := by rw [← HC.out]; simp [Eff.mayBe, k1, k2, k3, k4, k5, k6, k7, k8]
  have E := Lib.hid e
  clear e k1 k2 k3 k4 k5 k6 k7 k8
  go_wp2_with fail
  go_ret
  exact ⟨by rw [E.out]; rfl, HG1.out⟩
end Go.Proofs.YtbejbiogabpmfaaGreat
