import Derived.Test.YtnjikgcigobcdaaGeRef
namespace Go.Proofs.Ytnjikgcigobcdaa
open Wd Go.ChangeShapes Go.WideShapes Go.RowKit Go.Sort
set_option linter.unusedVariables false

/-! the project's own contracts: to be proved anew for what lands -/
theorem geomOf_yes (p : Int) (h1 : 64 ≤ p) (h2 : p ≤ 1048576) (w : World) : Calls Try.prog 18 #[.int .i64 p] w (Grows (.tuple #[geomV p, .bool true]) w) := by
  unfold geomV bankG imageG logG dataG
  go_enter Try.func18, Try.ntmps18
  go_wp2
  refine bodyPost_ret (v := .tuple #[.agg #[.int .i64 p, .int .i64 (p / 8), .int .i64 ((32 * (p / 8) - 2) / 2), .int .i64 (32 * (p / 8) - 2 - (32 * (p / 8) - 2) / 2), .int .i64 (p - 1 - 2 * (p / 8))], .bool true]) (by simp [results, Try.results18, go_sem, Int.mul_comm]) rfl ⟨rfl, ?_⟩
  exact grow_one w _

theorem geomOf_no (p : Int) (h : p < 64 ∨ 1048576 < p) (w : World) : Calls Try.prog 18 #[.int .i64 p] w (Grows (.tuple #[noneV, .bool false]) w) := by
  unfold noneV
  rcases h with h | h
  · go_enter Try.func18, Try.ntmps18
    go_wp2
    refine bodyPost_ret (v := .tuple #[.agg #[.int .i64 0, .int .i64 0, .int .i64 0, .int .i64 0, .int .i64 0], .bool false]) (by simp [results, Try.results18, go_sem]) rfl ⟨rfl, ?_⟩
    exact grow_one w _
  · have h' : ¬ p < 64 := by omega
    go_enter Try.func18, Try.ntmps18
    go_wp2
    refine bodyPost_ret (v := .tuple #[.agg #[.int .i64 0, .int .i64 0, .int .i64 0, .int .i64 0, .int .i64 0], .bool false]) (by simp [results, Try.results18, go_sem]) rfl ⟨rfl, ?_⟩
    exact grow_one w _

/-- what 'from' hands out: a place behind the page's first word -/
def atV (n : Nat) : Value := .func (.func 66) #[] #[.pointer (some ⟨n, 0, none⟩)]
theorem size_al (w : World) (o : Obj) : (w.alloc o).heap.size = w.heap.size + 1 := by simp
theorem gFrom (p b : Int) (h0 : 0 ≤ p) (h1 : p ≤ 20000000) (hb : b = 32 * p) (w : World) : Calls Try.prog 48 #[.int .i64 p] w fun e w' => e = .returned (atV w.heap.size) ∧ w' = w.alloc (.cells #[.int .i64 b] 3) := by
  have hmf : ∀ (fn : Fn) (first cap : Array Value) (w : World), (Instr.makeFunc fn first cap).run Try.prog w = .ok (.func fn first cap) w := fun _ _ _ _ => rfl
  have hw : IntKind.i64.wrap (p * 32) = b := by rw [IntWalk.i64_in _ (by omega)]; omega
  unfold atV
  clear hb
  go_enter Try.func48, Try.ntmps48
  go_wp2
  go_ret
  exact ⟨rfl, rfl⟩

theorem gBehind (n : Nat) (b x c : Int) (w : World) (hc : Cells w n 3 #[.int .i64 b]) (hb : 0 ≤ b) (hb2 : b ≤ 1000000000) (hx : 0 ≤ x) (hx2 : x ≤ 1000000000) (h : c = b + x) :
    Calls Try.prog 66 #[.int .i64 x, .pointer (some ⟨n, 0, none⟩)] w fun e w' => e = .returned (.int .i64 c) ∧ w' = w := by
  have hw : IntKind.i64.wrap (b + x) = c := by rw [IntWalk.i64_in _ (by omega)]; omega
  have h0 : w.cell? ⟨n, 0, none⟩ = some (.int .i64 b) := hc.cell 0
  clear h
  go_enter Try.func66, Try.ntmps66
  go_wp2
  go_ret
  exact ⟨rfl, rfl⟩

/-- the world that inBank leaves -/
def inW (P B I L D k : Int) (w : World) : World := (w.alloc (.cells #[.int .i64 P, .int .i64 B, .int .i64 I, .int .i64 L, .int .i64 D] 28)).alloc (.cells #[.int .i64 (bankP B k)] 3)
theorem gIn (P B I L D k : Int) (hB : 0 ≤ B) (hB2 : B ≤ 200000) (w : World) : Calls Try.prog 59 #[.agg #[.int .i64 P, .int .i64 B, .int .i64 I, .int .i64 L, .int .i64 D], .int .i64 k] w fun e w' => e = .returned (atV (w.heap.size + 1)) ∧ w' = inW P B I L D k w := by
  unfold inW
  have ha : ∀ v, (w.alloc v).heap.size = w.heap.size + 1 := fun v => by simp
  by_cases h : k = 1
  · have hb : bankP B k = 32 * (1 + B) := by unfold bankP; rw [if_pos h]
    rw [hb]
    subst h
    clear hb
    go_enter Try.func59, Try.ntmps59
    go_wp2_with fail
    refine (gFrom (1 + B) _ (by omega) (by omega) rfl _).mono ?_
    rintro e w2 ⟨rfl, rfl⟩
    rw [ha]
    unfold atV
    go_wp2
    go_ret
    exact ⟨rfl, rfl⟩
  · have hb : bankP B k = 32 := by unfold bankP; rw [if_neg h]
    have hk : (k == 1) = false := by simpa using h
    rw [hb]
    clear h hb
    go_enter Try.func59, Try.ntmps59
    go_wp2_with fail
    refine (gFrom 1 _ (by omega) (by omega) rfl _).mono ?_
    rintro e w2 ⟨rfl, rfl⟩
    rw [ha]
    unfold atV
    go_wp2
    go_ret
    exact ⟨rfl, rfl⟩

theorem inW_cell (P B I L D k : Int) (w w1 : World) (h : w1 = inW P B I L D k w) : Cells w1 (w.heap.size + 1) 3 #[.int .i64 (bankP B k)] := by
  subst h
  have := Cells.new (w.alloc (.cells #[.int .i64 P, .int .i64 B, .int .i64 I, .int .i64 L, .int .i64 D] 28)) 3 #[.int .i64 (bankP B k)]
  rw [show (w.alloc (.cells #[.int .i64 P, .int .i64 B, .int .i64 I, .int .i64 L, .int .i64 D] 28)).heap.size = w.heap.size + 1 by simp] at this
  exact this
theorem inW_grow (P B I L D k : Int) (w : World) : ∃ q os, inW P B I L D k w = grow (w.drewN q) os := grow_alloc (grow_one w _) _

theorem gBankAt (P B I L D k : Int) (hB : 0 ≤ B) (hB2 : B ≤ 200000) (w : World) : Calls Try.prog 31 #[.agg #[.int .i64 P, .int .i64 B, .int .i64 I, .int .i64 L, .int .i64 D], .int .i64 k] w (Grows (.int .i64 (bankP B k)) w) := by
  obtain ⟨b1, b2⟩ := bankP_bd B k hB hB2
  go_enter Try.func31, Try.ntmps31
  go_wp2_with fail
  refine (gIn P B I L D k hB hB2 _).mono ?_
  rintro e w2 ⟨rfl, hw2⟩
  have hc := inW_cell P B I L D k _ w2 hw2
  rw [size_al] at hc
  have hg : ∃ q os, w2 = grow (w.drewN q) os := hw2 ▸ grow_trans (grow_one w _) (inW_grow P B I L D k _)
  have HG := Lib.hid hg
  have HC := Lib.hid hc
  clear hg hc hw2
  unfold atV
  go_wp2_with fail
  refine (gBehind _ (bankP B k) 0 (bankP B k) _ HC.out b1 (by omega) (by omega) (by omega) (by omega)).mono ?_
  rintro e w3 ⟨rfl, rfl⟩
  go_wp2
  go_ret
  exact ⟨rfl, HG.out⟩

theorem gImageAt (P B I L D k : Int) (hB : 0 ≤ B) (hB2 : B ≤ 200000) (w : World) : Calls Try.prog 36 #[.agg #[.int .i64 P, .int .i64 B, .int .i64 I, .int .i64 L, .int .i64 D], .int .i64 k] w (Grows (.int .i64 (bankP B k + 2)) w) := by
  obtain ⟨b1, b2⟩ := bankP_bd B k hB hB2
  go_enter Try.func36, Try.ntmps36
  go_wp2_with fail
  refine (gIn P B I L D k hB hB2 _).mono ?_
  rintro e w2 ⟨rfl, hw2⟩
  have hc := inW_cell P B I L D k _ w2 hw2
  rw [size_al] at hc
  have hg : ∃ q os, w2 = grow (w.drewN q) os := hw2 ▸ grow_trans (grow_one w _) (inW_grow P B I L D k _)
  have HG := Lib.hid hg
  have HC := Lib.hid hc
  clear hg hc hw2
  unfold atV
  go_wp2_with fail
  refine (gBehind _ (bankP B k) 2 (bankP B k + 2) _ HC.out b1 (by omega) (by omega) (by omega) (by omega)).mono ?_
  rintro e w3 ⟨rfl, rfl⟩
  go_wp2
  go_ret
  exact ⟨rfl, HG.out⟩

theorem size_dr (w : World) : w.drew.heap.size = w.heap.size := rfl
theorem inW_dr (P B I L D k : Int) (w : World) : inW P B I L D k w.drew = (inW P B I L D k w).drew := rfl
theorem inW_cell2 (P B I L D k : Int) (w : World) : Cells ((((w.alloc (.cells #[.int .i64 P, .int .i64 B, .int .i64 I, .int .i64 L, .int .i64 D] 28)).alloc (.cells #[.int .i64 P, .int .i64 B, .int .i64 I, .int .i64 L, .int .i64 D] 28)).alloc (.cells #[.int .i64 (bankP B k)] 3)).drew) (w.heap.size + 1 + 1) 3 #[.int .i64 (bankP B k)] := by
  have := inW_cell P B I L D k (w.alloc (.cells #[.int .i64 P, .int .i64 B, .int .i64 I, .int .i64 L, .int .i64 D] 28)) _ rfl
  rw [size_al] at this
  exact this
theorem gLogAt (P B I L D k : Int) (hB : 0 ≤ B) (hB2 : B ≤ 200000) (hI : 0 ≤ I) (hI2 : I ≤ 10000000) (w : World) : Calls Try.prog 29 #[.agg #[.int .i64 P, .int .i64 B, .int .i64 I, .int .i64 L, .int .i64 D], .int .i64 k] w (Grows (.int .i64 (bankP B k + 2 + I)) w) := by
  obtain ⟨b1, b2⟩ := bankP_bd B k hB hB2
  have hfol : Try.prog.follows Departure.mixedOrders = true := by kernel_rfl
  have e2 : IntKind.i64.wrap (2 + I) = 2 + I := IntWalk.i64_in _ (by omega)
  have HC := Lib.hid (inW_cell2 P B I L D k w)
  have q1 : (2 + I) ≤ 1000000000 := by omega
  have q0 : 0 ≤ (2 + I) := by omega
  have q2 : bankP B k + 2 + I = bankP B k + (2 + I) := by omega
  have q3 : bankP B k ≤ 1000000000 := by omega
  rw [q2]
  clear q2
  go_enter Try.func29, Try.ntmps29
  go_wp2_with fail
  go_region_with (first
    | (go_at_call 59
       refine (gIn P B I L D k hB hB2 _).mono ?_
       rintro e w2 ⟨rfl, rfl⟩
       simp only [inW_dr, size_al, size_dr]
       unfold atV inW)
    | (go_at_call 66
       refine (gBehind _ (bankP B k) (2 + I) (bankP B k + (2 + I)) _ HC.out b1 q3 q0 q1 rfl).mono ?_
       rintro e w2 ⟨rfl, rfl⟩))
  all_goals
    go_wp2
    go_ret
    exact ⟨rfl, grow_drewN (grow_alloc (grow_alloc (grow_one w _) _) _) 1⟩

theorem gWords (P B I L D : Int) (hP : 0 ≤ P) (hP2 : P ≤ 1048576) (w : World) : Calls Try.prog 20 #[.agg #[.int .i64 P, .int .i64 B, .int .i64 I, .int .i64 L, .int .i64 D]] w (Grows (.int .i64 (32 * P)) w) := by
  go_enter Try.func20, Try.ntmps20
  go_wp2_with fail
  refine (gFrom P _ (by omega) (by omega) rfl _).mono ?_
  rintro e w2 ⟨rfl, hw2⟩
  have hc := hw2 ▸ Cells.new (w.alloc (.cells #[.int .i64 P, .int .i64 B, .int .i64 I, .int .i64 L, .int .i64 D] 28)) 3 #[.int .i64 (32 * P)]
  rw [size_al] at hc
  have hg : ∃ q os, w2 = grow (w.drewN q) os := hw2 ▸ grow_alloc (grow_one w _) _
  have HG := Lib.hid hg
  have HC := Lib.hid hc
  clear hg hc hw2
  unfold atV
  go_wp2_with fail
  refine (gBehind _ (32 * P) 0 (32 * P) _ HC.out (by omega) (by omega) (by omega) (by omega) (by omega)).mono ?_
  rintro e w3 ⟨rfl, rfl⟩
  go_wp2
  go_ret
  exact ⟨rfl, HG.out⟩

def rootV (e k : Int) : Int := 2 * e + (if k = 1 then 1 else 0)

theorem gRoot (e k : Int) (h0 : 0 ≤ e) (h1 : e ≤ 1099511627776) (w : World) : Calls Try.prog 47 #[.int .i64 e, .int .i64 k] w (Grows (.int .u64 (rootV e k)) w) := by
  unfold rootV
  by_cases h : k = 1
  · rw [if_pos h]
    subst h
    go_enter Try.func47, Try.ntmps47
    go_wp2
    go_ret
    exact ⟨by first | rfl | (congr 2; omega), grow_none w⟩
  · rw [if_neg h]
    have hk : (k == 1) = false := by simpa using h
    clear h
    go_enter Try.func47, Try.ntmps47
    go_wp2
    go_ret
    exact ⟨by rw [Int.add_zero]; rfl, grow_none w⟩

theorem gEpoch_yes (r : Int) (h0 : 0 ≤ r) (h1 : r / 2 ≤ 1099511627776) (w : World) : Calls Try.prog 44 #[.int .u64 r] w (Grows (.tuple #[.int .i64 (r / 2), .int .i64 (r % 2), .bool true]) w) := by
  go_enter Try.func44, Try.ntmps44
  go_wp2
  exact bodyPost_ret (v := .tuple #[.int .i64 (r / 2), .int .i64 (r % 2), .bool true]) (by simp [results, Try.results44, go_sem]) rfl ⟨rfl, grow_none w⟩

theorem gEpoch_no (r : Int) (h0 : 0 ≤ r) (h2 : r < 18446744073709551616) (h1 : 1099511627776 < r / 2) (w : World) : Calls Try.prog 44 #[.int .u64 r] w (Grows (.tuple #[.int .i64 0, .int .i64 0, .bool false]) w) := by
  go_enter Try.func44, Try.ntmps44
  go_wp2
  exact bodyPost_ret (v := .tuple #[.int .i64 0, .int .i64 0, .bool false]) (by simp [results, Try.results44, go_sem]) rfl ⟨rfl, grow_none w⟩
end Go.Proofs.Ytnjikgcigobcdaa
