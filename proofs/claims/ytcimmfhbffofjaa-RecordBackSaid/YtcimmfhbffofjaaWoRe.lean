import Derived.Test.YtcimmfhbffofjaaWoAw
namespace Go.Proofs.Ytcimmfhbffofjaa
open Wd U Go.ChangeShapes Go.WideShapes Go.RowKit Go.Sort
set_option linter.unusedVariables false

/-! a Reader: what is left, and whether it is Bad -/
structure RdSt (W : World) (g : Nat) (xs : List Nat) (bad : Bool) (w : World) : Prop where
  b : Below W.heap.size W w
  hg : W.heap.size ≤ g
  len : xs.length ≤ 1000
  small : Small xs
  nb : bad = true → xs = []
  v : ∃ v, Cells w g 81 #[v, .bool bad] ∧ RdRow w W.heap.size v xs
theorem RdSt.below {W w w' : World} {g : Nat} {xs : List Nat} {bad : Bool} (h : RdSt W g xs bad w) (hb : Below w.heap.size w w') : RdSt W g xs bad w' := by
  obtain ⟨h1, h2, h3, h4, hn, v, h5, h6⟩ := h
  exact ⟨h1.trans (hb.mono h1.size), h2, h3, h4, hn, v, h5.below' hb, h6.below hb⟩
theorem rd_put {W w : World} {g : Nat} {v v' : Value} {bad : Bool} {xs xs' : List Nat} (h : RdSt W g xs bad w) (hv : Cells w g 81 #[v, .bool bad]) (hl : xs'.length ≤ 1000) (hs : Small xs') (hn : bad = true → xs' = []) (hr : RdRow w W.heap.size v' xs') {w' : World} (hb : Below W.heap.size W w') (hw : w' = w.setCell ⟨g, 0, none⟩ v') : RdSt W g xs' bad w' := by
  subst hw
  refine ⟨hb, h.hg, hl, hs, hn, v', by simpa using hv.set 0 v', hr.keep fun q cs hc => ?_⟩
  exact Below.heap_setCell w _ _ q fun e => (hv.ne hc (by decide)) e.symm

theorem rd_drop {w : World} {B q off c n m k : Nat} {cs : Array Value} {xs : List Nat} {v : Value} (hn : xs.length = n) (hc : n ≤ c) (hB : B ≤ q) (hh : Cells w q 61 cs) (hx : ∀ j x, xs[j]? = some x → cs[off + j]? = some (wd x)) (hk : m + k = n)
    (hv : v = .slice (some ⟨q, off + k, none⟩) m (c - k) ∨ c = k ∧ v = .slice (some ⟨q, off, none⟩) m 0) : RdRow w B v (xs.drop k) := by
  have hl : (xs.drop k).length = m := by rw [List.length_drop]; omega
  rcases hv with rfl | ⟨rfl, rfl⟩
  · refine .inr ⟨q, off + k, c - k, cs, by rw [hl], by omega, hB, hh, fun j x hj => ?_⟩
    rw [List.getElem?_drop] at hj
    have := hx _ _ hj
    rw [← this]
    congr 1
    omega
  · refine .inr ⟨q, off, 0, cs, by rw [hl], by omega, hB, hh, fun j x hj => ?_⟩
    have h1 := (List.getElem?_eq_some_iff.1 hj).1
    exact absurd h1 (by omega)
theorem left_r {W w : World} {g : Nat} {xs : List Nat} {bad : Bool} (h : RdSt W g xs bad w) : Calls Try.prog 57 #[.pointer (some ⟨g, 0, none⟩)] w fun e w' => e = .returned (.int .i64 xs.length) ∧ w = w' := by
  obtain ⟨_, _, hl, _, _, v, hc, hr⟩ := h
  obtain ⟨A, c, rfl, _, _⟩ := hr.row
  have c0 : w.cell? ⟨g, 0, none⟩ = some (.slice A xs.length c) := hc.cell 0
  clear hc hr
  go_enter Try.func57, Try.ntmps57
  go_wp2
  go_ret
  exact ⟨rfl, rfl⟩
theorem bad_r {W w : World} {g : Nat} {xs : List Nat} {bad : Bool} (h : RdSt W g xs bad w) : Calls Try.prog 59 #[.pointer (some ⟨g, 0, none⟩)] w fun e w' => e = .returned (.bool bad) ∧ w = w' := by
  obtain ⟨_, _, hl, _, _, v, hc, _⟩ := h
  have c1 : w.cell? ⟨g, 1, none⟩ = some (.bool bad) := hc.cell 1
  clear hc
  go_enter Try.func59, Try.ntmps59
  go_wp2
  go_ret
  exact ⟨rfl, rfl⟩
def SpoiltR (W : World) (g : Nat) (e : Ending) (w : World) : Prop := e = .returned (.tuple #[]) ∧ RdSt W g [] true w
theorem spoil_r {W w : World} {g : Nat} {xs : List Nat} {bad : Bool} (h : RdSt W g xs bad w) : Calls Try.prog 58 #[.pointer (some ⟨g, 0, none⟩)] w (SpoiltR W g) := by
  have H := Lib.hid h
  obtain ⟨hb, hg, _, _, _, v, hc, _⟩ := h
  have c0 : w.cell? ⟨g, 0, none⟩ = some v := hc.cell 0
  have c1 : w.cell? ⟨g, 1, none⟩ = some (.bool bad) := hc.cell 1
  have f0 := hc.free 0
  have f1 := hc.free 1
  have HC := Lib.hid hc
  clear hc hb
  go_enter Try.func58, Try.ntmps58
  go_wp2
  go_end0
  refine ⟨rfl, ((H.out.b.setCell (p := ⟨g, 0, none⟩) hg _).setCell (p := ⟨g, 1, none⟩) hg _), hg, by simp, (fun x hx => by cases hx), (fun _ => rfl), .slice none 0 0, ?_, .inl ⟨rfl, rfl⟩⟩
  have h0 := (HC.out.set 0 (.slice none 0 0)).set 1 (.bool true)
  simpa using h0
theorem left_nil (w : World) : Calls Try.prog 57 #[.pointer none] w fun e w' => e = .returned (.int .i64 0) ∧ w = w' := by
  go_enter Try.func57, Try.ntmps57
  go_wp2
  go_ret
  exact ⟨rfl, rfl⟩
theorem bad_nil (w : World) : Calls Try.prog 59 #[.pointer none] w fun e w' => e = .returned (.bool true) ∧ w = w' := by
  go_enter Try.func59, Try.ntmps59
  go_wp2
  go_ret
  exact ⟨rfl, rfl⟩
theorem spoil_nil (w : World) : Calls Try.prog 58 #[.pointer none] w fun e w' => e = .returned (.tuple #[]) ∧ w = w' := by
  go_enter Try.func58, Try.ntmps58
  go_wp2
  go_end0
  exact ⟨rfl, rfl⟩
theorem num_nil (w : World) : Calls Try.prog 45 #[.pointer none] w fun e w' => e = .returned (.int .i64 0) ∧ w = w' := by
  go_enter Try.func45, Try.ntmps45
  go_wp2_with (first
    | (go_at_call 57; refine (left_nil _).mono ?_; rintro e w' ⟨rfl, rfl⟩)
    | (go_at_call 58; refine (spoil_nil _).mono ?_; rintro e w' ⟨rfl, rfl⟩))
  go_ret
  exact ⟨rfl, rfl⟩
theorem text_nil (w : World) (m : Int) : Calls Try.prog 46 #[.pointer none, .int .i64 m] w fun e w' => e = .returned (.string ByteArray.empty) ∧ w = w' := by
  go_enter Try.func46, Try.ntmps46
  go_wp2_with (first
    | (go_at_call 45; refine (num_nil _).mono ?_; rintro e w' ⟨rfl, rfl⟩)
    | (go_at_call 59; refine (bad_nil _).mono ?_; rintro e w' ⟨rfl, rfl⟩)
    | (go_at_call 58; refine (spoil_nil _).mono ?_; rintro e w' ⟨rfl, rfl⟩))
  go_ret
  exact ⟨rfl, rfl⟩

def topN : Nat := 4611686018427387904
def numOk : List Nat → Bool
  | [] => false
  | x :: _ => decide (x ≤ topN)
def numV (xs : List Nat) : Nat := if numOk xs then xs.headD 0 else 0
def numX (xs : List Nat) : List Nat := if numOk xs then xs.tail else []
def numB (xs : List Nat) (bad : Bool) : Bool := if numOk xs then bad else true
def NumR (W : World) (g : Nat) (xs : List Nat) (bad : Bool) (e : Ending) (w : World) : Prop := e = .returned (.int .i64 (numV xs)) ∧ RdSt W g (numX xs) (numB xs bad) w
set_option maxHeartbeats 1000000 in
theorem num_r {W w : World} {g : Nat} {xs : List Nat} {bad : Bool} (h : RdSt W g xs bad w) : Calls Try.prog 45 #[.pointer (some ⟨g, 0, none⟩)] w (NumR W g xs bad) := by
  have H := Lib.hid h
  cases xs with
  | nil =>
    clear h
    go_enter Try.func45, Try.ntmps45
    go_wp2_with (first
      | (go_at_call 57; refine (left_r H.out).mono ?_; rintro e w' ⟨rfl, rfl⟩)
      | (go_at_call 58; refine (spoil_r H.out).mono ?_; rintro e w2 ⟨rfl, h2⟩; have H2 := Lib.hid h2; clear h2))
    go_ret
    exact ⟨rfl, H2.out⟩
  | cons x t =>
    obtain ⟨hb, hg, hl, hs, hnb, v, hc, hrow⟩ := h
    rcases hrow with ⟨_, h0⟩ | ⟨q, off, c, cs, rfl, hcap, hB, hq, hx⟩
    · cases h0
    have HNB := Lib.hid hnb
    clear hnb
    have hx0 := hs x (by simp)
    have cx : w.cell? ⟨q, off + 0, none⟩ = some (.int .u64 (x : Int)) := by rw [hq.cell]; exact hx 0 x rfl
    rw [Nat.add_zero] at cx
    have cx' : w.cell? ⟨q, off, none⟩ = some (.int .u64 (x : Int)) := cx
    obtain ⟨n, hn⟩ : ∃ n, (x :: t).length = n + 1 := ⟨t.length, rfl⟩
    rw [hn] at hcap hc
    have c0 : w.cell? ⟨g, 0, none⟩ = some (.slice (some ⟨q, off, none⟩) (n + 1) c) := hc.cell 0
    have f0 := hc.free 0
    have htl : t.length = n := by simpa using hn
    have hn2 : n + 1 ≤ 1000 := by rw [← hn]; exact hl
    have e0 : (((n : Int) + 1) == 0) = false := by rw [beq_eq_false_iff_ne]; omega
    by_cases hx1 : x ≤ 4611686018427387904
    · have q1 : decide ((x : Int) > 4611686018427387904) = false := by simp; omega
      have hw : IntKind.i64.wrap (x : Int) = (x : Int) := by rw [IntKind.wrap_i64]; omega
      have hok : numOk (x :: t) = true := by simp [numOk, topN, hx1]
      have HOK := Lib.hid hok; have HN := Lib.hid hn; have HC := Lib.hid hc; have HQ := Lib.hid hq; have HX := Lib.hid hx; have HTL := Lib.hid htl; have HS := Lib.hid hs; have HL := Lib.hid hl; have HB := Lib.hid hb; have HCAP := Lib.hid hcap
      clear hok hn hc hq hx htl hs hl hb
      go_enter Try.func45, Try.ntmps45
      go_wp2_with (go_at_call 57; refine (left_r H.out).mono ?_; rintro e w' ⟨rfl, rfl⟩; rw [HN.out])
      all_goals
        go_ret
        have e1 : numV (x :: t) = x := by unfold numV; rw [HOK.out]; rfl
        have e2 : numX (x :: t) = t := by unfold numX; rw [HOK.out]; rfl
        have e3 : numB (x :: t) bad = bad := by unfold numB; rw [HOK.out]; rfl
        refine ⟨by rw [e1]; rfl, ?_⟩
        rw [e2, e3]
        exact rd_put H.out HC.out (by have := HTL.out; omega) (fun y hy => HS.out y (List.mem_cons_of_mem _ hy)) (fun e => by have := HNB.out e; cases this) (rd_drop (xs := x :: t) (k := 1) (m := n) HN.out HCAP.out hB HQ.out HX.out (by omega) (by first | exact .inl rfl | exact .inr ⟨by assumption, rfl⟩)) (HB.out.setCell (p := ⟨g, 0, none⟩) hg _) rfl
    · have q1 : decide ((x : Int) > 4611686018427387904) = true := by simp; omega
      have hok : numOk (x :: t) = false := decide_eq_false hx1
      have HOK := Lib.hid hok; have HN := Lib.hid hn
      clear hok hn hc hq hx htl hs hl hb
      go_enter Try.func45, Try.ntmps45
      go_wp2_with (first
        | (go_at_call 57; refine (left_r H.out).mono ?_; rintro e w' ⟨rfl, rfl⟩; rw [HN.out])
        | (go_at_call 58; refine (spoil_r H.out).mono ?_; rintro e w2 ⟨rfl, h2⟩; have H2 := Lib.hid h2; clear h2))
      go_ret
      have e1 : numV (x :: t) = 0 := by unfold numV; rw [HOK.out]; rfl
      have e2 : numX (x :: t) = [] := by unfold numX; rw [HOK.out]; rfl
      have e3 : numB (x :: t) bad = true := by unfold numB; rw [HOK.out]; rfl
      refine ⟨by rw [e1]; rfl, ?_⟩
      rw [e2, e3]
      exact H2.out
end Go.Proofs.Ytcimmfhbffofjaa
