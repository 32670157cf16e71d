import Derived.Test.YtohilconpcgjeaaPoWalks
namespace Go.Proofs.Ytohilconpcgjeaa
open Wd Go.ChangeShapes Go.WideShapes Go.RowKit
set_option linter.unusedVariables false

theorem infof : (Try.prog.info? 26).map (fun i => (i.zero, i.size, i.bytes)) = some (some (.float .f64 0), 1, 8) := by kernel_rfl

/-- the policy in its box, the score in its cell -/
structure Kept (K G L : Nat) (p g : Nat) (o : Option Nat) (w : World) : Prop where
  box : Cells w p 32 #[.float .f64 K, .float .f64 G, .float .f64 L]
  score : ∃ x, x < 18446744073709551616 ∧ Fl.cv x = o ∧ Cells w g 26 #[.float .f64 x]

theorem Kept.far {K G L p g : Nat} {o : Option Nat} {w : World} (h : Kept K G L p g o w) {a : Addr} (hp : p ≠ a.block) (hg : g ≠ a.block) (u : Value) : Kept K G L p g o (w.setCell a u) := by
  obtain ⟨h1, x, h2, h3, h4⟩ := h
  exact ⟨h1.far hp u, x, h2, h3, h4.far hg u⟩
theorem Kept.drewN {K G L p g : Nat} {o : Option Nat} {w : World} (h : Kept K G L p g o w) (n : Nat) : Kept K G L p g o (w.drewN n) := ⟨h.1, h.2⟩
theorem Kept.below {K G L p g : Nat} {o : Option Nat} {w w' : World} (h : Kept K G L p g o w) (hb : Below w.heap.size w w') : Kept K G L p g o w' := by
  obtain ⟨h1, x, h2, h3, h4⟩ := h
  exact ⟨h1.below' hb, x, h2, h3, h4.below' hb⟩

def Teller (K G L : Nat) (w : World) (e : Ending) (w' : World) : Prop :=
  ∃ p g, e = .returned (.func (Fn.func 37) #[] #[.pointer (some ⟨p, 0, none⟩), .pointer (some ⟨g, 0, none⟩)]) ∧ w.heap.size ≤ p ∧ w.heap.size ≤ g ∧ Kept K G L p g (some 0) w' ∧ Below w.heap.size w w'

theorem scores_any (K G L : Nat) (w : World) : Calls Try.prog 31 #[.agg #[.float .f64 K, .float .f64 G, .float .f64 L]] w (Teller K G L w) := by
  go_enter Try.func31, Try.ntmps31
  go_wp2
  go_ret
  refine ⟨_, _, rfl, Nat.le_refl _, Nat.le_succ _, ⟨(Cells.new w _ _).alloc _, 0, by omega, by decide, ?_⟩, ((Below.refl _ _).alloc (Nat.le_refl _) _).alloc (by simp) _⟩
  have := Cells.new (w.alloc (.cells #[.float .f64 K, .float .f64 G, .float .f64 L] 32)) 26 #[.float .f64 0]
  rw [World.size_alloc] at this
  exact this

/-- one more turn told -/
theorem tell_any (K G L : Nat) (o : Option Nat) (b : Bool) (p g : Nat) (w : World) (h : Kept K G L p g o w) :
    Calls Try.prog 37 #[.bool b, .pointer (some ⟨p, 0, none⟩), .pointer (some ⟨g, 0, none⟩)] w fun e w' =>
      ∃ r, e = .returned (.float .f64 r) ∧ r < 18446744073709551616 ∧ Fl.cv r = Fl.nx K G o b ∧ Kept K G L p g (Fl.nx K G o b) w' ∧ w.grownBy w' (some g) := by
  obtain ⟨hp, x, hx, rfl, hg⟩ := h
  refine (told_any K G L x b p g w hp hg).mono ?_
  rintro e w' ⟨r, rfl, hr, hc, hcell, hgr⟩
  exact ⟨r, rfl, hr, hc, ⟨hp.grown hgr (fun e => hp.ne hg (by decide) (Option.some.inj e)), r, hr, hc, hcell⟩, hgr⟩

/-- the scores that have been told -/
def Upto (K G : Nat) (l : List Bool) (rs : List Nat) (k : Nat) : Prop := rs.length = l.length ∧ ∀ j, j < k → ∃ r, rs[j]? = some r ∧ r < 18446744073709551616 ∧ Fl.cv r = Fl.sc K G (l.take (j + 1))

theorem Upto.step {K G : Nat} {l : List Bool} {rs : List Nat} {k : Nat} (h : Upto K G l rs k) (hk : k < l.length) (r : Nat) (hr : r < 18446744073709551616) (hc : Fl.cv r = Fl.nx K G (Fl.sc K G (l.take k)) l[k]) :
    Upto K G l (rs.set k r) (k + 1) := by
  refine ⟨by rw [List.length_set]; exact h.1, fun j hj => ?_⟩
  by_cases e : j = k
  · subst e
    exact ⟨r, by rw [List.getElem?_set_self (by rw [h.1]; exact hk)], hr, by rw [hc, Fl.sc_take K G l j hk]⟩
  · obtain ⟨r', h1, h2⟩ := h.2 j (by omega)
    exact ⟨r', by rw [List.getElem?_set_ne (by omega)]; exact h1, h2⟩

def RunRel (K G L : Nat) (l : List Bool) (B p g o : Nat) (W : World) (i : Value) (w : World) : Prop :=
  ∃ (k : Nat) (rs : List Nat), k ≤ l.length ∧ i = .int .i64 k ∧ Upto K G l rs k ∧ Cells w o 26 (rs.map (Value.float .f64)).toArray ∧ Kept K G L p g (Fl.sc K G (l.take k)) w ∧ Below B W w

def Told' (K G : Nat) (l : List Bool) (W : World) (e : Ending) (w : World) : Prop :=
  ∃ o rs, e = .returned (.slice (some ⟨o, 0, none⟩) l.length l.length) ∧ Upto K G l rs l.length ∧ Cells w o 26 (rs.map (Value.float .f64)).toArray ∧ W.heap.size ≤ o ∧ Below W.heap.size W w

set_option maxHeartbeats 400000 in
theorem run_any (K G L : Nat) (l : List Bool) (A : Option Addr) (c : Nat) (w : World) (hn : l.length ≤ 1000) (hl : Row w w.heap.size A l.length (l.map Value.bool)) :
    Calls Try.prog 19 #[.agg #[.float .f64 K, .float .f64 G, .float .f64 L], .slice A l.length c] w (Told' K G l w) := by
  have hmk := fun W => make_row (P := Try.prog) 22 26 (.float .f64 0) 8 Try.underlying22 infof rfl l.length (by omega) (by omega) W
  have HL := Lib.hid hl; clear hl
  go_enter Try.func19, Try.ntmps19
  go_wp2_with fail
  refine (scores_any K G L _).mono ?_
  rintro e w1 ⟨p, g, rfl, hp, hg, hk, hb⟩
  have hb0 : Below w.heap.size w w1 := (((Below.refl _ _).alloc (Nat.le_refl _) _).alloc (by simp) _).trans (hb.mono (by simp; omega))
  have ho : Cells w1 (w.heap.size + 1) 26 (List.replicate l.length (Value.float .f64 0)).toArray := by
    refine Cells.below' ?_ hb
    have := Cells.new (w.alloc (.cells #[.float .f64 K, .float .f64 G, .float .f64 L] 32)) 26 (List.replicate l.length (Value.float .f64 0)).toArray
    rw [World.size_alloc] at this
    exact this
  simp only [World.size_alloc] at hp hg
  go_wp2
  go_loopw [16] (fun i wr => RunRel K G L l w.heap.size p g (w.heap.size + 1) w i wr) (fun i _ => l.length - (intOf i).toNat)
  case atStart =>
    exact ⟨0, List.replicate l.length 0, Nat.zero_le _, rfl, ⟨by simp, fun j hj => absurd hj (by omega)⟩, by rw [List.map_replicate]; exact ho, hk, hb0⟩
  case round =>
    obtain ⟨k, rs, hkl, rfl, hu, hco, hke, hbe⟩ := hrel
    by_cases hlt : k < l.length
    · obtain ⟨b, off, rfl, hbb, hcell⟩ := (HL.out.below hbe).at hlt
      rw [List.getElem_map] at hcell
      have hng : w.heap.size + 1 ≠ g := by omega
      go_wp2_with fail
      refine (tell_any K G L _ l[k] p g _ hke).mono ?_
      rintro e w2 ⟨r, rfl, hr, hc, hk2, hgr⟩
      have hco2 := hco.grown hgr (fun e => hng (Option.some.inj e))
      have hu2 := hu.step hlt r hr hc
      have o0 : w2.cell? ⟨w.heap.size + 1, k, none⟩ = some (.float .f64 (rs[k]'(by rw [hu.1]; exact hlt))) := by
        rw [hco2.cell k]; simp
      have of := hco2.free k
      have HC := Lib.hid hc; clear hc
      have HU := Lib.hid hu2; clear hu2
      go_wp2
      go_roundw
      case rel =>
        refine ⟨k + 1, rs.set k r, by omega, by go_num, HU.out, ?_, ?_, ?_⟩
        · have := hco2.set k (.float .f64 r)
          rw [List.setIfInBounds_toArray, ← List.map_set] at this
          exact this
        · rw [Fl.sc_take K G l k hlt]
          exact hk2.far (by show p ≠ w.heap.size + 1; omega) (by show g ≠ w.heap.size + 1; omega) _
        · exact (hbe.grown hgr hbe.size (fun q hq => by injection hq with hq; omega)).setCell (by show w.heap.size ≤ w.heap.size + 1; omega) _
      case measure => simp [intOf]; omega
    · go_wp2
      go_ret
      obtain rfl : k = l.length := by omega
      exact ⟨_, rs, rfl, hu, hco, Nat.le_succ _, hbe⟩
end Go.Proofs.Ytohilconpcgjeaa
