import Derived.Test.YtnjikgcigobcdaaGreatPmDn
namespace Go.Proofs.YtnjikgcigobcdaaGreat
open Wd Pm Go.Maps Go.RowKit
set_option linter.unusedVariables false

/-! the copy goes on, and the old one is spoilt -/

def CSt (w : World) (p p' q m mo : Nat) (wr : World) : Prop :=
  ∃ (f0 : Fp) (σ0 : St), f0.p = p ∧ Dev wr f0 σ0 ∧ Fresh w f0 ∧ σ0.ev ≤ mo ∧ ∃ (f : Fp) (σ : St) (ρ : RSt), f.p = p' ∧ (∀ k ∈ f.blocks, k ∉ f0.blocks) ∧ Dev wr f σ ∧ Fresh w f ∧ Below w.heap.size w wr ∧ Same σ ρ ∧ σ.ev ≤ m ∧ ρ.l.length ≤ m ∧ RDev wr w.heap.size q ρ

theorem CSt.dst {w wr : World} {p p' q m mo : Nat} (h : CSt w p p' q m mo wr) : DSt w p' q m wr := by
  obtain ⟨_, _, _, _, _, _, f, σ, ρ, h1, _, h2, h3, h4, h5, h6, h7, h8⟩ := h
  exact ⟨f, σ, ρ, h1, h2, h3, h4, h5, h6, h7, h8⟩

theorem DSt.up {w wr : World} {p q m m' : Nat} (h : DSt w p q m wr) (hm : m ≤ m') : DSt w p q m' wr := by
  obtain ⟨f, σ, ρ, h1, h2, h3, h4, h5, h6, h7, h8⟩ := h
  exact ⟨f, σ, ρ, h1, h2, h3, h4, h5, by omega, by omega, h8⟩

theorem cst_go {w w1 w2 : World} {p' q m mo : Nat} {f0 : Fp} {σ0 σ1 : St} (d0 : Dev w1 f0 σ0) (fr0 : Fresh w f0) (g : Goes w1 f0 σ1 w2) (he : σ1.ev ≤ mo)
    (h : ∃ (f : Fp) (σ : St) (ρ : RSt), f.p = p' ∧ (∀ k ∈ f.blocks, k ∉ f0.blocks) ∧ Dev w1 f σ ∧ Fresh w f ∧ Below w.heap.size w w1 ∧ Same σ ρ ∧ σ.ev ≤ m ∧ ρ.l.length ≤ m ∧ RDev w1 w.heap.size q ρ) : CSt w f0.p p' q m mo w2 := by
  obtain ⟨f, σ, ρ, h1, hn, h2, h3, h4, h5, h6, h7, h8⟩ := h
  obtain ⟨f1, d1, e, n, t⟩ := g
  have hlt : ∀ k ∈ f.blocks, k < w1.heap.size := fun k hk => by have := h2.lt; simp [Fp.blocks] at hk; omega
  have b2 := t.below (.inr h4.size) fr0
  refine ⟨f1, σ1, e, d1, fun k hk => ?_, he, f, σ, ρ, h1, fun k hk hm => ?_, h2.keep fun k hk => t.block k (hlt k hk) (hn k hk), h3, h4.trans b2, h5, h6, h7, h8.turn d0 t⟩
  · rcases n k hk with h | h
    · exact fr0 k h
    · exact Nat.le_trans h4.size h
  · rcases n k hm with h | h
    · exact hn k hk h
    · exact absurd (hlt k hk) (by omega)

def KeepsD (wr w' : World) : Prop := ∀ g cs, Cells wr g 34 cs → Cells w' g 34 cs

theorem c_store {w wr : World} {p p' q m mo : Nat} (h : CSt w p p' q m mo wr) (hm : mo ≤ 1000) (i v : Int) (hv : U64 v) : Calls Tryz.prog 31 #[.pointer (some ⟨p, 0, none⟩), .int .i64 i, .int .u64 v] wr fun e w' => (∃ er, e = .returned (.int .i64 er)) ∧ CSt w p p' q m (mo + 1) w' ∧ KeepsD wr w' := by
  obtain ⟨f0, σ0, rfl, d0, fr0, he, k⟩ := h
  refine (store_dev d0 (by omega) i v hv).mono ?_
  rintro e w' ⟨rfl, g⟩
  refine ⟨⟨_, rfl⟩, cst_go d0 fr0 g (by have := ev_tried (σ := σ0) (b := hasW σ0.n i) (plain_hold i v); omega) k, fun g' cs hc => ?_⟩
  obtain ⟨_, _, _, _, t⟩ := g
  exact hc.turn d0 (by decide) (by decide) t

theorem c_crash {w wr : World} {p p' q m mo : Nat} (h : CSt w p p' q m mo wr) : Calls Tryz.prog 29 #[.pointer (some ⟨p, 0, none⟩), .slice none 0 0] wr fun e w' => e = .returned (.tuple #[]) ∧ DSt w p' q m w' ∧ KeepsD wr w' := by
  obtain ⟨f0, σ0, rfl, d0, fr0, he, k⟩ := h
  have hb := k
  obtain ⟨_, _, _, _, _, _, _, hb, _⟩ := hb
  refine (crash_dev d0 w.heap.size fr0 hb.size none 0 [] Row.nil (by simp)).mono ?_
  rintro e w' ⟨rfl, l, _, g⟩
  refine ⟨rfl, (cst_go (mo := mo) d0 fr0 g he k).dst, fun g' cs hc => ?_⟩
  obtain ⟨_, _, _, _, t⟩ := g
  exact hc.turn d0 (by decide) (by decide) t

/-! what is told behind each deed -/

def wantR (ρ : RSt) (i : Int) : Int := if ρ.dead then 0 else if inB i ρ.n then holdsL i ρ.l else 0

theorem same_load {σ : St} {ρ : RSt} (s : Same σ ρ) (i : Int) : σ.loadVal i = wantR ρ i := by
  unfold St.loadVal wantR refErr
  rw [s.dead]
  have hi : inB i ρ.n = hasW σ.n i := by unfold inB hasW; rw [s.n]
  rw [hi, ← alike_holds s.l i]
  cases σ.dead <;> cases hasW σ.n i <;> simp

theorem same_stays {σ : St} {ρ : RSt} (s : Same σ ρ) (hok : ∀ r ∈ ρ.l, 0 ≤ r.at_ ∧ r.at_ < ρ.n) (i : Int) : σ.stays i = staysL i ρ.l := by
  unfold St.stays
  by_cases h : hasW σ.n i = true
  · rw [if_pos h]; exact alike_stays s.l i
  · rw [if_neg h]
    unfold staysL
    rw [find_none fun r hr e => h (by rw [hasW_iff, ← s.n]; have := hok r hr; omega)]

section
variable {wr w1 : World} {f : Fp} {σ : St} {ρ : RSt} {B q : Nat}

theorem t_stays (d : Dev wr f σ) (b : Below wr.heap.size wr w1) (i : Int) : Calls Tryz.prog 18 #[.pointer (some ⟨f.p, 0, none⟩), .int .i64 i] w1 fun e w' => e = .returned (.int .u64 (σ.stays i)) ∧ w1 = w' := stays_dev (d.below b) i

theorem t_rstays (d : RDev wr B q ρ) (b : Below wr.heap.size wr w1) (i : Int) : Calls Tryz.prog 19 #[.pointer (some ⟨q, 0, none⟩), .int .i64 i] w1 fun e w' => e = .returned (.int .u64 (staysL i ρ.l)) ∧ Below wr.heap.size wr w' ∧ Below w1.heap.size w1 w' := by
  refine (rstays_dev (d.below b) i).mono ?_
  rintro e w' ⟨rfl, b'⟩
  exact ⟨rfl, b.trans (b'.mono b.size), b'⟩

def IRowT (w : World) (A : Option Addr) (l : List Int) : Prop := Row w w.heap.size A l.length (l.map (Value.int .i64))

theorem IRowT.below {w w' : World} {A : Option Addr} {l : List Int} (h : IRowT w A l) (b : Below w.heap.size w w') : IRowT w' A l := (Row.below h b).more b.size

theorem t_dirty (d : Dev wr f σ) (s : Same σ ρ) (b : Below wr.heap.size wr w1) : Calls Tryz.prog 16 #[.pointer (some ⟨f.p, 0, none⟩)] w1 fun e w' => ∃ A c, e = .returned (.slice A (dirtyR ρ.l).length c) ∧ IRowT w' A (dirtyR ρ.l) ∧ Below wr.heap.size wr w' ∧ Below w1.heap.size w1 w' := by
  refine (dirty_dev (d.below b)).mono ?_
  rintro e w' ⟨l, hk, v, rfl, ho, b'⟩
  obtain rfl := keys_same hk (alike_keys s.l)
  obtain ⟨A, c, rfl, hr⟩ := Row.of_own ho
  exact ⟨A, c, rfl, hr, b.trans (b'.mono b.size), b'⟩

theorem t_rdirty (d : RDev wr B q ρ) (b : Below wr.heap.size wr w1) : Calls Tryz.prog 17 #[.pointer (some ⟨q, 0, none⟩)] w1 fun e w' => ∃ A c, e = .returned (.slice A (dirtyR ρ.l).length c) ∧ IRowT w' A (dirtyR ρ.l) ∧ Below wr.heap.size wr w' ∧ Below w1.heap.size w1 w' := by
  refine (rdirty_dev (d.below b)).mono ?_
  rintro e w' ⟨v, rfl, ho, b'⟩
  obtain ⟨A, c, rfl, hr⟩ := Row.of_own ho
  exact ⟨A, c, rfl, hr, b.trans (b'.mono b.size), b'⟩

theorem t_same {l : List Int} {A C : Option Addr} {c d : Nat} (hl : l.length ≤ 1000) (b : Below wr.heap.size wr w1) (ra : IRowT w1 A l) (rc : IRowT w1 C l) : Calls Tryz.prog 15 #[.slice A l.length c, .slice C l.length d] w1 fun e w' => e = .returned (.bool true) ∧ Below wr.heap.size wr w' ∧ Below w1.heap.size w1 w' := by
  refine (same_any l (by omega) A C c d ra rc).mono ?_
  rintro e w' ⟨rfl, b'⟩
  exact ⟨rfl, b.trans (b'.mono b.size), b'⟩

end

/-- both devices, new -/
theorem dst_new {w w3 w4 : World} {f : Fp} {q k : Nat} (b3 : Below w.heap.size w w3) (d3 : Dev w3 f (.fresh k)) (fr : Fresh w f) (b4 : Below w3.heap.size w3 w4) (rd : RDev w4 w.heap.size q (.fresh k)) : DSt w f.p q 0 w4 :=
  ⟨f, _, _, rfl, d3.below b4, fr, b3.trans (b4.mono b3.size), ⟨rfl, rfl, rfl, rfl, Int.le_refl 0, ⟨.nil, (fun r hr => by cases hr), (fun x _ => ⟨rfl, rfl, rfl⟩)⟩⟩, by show (0 : Int) ≤ _; omega, by show 0 ≤ _; omega, rd⟩
end Go.Proofs.YtnjikgcigobcdaaGreat
