import Derived.Test.YtnjikgcigobcdaaGreatBkLay
namespace Go.Proofs.YtnjikgcigobcdaaGreat
open Wd Pm Go.Maps Go.RowKit
set_option linter.unusedVariables false

theorem ref_nil (d b : Bool) : (refErr d b == (91 : Int)) = false := by unfold refErr; cases d <;> cases b <;> decide
set_option maxRecDepth 100000 in
theorem made_yes {w : World} {f : Fp} {σ : St} (h : Dev w f σ) : Calls Tryz.prog 34 #[f.ptr] w fun e w' => e = .returned (.int .i64 0) ∧ w = w' := by
  have hb := ref_nil σ.dead (hasW σ.n 0)
  have K := Lib.hid (load_dev h 0)
  clear h
  go_enter Tryz.func34, Tryz.ntmps34
  go_wp2_with fail
  refine (K.out).mono ?_
  rintro e w' ⟨rfl, rfl⟩
  clear K
  go_wp2
  go_ret
  exact ⟨rfl, rfl⟩
theorem forEach_gen (a b : Int) (F : FuncId) (first cap : Array Value) (w : World) : Calls Tryz.prog 36 #[.int .i64 a, .int .i64 b, .func (.func F) first cap] w fun e w' => ∃ g, e = .returned (EachV g) ∧ w.heap.size ≤ g ∧ Each w' g a b (.func (.func F) first cap) ∧ Below w.heap.size w w' :=
  (forEach_any a b F first cap w).mono fun e w' ⟨h1, h2⟩ => ⟨w.heap.size, h1, Nat.le_refl _, h2 ▸ each_new w a b _, h2 ▸ each_below w a b _⟩
theorem lay_arm {w W wK : World} {f : Fp} {σ : St} {gA gB n : Nat} {at_ : Int} {A : Option Addr} {c : Nat} {l : List Int} (hN : l.length = n)
    (hev : σ.ev + (2 * l.length + 3) < 4611686018427387904) (h0 : 0 ≤ at_) (h1 : at_ ≤ 900000000) (hl : l ≠ []) (hn : n ≤ 10000000) (hu : ∀ v ∈ l, U64 v) (h : Dev w f σ) (hr : RowO w f A l)
    (b : Below w.heap.size w W) (k : Below W.heap.size W wK)
    (c0 : Cells W w.heap.size 27 #[.pointer (some ⟨f.p, 0, none⟩)]) (c1 : Cells W (w.heap.size + 1) 3 #[.int .i64 at_]) (c2 : Cells W (w.heap.size + 1 + 1) 23 #[.slice A n c])
    (lA : W.heap.size ≤ gA) (lB : W.heap.size ≤ gB)
    (eA : Each wK gA 0 ((n : Int) - 1) (.func (.func 37) #[] #[.pointer (some ⟨w.heap.size, 0, none⟩), .pointer (some ⟨w.heap.size + 1, 0, none⟩), .pointer (some ⟨w.heap.size + 1 + 1, 0, none⟩)]))
    (eB : Each wK gB (at_ / 8) ((at_ + n - 1) / 8) (.func (.func 23) #[.pointer (some ⟨f.p, 0, none⟩)] #[])) :
    Calls Tryz.prog 35 #[.slice (some ⟨wK.heap.size, 0, none⟩) 3 3] (wK.alloc (.cells #[EachV gA, EachV gB, .func (.func 25) #[.pointer (some ⟨f.p, 0, none⟩)] #[]] 60)) fun e w' =>
      e = .returned (.int .i64 (runS (layA at_ l) σ).2) ∧ Goes w f (runS (layA at_ l) σ).1 w' ∧ w'.cell? ⟨w.heap.size, 0, none⟩ = some (.pointer (some ⟨f.p, 0, none⟩)) ∧ w'.cell? ⟨w.heap.size + 1, 0, none⟩ = some (.int .i64 at_) ∧ w'.cell? ⟨w.heap.size + 1 + 1, 0, none⟩ = some (.slice A n c) := by
  subst hN
  have bK := b.trans (k.mono b.size)
  have hnew : Below wK.heap.size wK (wK.alloc (.cells #[EachV gA, EachV gB, .func (.func 25) #[.pointer (some ⟨f.p, 0, none⟩)] #[]] 60)) := (Below.refl _ _).alloc (Nat.le_refl _) _
  have hR := Row.of_cells (B := (wK.alloc (.cells #[EachV gA, EachV gB, .func (.func 25) #[.pointer (some ⟨f.p, 0, none⟩)] #[]] 60)).heap.size) (Cells.new wK 60 #[EachV gA, EachV gB, .func (.func 25) #[.pointer (some ⟨f.p, 0, none⟩)] #[]]) (by simp)
  obtain ⟨W2, hW2⟩ : ∃ W2, wK.alloc (.cells #[EachV gA, EachV gB, .func (.func 25) #[.pointer (some ⟨f.p, 0, none⟩)] #[]] 60) = W2 := ⟨_, rfl⟩
  rw [hW2] at hR hnew ⊢
  have bAll := bK.trans (hnew.mono bK.size)
  have hfb : ∀ k ∈ f.blocks, k < w.heap.size := fun k hk => by have := h.lt; simp [Fp.blocks] at hk; omega
  have hlt : ∀ b o m, A = some ⟨b, o, m⟩ → 0 < l.length → b < w.heap.size := fun b o m e hp => by
    obtain ⟨b', o', e', hb, _⟩ := hr.1.2 hp
    rw [e] at e'
    cases e'
    exact hb
  have k0 := (c0.below' k).below' hnew
  have k1 := (c1.below' k).below' hnew
  have k2 := (c2.below' k).below' hnew
  have hi : LayIn W2 f w.heap.size w.heap.size gA gB at_ A c l :=
    ⟨hfb, Nat.le_refl _, Nat.le_trans b.size lA, Nat.le_trans b.size lB, k0, k1, k2, ⟨(Row.below hr.1 bAll).more bAll.size, hr.2⟩, eA.below hnew, eB.below hnew⟩
  refine (lay_turn hev h0 h1 hl hn hu hi (h.below bAll) (some ⟨wK.heap.size, 0, none⟩) 3 hR (fun b o m e => by cases e; exact bK.size)).mono ?_
  rintro e w' ⟨rfl, hg⟩
  obtain ⟨f', d', hp, hb, ht⟩ := hg
  have t0 := (cells_turn k0 (fun hm => absurd (hfb _ hm) (by omega)) ht).cell 0
  have t1 := (cells_turn k1 (fun hm => absurd (hfb _ hm) (by omega)) ht).cell 0
  have t2 := (cells_turn k2 (fun hm => absurd (hfb _ hm) (by omega)) ht).cell 0
  exact ⟨rfl, Goes.from ⟨f', d', hp, hb, ht⟩ bAll, t0, t1, t2⟩
set_option maxRecDepth 100000 in
set_option maxHeartbeats 4000000 in
theorem lay_dev {w : World} {f : Fp} {σ : St} (h : Dev w f σ) (at_ : Int) (A : Option Addr) (c : Nat) (l : List Int) (hev : σ.ev + (2 * l.length + 3) < 4611686018427387904) (h0 : 0 ≤ at_) (h1 : at_ ≤ 900000000) (hn : l.length ≤ 10000000) (hu : ∀ v ∈ l, U64 v) (hr : RowO w f A l) :
    Calls Tryz.prog 12 #[f.ptr, .int .i64 at_, .slice A l.length c] w fun e w' => e = .returned (.int .i64 (runS (layA at_ l) σ).2) ∧ Goes w f (runS (layA at_ l) σ).1 w' := by
  have hp : f.ptr = .pointer (some ⟨f.p, 0, none⟩) := rfl
  have hb3 : Below w.heap.size w (((w.alloc (.cells #[f.ptr] 27)).alloc (.cells #[.int .i64 at_] 3)).alloc (.cells #[.slice A l.length c] 23)) := (((Below.refl _ _).alloc (Nat.le_refl _) _).alloc (by simp) _).alloc (by simp; omega) _
  by_cases hl : l = []
  · subst hl
    have K := Lib.hid (made_yes (h.below hb3))
    have HD := Lib.hid (Goes.refl (h.below hb3))
    have HB := Lib.hid hb3
    clear h hr hb3
    rw [hp] at K HD HB
    rw [hp]
    show Calls _ _ #[_, _, .slice A (0 : Nat) c] _ _
    go_enter Tryz.func12, Tryz.ntmps12
    go_wp2_with fail
    refine (K.out).mono ?_
    rintro e w' ⟨rfl, rfl⟩
    clear K
    go_wp2
    go_ret
    exact ⟨rfl, HD.out.from HB.out⟩
  · have hpos : 0 < l.length := List.length_pos_iff.2 hl
    obtain ⟨n, hN⟩ : ∃ n, l.length = n := ⟨_, rfl⟩
    have hdec : ((n : Int) == 0) = false := by simp; omega
    have H := Lib.hid h; have HR := Lib.hid hr; have HB := Lib.hid hb3; have HU := Lib.hid hu; have HE := Lib.hid hev; have HL := Lib.hid hl
    have q1 : IntKind.i64.wrap ((n : Int) - 1) = (n : Int) - 1 := wrapI (by omega) (by omega)
    have q2 : IntKind.i64.wrap (at_ + (n : Int)) = at_ + (n : Int) := wrapI (by omega) (by omega)
    have q3 : IntKind.i64.wrap (at_ + (n : Int) - 1) = at_ + (n : Int) - 1 := wrapI (by omega) (by omega)
    have q4 : at_.tdiv 8 = at_ / 8 := Int.tdiv_eq_ediv_of_nonneg h0
    have q5 : (at_ + (n : Int) - 1).tdiv 8 = (at_ + (n : Int) - 1) / 8 := Int.tdiv_eq_ediv_of_nonneg (by omega)
    have q6 : IntKind.i64.wrap (at_ / 8) = at_ / 8 := wrapI (by omega) (by omega)
    have q7 : IntKind.i64.wrap ((at_ + (n : Int) - 1) / 8) = (at_ + (n : Int) - 1) / 8 := wrapI (by omega) (by omega)
    clear h hr hb3 hu hev
    rw [hN] at HB hpos hn ⊢
    have HN := Lib.hid hN
    clear hN hl
    rw [hp] at HB ⊢
    have c0 := ((Cells.new w 27 #[.pointer (some ⟨f.p, 0, none⟩)]).alloc (.cells #[.int .i64 at_] 3)).alloc (.cells #[.slice A n c] 23)
    have c1 := (Cells.new (w.alloc (.cells #[.pointer (some ⟨f.p, 0, none⟩)] 27)) 3 #[.int .i64 at_]).alloc (.cells #[.slice A n c] 23)
    have c2 := Cells.new ((w.alloc (.cells #[.pointer (some ⟨f.p, 0, none⟩)] 27)).alloc (.cells #[.int .i64 at_] 3)) 23 #[.slice A n c]
    simp only [World.size_alloc] at c1 c2
    have C0 := Lib.hid c0; have C1 := Lib.hid c1; have C2 := Lib.hid c2
    have HP := Lib.hid hp
    clear hp
    go_enter Tryz.func12, Tryz.ntmps12
    go_upto_region 4 with fail
    obtain ⟨W, hW⟩ : ∃ W, ((w.alloc (.cells #[.pointer (some ⟨f.p, 0, none⟩)] 27)).alloc (.cells #[.int .i64 at_] 3)).alloc (.cells #[.slice A n c] 23) = W := ⟨_, rfl⟩
    rw [hW] at C0 C1 C2 HB ⊢
    have hb0 : Below W.heap.size W W.drew := below_drewN (Below.refl _ _) 1
    have k0 : W.cell? ⟨w.heap.size, 0, none⟩ = some (.pointer (some ⟨f.p, 0, none⟩)) := C0.out.cell 0
    have k1 : W.cell? ⟨w.heap.size + 1, 0, none⟩ = some (.int .i64 at_) := C1.out.cell 0
    have k2 : W.cell? ⟨w.heap.size + 1 + 1, 0, none⟩ = some (.slice A n c) := C2.out.cell 0
    have s9 : ∀ w' : World, Below W.heap.size W w' → w'.cell? ⟨w.heap.size, 0, none⟩ = some (.pointer (some ⟨f.p, 0, none⟩)) ∧ w'.cell? ⟨w.heap.size + 1, 0, none⟩ = some (.int .i64 at_) ∧ w'.cell? ⟨w.heap.size + 1 + 1, 0, none⟩ = some (.slice A n c) :=
      fun w' hb => ⟨(C0.out.below' hb).cell 0, (C1.out.below' hb).cell 0, (C2.out.below' hb).cell 0⟩
    have S9 := Lib.hid s9
    clear s9
    go_region_held3 (fun w' => w'.cell? ⟨w.heap.size, 0, none⟩ = some (.pointer (some ⟨f.p, 0, none⟩)) ∧ w'.cell? ⟨w.heap.size + 1, 0, none⟩ = some (.int .i64 at_) ∧ w'.cell? ⟨w.heap.size + 1 + 1, 0, none⟩ = some (.slice A n c))
      (first | exact S9.out _ hb0 | exact S9.out _ kA | exact S9.out _ kB | exact S9.out _ (kA.alloc kA.size _) | exact S9.out _ (kB.alloc kB.size _) | exact kE)
      (first
        | (go_at_call 36; (with_reducible refine (forEach_gen 0 ((n : Int) - 1) 37 #[] #[.pointer (some ⟨w.heap.size, 0, none⟩), .pointer (some ⟨w.heap.size + 1, 0, none⟩), .pointer (some ⟨w.heap.size + 1 + 1, 0, none⟩)] _).mono ?_); rintro e' wA ⟨gA, rfl, lA, eA, bA⟩; unfold EachV; have kA : Below W.heap.size W wA := (by first | exact hb0.trans (bA.mono hb0.size) | exact kB.trans (bA.mono kB.size)); have mA : W.heap.size ≤ gA := (by first | exact lA | exact Nat.le_trans kB.size lA))
        | (go_at_call 36; (with_reducible refine (forEach_gen (at_ / 8) ((at_ + (n : Int) - 1) / 8) 23 #[.pointer (some ⟨f.p, 0, none⟩)] #[] _).mono ?_); rintro e' wB ⟨gB, rfl, lB, eB, bB⟩; unfold EachV; have kB : Below W.heap.size W wB := (by first | exact hb0.trans (bB.mono hb0.size) | exact kA.trans (bB.mono kA.size)); have mB : W.heap.size ≤ gB := (by first | exact lB | exact Nat.le_trans kA.size lB))
        | (go_at_call 35; first
            | refine (lay_arm HN.out HE.out h0 h1 HL.out hn HU.out H.out HR.out HB.out kB C0.out C1.out C2.out mA mB (eA.below bB) eB).mono ?_
            | refine (lay_arm HN.out HE.out h0 h1 HL.out hn HU.out H.out HR.out HB.out kA C0.out C1.out C2.out mA mB eA (eB.below bA)).mono ?_
           rintro e' w9 ⟨rfl, hG, kE⟩))
    all_goals
      have HG := Lib.hid hG
      clear hG
      go_wp2
      go_ret
      exact ⟨rfl, HG.out⟩
end Go.Proofs.YtnjikgcigobcdaaGreat
