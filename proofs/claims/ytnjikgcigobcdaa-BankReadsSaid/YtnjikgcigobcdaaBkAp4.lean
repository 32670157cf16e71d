import Derived.Test.YtnjikgcigobcdaaBkAp
namespace Go.Proofs.Ytnjikgcigobcdaa
open Wd Pm Go.Maps Go.RowKit Go.Sort
set_option linter.unusedVariables false
set_option linter.unusedSectionVars false

theorem small_app1 (a : Int) (l : List Int) : ∀ o ∈ layA a l, Small1 o := layA_small a l
section
variable {W wr : World} {f : Fp} {σ : St} {P B I L D : Int} {n4 n5 n6 n7 n9 n10 : Nat} {A : Option Addr} {c : Nat} {l image log : List Int} (hb : AppB W f σ P B I L D n4 n5 n6 n7 n9 n10 A c l) (hk : Bank σ I L image log)
include hb hk
set_option maxRecDepth 100000 in
set_option maxHeartbeats 4000000 in
theorem app4_dev (hfit : (l.length : Int) ≤ L - log.length) (hi : AppI W f σ n9 n10 (layA (34 + I + log.length) l) (L - log.length) log.length wr) : Calls Try.prog 30 #[.pointer (some ⟨n4, 0, none⟩), .pointer (some ⟨n5, 0, none⟩), .pointer (some ⟨n6, 0, none⟩), .pointer (some ⟨n10, 0, none⟩), .pointer (some ⟨n7, 0, none⟩)] wr (Ends (AppQ W f σ n9 n10 I L log.length l 0) (AppQ W f σ n9 n10 I L log.length l)) := by
  obtain ⟨s4, s5, s6, s7, s9, s10, sS⟩ := AppB.far hb
  have hi0 := hk.i0; have hl0 := hk.l0; have hll := hk.ll; have hB := hb.B0; have hlen := hb.len; have hev := hb.ev
  have ht := hi.g.turn
  have D4 := hb.c4.turn' s4 ht
  have D5 := hb.c5.turn' s5 ht
  have D6 := hb.c6.turn' s6 ht
  have D7 := hb.c7.turn' s7 ht
  have D10 := hi.c10
  have KG : ∀ w, Calls Try.prog 31 #[.agg #[.int .i64 P, .int .i64 B, .int .i64 I, .int .i64 L, .int .i64 D], .int .i64 0] w (Grows (.int .i64 32) w) := fun w => by
    have := gBankAt P B I L D 0 hB.1 hB.2 w
    simpa [bankP] using this
  have hll2 := layA_len (34 + I + log.length) l
  have KL := fun (wk : World) (b : Nat) (bk : Below wr.heap.size wr wk) (hc : Cells wk b 49 #[.int .u64 ((log.length : Int) + l.length)]) (hnew : wr.heap.size ≤ b) =>
    lay_goS sS hi.g bk (layA_small _ _) 32 (some ⟨b, 0, none⟩) 1 [(log.length : Int) + l.length] (by simp only [List.length_singleton]; omega) (by omega) (by omega) (by simp) (fun v hv => by rw [List.mem_singleton.1 hv]; exact u64_of (by omega) (by omega))
      ⟨Row.of_cells hc hc.lt, fun bb o m e _ => by cases e; exact .inr hnew⟩
  have hQ : ∀ er w', GoS W (AppS f n9 n10) f σ (layA (34 + I + log.length) l ++ layA 32 [(log.length : Int) + l.length]) er w' → AppQ W f σ n9 n10 I L log.length l er w' := fun er w' h => by
    unfold AppQ
    rw [if_neg (by omega)]
    exact h
  have L10 : n10 < W.heap.size := (let ⟨_, h⟩ := hb.c10; h.lt)
  obtain ⟨ll, hLL⟩ : ∃ ll, log.length = ll := ⟨_, rfl⟩
  obtain ⟨n, hn⟩ : ∃ n, l.length = n := ⟨_, rfl⟩
  simp only [hLL, hn] at hll KL hQ D10 hlen D7 ⊢
  have q1 : IntKind.i64.wrap ((ll : Int) + (n : Int)) = (ll : Int) + n := wrapI (by omega) (by omega)
  have q2 : IntKind.u64.wrap ((ll : Int) + (n : Int)) = (ll : Int) + n := by rw [IntKind.wrap_u64]; omega
  have s9' : ∀ w' : World, (∀ k, k < W.heap.size → k ∉ f.blocks → w'.heap[k]? = wr.heap[k]?) → w'.cell? ⟨n4, 0, none⟩ = some (.pointer (some ⟨f.p, 0, none⟩)) ∧ w'.cell? ⟨n5, 0, none⟩ = some (.int .i64 P) ∧ w'.cell? ⟨n5, 1, none⟩ = some (.int .i64 B) ∧ w'.cell? ⟨n5, 2, none⟩ = some (.int .i64 I) ∧ w'.cell? ⟨n5, 3, none⟩ = some (.int .i64 L) ∧ w'.cell? ⟨n5, 4, none⟩ = some (.int .i64 D) ∧ w'.cell? ⟨n6, 0, none⟩ = some (.int .i64 0) ∧ w'.cell? ⟨n10, 0, none⟩ = some (.int .i64 ll) ∧ w'.cell? ⟨n7, 0, none⟩ = some (.slice A n c) := fun w' hw => by
    have d4 : Cells w' n4 _ _ := (hw n4 hb.c4.lt (fun h => s4 (sS _ h))).trans D4
    have d5 : Cells w' n5 _ _ := (hw n5 hb.c5.lt (fun h => s5 (sS _ h))).trans D5
    have d6 : Cells w' n6 _ _ := (hw n6 hb.c6.lt (fun h => s6 (sS _ h))).trans D6
    have d7 : Cells w' n7 _ _ := (hw n7 hb.c7.lt (fun h => s7 (sS _ h))).trans D7
    have d10 : Cells w' n10 _ _ := (hw n10 L10 s10).trans D10
    exact ⟨d4.cell 0, d5.cell 0, d5.cell 1, d5.cell 2, d5.cell 3, d5.cell 4, d6.cell 0, d10.cell 0, d7.cell 0⟩
  have S9 := Lib.hid s9'; have KGH := Lib.hid KG; have KLH := Lib.hid KL; have HQ := Lib.hid hQ
  have W3S := Lib.hid ht.size
  clear hb hk hi s4 s5 s6 s7 s9 s10 sS hi0 hl0 hll hB hlen hev ht D4 D5 D6 D7 D10 KG KL hQ L10 s9' hLL hn hll2 hfit
  have b0 : Below wr.heap.size wr wr.drew := below_drewN (Below.refl _ _) 1
  have b1 : Below wr.heap.size wr (wr.drew.alloc (.cells #[.int .u64 ((ll : Int) + n)] 49)) := b0.alloc (Nat.le_refl _) _
  have C1 := Lib.hid (Cells.new wr.drew 49 #[.int .u64 ((ll : Int) + n)])
  go_enter Try.func30, Try.ntmps30
  go_upto_region 1 with fail
  go_region_held3 (fun w' => w'.cell? ⟨n4, 0, none⟩ = some (.pointer (some ⟨f.p, 0, none⟩)) ∧ w'.cell? ⟨n5, 0, none⟩ = some (.int .i64 P) ∧ w'.cell? ⟨n5, 1, none⟩ = some (.int .i64 B) ∧ w'.cell? ⟨n5, 2, none⟩ = some (.int .i64 I) ∧ w'.cell? ⟨n5, 3, none⟩ = some (.int .i64 L) ∧ w'.cell? ⟨n5, 4, none⟩ = some (.int .i64 D) ∧ w'.cell? ⟨n6, 0, none⟩ = some (.int .i64 0) ∧ w'.cell? ⟨n10, 0, none⟩ = some (.int .i64 ll) ∧ w'.cell? ⟨n7, 0, none⟩ = some (.slice A n c))
    (first | exact S9.out _ (fun k hk _ => b0.block k (Nat.lt_of_lt_of_le hk W3S.out)) | exact S9.out _ (fun k hk _ => b1.block k (Nat.lt_of_lt_of_le hk W3S.out)) | exact S9.out _ (fun k hk _ => kG.block k (Nat.lt_of_lt_of_le hk W3S.out)) | exact S9.out _ (fun k hk _ => (kG.alloc kG.size _).block k (Nat.lt_of_lt_of_le hk W3S.out)) | exact S9.out _ eL)
    (first
      | (go_at_call 31; (with_reducible refine (KGH.out _).mono ?_); rintro e' wG hG; obtain ⟨rfl, bG⟩ := hG.below; clear hG; have kG : Below wr.heap.size wr wG := (by first | exact b0.trans (bG.mono b0.size) | exact b1.trans (bG.mono b1.size)))
      | (go_at_call 28; (first
          | refine (KLH.out _ _ kG (C1.out.below' bG) (Nat.le_refl _)).mono ?_
          | refine (KLH.out _ _ (kG.alloc kG.size _) (Cells.new wG _ _) kG.size).mono ?_)
         rintro e' wL ⟨er, rfl, gL, eL'⟩
         have eL : ∀ k, k < W.heap.size → k ∉ f.blocks → wL.heap[k]? = wr.heap[k]? := fun k hk hn => (eL' k hk hn).trans (by first | exact kG.block k (Nat.lt_of_lt_of_le hk W3S.out) | exact (kG.alloc kG.size _).block k (Nat.lt_of_lt_of_le hk W3S.out))))
  all_goals
    have GL := Lib.hid gL
    clear gL eL eL' kG KGH KLH
    go_wp2
    go_ret
    refine ⟨er, rfl, ?_⟩
    by_cases h0 : er = 0
    · subst h0
      exact .inl ⟨rfl, HQ.out _ _ GL.out⟩
    · exact .inr ⟨h0, HQ.out _ _ GL.out⟩
end
end Go.Proofs.Ytnjikgcigobcdaa
