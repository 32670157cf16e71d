import Derived.Test.YtnjikgcigobcdaaGreatMG
namespace Go.Proofs.YtnjikgcigobcdaaGreat
open Wd Pm Go.Maps Go.RowKit Go.Sort
set_option linter.unusedVariables false
set_option linter.unusedSectionVars false

/-! Make: its steps -/
structure MakB (W : World) (f : Fp) (σ : St) (P B I L D : Int) (n4 n5 n6 n7 : Nat) (A : Option Addr) (c : Nat) (l : List Int) : Prop where
  d : Dev W f σ
  c4 : Cells W n4 27 #[.pointer (some ⟨f.p, 0, none⟩)]
  c5 : Cells W n5 49 #[.int .i64 P, .int .i64 B, .int .i64 I, .int .i64 L, .int .i64 D]
  c6 : Cells W n6 3 #[.int .i64 0]
  c7 : Cells W n7 23 #[.slice A l.length c]
  B0 : 0 ≤ B ∧ B ≤ 200000
  i0 : 0 ≤ I ∧ I ≤ 1000000
  row : Row W W.heap.size A l.length (l.map VU64)
  out : ∀ b o m, A = some ⟨b, o, m⟩ → 0 < l.length → b ∉ f.blocks
  u : ∀ v ∈ l, U64 v
  len : l.length ≤ 1000000
  ev : σ.ev + (4 * l.length + 1000) < 4611686018427387904
def makeA (l : List Int) : List Act := layA 34 l ++ layA 32 [0, (l.length : Int)]
def MakQ (W : World) (f : Fp) (σ : St) (I : Int) (l : List Int) (er : Int) (w' : World) : Prop :=
  if I < l.length then er = 28 ∧ GoS W f.blocks f σ [] 0 w' else GoS W f.blocks f σ (makeA l) er w'
theorem MakB.far {W : World} {f : Fp} {σ : St} {P B I L D : Int} {n4 n5 n6 n7 : Nat} {A : Option Addr} {c : Nat} {l : List Int} (hb : MakB W f σ P B I L D n4 n5 n6 n7 A c l) : n4 ∉ f.blocks ∧ n5 ∉ f.blocks ∧ n6 ∉ f.blocks ∧ n7 ∉ f.blocks :=
  ⟨dev_out hb.d hb.c4 (by decide) (by decide), dev_out hb.d hb.c5 (by decide) (by decide), dev_out hb.d hb.c6 (by decide) (by decide), dev_out hb.d hb.c7 (by decide) (by decide)⟩
section
variable {W wr : World} {f : Fp} {σ : St} {P B I L D : Int} {n4 n5 n6 n7 : Nat} {A : Option Addr} {c : Nat} {l : List Int} (hb : MakB W f σ P B I L D n4 n5 n6 n7 A c l)
include hb
set_option maxRecDepth 100000 in
set_option maxHeartbeats 2000000 in
theorem mak1_dev (hi : GoS W f.blocks f σ [] 0 wr) : Calls Tryz.prog 73 #[.pointer (some ⟨n4, 0, none⟩)] wr (Ends (GoS W f.blocks f σ [] 0) (MakQ W f σ I l)) := by
  obtain ⟨s4, s5, s6, s7⟩ := MakB.far hb
  have k4 : wr.cell? ⟨n4, 0, none⟩ = some (.pointer (some ⟨f.p, 0, none⟩)) := (hb.c4.turn' s4 hi.turn).cell 0
  have HI := Lib.hid hi
  obtain ⟨σ', f', hr, d', hp, hbl, _⟩ := hi
  have KM := made_yes d'
  rw [show f'.ptr = .pointer (some ⟨f.p, 0, none⟩) by unfold Fp.ptr; rw [hp]] at KM
  have KM := Lib.hid KM
  clear hb s4 s5 s6 s7 d' hp hbl hr
  go_enter Tryz.func73, Tryz.ntmps73
  go_wp2_with fail
  refine (KM.out).mono ?_
  rintro e w2 ⟨rfl, rfl⟩
  clear KM
  go_wp2
  go_ret
  exact ⟨0, rfl, .inl ⟨rfl, HI.out⟩⟩
set_option maxRecDepth 100000 in
set_option maxHeartbeats 2000000 in
theorem mak2_dev (hi : GoS W f.blocks f σ [] 0 wr) : Calls Tryz.prog 74 #[.pointer (some ⟨n7, 0, none⟩), .pointer (some ⟨n5, 0, none⟩)] wr (Ends (fun w' => (l.length : Int) ≤ I ∧ GoS W f.blocks f σ [] 0 w') (MakQ W f σ I l)) := by
  obtain ⟨s4, s5, s6, s7⟩ := MakB.far hb
  have ht := hi.turn
  have k7 : wr.cell? ⟨n7, 0, none⟩ = some (.slice A l.length c) := (hb.c7.turn' s7 ht).cell 0
  have k5 : wr.cell? ⟨n5, 2, none⟩ = some (.int .i64 I) := (hb.c5.turn' s5 ht).cell 2
  have hQ : I < l.length → MakQ W f σ I l 28 wr := fun h => by unfold MakQ; rw [if_pos h]; exact ⟨rfl, hi⟩
  have HI := Lib.hid hi; have HQ := Lib.hid hQ
  obtain ⟨n, hn⟩ : ∃ n, l.length = n := ⟨_, rfl⟩
  rw [hn] at HQ k7
  simp only [hn]
  clear hb hi s4 s5 s6 s7 ht hQ hn
  go_enter Tryz.func74, Tryz.ntmps74
  go_wp2_with fail
  refine (fits_is _ _ _).mono ?_
  rintro e w2 ⟨rfl, rfl⟩
  by_cases hc : I < n
  · rw [if_pos hc]
    go_wp2
    go_ret
    exact ⟨28, rfl, .inr ⟨by decide, HQ.out hc⟩⟩
  · rw [if_neg hc]
    go_wp2
    go_ret
    exact ⟨0, rfl, .inl ⟨rfl, by omega, HI.out⟩⟩
set_option maxRecDepth 100000 in
set_option maxHeartbeats 4000000 in
theorem mak3_dev (hfit : (l.length : Int) ≤ I) (hi : GoS W f.blocks f σ ([]) 0 wr) : Calls Tryz.prog 76 #[.pointer (some ⟨n4, 0, none⟩), .pointer (some ⟨n5, 0, none⟩), .pointer (some ⟨n6, 0, none⟩), .pointer (some ⟨n7, 0, none⟩)] wr (Ends (GoS W f.blocks f σ (layA 34 l) 0) (MakQ W f σ I l)) := by
  obtain ⟨s4, s5, s6, s7⟩ := MakB.far hb
  have hB := hb.B0; have hlen := hb.len; have hev := hb.ev; have hi0 := hb.i0
  have ht := hi.turn
  have D4 := hb.c4.turn' s4 ht
  have D5 := hb.c5.turn' s5 ht
  have D6 := hb.c6.turn' s6 ht
  have D7 := hb.c7.turn' s7 ht
  have KG : ∀ w, Calls Tryz.prog 51 #[.agg #[.int .i64 P, .int .i64 B, .int .i64 I, .int .i64 L, .int .i64 D], .int .i64 0] w (Grows (.int .i64 34) w) := fun w => by
    have := gImageAt P B I L D 0 hB.1 hB.2 w
    simpa [bankP] using this
  have hll2 := layA_len 34 l
  have hrow : ∀ wk, Below wr.heap.size wr wk → RowIn W wr wk f A l := fun wk b => by
    refine ⟨(Row.below (row_turn' hb.row ht hb.out) b).more b.size, fun bb o m e hp => .inl ⟨?_, hb.out bb o m e hp⟩⟩
    obtain ⟨b', o', e', hlt, _⟩ := hb.row.2 hp
    rw [e] at e'
    cases e'
    exact hlt
  have KL := fun (wk : World) (b : Below wr.heap.size wr wk) => lay_goS (fun k hk => hk) hi b (fun o ho => by cases ho) 34 A c l (by simp only [List.length_nil]; omega) (by omega) (by omega) (by omega) hb.u (hrow wk b)
  have hQ : ∀ er w', er ≠ 0 → GoS W f.blocks f σ ([] ++ layA 34 l) er w' → MakQ W f σ I l er w' := fun er w' h0 h => by
    unfold MakQ
    rw [if_neg (by omega)]
    exact GoS.pre h h0 _
  obtain ⟨n, hn⟩ : ∃ n, l.length = n := ⟨_, rfl⟩
  simp only [hn] at KL hlen D7 ⊢
  have q2 : IntKind.u64.wrap (n : Int) = (n : Int) := by rw [IntKind.wrap_u64]; omega
  have s9' : ∀ w' : World, (∀ k, k < W.heap.size → k ∉ f.blocks → w'.heap[k]? = wr.heap[k]?) → w'.cell? ⟨n4, 0, none⟩ = some (.pointer (some ⟨f.p, 0, none⟩)) ∧ w'.cell? ⟨n5, 0, none⟩ = some (.int .i64 P) ∧ w'.cell? ⟨n5, 1, none⟩ = some (.int .i64 B) ∧ w'.cell? ⟨n5, 2, none⟩ = some (.int .i64 I) ∧ w'.cell? ⟨n5, 3, none⟩ = some (.int .i64 L) ∧ w'.cell? ⟨n5, 4, none⟩ = some (.int .i64 D) ∧ w'.cell? ⟨n6, 0, none⟩ = some (.int .i64 0) ∧ w'.cell? ⟨n7, 0, none⟩ = some (.slice A n c) := fun w' hw => by
    have d4 : Cells w' n4 _ _ := (hw n4 hb.c4.lt s4).trans D4
    have d5 : Cells w' n5 _ _ := (hw n5 hb.c5.lt s5).trans D5
    have d6 : Cells w' n6 _ _ := (hw n6 hb.c6.lt s6).trans D6
    have d7 : Cells w' n7 _ _ := (hw n7 hb.c7.lt s7).trans D7
    exact ⟨d4.cell 0, d5.cell 0, d5.cell 1, d5.cell 2, d5.cell 3, d5.cell 4, d6.cell 0, d7.cell 0⟩
  have S9H := Lib.hid s9'; have KGH := Lib.hid KG; have KLH := Lib.hid KL; have HQ := Lib.hid hQ; have HFIT := Lib.hid hfit; have HN := Lib.hid hn
  have W3S := Lib.hid ht.size
  clear hb hi s4 s5 s6 s7 hB hlen hev hi0 ht D4 D5 D6 D7 KG KL hQ s9' hn hll2 hfit
  have b0 : Below wr.heap.size wr wr.drew := below_drewN (Below.refl _ _) 1
  have b1 : Below wr.heap.size wr (wr.drew.alloc (.cells #[.int .u64 0, .int .u64 (n : Int)] 31)) := b0.alloc (Nat.le_refl _) _
  have C1H := Lib.hid (Cells.new wr.drew 31 #[.int .u64 0, .int .u64 (n : Int)])
  go_enter Tryz.func76, Tryz.ntmps76
  go_upto_region 1 with fail
  go_region_held3 (fun w' => w'.cell? ⟨n4, 0, none⟩ = some (.pointer (some ⟨f.p, 0, none⟩)) ∧ w'.cell? ⟨n5, 0, none⟩ = some (.int .i64 P) ∧ w'.cell? ⟨n5, 1, none⟩ = some (.int .i64 B) ∧ w'.cell? ⟨n5, 2, none⟩ = some (.int .i64 I) ∧ w'.cell? ⟨n5, 3, none⟩ = some (.int .i64 L) ∧ w'.cell? ⟨n5, 4, none⟩ = some (.int .i64 D) ∧ w'.cell? ⟨n6, 0, none⟩ = some (.int .i64 0) ∧ w'.cell? ⟨n7, 0, none⟩ = some (.slice A n c))
    (first | exact S9H.out _ (fun k hk _ => b0.block k (Nat.lt_of_lt_of_le hk W3S.out)) | exact S9H.out _ (fun k hk _ => b1.block k (Nat.lt_of_lt_of_le hk W3S.out)) | exact S9H.out _ (fun k hk _ => kG.block k (Nat.lt_of_lt_of_le hk W3S.out)) | exact S9H.out _ (fun k hk _ => (kG.alloc kG.size _).block k (Nat.lt_of_lt_of_le hk W3S.out)) | exact S9H.out _ eL)
    (first
      | (go_at_call 51; (with_reducible refine (KGH.out _).mono ?_); rintro e' wG hG; obtain ⟨rfl, bG⟩ := hG.below; clear hG; have kG : Below wr.heap.size wr wG := (by first | exact b0.trans (bG.mono b0.size) | exact b1.trans (bG.mono b1.size)))
      | (go_at_call 12; (with_reducible refine (KLH.out _ kG).mono ?_)
         rintro e' wL ⟨er, rfl, gL, eL'⟩
         have eL : ∀ k, k < W.heap.size → k ∉ f.blocks → wL.heap[k]? = wr.heap[k]? := fun k hk hn => (eL' k hk hn).trans (by first | exact kG.block k (Nat.lt_of_lt_of_le hk W3S.out) | exact (kG.alloc kG.size _).block k (Nat.lt_of_lt_of_le hk W3S.out))))
  all_goals
    have GL := Lib.hid gL
    clear gL eL eL' kG KGH KLH
    go_wp2
    go_ret
    refine ⟨er, rfl, ?_⟩
    by_cases h0 : er = 0
    · subst h0
      exact .inl ⟨rfl, GL.out⟩
    · exact .inr ⟨h0, HQ.out _ _ h0 GL.out⟩
set_option maxRecDepth 100000 in
set_option maxHeartbeats 4000000 in
theorem mak4_dev (hfit : (l.length : Int) ≤ I) (hi : GoS W f.blocks f σ (layA 34 l) 0 wr) : Calls Tryz.prog 77 #[.pointer (some ⟨n4, 0, none⟩), .pointer (some ⟨n5, 0, none⟩), .pointer (some ⟨n6, 0, none⟩), .pointer (some ⟨n7, 0, none⟩)] wr (Ends (MakQ W f σ I l 0) (MakQ W f σ I l)) := by
  obtain ⟨s4, s5, s6, s7⟩ := MakB.far hb
  have hB := hb.B0; have hlen := hb.len; have hev := hb.ev; have hi0 := hb.i0
  have ht := hi.turn
  have D4 := hb.c4.turn' s4 ht
  have D5 := hb.c5.turn' s5 ht
  have D6 := hb.c6.turn' s6 ht
  have D7 := hb.c7.turn' s7 ht
  have KG : ∀ w, Calls Tryz.prog 78 #[.agg #[.int .i64 P, .int .i64 B, .int .i64 I, .int .i64 L, .int .i64 D], .int .i64 0] w (Grows (.int .i64 32) w) := fun w => by
    have := gBankAt P B I L D 0 hB.1 hB.2 w
    simpa [bankP] using this
  have hll2 := layA_len 34 l
  have KL := fun (wk : World) (b : Nat) (bk : Below wr.heap.size wr wk) (hc : Cells wk b 31 #[.int .u64 0, .int .u64 (l.length : Int)]) (hnew : wr.heap.size ≤ b) =>
    lay_goS (fun k hk => hk) hi bk (layA_small _ _) 32 (some ⟨b, 0, none⟩) 2 [0, (l.length : Int)] (by simp only [List.length_cons, List.length_nil]; omega) (by omega) (by omega) (by simp) (fun v hv => by
      simp only [List.mem_cons, List.not_mem_nil, or_false] at hv
      rcases hv with rfl | rfl
      · exact u64_of (by omega) (by omega)
      · exact u64_of (by omega) (by omega))
      ⟨Row.of_cells hc hc.lt, fun bb o m e _ => by cases e; exact .inr hnew⟩
  have hQ : ∀ er w', er ≠ 0 → GoS W f.blocks f σ (layA 34 l ++ layA 32 [0, (l.length : Int)]) er w' → MakQ W f σ I l er w' := fun er w' _ h => by
    unfold MakQ
    rw [if_neg (by omega)]
    exact h
  obtain ⟨n, hn⟩ : ∃ n, l.length = n := ⟨_, rfl⟩
  simp only [hn] at KL hQ hlen D7 ⊢
  have q2 : IntKind.u64.wrap (n : Int) = (n : Int) := by rw [IntKind.wrap_u64]; omega
  have s9' : ∀ w' : World, (∀ k, k < W.heap.size → k ∉ f.blocks → w'.heap[k]? = wr.heap[k]?) → w'.cell? ⟨n4, 0, none⟩ = some (.pointer (some ⟨f.p, 0, none⟩)) ∧ w'.cell? ⟨n5, 0, none⟩ = some (.int .i64 P) ∧ w'.cell? ⟨n5, 1, none⟩ = some (.int .i64 B) ∧ w'.cell? ⟨n5, 2, none⟩ = some (.int .i64 I) ∧ w'.cell? ⟨n5, 3, none⟩ = some (.int .i64 L) ∧ w'.cell? ⟨n5, 4, none⟩ = some (.int .i64 D) ∧ w'.cell? ⟨n6, 0, none⟩ = some (.int .i64 0) ∧ w'.cell? ⟨n7, 0, none⟩ = some (.slice A n c) := fun w' hw => by
    have d4 : Cells w' n4 _ _ := (hw n4 hb.c4.lt s4).trans D4
    have d5 : Cells w' n5 _ _ := (hw n5 hb.c5.lt s5).trans D5
    have d6 : Cells w' n6 _ _ := (hw n6 hb.c6.lt s6).trans D6
    have d7 : Cells w' n7 _ _ := (hw n7 hb.c7.lt s7).trans D7
    exact ⟨d4.cell 0, d5.cell 0, d5.cell 1, d5.cell 2, d5.cell 3, d5.cell 4, d6.cell 0, d7.cell 0⟩
  have hJQ : ∀ w', GoS W f.blocks f σ (layA 34 l ++ layA 32 [0, (l.length : Int)]) 0 w' → MakQ W f σ I l 0 w' := fun w' h => by
    unfold MakQ
    rw [if_neg (by omega)]
    exact h
  rw [hn] at hJQ
  have JQ := Lib.hid hJQ
  clear hJQ
  have S9H := Lib.hid s9'; have KGH := Lib.hid KG; have KLH := Lib.hid KL; have HQ := Lib.hid hQ; have HFIT := Lib.hid hfit; have HN := Lib.hid hn
  have W3S := Lib.hid ht.size
  clear hb hi s4 s5 s6 s7 hB hlen hev hi0 ht D4 D5 D6 D7 KG KL hQ s9' hn hll2 hfit
  have b0 : Below wr.heap.size wr wr.drew := below_drewN (Below.refl _ _) 1
  have b1 : Below wr.heap.size wr (wr.drew.alloc (.cells #[.int .u64 0, .int .u64 (n : Int)] 31)) := b0.alloc (Nat.le_refl _) _
  have C1H := Lib.hid (Cells.new wr.drew 31 #[.int .u64 0, .int .u64 (n : Int)])
  go_enter Tryz.func77, Tryz.ntmps77
  go_upto_region 1 with fail
  go_region_held3 (fun w' => w'.cell? ⟨n4, 0, none⟩ = some (.pointer (some ⟨f.p, 0, none⟩)) ∧ w'.cell? ⟨n5, 0, none⟩ = some (.int .i64 P) ∧ w'.cell? ⟨n5, 1, none⟩ = some (.int .i64 B) ∧ w'.cell? ⟨n5, 2, none⟩ = some (.int .i64 I) ∧ w'.cell? ⟨n5, 3, none⟩ = some (.int .i64 L) ∧ w'.cell? ⟨n5, 4, none⟩ = some (.int .i64 D) ∧ w'.cell? ⟨n6, 0, none⟩ = some (.int .i64 0) ∧ w'.cell? ⟨n7, 0, none⟩ = some (.slice A n c))
    (first | exact S9H.out _ (fun k hk _ => b0.block k (Nat.lt_of_lt_of_le hk W3S.out)) | exact S9H.out _ (fun k hk _ => b1.block k (Nat.lt_of_lt_of_le hk W3S.out)) | exact S9H.out _ (fun k hk _ => kG.block k (Nat.lt_of_lt_of_le hk W3S.out)) | exact S9H.out _ (fun k hk _ => (kG.alloc kG.size _).block k (Nat.lt_of_lt_of_le hk W3S.out)) | exact S9H.out _ eL)
    (first
      | (go_at_call 78; (with_reducible refine (KGH.out _).mono ?_); rintro e' wG hG; obtain ⟨rfl, bG⟩ := hG.below; clear hG; have kG : Below wr.heap.size wr wG := (by first | exact b0.trans (bG.mono b0.size) | exact b1.trans (bG.mono b1.size)))
      | (go_at_call 12; (first
          | refine (KLH.out _ _ kG (C1H.out.below' bG) (Nat.le_refl _)).mono ?_
          | refine (KLH.out _ _ (kG.alloc kG.size _) (Cells.new wG _ _) kG.size).mono ?_)
         rintro e' wL ⟨er, rfl, gL, eL'⟩
         have eL : ∀ k, k < W.heap.size → k ∉ f.blocks → wL.heap[k]? = wr.heap[k]? := fun k hk hn => (eL' k hk hn).trans (by first | exact kG.block k (Nat.lt_of_lt_of_le hk W3S.out) | exact (kG.alloc kG.size _).block k (Nat.lt_of_lt_of_le hk W3S.out))))
  all_goals
    have GL := Lib.hid gL
    clear gL eL eL' kG KGH KLH
    go_wp2
    go_ret
    refine ⟨er, rfl, ?_⟩
    by_cases h0 : er = 0
    · subst h0
      exact .inl ⟨rfl, JQ.out _ GL.out⟩
    · exact .inr ⟨h0, HQ.out _ _ h0 GL.out⟩
end
def makRow (n4 n5 n6 n7 : Nat) : Array Value := #[.func (.func 73) #[] #[.pointer (some ⟨n4, 0, none⟩)], .func (.func 74) #[] #[.pointer (some ⟨n7, 0, none⟩), .pointer (some ⟨n5, 0, none⟩)], .func (.func 76) #[] #[.pointer (some ⟨n4, 0, none⟩), .pointer (some ⟨n5, 0, none⟩), .pointer (some ⟨n6, 0, none⟩), .pointer (some ⟨n7, 0, none⟩)], .func (.func 77) #[] #[.pointer (some ⟨n4, 0, none⟩), .pointer (some ⟨n5, 0, none⟩), .pointer (some ⟨n6, 0, none⟩), .pointer (some ⟨n7, 0, none⟩)]]
def MakF (j : Nat) : FuncId := if j = 0 then 73 else if j = 1 then 74 else if j = 2 then 76 else 77
def MakC (n4 n5 n6 n7 : Nat) (j : Nat) : Array Value := if j = 0 then #[.pointer (some ⟨n4, 0, none⟩)] else if j = 1 then #[.pointer (some ⟨n7, 0, none⟩), .pointer (some ⟨n5, 0, none⟩)] else #[.pointer (some ⟨n4, 0, none⟩), .pointer (some ⟨n5, 0, none⟩), .pointer (some ⟨n6, 0, none⟩), .pointer (some ⟨n7, 0, none⟩)]
theorem mak_turn {W : World} {f : Fp} {σ : St} {P B I L D : Int} {n4 n5 n6 n7 : Nat} {A : Option Addr} {c : Nat} {l : List Int} (hb : MakB W f σ P B I L D n4 n5 n6 n7 A c l)
    (R : Nat) (hR : Cells W R 60 (makRow n4 n5 n6 n7)) :
    Calls Tryz.prog 35 #[.slice (some ⟨R, 0, none⟩) 4 4] W fun e w' => ∃ er, e = .returned (.int .i64 er) ∧ MakQ W f σ I l er w' := by
  have hrow := Row.of_cells (B := W.heap.size) hR hR.lt
  have hne : ∀ b o m, (some ⟨R, 0, none⟩ : Option Addr) = some ⟨b, o, m⟩ → b ∉ f.blocks := fun b o m e hm => by
    cases e
    exact dev_out hb.d hR (by decide) (by decide) hm
  have key := inTurn_any 4 (by omega) MakF (fun _ => #[]) (MakC n4 n5 n6 n7) (some ⟨R, 0, none⟩) 4
    (fun j wr => if j = 0 then GoS W f.blocks f σ [] 0 wr else if j = 1 then GoS W f.blocks f σ [] 0 wr else if j = 2 then ((l.length : Int) ≤ I ∧ GoS W f.blocks f σ [] 0 wr) else if j = 3 then ((l.length : Int) ≤ I ∧ GoS W f.blocks f σ (layA 34 l) 0 wr) else MakQ W f σ I l 0 wr ∧ Turn W wr f.blocks) (MakQ W f σ I l) W
    (by rw [if_pos rfl]; exact GoS.start hb.d)
    (fun j wr hj => by
      have ht : Turn W wr f.blocks := by
        split at hj
        · exact hj.turn
        · split at hj
          · exact hj.turn
          · split at hj
            · exact hj.2.turn
            · split at hj
              · exact hj.2.turn
              · exact hj.2
      exact row_turn hrow ht hne)
    (fun j hj => by
      unfold MakF
      split
      · exact fun args w => by simp [go_sem]
      · split
        · exact fun args w => by simp [go_sem]
        · split
          · exact fun args w => by simp [go_sem]
          · exact fun args w => by simp [go_sem])
    (fun j wr hj hA => by
      match j, hj with
      | 0, _ => exact mak1_dev hb hA
      | 1, _ => exact mak2_dev hb hA
      | 2, _ =>
        refine (mak3_dev hb hA.1 hA.2).mono ?_
        rintro e w2 ⟨er, rfl, ⟨rfl, h⟩ | h⟩
        · exact ⟨0, rfl, .inl ⟨rfl, hA.1, h⟩⟩
        · exact ⟨er, rfl, .inr h⟩
      | 3, _ =>
        refine (mak4_dev hb hA.1 hA.2).mono ?_
        rintro e w2 ⟨er, rfl, ⟨rfl, h⟩ | h⟩
        · refine ⟨0, rfl, .inl ⟨rfl, h, ?_⟩⟩
          unfold MakQ at h
          rw [if_neg (by have := hA.1; omega)] at h
          exact h.turn
        · exact ⟨er, rfl, .inr h⟩)
  refine key.mono ?_
  rintro e w2 ⟨er, rfl, ⟨rfl, h⟩ | ⟨_, h⟩⟩
  · exact ⟨0, rfl, h.1⟩
  · exact ⟨er, rfl, h⟩
def makeR (σ : St) (I : Int) (l : List Int) : St × Int := if I < l.length then (σ, 28) else runS (makeA l) σ
set_option maxRecDepth 100000 in
set_option maxHeartbeats 2000000 in
theorem make_dev {w : World} {f : Fp} {σ : St} {P B I L D : Int} (h : Dev w f σ) (hB : 0 ≤ B ∧ B ≤ 200000) (hi0 : 0 ≤ I ∧ I ≤ 1000000) (A : Option Addr) (c : Nat) (l : List Int) (hr : RowO w f A l) (hu : ∀ v ∈ l, U64 v) (hlen : l.length ≤ 1000000) (hev : σ.ev + (4 * l.length + 1000) < 4611686018427387904) :
    Calls Tryz.prog 43 #[f.ptr, .agg #[.int .i64 P, .int .i64 B, .int .i64 I, .int .i64 L, .int .i64 D], .int .i64 0, .slice A l.length c] w fun e w' => e = .returned (.int .i64 (makeR σ I l).2) ∧ Goes w f (makeR σ I l).1 w' := by
  have hmf : ∀ (fn : Fn) (first cap : Array Value) (w : World), (Instr.makeFunc fn first cap).run Tryz.prog w = .ok (.func fn first cap) w := fun _ _ _ _ => rfl
  have H := Lib.hid h; have HR := Lib.hid hr; have HU := Lib.hid hu; have HEV := Lib.hid hev; have HLEN := Lib.hid hlen
  obtain ⟨n, hn⟩ : ∃ n, l.length = n := ⟨_, rfl⟩
  rw [hn]
  have HN := Lib.hid hn
  clear h hr hu hev hlen hn
  unfold Fp.ptr
  go_enter Tryz.func43, Tryz.ntmps43
  go_upto_region 1 with fail
  have c4 := (((Cells.new w 27 #[.pointer (some ⟨f.p, 0, none⟩)]).alloc (.cells #[.int .i64 P, .int .i64 B, .int .i64 I, .int .i64 L, .int .i64 D] 49)).alloc (.cells #[.int .i64 0] 3)).alloc (.cells #[.slice A n c] 23)
  have c5 := ((Cells.new (w.alloc (.cells #[.pointer (some ⟨f.p, 0, none⟩)] 27)) 49 #[.int .i64 P, .int .i64 B, .int .i64 I, .int .i64 L, .int .i64 D]).alloc (.cells #[.int .i64 0] 3)).alloc (.cells #[.slice A n c] 23)
  have c6 := (Cells.new ((w.alloc (.cells #[.pointer (some ⟨f.p, 0, none⟩)] 27)).alloc (.cells #[.int .i64 P, .int .i64 B, .int .i64 I, .int .i64 L, .int .i64 D] 49)) 3 #[.int .i64 0]).alloc (.cells #[.slice A n c] 23)
  have c7 := Cells.new (((w.alloc (.cells #[.pointer (some ⟨f.p, 0, none⟩)] 27)).alloc (.cells #[.int .i64 P, .int .i64 B, .int .i64 I, .int .i64 L, .int .i64 D] 49)).alloc (.cells #[.int .i64 0] 3)) 23 #[.slice A n c]
  simp only [World.size_alloc] at c5 c6 c7
  have b4 : Below w.heap.size w ((((w.alloc (.cells #[.pointer (some ⟨f.p, 0, none⟩)] 27)).alloc (.cells #[.int .i64 P, .int .i64 B, .int .i64 I, .int .i64 L, .int .i64 D] 49)).alloc (.cells #[.int .i64 0] 3)).alloc (.cells #[.slice A n c] 23)) := ((((Below.refl _ _).alloc (Nat.le_refl _) _).alloc (by simp) _).alloc (by simp; omega) _).alloc (by simp; omega) _
  obtain ⟨W, hW⟩ : ∃ W, ((((w.alloc (.cells #[.pointer (some ⟨f.p, 0, none⟩)] 27)).alloc (.cells #[.int .i64 P, .int .i64 B, .int .i64 I, .int .i64 L, .int .i64 D] 49)).alloc (.cells #[.int .i64 0] 3)).alloc (.cells #[.slice A n c] 23)) = W := ⟨_, rfl⟩
  rw [hW] at c4 c5 c6 c7 b4 ⊢
  have C4 := Lib.hid c4; have C5 := Lib.hid c5; have C6 := Lib.hid c6; have C7 := Lib.hid c7; have B4 := Lib.hid b4
  clear c4 c5 c6 c7 b4 hW
  obtain ⟨n4, e4⟩ : ∃ n, w.heap.size = n := ⟨_, rfl⟩
  rw [e4] at C4 C5 C6 C7 B4 ⊢
  obtain ⟨arr, harr⟩ : ∃ arr : Array Value, arr = makRow n4 (n4 + 1) (n4 + 1 + 1) (n4 + 1 + 1 + 1) := ⟨_, rfl⟩
  have hW1 : Below n4 w (W.alloc (.cells arr 60)) := B4.out.alloc (by have := B4.out.size; omega) _
  have hW1' : Below w.heap.size w (W.alloc (.cells arr 60)) := e4 ▸ hW1
  have KT := mak_turn (W := W.alloc (.cells arr 60)) (n4 := n4) (n5 := n4 + 1) (n6 := n4 + 1 + 1) (n7 := n4 + 1 + 1 + 1) (P := P) (L := L) (D := D) (A := A) (c := c) (l := l)
    ⟨H.out.below hW1', C4.out.alloc _, C5.out.alloc _, C6.out.alloc _, HN.out.symm ▸ C7.out.alloc _, hB, hi0, (Row.below HR.out.1 hW1').more hW1'.size, HR.out.2, HU.out, HLEN.out, HEV.out⟩ W.heap.size (harr ▸ Cells.new W _ arr)
  unfold makRow at harr
  rw [harr] at KT hW1'
  have KTH := Lib.hid KT; have HW1 := Lib.hid hW1'
  clear KT harr hW1 hW1'
  go_wp2_with fail
  refine (KTH.out).mono ?_
  rintro e w5 ⟨er, rfl, hq⟩
  have HQ := Lib.hid hq
  clear hq KTH
  go_wp2
  go_ret
  have hq := HQ.out
  unfold MakQ at hq
  unfold makeR
  by_cases hf : I < l.length
  · rw [if_pos hf] at hq ⊢
    obtain ⟨rfl, hg⟩ := hq
    exact ⟨rfl, (hg.goes HW1.out (fun k hk _ => hk)).2⟩
  · rw [if_neg hf] at hq ⊢
    obtain ⟨e1, e2⟩ := hq.goes HW1.out (fun k hk _ => hk)
    exact ⟨by rw [e1]; rfl, e2⟩
end Go.Proofs.YtnjikgcigobcdaaGreat
