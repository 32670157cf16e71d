import Derived.Test.YtnjikgcigobcdaaBkAp4
namespace Go.Proofs.Ytnjikgcigobcdaa
open Wd Pm Go.Maps Go.RowKit Go.Sort
set_option linter.unusedVariables false
set_option linter.unusedSectionVars false

def appRow (n4 n5 n6 n7 n9 n10 : Nat) : Array Value := #[.func (.func 24) #[] #[.pointer (some ⟨n4, 0, none⟩), .pointer (some ⟨n5, 0, none⟩), .pointer (some ⟨n6, 0, none⟩), .pointer (some ⟨n9, 0, none⟩)], .func (.func 25) #[] #[.pointer (some ⟨n7, 0, none⟩), .pointer (some ⟨n9, 0, none⟩)], .func (.func 27) #[] #[.pointer (some ⟨n5, 0, none⟩), .pointer (some ⟨n9, 0, none⟩), .pointer (some ⟨n10, 0, none⟩), .pointer (some ⟨n4, 0, none⟩), .pointer (some ⟨n6, 0, none⟩), .pointer (some ⟨n7, 0, none⟩)], .func (.func 30) #[] #[.pointer (some ⟨n4, 0, none⟩), .pointer (some ⟨n5, 0, none⟩), .pointer (some ⟨n6, 0, none⟩), .pointer (some ⟨n10, 0, none⟩), .pointer (some ⟨n7, 0, none⟩)]]
def AppF (j : Nat) : FuncId := if j = 0 then 24 else if j = 1 then 25 else if j = 2 then 27 else 30
def AppC (n4 n5 n6 n7 n9 n10 : Nat) (j : Nat) : Array Value := if j = 0 then #[.pointer (some ⟨n4, 0, none⟩), .pointer (some ⟨n5, 0, none⟩), .pointer (some ⟨n6, 0, none⟩), .pointer (some ⟨n9, 0, none⟩)] else if j = 1 then #[.pointer (some ⟨n7, 0, none⟩), .pointer (some ⟨n9, 0, none⟩)] else if j = 2 then #[.pointer (some ⟨n5, 0, none⟩), .pointer (some ⟨n9, 0, none⟩), .pointer (some ⟨n10, 0, none⟩), .pointer (some ⟨n4, 0, none⟩), .pointer (some ⟨n6, 0, none⟩), .pointer (some ⟨n7, 0, none⟩)] else #[.pointer (some ⟨n4, 0, none⟩), .pointer (some ⟨n5, 0, none⟩), .pointer (some ⟨n6, 0, none⟩), .pointer (some ⟨n10, 0, none⟩), .pointer (some ⟨n7, 0, none⟩)]
theorem app_turn {W : World} {f : Fp} {σ : St} {P B I L D : Int} {n4 n5 n6 n7 n9 n10 : Nat} {A : Option Addr} {c : Nat} {l image log : List Int} (hb : AppB W f σ P B I L D n4 n5 n6 n7 n9 n10 A c l) (hk : Bank σ I L image log)
    (h9 : Cells W n9 3 #[.int .i64 0]) (h10 : Cells W n10 3 #[.int .i64 0]) (R : Nat) (hR : Cells W R 56 (appRow n4 n5 n6 n7 n9 n10)) :
    Calls Try.prog 23 #[.slice (some ⟨R, 0, none⟩) 4 4] W fun e w' => ∃ er, e = .returned (.int .i64 er) ∧ AppQ W f σ n9 n10 I L log.length l er w' := by
  have hrow := Row.of_cells (B := W.heap.size) hR hR.lt
  have hne : ∀ b o m, (some ⟨R, 0, none⟩ : Option Addr) = some ⟨b, o, m⟩ → b ∉ AppS f n9 n10 := fun b o m e hm => by
    cases e
    simp only [AppS, List.mem_cons] at hm
    rcases hm with h | h | h
    · exact hR.ne h9 (by decide) h
    · exact hR.ne h10 (by decide) h
    · exact dev_out hb.d hR (by decide) (by decide) h
  have key := inTurn_any 4 (by omega) AppF (fun _ => #[]) (AppC n4 n5 n6 n7 n9 n10) (some ⟨R, 0, none⟩) 4
    (fun j wr => if j = 0 then AppI W f σ n9 n10 [] 0 0 wr else if j = 1 then AppI W f σ n9 n10 [] (L - log.length) 0 wr else if j = 2 then (l.length ≤ L - log.length ∧ AppI W f σ n9 n10 [] (L - log.length) 0 wr) else if j = 3 then (l.length ≤ L - log.length ∧ AppI W f σ n9 n10 (layA (34 + I + log.length) l) (L - log.length) log.length wr) else AppQ W f σ n9 n10 I L log.length l 0 wr ∧ Turn W wr (AppS f n9 n10)) (AppQ W f σ n9 n10 I L log.length l) W
    (by rw [if_pos rfl]; exact ⟨GoS.start hb.d, h9, h10⟩)
    (fun j wr hj => by
      have ht : Turn W wr (AppS f n9 n10) := by
        split at hj
        · exact hj.g.turn
        · split at hj
          · exact hj.g.turn
          · split at hj
            · exact hj.2.g.turn
            · split at hj
              · exact hj.2.g.turn
              · exact hj.2
      exact row_turn hrow ht hne)
    (fun j hj => by
      unfold AppF
      split
      · exact fun args w => by simp [go_sem]
      · split
        · exact fun args w => by simp [go_sem]
        · split
          · exact fun args w => by simp [go_sem]
          · exact fun args w => by simp [go_sem])
    (fun j wr hj hA => by
      match j, hj with
      | 0, _ => exact app1_dev hb hk hA
      | 1, _ => exact app2_dev hb hk hA
      | 2, _ =>
        refine (app3_dev hb hk hA.1 hA.2).mono ?_
        rintro e w2 ⟨er, rfl, ⟨rfl, h⟩ | h⟩
        · exact ⟨0, rfl, .inl ⟨rfl, hA.1, h⟩⟩
        · exact ⟨er, rfl, .inr h⟩
      | 3, _ =>
        refine (app4_dev hb hk hA.1 hA.2).mono ?_
        rintro e w2 ⟨er, rfl, ⟨rfl, h⟩ | h⟩
        · refine ⟨0, rfl, .inl ⟨rfl, h, ?_⟩⟩
          unfold AppQ at h
          rw [if_neg (by have := hA.1; omega)] at h
          exact h.turn
        · exact ⟨er, rfl, .inr h⟩)
  refine key.mono ?_
  rintro e w2 ⟨er, rfl, ⟨rfl, h⟩ | ⟨_, h⟩⟩
  · exact ⟨0, rfl, h.1⟩
  · exact ⟨er, rfl, h⟩
/-- what an append makes of a device, and what it answers -/
def appR (σ : St) (I L : Int) (t : Nat) (l : List Int) : St × Int := if L - t < l.length then (σ, 28) else runS (appA I t l) σ
set_option maxRecDepth 100000 in
set_option maxHeartbeats 2000000 in
theorem append_dev {w : World} {f : Fp} {σ : St} {P B I L D : Int} {image log : List Int} (h : Dev w f σ) (hk : Bank σ I L image log) (hB : 0 ≤ B ∧ B ≤ 200000) (A : Option Addr) (c : Nat) (l : List Int) (hr : RowO w f A l) (hu : ∀ v ∈ l, U64 v) (hlen : l.length ≤ 1000000) (hev : σ.ev + (4 * l.length + 1000) < 4611686018427387904) :
    Calls Try.prog 9 #[f.ptr, .agg #[.int .i64 P, .int .i64 B, .int .i64 I, .int .i64 L, .int .i64 D], .int .i64 0, .slice A l.length c] w fun e w' => e = .returned (.int .i64 (appR σ I L log.length l).2) ∧ Goes w f (appR σ I L log.length l).1 w' := by
  have hmf : ∀ (fn : Fn) (first cap : Array Value) (w : World), (Instr.makeFunc fn first cap).run Try.prog w = .ok (.func fn first cap) w := fun _ _ _ _ => rfl
  have H := Lib.hid h; have HK := Lib.hid hk; have HR := Lib.hid hr; have HU := Lib.hid hu; have HEV := Lib.hid hev; have HLEN := Lib.hid hlen
  obtain ⟨n, hn⟩ : ∃ n, l.length = n := ⟨_, rfl⟩
  rw [hn]
  have HN := Lib.hid hn
  clear h hk hr hu hev hlen hn
  unfold Fp.ptr
  go_enter Try.func9, Try.ntmps9
  go_upto_region 2 with fail
  have c4 := (((((Cells.new w 26 #[.pointer (some ⟨f.p, 0, none⟩)]).alloc (.cells #[.int .i64 P, .int .i64 B, .int .i64 I, .int .i64 L, .int .i64 D] 28)).alloc (.cells #[.int .i64 0] 3)).alloc (.cells #[.slice A n c] 22)).alloc (.cells #[.int .i64 0] 3)).alloc (.cells #[.int .i64 0] 3)
  have c5 := ((((Cells.new (w.alloc (.cells #[.pointer (some ⟨f.p, 0, none⟩)] 26)) 28 #[.int .i64 P, .int .i64 B, .int .i64 I, .int .i64 L, .int .i64 D]).alloc (.cells #[.int .i64 0] 3)).alloc (.cells #[.slice A n c] 22)).alloc (.cells #[.int .i64 0] 3)).alloc (.cells #[.int .i64 0] 3)
  have c6 := (((Cells.new ((w.alloc (.cells #[.pointer (some ⟨f.p, 0, none⟩)] 26)).alloc (.cells #[.int .i64 P, .int .i64 B, .int .i64 I, .int .i64 L, .int .i64 D] 28)) 3 #[.int .i64 0]).alloc (.cells #[.slice A n c] 22)).alloc (.cells #[.int .i64 0] 3)).alloc (.cells #[.int .i64 0] 3)
  have c7 := ((Cells.new (((w.alloc (.cells #[.pointer (some ⟨f.p, 0, none⟩)] 26)).alloc (.cells #[.int .i64 P, .int .i64 B, .int .i64 I, .int .i64 L, .int .i64 D] 28)).alloc (.cells #[.int .i64 0] 3)) 22 #[.slice A n c]).alloc (.cells #[.int .i64 0] 3)).alloc (.cells #[.int .i64 0] 3)
  have c9 := (Cells.new ((((w.alloc (.cells #[.pointer (some ⟨f.p, 0, none⟩)] 26)).alloc (.cells #[.int .i64 P, .int .i64 B, .int .i64 I, .int .i64 L, .int .i64 D] 28)).alloc (.cells #[.int .i64 0] 3)).alloc (.cells #[.slice A n c] 22)) 3 #[.int .i64 0]).alloc (.cells #[.int .i64 0] 3)
  have c10 := Cells.new (((((w.alloc (.cells #[.pointer (some ⟨f.p, 0, none⟩)] 26)).alloc (.cells #[.int .i64 P, .int .i64 B, .int .i64 I, .int .i64 L, .int .i64 D] 28)).alloc (.cells #[.int .i64 0] 3)).alloc (.cells #[.slice A n c] 22)).alloc (.cells #[.int .i64 0] 3)) 3 #[.int .i64 0]
  simp only [World.size_alloc] at c5 c6 c7 c9 c10
  have b4 : Below w.heap.size w ((((((w.alloc (.cells #[.pointer (some ⟨f.p, 0, none⟩)] 26)).alloc (.cells #[.int .i64 P, .int .i64 B, .int .i64 I, .int .i64 L, .int .i64 D] 28)).alloc (.cells #[.int .i64 0] 3)).alloc (.cells #[.slice A n c] 22)).alloc (.cells #[.int .i64 0] 3)).alloc (.cells #[.int .i64 0] 3)) := ((((((Below.refl _ _).alloc (Nat.le_refl _) _).alloc (by simp) _).alloc (by simp; omega) _).alloc (by simp; omega) _).alloc (by simp; omega) _).alloc (by simp; omega) _
  obtain ⟨W, hW⟩ : ∃ W, ((((((w.alloc (.cells #[.pointer (some ⟨f.p, 0, none⟩)] 26)).alloc (.cells #[.int .i64 P, .int .i64 B, .int .i64 I, .int .i64 L, .int .i64 D] 28)).alloc (.cells #[.int .i64 0] 3)).alloc (.cells #[.slice A n c] 22)).alloc (.cells #[.int .i64 0] 3)).alloc (.cells #[.int .i64 0] 3)) = W := ⟨_, rfl⟩
  rw [hW] at c4 c5 c6 c7 c9 c10 b4 ⊢
  have C4 := Lib.hid c4; have C5 := Lib.hid c5; have C6 := Lib.hid c6; have C7 := Lib.hid c7; have C9 := Lib.hid c9; have C10 := Lib.hid c10; have B4 := Lib.hid b4
  clear c4 c5 c6 c7 c9 c10 b4 hW
  obtain ⟨n4, e4⟩ : ∃ n, w.heap.size = n := ⟨_, rfl⟩
  rw [e4] at C4 C5 C6 C7 C9 C10 B4 ⊢
  obtain ⟨arr, harr⟩ : ∃ arr : Array Value, arr = appRow n4 (n4 + 1) (n4 + 1 + 1) (n4 + 1 + 1 + 1) (n4 + 1 + 1 + 1 + 1) (n4 + 1 + 1 + 1 + 1 + 1) := ⟨_, rfl⟩
  have hW1 : Below n4 w (W.alloc (.cells arr 56)) := B4.out.alloc (by have := B4.out.size; omega) _
  have hW1' : Below w.heap.size w (W.alloc (.cells arr 56)) := e4 ▸ hW1
  have hlt : ∀ b o m, A = some ⟨b, o, m⟩ → 0 < l.length → b < n4 := fun b o m e hp => by
    obtain ⟨b', o', e', hb, _⟩ := HR.out.1.2 hp
    rw [e] at e'
    cases e'
    omega
  have KT := app_turn (W := W.alloc (.cells arr 56)) (n4 := n4) (n5 := n4 + 1) (n6 := n4 + 1 + 1) (n7 := n4 + 1 + 1 + 1) (n9 := n4 + 1 + 1 + 1 + 1) (n10 := n4 + 1 + 1 + 1 + 1 + 1) (P := P) (D := D) (A := A) (c := c) (l := l)
    ⟨H.out.below hW1', C4.out.alloc _, C5.out.alloc _, C6.out.alloc _, HN.out.symm ▸ C7.out.alloc _, ⟨_, C9.out.alloc _⟩, ⟨_, C10.out.alloc _⟩, by omega, by omega, by omega, hB, (Row.below HR.out.1 hW1').more hW1'.size, fun b o m e hp hm => by
      have h1 := hlt b o m e hp
      have h2 := HR.out.2 b o m e hp
      simp only [List.mem_cons] at hm
      rcases hm with h | h | h
      · omega
      · omega
      · exact h2 h, HU.out, HLEN.out, HEV.out⟩ HK.out (C9.out.alloc _) (C10.out.alloc _) W.heap.size (harr ▸ Cells.new W _ arr)
  unfold appRow at harr
  have hS : ∀ k ∈ AppS f (n4 + 1 + 1 + 1 + 1) (n4 + 1 + 1 + 1 + 1 + 1), k < w.heap.size → k ∈ f.blocks := fun k hk hlt => by
    simp only [AppS, List.mem_cons] at hk
    rcases hk with h | h | h
    · omega
    · omega
    · exact h
  rw [harr] at KT hW1'
  have KTH := Lib.hid KT; have HS := Lib.hid hS; have HW1 := Lib.hid hW1'
  clear KT harr hW1 hW1' hlt hS
  go_wp2_with fail
  refine (KTH.out).mono ?_
  rintro e w5 ⟨er, rfl, hq⟩
  have HQ := Lib.hid hq
  clear hq KTH
  go_wp2
  go_ret
  have hq := HQ.out
  unfold AppQ at hq
  unfold appR
  by_cases hf : L - (log.length : Int) < l.length
  · rw [if_pos hf] at hq ⊢
    obtain ⟨rfl, hg⟩ := hq
    exact ⟨rfl, (hg.goes HW1.out HS.out).2⟩
  · rw [if_neg hf] at hq ⊢
    obtain ⟨e1, e2⟩ := hq.goes HW1.out HS.out
    exact ⟨by rw [e1]; rfl, e2⟩
end Go.Proofs.Ytnjikgcigobcdaa
