import Derived.Test.YtnjikgcigobcdaaBkFr
namespace Go.Proofs.Ytnjikgcigobcdaa
open Wd Pm Go.Maps Go.RowKit Go.Sort
set_option linter.unusedVariables false

def FreeF (j : Nat) : FuncId := if j = 0 then 32 else if j = 1 then 34 else 37
set_option maxRecDepth 100000 in
set_option maxHeartbeats 2000000 in
theorem free_turn {W : World} {f : Fp} {σ : St} {P B I L D : Int} {n3 n4 n5 n8 : Nat} {image log : List Int} (hb : FreeB W f σ P B I L D n3 n4 n5 n8) (hk : Bank σ I L image log) (h8 : Cells W n8 61 #[.int .i64 0, .int .i64 0])
    (R : Nat) (hR : Cells W R 56 #[.func (.func 32) #[] #[.pointer (some ⟨n3, 0, none⟩), .pointer (some ⟨n4, 0, none⟩), .pointer (some ⟨n5, 0, none⟩), .pointer (some ⟨n8, 0, none⟩)], .func (.func 34) #[] #[.pointer (some ⟨n3, 0, none⟩), .pointer (some ⟨n4, 0, none⟩), .pointer (some ⟨n5, 0, none⟩), .pointer (some ⟨n8, 0, none⟩)], .func (.func 37) #[] #[.pointer (some ⟨n3, 0, none⟩), .pointer (some ⟨n4, 0, none⟩), .pointer (some ⟨n5, 0, none⟩), .pointer (some ⟨n8, 0, none⟩)]]) :
    Calls Try.prog 23 #[.slice (some ⟨R, 0, none⟩) 3 3] W fun e w' => e = .returned (.int .i64 0) ∧ FreeI W n8 log.length image.length w' := by
  have hrow := Row.of_cells (B := W.heap.size) hR hR.lt
  have hne : ∀ b o m, (some ⟨R, 0, none⟩ : Option Addr) = some ⟨b, o, m⟩ → b ∉ [n8] := fun b o m e hm => by
    cases e
    exact hR.ne h8 (by decide) (List.mem_singleton.1 hm)
  have key := inTurn_any 3 (by omega) FreeF (fun _ => #[]) (fun _ => #[.pointer (some ⟨n3, 0, none⟩), .pointer (some ⟨n4, 0, none⟩), .pointer (some ⟨n5, 0, none⟩), .pointer (some ⟨n8, 0, none⟩)]) (some ⟨R, 0, none⟩) 3
    (fun j wr => if j = 0 then FreeI W n8 0 0 wr else FreeI W n8 log.length image.length wr) (fun _ _ => False) W (by rw [if_pos rfl]; exact ⟨Turn.refl _ _, h8⟩)
    (fun j wr hj => by
      have ht : Turn W wr [n8] := by
        by_cases h0 : j = 0
        · simp only [h0, if_true] at hj; exact hj.t
        · simp only [h0, if_false] at hj; exact hj.t
      exact row_turn hrow ht hne)
    (fun j hj => by
      unfold FreeF
      split
      · exact fun args w => by simp [go_sem]
      · split
        · exact fun args w => by simp [go_sem]
        · exact fun args w => by simp [go_sem])
    (fun j wr hj hA => by
      match j, hj with
      | 0, _ => exact free1_dev hb hk 0 0 hA
      | 1, _ => exact free2_dev hb hk hA
      | 2, _ => exact free3_dev hb hk hA)
  refine key.mono ?_
  rintro e w2 ⟨er, rfl, ⟨rfl, h⟩ | ⟨_, h⟩⟩
  · exact ⟨rfl, h⟩
  · exact h.elim
set_option maxRecDepth 100000 in
set_option maxHeartbeats 2000000 in
theorem free_dev {w : World} {f : Fp} {σ : St} {P B I L D : Int} {image log : List Int} (h : Dev w f σ) (hk : Bank σ I L image log) (hB : 0 ≤ B ∧ B ≤ 200000) :
    Calls Try.prog 10 #[f.ptr, .agg #[.int .i64 P, .int .i64 B, .int .i64 I, .int .i64 L, .int .i64 D], .int .i64 0] w fun e w' => e = .returned (.tuple #[.int .i64 (L - log.length), .int .i64 0]) ∧ Below w.heap.size w w' := by
  have hmf : ∀ (fn : Fn) (first cap : Array Value) (w : World), (Instr.makeFunc fn first cap).run Try.prog w = .ok (.func fn first cap) w := fun _ _ _ _ => rfl
  have hl0 := hk.l0; have hll := hk.ll
  have q1 : IntKind.i64.wrap (L - (log.length : Int)) = L - log.length := wrapI (by omega) (by omega)
  obtain ⟨ll, hLL⟩ : ∃ ll, log.length = ll := ⟨_, rfl⟩
  rw [hLL] at q1 ⊢
  have HLL := Lib.hid hLL
  have H := Lib.hid h; have HK := Lib.hid hk
  clear h hk hl0 hll hLL
  unfold Fp.ptr
  go_enter Try.func10, Try.ntmps10
  go_upto_region 2 with fail
  have c3 := (((Cells.new w 26 #[.pointer (some ⟨f.p, 0, none⟩)]).alloc (.cells #[.int .i64 P, .int .i64 B, .int .i64 I, .int .i64 L, .int .i64 D] 28)).alloc (.cells #[.int .i64 0] 3)).alloc (.cells #[.int .i64 0, .int .i64 0] 61)
  have c4 := ((Cells.new (w.alloc (.cells #[.pointer (some ⟨f.p, 0, none⟩)] 26)) 28 #[.int .i64 P, .int .i64 B, .int .i64 I, .int .i64 L, .int .i64 D]).alloc (.cells #[.int .i64 0] 3)).alloc (.cells #[.int .i64 0, .int .i64 0] 61)
  have c5 := (Cells.new ((w.alloc (.cells #[.pointer (some ⟨f.p, 0, none⟩)] 26)).alloc (.cells #[.int .i64 P, .int .i64 B, .int .i64 I, .int .i64 L, .int .i64 D] 28)) 3 #[.int .i64 0]).alloc (.cells #[.int .i64 0, .int .i64 0] 61)
  have c8 := Cells.new (((w.alloc (.cells #[.pointer (some ⟨f.p, 0, none⟩)] 26)).alloc (.cells #[.int .i64 P, .int .i64 B, .int .i64 I, .int .i64 L, .int .i64 D] 28)).alloc (.cells #[.int .i64 0] 3)) 61 #[.int .i64 0, .int .i64 0]
  simp only [World.size_alloc] at c4 c5 c8
  have b4 : Below w.heap.size w ((((w.alloc (.cells #[.pointer (some ⟨f.p, 0, none⟩)] 26)).alloc (.cells #[.int .i64 P, .int .i64 B, .int .i64 I, .int .i64 L, .int .i64 D] 28)).alloc (.cells #[.int .i64 0] 3)).alloc (.cells #[.int .i64 0, .int .i64 0] 61)) := ((((Below.refl _ _).alloc (Nat.le_refl _) _).alloc (by simp) _).alloc (by simp; omega) _).alloc (by simp; omega) _
  obtain ⟨W, hW⟩ : ∃ W, (((w.alloc (.cells #[.pointer (some ⟨f.p, 0, none⟩)] 26)).alloc (.cells #[.int .i64 P, .int .i64 B, .int .i64 I, .int .i64 L, .int .i64 D] 28)).alloc (.cells #[.int .i64 0] 3)).alloc (.cells #[.int .i64 0, .int .i64 0] 61) = W := ⟨_, rfl⟩
  rw [hW] at c3 c4 c5 c8 b4 ⊢
  have C3 := Lib.hid c3; have C4 := Lib.hid c4; have C5 := Lib.hid c5; have C8 := Lib.hid c8; have B4 := Lib.hid b4
  clear c3 c4 c5 c8 b4 hW
  obtain ⟨n3, e3⟩ : ∃ n, w.heap.size = n := ⟨_, rfl⟩
  rw [e3] at C3 C4 C5 C8 B4 ⊢
  obtain ⟨arr, harr⟩ : ∃ arr : Array Value, arr = #[.func (.func 32) #[] #[.pointer (some ⟨n3, 0, none⟩), .pointer (some ⟨n3 + 1, 0, none⟩), .pointer (some ⟨n3 + 1 + 1, 0, none⟩), .pointer (some ⟨n3 + 1 + 1 + 1, 0, none⟩)], .func (.func 34) #[] #[.pointer (some ⟨n3, 0, none⟩), .pointer (some ⟨n3 + 1, 0, none⟩), .pointer (some ⟨n3 + 1 + 1, 0, none⟩), .pointer (some ⟨n3 + 1 + 1 + 1, 0, none⟩)], .func (.func 37) #[] #[.pointer (some ⟨n3, 0, none⟩), .pointer (some ⟨n3 + 1, 0, none⟩), .pointer (some ⟨n3 + 1 + 1, 0, none⟩), .pointer (some ⟨n3 + 1 + 1 + 1, 0, none⟩)]] := ⟨_, rfl⟩
  have KT := free_turn (W := W.alloc (.cells arr 56)) (n3 := n3) (n4 := n3 + 1) (n5 := n3 + 1 + 1) (n8 := n3 + 1 + 1 + 1) (P := P) (D := D)
    ⟨(H.out.below (e3 ▸ B4.out)).alloc _, C3.out.alloc _, C4.out.alloc _, C5.out.alloc _, ⟨_, C8.out.alloc _⟩, hB⟩ HK.out (C8.out.alloc _) W.heap.size (harr ▸ Cells.new W _ arr)
  have D4 := C4.out.alloc (.cells arr 56)
  have N4 : n3 + 1 ∉ [n3 + 1 + 1 + 1] := by simp
  rw [harr] at KT D4
  have KTH := Lib.hid KT; have D4H := Lib.hid D4
  clear KT D4 harr
  go_wp2_with fail
  refine (KTH.out).mono ?_
  rintro e w5 ⟨rfl, hi⟩
  have G4 := D4H.out.turn' N4 hi.t
  have k4 := G4.cell 3
  have k8 := hi.c.cell 0
  rw [HLL.out] at k8
  have HI := Lib.hid hi
  clear hi KTH D4H N4 G4
  go_wp2
  go_ret2
  refine ⟨rfl, ?_⟩
  have tb := HI.out.t
  have hs := B4.out.size
  rw [e3] at hs ⊢
  exact (B4.out.alloc hs _).trans (tb.below (.inr (by simp; omega)) (fun x hx => by rw [List.mem_singleton.1 hx]; omega))
end Go.Proofs.Ytnjikgcigobcdaa
