import Derived.Test.YtnjikgcigobcdaaBkRd
namespace Go.Proofs.Ytnjikgcigobcdaa
open Wd Pm Go.Maps Go.RowKit Go.Sort
set_option linter.unusedVariables false
set_option linter.unusedSectionVars false

section
variable {W wr : World} {f : Fp} {σ : St} {P B I L D : Int} {n3 n4 n5 n8 n9 n10 : Nat} {image log : List Int} (hb : ReadB W f σ P B I L D n3 n4 n5 n8 n9 n10) (hk : Bank σ I L image log)
include hb hk
set_option maxRecDepth 100000 in
set_option maxHeartbeats 2000000 in
theorem read1_dev (hi : ReadI W n8 n9 n10 0 0 none none wr) : Calls Try.prog 38 #[.pointer (some ⟨n3, 0, none⟩), .pointer (some ⟨n4, 0, none⟩), .pointer (some ⟨n5, 0, none⟩), .pointer (some ⟨n8, 0, none⟩)] wr (Ends (ReadI W n8 n9 n10 log.length image.length none none) (fun _ _ => False)) := by
  obtain ⟨s0, s3, s4, s5, x89, x810⟩ := ReadB.far hb
  have hn := hk.n; have hi0 := hk.i0; have hl0 := hk.l0; have hil := hk.il; have hll := hk.ll; have hB := hb.b.B0
  have KC := Lib.hid (count_dev (dev_turn hb.b.d hi.t s0) hk.dead P B I L D 0 hB.1 hB.2 (by omega) (by omega) (by show (32 : Int) + 2 ≤ _; omega) log.length image.length hk.t hk.i (by omega) hll (by omega) hil)
  have k3 : wr.cell? ⟨n3, 0, none⟩ = some (.pointer (some ⟨f.p, 0, none⟩)) := (hb.b.c3.turn' s3 hi.t).cell 0
  have C4 := hb.b.c4.turn' s4 hi.t
  have k40 := C4.cell 0; have k41 := C4.cell 1; have k42 := C4.cell 2; have k43 := C4.cell 3; have k44 := C4.cell 4
  have k5 : wr.cell? ⟨n5, 0, none⟩ = some (.int .i64 0) := (hb.b.c5.turn' s5 hi.t).cell 0
  have HI := Lib.hid hi
  unfold Fp.ptr at KC
  clear hb hk hi s0 s3 s4 s5 hn hi0 hl0 hil hll hB C4
  go_enter Try.func38, Try.ntmps38
  go_wp2_with fail
  refine (KC.out).mono ?_
  rintro e w2 ⟨rfl, b2⟩
  have HI2 := Lib.hid (HI.out.below b2)
  have C8 := Lib.hid HI2.out.c
  have z0 := C8.out.free 0
  have z1 := C8.out.free 1
  have x0 := C8.out.cell 0
  have x1 := C8.out.cell 1
  clear b2 KC k3 k40 k41 k42 k43 k44 k5
  go_wp2
  go_ret
  obtain ⟨A9, k9, c9, C9, h9⟩ := HI2.out.c9
  obtain ⟨A10, k10, c10, C10, h10⟩ := HI2.out.c10
  refine ⟨0, rfl, .inl ⟨rfl, ?_, ?_, ⟨A9, k9, c9, (C9.far (C9.ne C8.out (by decide)) _).far (C9.ne C8.out (by decide)) _, fun l e => by cases e⟩, A10, k10, c10, (C10.far (C10.ne C8.out (by decide)) _).far (C10.ne C8.out (by decide)) _, fun l e => by cases e⟩⟩
  · exact (HI2.out.t.trans (S' := ReadS n8 n9 n10) (Turn.set _ (p := ⟨n8, 0, none⟩) (by simp [ReadS]) _) (fun x hx => .inl hx)).trans (S' := ReadS n8 n9 n10) (Turn.set _ (p := ⟨n8, 1, none⟩) (by simp [ReadS]) _) (fun x hx => .inl hx)
  · have := (C8.out.set 0 (.int .i64 log.length)).set 1 (.int .i64 image.length)
    simpa using this

def ReadF (j : Nat) : FuncId := if j = 0 then 38 else if j = 1 then 39 else 41
def ReadC (n3 n4 n5 n8 n9 n10 : Nat) (j : Nat) : Array Value := if j = 0 then #[.pointer (some ⟨n3, 0, none⟩), .pointer (some ⟨n4, 0, none⟩), .pointer (some ⟨n5, 0, none⟩), .pointer (some ⟨n8, 0, none⟩)] else if j = 1 then #[.pointer (some ⟨n3, 0, none⟩), .pointer (some ⟨n4, 0, none⟩), .pointer (some ⟨n5, 0, none⟩), .pointer (some ⟨n8, 0, none⟩), .pointer (some ⟨n9, 0, none⟩)] else #[.pointer (some ⟨n3, 0, none⟩), .pointer (some ⟨n4, 0, none⟩), .pointer (some ⟨n5, 0, none⟩), .pointer (some ⟨n8, 0, none⟩), .pointer (some ⟨n10, 0, none⟩)]
def readRow (n3 n4 n5 n8 n9 n10 : Nat) : Array Value := #[.func (.func 38) #[] #[.pointer (some ⟨n3, 0, none⟩), .pointer (some ⟨n4, 0, none⟩), .pointer (some ⟨n5, 0, none⟩), .pointer (some ⟨n8, 0, none⟩)], .func (.func 39) #[] #[.pointer (some ⟨n3, 0, none⟩), .pointer (some ⟨n4, 0, none⟩), .pointer (some ⟨n5, 0, none⟩), .pointer (some ⟨n8, 0, none⟩), .pointer (some ⟨n9, 0, none⟩)], .func (.func 41) #[] #[.pointer (some ⟨n3, 0, none⟩), .pointer (some ⟨n4, 0, none⟩), .pointer (some ⟨n5, 0, none⟩), .pointer (some ⟨n8, 0, none⟩), .pointer (some ⟨n10, 0, none⟩)]]
theorem read_turn (h8 : Cells W n8 61 #[.int .i64 0, .int .i64 0]) (h9 : Cells W n9 22 #[.slice none 0 0]) (h10 : Cells W n10 22 #[.slice none 0 0]) (R : Nat) (hR : Cells W R 56 (readRow n3 n4 n5 n8 n9 n10)) :
    Calls Try.prog 23 #[.slice (some ⟨R, 0, none⟩) 3 3] W fun e w' => e = .returned (.int .i64 0) ∧ ReadI W n8 n9 n10 log.length image.length (some image) (some log) w' := by
  have hrow := Row.of_cells (B := W.heap.size) hR hR.lt
  have hne : ∀ b o m, (some ⟨R, 0, none⟩ : Option Addr) = some ⟨b, o, m⟩ → b ∉ ReadS n8 n9 n10 := fun b o m e hm => by
    cases e
    simp only [ReadS, List.mem_cons, List.not_mem_nil, or_false] at hm
    rcases hm with h | h | h
    · exact hR.ne h8 (by decide) h
    · exact hR.ne h9 (by decide) h
    · exact hR.ne h10 (by decide) h
  have key := inTurn_any 3 (by omega) ReadF (fun _ => #[]) (ReadC n3 n4 n5 n8 n9 n10) (some ⟨R, 0, none⟩) 3
    (fun j wr => if j = 0 then ReadI W n8 n9 n10 0 0 none none wr else if j = 1 then ReadI W n8 n9 n10 log.length image.length none none wr else if j = 2 then ReadI W n8 n9 n10 log.length image.length (some image) none wr else ReadI W n8 n9 n10 log.length image.length (some image) (some log) wr) (fun _ _ => False) W
    (by rw [if_pos rfl]; exact ⟨Turn.refl _ _, h8, ⟨none, 0, 0, h9, fun l e => by cases e⟩, none, 0, 0, h10, fun l e => by cases e⟩)
    (fun j wr hj => by
      have ht : Turn W wr (ReadS n8 n9 n10) := by
        split at hj
        · exact hj.t
        · split at hj
          · exact hj.t
          · split at hj
            · exact hj.t
            · exact hj.t
      exact row_turn hrow ht hne)
    (fun j hj => by
      unfold ReadF
      split
      · exact fun args w => by simp [go_sem]
      · split
        · exact fun args w => by simp [go_sem]
        · exact fun args w => by simp [go_sem])
    (fun j wr hj hA => by
      match j, hj with
      | 0, _ => exact read1_dev hb hk hA
      | 1, _ => exact read2_dev hb hk hA
      | 2, _ => exact read3_dev hb hk hA)
  refine key.mono ?_
  rintro e w2 ⟨er, rfl, ⟨rfl, h⟩ | ⟨_, h⟩⟩
  · exact ⟨rfl, h⟩
  · exact h.elim
end
def ReadDone (w : World) (image log : List Int) (e : Ending) (w' : World) : Prop :=
  ∃ A c A2 c2, e = .returned (.tuple #[.slice A image.length c, .slice A2 log.length c2, .int .i64 0]) ∧ Row w' w'.heap.size A image.length (image.map VU64) ∧ Row w' w'.heap.size A2 log.length (log.map VU64) ∧ (∀ b o m, A = some ⟨b, o, m⟩ → w.heap.size ≤ b) ∧ (∀ b o m, A2 = some ⟨b, o, m⟩ → w.heap.size ≤ b) ∧ Below w.heap.size w w'
set_option maxRecDepth 100000 in
set_option maxHeartbeats 2000000 in
theorem read_dev {w : World} {f : Fp} {σ : St} {P B I L D : Int} {image log : List Int} (h : Dev w f σ) (hk : Bank σ I L image log) (hB : 0 ≤ B ∧ B ≤ 200000) :
    Calls Try.prog 11 #[f.ptr, .agg #[.int .i64 P, .int .i64 B, .int .i64 I, .int .i64 L, .int .i64 D], .int .i64 0] w (ReadDone w image log) := by
  have hmf : ∀ (fn : Fn) (first cap : Array Value) (w : World), (Instr.makeFunc fn first cap).run Try.prog w = .ok (.func fn first cap) w := fun _ _ _ _ => rfl
  have H := Lib.hid h; have HK := Lib.hid hk
  clear h hk
  unfold Fp.ptr
  go_enter Try.func11, Try.ntmps11
  go_upto_region 3 with fail
  have c3 := (((((Cells.new w 26 #[.pointer (some ⟨f.p, 0, none⟩)]).alloc (.cells #[.int .i64 P, .int .i64 B, .int .i64 I, .int .i64 L, .int .i64 D] 28)).alloc (.cells #[.int .i64 0] 3)).alloc (.cells #[.int .i64 0, .int .i64 0] 61)).alloc (.cells #[.slice none 0 0] 22)).alloc (.cells #[.slice none 0 0] 22)
  have c4 := ((((Cells.new (w.alloc (.cells #[.pointer (some ⟨f.p, 0, none⟩)] 26)) 28 #[.int .i64 P, .int .i64 B, .int .i64 I, .int .i64 L, .int .i64 D]).alloc (.cells #[.int .i64 0] 3)).alloc (.cells #[.int .i64 0, .int .i64 0] 61)).alloc (.cells #[.slice none 0 0] 22)).alloc (.cells #[.slice none 0 0] 22)
  have c5 := (((Cells.new ((w.alloc (.cells #[.pointer (some ⟨f.p, 0, none⟩)] 26)).alloc (.cells #[.int .i64 P, .int .i64 B, .int .i64 I, .int .i64 L, .int .i64 D] 28)) 3 #[.int .i64 0]).alloc (.cells #[.int .i64 0, .int .i64 0] 61)).alloc (.cells #[.slice none 0 0] 22)).alloc (.cells #[.slice none 0 0] 22)
  have c8 := ((Cells.new (((w.alloc (.cells #[.pointer (some ⟨f.p, 0, none⟩)] 26)).alloc (.cells #[.int .i64 P, .int .i64 B, .int .i64 I, .int .i64 L, .int .i64 D] 28)).alloc (.cells #[.int .i64 0] 3)) 61 #[.int .i64 0, .int .i64 0]).alloc (.cells #[.slice none 0 0] 22)).alloc (.cells #[.slice none 0 0] 22)
  have c9 := (Cells.new ((((w.alloc (.cells #[.pointer (some ⟨f.p, 0, none⟩)] 26)).alloc (.cells #[.int .i64 P, .int .i64 B, .int .i64 I, .int .i64 L, .int .i64 D] 28)).alloc (.cells #[.int .i64 0] 3)).alloc (.cells #[.int .i64 0, .int .i64 0] 61)) 22 #[.slice none 0 0]).alloc (.cells #[.slice none 0 0] 22)
  have c10 := Cells.new (((((w.alloc (.cells #[.pointer (some ⟨f.p, 0, none⟩)] 26)).alloc (.cells #[.int .i64 P, .int .i64 B, .int .i64 I, .int .i64 L, .int .i64 D] 28)).alloc (.cells #[.int .i64 0] 3)).alloc (.cells #[.int .i64 0, .int .i64 0] 61)).alloc (.cells #[.slice none 0 0] 22)) 22 #[.slice none 0 0]
  simp only [World.size_alloc] at c4 c5 c8 c9 c10
  have b4 : Below w.heap.size w ((((((w.alloc (.cells #[.pointer (some ⟨f.p, 0, none⟩)] 26)).alloc (.cells #[.int .i64 P, .int .i64 B, .int .i64 I, .int .i64 L, .int .i64 D] 28)).alloc (.cells #[.int .i64 0] 3)).alloc (.cells #[.int .i64 0, .int .i64 0] 61)).alloc (.cells #[.slice none 0 0] 22)).alloc (.cells #[.slice none 0 0] 22)) := ((((((Below.refl _ _).alloc (Nat.le_refl _) _).alloc (by simp) _).alloc (by simp; omega) _).alloc (by simp; omega) _).alloc (by simp; omega) _).alloc (by simp; omega) _
  obtain ⟨W, hW⟩ : ∃ W, (((((w.alloc (.cells #[.pointer (some ⟨f.p, 0, none⟩)] 26)).alloc (.cells #[.int .i64 P, .int .i64 B, .int .i64 I, .int .i64 L, .int .i64 D] 28)).alloc (.cells #[.int .i64 0] 3)).alloc (.cells #[.int .i64 0, .int .i64 0] 61)).alloc (.cells #[.slice none 0 0] 22)).alloc (.cells #[.slice none 0 0] 22) = W := ⟨_, rfl⟩
  rw [hW] at c3 c4 c5 c8 c9 c10 b4 ⊢
  have C3 := Lib.hid c3; have C4 := Lib.hid c4; have C5 := Lib.hid c5; have C8 := Lib.hid c8; have C9 := Lib.hid c9; have C10 := Lib.hid c10; have B4 := Lib.hid b4
  clear c3 c4 c5 c8 c9 c10 b4 hW
  obtain ⟨n3, e3⟩ : ∃ n, w.heap.size = n := ⟨_, rfl⟩
  rw [e3] at C3 C4 C5 C8 C9 C10 B4 ⊢
  obtain ⟨arr, harr⟩ : ∃ arr : Array Value, arr = readRow n3 (n3 + 1) (n3 + 1 + 1) (n3 + 1 + 1 + 1) (n3 + 1 + 1 + 1 + 1) (n3 + 1 + 1 + 1 + 1 + 1) := ⟨_, rfl⟩
  have KT := read_turn (W := W.alloc (.cells arr 56)) (n3 := n3) (n4 := n3 + 1) (n5 := n3 + 1 + 1) (n8 := n3 + 1 + 1 + 1) (n9 := n3 + 1 + 1 + 1 + 1) (n10 := n3 + 1 + 1 + 1 + 1 + 1) (P := P) (D := D)
    ⟨⟨(H.out.below (e3 ▸ B4.out)).alloc _, C3.out.alloc _, C4.out.alloc _, C5.out.alloc _, ⟨_, C8.out.alloc _⟩, hB⟩, ⟨_, C9.out.alloc _⟩, ⟨_, C10.out.alloc _⟩, by omega⟩ HK.out (C8.out.alloc _) (C9.out.alloc _) (C10.out.alloc _) W.heap.size (harr ▸ Cells.new W _ arr)
  unfold readRow at harr
  rw [harr] at KT
  have KTH := Lib.hid KT
  clear KT harr
  go_wp2_with fail
  refine (KTH.out).mono ?_
  rintro e w5 ⟨rfl, hi⟩
  obtain ⟨t5, _, ⟨A9, k9, cc9, D9, h9⟩, A10, k10, cc10, D10, h10⟩ := hi
  obtain ⟨rfl, r9, a9⟩ := h9 _ rfl
  obtain ⟨rfl, r10, a10⟩ := h10 _ rfl
  have k9 := D9.cell 0
  have k10 := D10.cell 0
  have T5 := Lib.hid t5; have R9 := Lib.hid r9; have R10 := Lib.hid r10; have A9H := Lib.hid a9; have A10H := Lib.hid a10
  clear t5 h9 h10 r9 r10 a9 a10 KTH D9 D10
  go_wp2
  go_quiet (fail)
  go_wp2
  go_ret3
  have hs := B4.out.size
  rw [e3] at hs
  refine ⟨A9, cc9, A10, cc10, rfl, R9.out.drewN _, R10.out.drewN _, fun b o m e => ?_, fun b o m e => ?_, ?_⟩
  · have := A9H.out b o m e; simp at this; omega
  · have := A10H.out b o m e; simp at this; omega
  · rw [e3]
    exact below_drewN ((B4.out.alloc hs _).trans (T5.out.below (.inr (by simp; omega)) (fun x hx => by simp only [ReadS, List.mem_cons, List.not_mem_nil, or_false] at hx; omega))) _
end Go.Proofs.Ytnjikgcigobcdaa
