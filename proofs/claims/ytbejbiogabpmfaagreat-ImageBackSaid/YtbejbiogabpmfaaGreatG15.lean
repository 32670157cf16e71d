import Derived.Test.YtbejbiogabpmfaaGreatG14
import Derived.Test.YtbejbiogabpmfaaGreatG10
import Derived.Test.YtbejbiogabpmfaaGreatG00
import Derived.WalkKit
import Derived.WalkMore
import Derived.Laws.Strings
import Derived.Test.YtbejbiogabpmfaaGreatG13
import Derived.Test.YtbejbiogabpmfaaGreatG11
import Derived.Lib.BufferWrite
import Derived.Lib.UnsafeStr
import Derived.Laws.StructEq
import Derived.RegionTactic
import Derived.BigRegion

/-! The project's State: a name comes, a name goes, a directory moves, a node goes. -/
namespace Go.Proofs.YtbejbiogabpmfaaGreat
open Wd Ino Sm Go.RowKit Go.ChangeShapes Go.WideShapes Go.Sort
set_option linter.unusedVariables false
set_option maxRecDepth 100000
theorem at_modS {l : List Nod} {d : Int} {f : Nod → Nod} {n : Nod} (hf : ∀ n, (f n).ino = n.ino) (h : atS l d = some n) : ∀ i, atS (modS l d f) i = if i = d then some (f n) else atS l i := by
  intro i
  rw [atS_mod hf]
  by_cases e : i = d
  · subst e; rw [h]; simp
  · rw [if_neg e]
    cases hi : atS l i with
    | none => rfl
    | some k => simp [e]
theorem getS_some {l : List Nod} {d : Int} {n : Nod} (h : atS l d = some n) : getS l d = n := by unfold getS; rw [h]; rfl
/-- it returns nothing; the state is S' -/
def PGo (S' : Stt) (base m g b : Nat) (w : World) (e : Ending) (w' : World) : Prop := e = .returned (.tuple #[]) ∧ PSt w' base m g b S' ∧ Trn w w' [g, b]
section
variable {w : World} {base m g b : Nat} {S : Stt}
theorem pEnter (h : PSt w base m g b S) (hs : SmS S.l) (hm : m < 1000000) (d : Int) (hd : i64R d) {n0 : Nod} (h0 : atS S.l d = some n0) (s : ByteArray) (hsz : s.size ≤ 1000) (i : Int) :
    Calls Tryz.prog 133 #[SPtr g, .int .i64 d, .string s, .int .i64 i] w (PGo ⟨enterS S.l d s i, S.last⟩ base (m + 1) g b w) := by
  have c0 := h.c0
  obtain ⟨n, hn, ho, lk⟩ := h.look hd
  have lk0 := lk w rfl
  have hsm := hs.get d
  rw [getS_some h0] at hn hsm
  have hlen : n.names.length ≤ 1000 := by have := hsm.q; rw [← hn] at this; exact Nat.le_trans this (by decide)
  have hes : ∀ e ∈ n.names, e.s.size ≤ 1000 := by have := hsm.sz; rw [← hn] at this; exact this
  obtain ⟨hbc, hE⟩ := ho.ens
  obtain ⟨j, ki, l, t, u, A, ac, P, B, bc, N⟩ := n
  dsimp only at hlen hes hE
  have hg1 := below_of_grown (World.grownBy_alloc w (.cells (ncells j ki l t u (.slice A P.length ac) (.slice B N.length bc)) 51) none)
  have hc1 := Cells.new w 51 (ncells j ki l t u (.slice A P.length ac) (.slice B N.length bc))
  have x6 := hc1.cell 6
  have f6 := hc1.free 6
  have KP := Lib.hid (dPutO (c := bc) (hE.below hg1) hg1.size hlen hes s hsz i)
  have HC1 := Lib.hid hc1; have HG1 := Lib.hid hg1; have H := Lib.hid h; have HO := Lib.hid ho
  have HN := Lib.hid hn; have H0 := Lib.hid h0; have HM := Lib.hid hm; have HD := Lib.hid hd
  unfold ncells at x6 f6 HC1 HG1 KP
  unfold Nd.val at lk0
  dsimp only at lk0
  clear h lk ho hn hs hsm hlen hes hE hbc h0 hc1 hg1 hm hd
  unfold SPtr at *
  go_enter Tryz.func133, Tryz.ntmps133
  go_wp2_with fail
  refine (KP.out).mono ?_
  rintro e w2 ⟨B2, bc2, rfl, hb2, hO2, hw2⟩
  have hcx := HC1.out.below' hw2
  have y6 := hcx.cell 6
  have g6 := hcx.free 6
  have HCX := Lib.hid hcx
  have HB2 := Lib.hid (HG1.out.trans (hw2.mono HG1.out.size))
  have HO2 := Lib.hid (hO2.mono HG1.out.size)
  have HP := Lib.hid (show putR s i N = (putNm s i ⟨j, ki, l, t, u, P, N⟩).names from rfl)
  clear hcx hw2 hO2 hb2 KP
  go_wp2_with fail
  obtain ⟨V, hV⟩ : ∃ V, Value.slice B2 (putR s i N).length bc2 = V := ⟨_, rfl⟩
  have HV := Lib.hid hV
  rw [hV]
  obtain ⟨w3, hw3⟩ : ∃ w3, w2.setCell ⟨w.heap.size, 6, none⟩ V = w3 := ⟨_, rfl⟩
  have h2 := H.out.below HB2.out
  have hb3 : Below w.heap.size w w3 := by rw [← hw3]; exact HB2.out.setCell (p := ⟨w.heap.size, 6, none⟩) (Nat.le_refl _) V
  have hcb : Cells w3 w.heap.size 51 (ncells j ki l t u (.slice A P.length ac) V) := by rw [← hw3]; exact HCX.out.set 6 V
  have ho3 : OwnE w3 w.heap.size V (putR s i N) := by rw [← hw3, ← HV.out]; exact own_apart HO2.out HCX.out (by decide) 6 _
  have H3 := Lib.hid (h2.below (Below.refl _ _) |> fun _ => H.out.below hb3)
  have c03 := H3.out.c0
  obtain ⟨z0, z1, z2, z3, z4, z5, z6⟩ := cells7 hcb
  rw [hw3]
  have HB3 := Lib.hid hb3; have HO3 := Lib.hid ho3
  clear hV hw3 h2 hb3 hcb ho3 y6 g6 x6 f6 c0 lk0
  go_still_tail 6, (by kernel_rfl)
  change wpList _ _ _ _ _ w3.drew
  obtain ⟨w4, hrun, hP4, hT4⟩ := (H3.out.below (Below.refl _ _).drew).store HM.out HD.out (x := d) (n := ⟨j, ki, l, t, u, A, ac, P, B2, bc2, putR s i N⟩)
    ⟨by exact (HO.out.below HB3.out).1, by rw [HV.out]; exact (HO3.out.mono (Nat.le_of_lt_succ (Nat.lt_succ_of_le (by have := H.out.lo; have := H.out.cells.lt; omega))))⟩
    (l' := enterS S.l d s i) (fun x => by rw [show enterS S.l d s i = modS S.l d (putNm s i) from rfl, at_modS (f := putNm s i) (fun _ => rfl) H0.out, ← HN.out]; rfl)
  unfold Nd.val at hrun
  dsimp only at hrun
  rw [HV.out] at hrun
  have HP4 := Lib.hid hP4
  have HT4 := Lib.hid ((Trn.of HB3.out).drew.trans (Trn.map hT4 (S := [g, b]) (by simp)))
  clear hP4 hT4
  go_wp2
  go_end0
  exact ⟨rfl, HP4.out, HT4.out⟩
theorem pLeave (h : PSt w base m g b S) (hs : SmS S.l) (hm : m < 1000000) (d : Int) (hd : i64R d) {n0 : Nod} (h0 : atS S.l d = some n0) (s : ByteArray) :
    Calls Tryz.prog 140 #[SPtr g, .int .i64 d, .string s] w (PGo ⟨leaveS S.l d s, S.last⟩ base (m + 1) g b w) := by
  have c0 := h.c0
  obtain ⟨n, hn, ho, lk⟩ := h.look hd
  have lk0 := lk w rfl
  have hsm := hs.get d
  rw [getS_some h0] at hn hsm
  have hlen : n.names.length ≤ 1000 := by have := hsm.q; rw [← hn] at this; exact Nat.le_trans this (by decide)
  have hes : ∀ e ∈ n.names, e.s.size ≤ 1000 := by have := hsm.sz; rw [← hn] at this; exact this
  obtain ⟨hbc, hE⟩ := ho.ens
  obtain ⟨j, ki, l, t, u, A, ac, P, B, bc, N⟩ := n
  dsimp only at hlen hes hE
  have hg1 := below_of_grown (World.grownBy_alloc w (.cells (ncells j ki l t u (.slice A P.length ac) (.slice B N.length bc)) 51) none)
  have hc1 := Cells.new w 51 (ncells j ki l t u (.slice A P.length ac) (.slice B N.length bc))
  have x6 := hc1.cell 6
  have f6 := hc1.free 6
  have KP := Lib.hid (dDropO (c := bc) (hE.below hg1) hg1.size hlen hes s)
  have HC1 := Lib.hid hc1; have HG1 := Lib.hid hg1; have H := Lib.hid h; have HO := Lib.hid ho
  have HN := Lib.hid hn; have H0 := Lib.hid h0; have HM := Lib.hid hm; have HD := Lib.hid hd
  unfold ncells at x6 f6 HC1 HG1 KP
  unfold Nd.val at lk0
  dsimp only at lk0
  clear h lk ho hn hs hsm hlen hes hE hbc h0 hc1 hg1 hm hd
  unfold SPtr at *
  go_enter Tryz.func140, Tryz.ntmps140
  go_wp2_with fail
  refine (KP.out).mono ?_
  rintro e w2 ⟨B2, bc2, rfl, hb2, hO2, hw2⟩
  have hcx := HC1.out.below' hw2
  have y6 := hcx.cell 6
  have g6 := hcx.free 6
  have HCX := Lib.hid hcx
  have HB2 := Lib.hid (HG1.out.trans (hw2.mono HG1.out.size))
  have HO2 := Lib.hid (hO2.mono HG1.out.size)
  have HP := Lib.hid (show dropN s N = (cutNm s ⟨j, ki, l, t, u, P, N⟩).names from rfl)
  clear hcx hw2 hO2 hb2 KP
  go_wp2_with fail
  obtain ⟨V, hV⟩ : ∃ V, Value.slice B2 (dropN s N).length bc2 = V := ⟨_, rfl⟩
  have HV := Lib.hid hV
  rw [hV]
  obtain ⟨w3, hw3⟩ : ∃ w3, w2.setCell ⟨w.heap.size, 6, none⟩ V = w3 := ⟨_, rfl⟩
  have h2 := H.out.below HB2.out
  have hb3 : Below w.heap.size w w3 := by rw [← hw3]; exact HB2.out.setCell (p := ⟨w.heap.size, 6, none⟩) (Nat.le_refl _) V
  have hcb : Cells w3 w.heap.size 51 (ncells j ki l t u (.slice A P.length ac) V) := by rw [← hw3]; exact HCX.out.set 6 V
  have ho3 : OwnE w3 w.heap.size V (dropN s N) := by rw [← hw3, ← HV.out]; exact own_apart HO2.out HCX.out (by decide) 6 _
  have H3 := Lib.hid (h2.below (Below.refl _ _) |> fun _ => H.out.below hb3)
  have c03 := H3.out.c0
  obtain ⟨z0, z1, z2, z3, z4, z5, z6⟩ := cells7 hcb
  rw [hw3]
  have HB3 := Lib.hid hb3; have HO3 := Lib.hid ho3
  clear hV hw3 h2 hb3 hcb ho3 y6 g6 x6 f6 c0 lk0
  go_still_tail 6, (by kernel_rfl)
  change wpList _ _ _ _ _ w3.drew
  obtain ⟨w4, hrun, hP4, hT4⟩ := (H3.out.below (Below.refl _ _).drew).store HM.out HD.out (x := d) (n := ⟨j, ki, l, t, u, A, ac, P, B2, bc2, dropN s N⟩)
    ⟨by exact (HO.out.below HB3.out).1, by rw [HV.out]; exact (HO3.out.mono (Nat.le_of_lt_succ (Nat.lt_succ_of_le (by have := H.out.lo; have := H.out.cells.lt; omega))))⟩
    (l' := leaveS S.l d s) (fun x => by rw [show leaveS S.l d s = modS S.l d (cutNm s) from rfl, at_modS (f := cutNm s) (fun _ => rfl) H0.out, ← HN.out]; rfl)
  unfold Nd.val at hrun
  dsimp only at hrun
  rw [HV.out] at hrun
  have HP4 := Lib.hid hP4
  have HT4 := Lib.hid ((Trn.of HB3.out).drew.trans (Trn.map hT4 (S := [g, b]) (by simp)))
  clear hP4 hT4
  go_wp2
  go_end0
  exact ⟨rfl, HP4.out, HT4.out⟩
theorem pMoveTo (h : PSt w base m g b S) (hm : m < 1000000) (d : Int) (hd : i64R d) {n0 : Nod} (h0 : atS S.l d = some n0) (u' : Int) :
    Calls Tryz.prog 141 #[SPtr g, .int .i64 d, .int .i64 u'] w (PGo ⟨modS S.l d (setUp u'), S.last⟩ base (m + 1) g b w) := by
  have c0 := h.c0
  obtain ⟨n, hn, ho, lk⟩ := h.look hd
  have lk0 := lk w rfl
  rw [getS_some h0] at hn
  obtain ⟨j, ki, l, t, u, A, ac, P, B, bc, N⟩ := n
  have hc1 := Cells.new w 51 (ncells j ki l t u' (.slice A P.length ac) (.slice B N.length bc))
  obtain ⟨z0, z1, z2, z3, z4, z5, z6⟩ := cells7 hc1
  have hg1 := below_of_grown (World.grownBy_alloc w (.cells (ncells j ki l t u' (.slice A P.length ac) (.slice B N.length bc)) 51) none)
  have c01 := (h.below hg1).c0
  have HG1 := Lib.hid hg1; have H := Lib.hid h; have HO := Lib.hid ho
  have HN := Lib.hid hn; have H0 := Lib.hid h0; have HM := Lib.hid hm; have HD := Lib.hid hd
  unfold ncells at z0 z1 z2 z3 z4 z5 z6 HG1 c01
  unfold Nd.val at lk0
  dsimp only at lk0
  clear h lk ho hn h0 hc1 hg1 hm hd
  unfold SPtr at *
  go_enter Tryz.func141, Tryz.ntmps141
  go_wp2_with fail
  obtain ⟨w3, hw3⟩ : ∃ w3, w.alloc (.cells #[.int .i64 j, .int .i64 ki, .int .i64 l, .int .i64 t, .int .i64 u', .slice A P.length ac, .slice B N.length bc] 51) = w3 := ⟨_, rfl⟩
  rw [hw3] at HG1 z0 z1 z2 z3 z4 z5 z6 c01 ⊢
  clear hw3 c0 lk0
  go_still_tail 6, (by kernel_rfl)
  change wpList _ _ _ _ _ w3.drew
  obtain ⟨w4, hrun, hP4, hT4⟩ := (H.out.below HG1.out.drew).store HM.out HD.out (x := d) (n := ⟨j, ki, l, t, u', A, ac, P, B, bc, N⟩)
    (show OwnNd _ base ⟨j, ki, l, t, u, A, ac, P, B, bc, N⟩ from HO.out.below HG1.out.drew)
    (l' := modS S.l d (setUp u')) (fun x => by rw [at_modS (f := setUp u') (fun _ => rfl) H0.out, ← HN.out]; rfl)
  unfold Nd.val at hrun
  dsimp only at hrun
  have HP4 := Lib.hid hP4
  have HT4 := Lib.hid ((Trn.of HG1.out).drew.trans (Trn.map hT4 (S := [g, b]) (by simp)))
  clear hP4 hT4
  go_wp2
  go_end0
  exact ⟨rfl, HP4.out, HT4.out⟩
end
end Go.Proofs.YtbejbiogabpmfaaGreat

/-! The project's State: a node loses a name. -/
namespace Go.Proofs.YtbejbiogabpmfaaGreat
open Wd Ino Sm Go.RowKit Go.ChangeShapes Go.WideShapes Go.Sort
set_option linter.unusedVariables false
set_option maxRecDepth 100000
section
variable {w : World} {base m g b : Nat} {S : Stt}
theorem pForget (h : PSt w base m g b S) (hs : SmS S.l) (hm : m < 999999) (d : Int) (hd : i64R d) {n0 n1 : Nod} (h0 : atS S.l d = some n0) (s : ByteArray) (i : Int) (hi : i64R i) (h1 : atS (leaveS S.l d s) i = some n1) (hl : 0 ≤ n1.links) (hl2 : n1.links ≤ 1000) :
    Calls Tryz.prog 136 #[SPtr g, .int .i64 d, .string s, .int .i64 i] w (PGo ⟨forgetS S.l d s i, S.last⟩ base (m + 2) g b w) := by
  have KL := Lib.hid (pLeave h hs (by omega) d hd h0 s)
  have H := Lib.hid h; have H1 := Lib.hid h1; have HM := Lib.hid hm; have HI := Lib.hid hi
  have HF := Lib.hid (show forgetS S.l d s i = if n1.kind = 2 then rmS (leaveS S.l d s) i else modS (leaveS S.l d s) i lessLk by
    unfold forgetS kindS; rw [getS_some h1])
  clear h hs h0 h1 hm hi
  unfold SPtr at *
  go_enter Tryz.func136, Tryz.ntmps136
  go_wp2_with fail
  refine (KL.out).mono ?_
  rintro e w1 ⟨rfl, h2, t2⟩
  have c0 := h2.c0
  obtain ⟨n, hn, ho, lk⟩ := h2.look HI.out
  have lk0 := lk w1 rfl
  rw [getS_some H1.out] at hn
  have H2 := Lib.hid h2; have T2 := Lib.hid t2; have HO := Lib.hid ho
  obtain ⟨j, ki, l, t, u, A, ac, P, B, bc, N⟩ := n
  have hn1 : n1 = ⟨j, ki, l, t, u, P, N⟩ := hn.symm
  subst hn1
  dsimp only at hl hl2
  have HF := Lib.hid (show forgetS S.l d s i = if ki = 2 then rmS (leaveS S.l d s) i else modS (leaveS S.l d s) i lessLk from HF.out)
  unfold Nd.val at lk0
  dsimp only at lk0
  have w9 : wrap64 (l - 1) = l - 1 := by unfold wrap64; omega
  by_cases hk : ki = 2
  · have q0 : (ki == 2) = true := by simpa using hk
    have HF2 := Lib.hid (show forgetS S.l d s i = rmS (leaveS S.l d s) i by rw [HF.out, if_pos hk])
    have hg1 := below_of_grown (World.grownBy_alloc w1 (.cells (ncells j ki l t u (.slice A P.length ac) (.slice B N.length bc)) 51) none)
    have c01 := (H2.out.below hg1).c0
    obtain ⟨w4, hrun, hP4, hT4⟩ := (H2.out.below hg1).drop HI.out (l' := rmS (leaveS S.l d s) i) (fun x => atS_rm _ _ _) 0
    have HP4 := Lib.hid hP4
    have HT4 := Lib.hid ((T2.out.trans (Trn.of hg1)).trans (Trn.map hT4 (S := [g, b]) (by simp)))
    unfold ncells at c01 hrun
    clear h2 t2 lk ho hn hk hg1 hP4 hT4 KL
    go_wp2_with fail
    go_end0
    rw [HF2.out]
    exact ⟨rfl, HP4.out.more (by omega), HT4.out⟩
  · have q0 : (ki == 2) = false := by simpa using hk
    have HF2 := Lib.hid (show forgetS S.l d s i = modS (leaveS S.l d s) i lessLk by rw [HF.out, if_neg hk])
    have hc1 := Cells.new w1 51 (ncells j ki (l - 1) t u (.slice A P.length ac) (.slice B N.length bc))
    obtain ⟨z0, z1, z2, z3, z4, z5, z6⟩ := cells7 hc1
    have hg1 := below_of_grown (World.grownBy_alloc w1 (.cells (ncells j ki (l - 1) t u (.slice A P.length ac) (.slice B N.length bc)) 51) none)
    have c01 := (H2.out.below hg1).c0
    have HG1 := Lib.hid hg1
    unfold ncells at z0 z1 z2 z3 z4 z5 z6 HG1 c01
    clear h2 t2 lk ho hn hk hg1 hc1 KL
    go_wp2_with fail
    obtain ⟨w3, hw3⟩ : ∃ w3, w1.alloc (.cells #[.int .i64 j, .int .i64 ki, .int .i64 (l - 1), .int .i64 t, .int .i64 u, .slice A P.length ac, .slice B N.length bc] 51) = w3 := ⟨_, rfl⟩
    rw [hw3] at HG1 z0 z1 z2 z3 z4 z5 z6 c01 ⊢
    clear hw3 c0 lk0
    go_still_tail 6, (by kernel_rfl)
    change wpList _ _ _ _ _ w3.drew
    obtain ⟨w4, hrun, hP4, hT4⟩ := (H2.out.below HG1.out.drew).store (by have := HM.out; omega) HI.out (x := i) (n := ⟨j, ki, l - 1, t, u, A, ac, P, B, bc, N⟩)
      (show OwnNd _ base ⟨j, ki, l, t, u, A, ac, P, B, bc, N⟩ from HO.out.below HG1.out.drew)
      (l' := modS (leaveS S.l d s) i lessLk) (fun x => by rw [at_modS (f := lessLk) (fun _ => rfl) H1.out]; rfl)
    unfold Nd.val at hrun
    dsimp only at hrun
    have HP4 := Lib.hid hP4
    have HT4 := Lib.hid (((T2.out.trans (Trn.of HG1.out)).drew).trans (Trn.map hT4 (S := [g, b]) (by simp)))
    clear hP4 hT4
    go_wp2
    go_end0
    rw [HF2.out]
    exact ⟨rfl, HP4.out, HT4.out⟩
end
end Go.Proofs.YtbejbiogabpmfaaGreat

/-
  The nine cells of an effect.
-/
namespace Go.Proofs.YtbejbiogabpmfaaGreat
open Wd U Go.RowKit Go.ChangeShapes Go.WideShapes Go.Sort

def effCells (e : Eff) : Array Value := #[.int .i64 e.kind, .int .i64 e.ino, .int .i64 e.dir, .int .i64 e.dst, .int .i64 e.page, .int .i64 e.size, .string e.name, .string e.other, .slice e.A e.data.length e.cp]
theorem s9 {W w : World} {g : Nat} {e : Eff} (hc : Cells W g 64 (effCells e)) (b : Below W.heap.size W w) :
    Below W.heap.size W w ∧ w.cell? ⟨g, 0, none⟩ = some (.int .i64 e.kind) ∧ w.cell? ⟨g, 1, none⟩ = some (.int .i64 e.ino) ∧ w.cell? ⟨g, 2, none⟩ = some (.int .i64 e.dir) ∧ w.cell? ⟨g, 3, none⟩ = some (.int .i64 e.dst) ∧ w.cell? ⟨g, 4, none⟩ = some (.int .i64 e.page) ∧
      w.cell? ⟨g, 5, none⟩ = some (.int .i64 e.size) ∧ w.cell? ⟨g, 6, none⟩ = some (.string e.name) ∧ w.cell? ⟨g, 7, none⟩ = some (.string e.other) ∧ w.cell? ⟨g, 8, none⟩ = some (.slice e.A e.data.length e.cp) := by
  have h := hc.below' b
  exact ⟨b, h.cell 0, h.cell 1, h.cell 2, h.cell 3, h.cell 4, h.cell 5, h.cell 6, h.cell 7, h.cell 8⟩
end Go.Proofs.YtbejbiogabpmfaaGreat

namespace Go.Proofs.YtbejbiogabpmfaaGreat
open Wd U Go.RowKit Go.ChangeShapes Go.WideShapes Go.Sort
set_option linter.unusedVariables false

/-! two effects, alike -/
def sameB (a b : Eff) : Bool := decide (a.kind = b.kind) && decide (a.ino = b.ino) && decide (a.dir = b.dir) && decide (a.dst = b.dst) && decide (a.page = b.page) && decide (a.size = b.size) && (a.name.toList == b.name.toList) && (a.other.toList == b.other.toList) && ((strOf a.data).toList == (strOf b.data).toList)
end Go.Proofs.YtbejbiogabpmfaaGreat

/-
  The project's small functions of layer 9: within, node, place, reaches, Touches; strings.Clone as 'returns its text, some blocks more'.
-/
namespace Go.Proofs.YtbejbiogabpmfaaGreat
open Wd U Go.RowKit Go.ChangeShapes Go.WideShapes Go.Sort
set_option linter.unusedVariables false

theorem Eff.Ok.at_ {e : Eff} {w w' : World} (h : e.Ok w w.heap.size) (b : Below w.heap.size w w') : e.Ok w' w'.heap.size := (h.below b).more b.size
theorem eWithin (x a b : Int) (w : World) : Calls Tryz.prog 128 #[.int .i64 x, .int .i64 a, .int .i64 b] w (Grows (.bool (decide (a ≤ x) && decide (x ≤ b))) w) := by
  by_cases h1 : a ≤ x
  · have q1 : decide (a ≤ x) = true := decide_eq_true h1
    by_cases h2 : x ≤ b
    · have q2 : decide (x ≤ b) = true := decide_eq_true h2
      rw [q1, q2]
      clear h1 h2
      go_enter Tryz.func128, Tryz.ntmps128
      go_wp2
      go_ret
      exact ⟨rfl, grow_none _⟩
    · have q2 : decide (x ≤ b) = false := decide_eq_false h2
      rw [q1, q2]
      clear h1 h2
      go_enter Tryz.func128, Tryz.ntmps128
      go_wp2
      go_ret
      exact ⟨rfl, grow_none _⟩
  · have q1 : decide (a ≤ x) = false := decide_eq_false h1
    rw [q1, Bool.false_and]
    clear h1
    go_enter Tryz.func128, Tryz.ntmps128
    go_wp2
    go_ret
    exact ⟨rfl, grow_none _⟩

theorem eNode (n : Int) (w : World) : Calls Tryz.prog 126 #[.int .i64 n] w (Grows (.bool (ndB n)) w) := by
  have e : (decide (1 ≤ n) && decide (n ≤ 1048576)) = ndB n := by unfold ndB; simp
  go_enter Tryz.func126, Tryz.ntmps126
  go_wp2_with fail
  refine (eWithin n 1 1048576 _).mono ?_
  rintro e' w1 ⟨rfl, hw⟩
  rw [e]
  go_wp2
  go_ret
  exact ⟨rfl, hw⟩

theorem ePlace (d : Int) (s : ByteArray) (hs : s.size ≤ 1000) (w : World) : Calls Tryz.prog 127 #[.int .i64 d, .string s] w (Grows (.bool (ndB d && nmB s)) w) := by
  have hb : (nameN s.toList == 0) = nmB s := by unfold nmB; rfl
  cases hd : ndB d
  · rw [Bool.false_and]
    go_enter Tryz.func127, Tryz.ntmps127
    go_wp2_with fail
    refine (eNode d _).mono ?_
    rintro e' w1 ⟨rfl, hw⟩
    rw [hd]
    go_wp2
    go_ret
    exact ⟨rfl, hw⟩
  · rw [Bool.true_and]
    obtain ⟨n, hn⟩ : ∃ n, nameN s.toList = n := ⟨_, rfl⟩
    rw [hn] at hb
    have HN := Lib.hid hn
    clear hn
    go_enter Tryz.func127, Tryz.ntmps127
    go_wp2_with fail
    refine (eNode d _).mono ?_
    rintro e' w1 ⟨rfl, hw⟩
    rw [hd]
    clear hd
    go_wp2_with fail
    refine (nCheck s hs _).mono ?_
    rintro e' w2 ⟨rfl, hw2⟩
    rw [HN.out]
    go_wp2
    go_ret
    exact ⟨rfl, grow_trans hw hw2⟩

/-- whether a file of that size may have that page -/
def rcB (page size : Int) : Bool := (decide (0 ≤ page) && decide (page ≤ 63)) && (decide (256 * page + 1 ≤ size) && decide (size ≤ 16384))
theorem eReaches (page size : Int) (w : World) : Calls Tryz.prog 129 #[.int .i64 page, .int .i64 size] w (Grows (.bool (rcB page size)) w) := by
  unfold rcB
  cases hp : (decide (0 ≤ page) && decide (page ≤ 63))
  · rw [Bool.false_and]
    go_enter Tryz.func129, Tryz.ntmps129
    go_wp2_with fail
    refine (eWithin page 0 63 _).mono ?_
    rintro e' w1 ⟨rfl, hw⟩
    rw [hp]
    go_wp2
    go_ret
    exact ⟨rfl, hw⟩
  · rw [Bool.true_and]
    simp at hp
    have g1 : wrap64 (256 * page) = 256 * page := by unfold wrap64; omega
    have g2 : wrap64 (256 * page + 1) = 256 * page + 1 := by unfold wrap64; omega
    have p0 : (decide (0 ≤ page) && decide (page ≤ 63)) = true := by simp; omega
    have P0 := Lib.hid p0
    clear hp p0
    go_enter Tryz.func129, Tryz.ntmps129
    go_wp2_with fail
    refine (eWithin page 0 63 _).mono ?_
    rintro e' w1 ⟨rfl, hw⟩
    rw [P0.out]
    go_wp2_with fail
    refine (eWithin size (256 * page + 1) 16384 _).mono ?_
    rintro e' w2 ⟨rfl, hw2⟩
    go_wp2
    go_ret
    exact ⟨rfl, grow_trans hw hw2⟩

end Go.Proofs.YtbejbiogabpmfaaGreat

/-
  The project's flatOf and Same: two effects are alike where all but their bytes is, and their bytes are.
-/
namespace Go.Proofs.YtbejbiogabpmfaaGreat
open Wd U Go.RowKit Go.ChangeShapes Go.WideShapes Go.Sort
set_option linter.unusedVariables false
set_option maxRecDepth 100000

def flatV (e : Eff) : Value := .agg #[.int .i64 e.kind, .int .i64 e.ino, .int .i64 e.dir, .int .i64 e.dst, .int .i64 e.page, .int .i64 e.size, .string e.name, .string e.other]
def flatB (a b : Eff) : Bool := decide (a.kind = b.kind) && decide (a.ino = b.ino) && decide (a.dir = b.dir) && decide (a.dst = b.dst) && decide (a.page = b.page) && decide (a.size = b.size) && (a.name.toList == b.name.toList) && (a.other.toList == b.other.toList)

set_option maxRecDepth 100000 in
theorem eFlatOf (e : Eff) (w : World) : Calls Tryz.prog 130 #[e.val] w (Grows (flatV e) w) := by
  obtain ⟨kind, ino, dir, dst, page, size, name, other, A, cp, data⟩ := e
  unfold Eff.val flatV
  go_enter Tryz.func130, Tryz.ntmps130
  go_wp2
  exact bodyPost_ret (v := .agg #[.int .i64 kind, .int .i64 ino, .int .i64 dir, .int .i64 dst, .int .i64 page, .int .i64 size, .string name, .string other]) (by simp [results, Tryz.results130, go_sem]) rfl ⟨rfl, grow_alloc (grow_one _ _) _⟩

def one_eqF (P : Program) (f : Field) (d : Nat) (w : World) (u v : Value) (b : Bool) : Prop := f.name ≠ "_" ∧ (Op.equalIn d f.type u v).run P w = .ok b w
theorem eqF_consF {P : Program} {f : Field} {fs : List Field} {d : Nat} {w : World} {xs ys : Array Value} {u v : Value} {b B : Bool} (hn : (f.name != "_") = true) (hx : ∀ w, (part f.type xs f.offset).run P w = .ok u w) (hy : ∀ w, (part f.type ys f.offset).run P w = .ok v w)
    (he : (Op.equalIn d f.type u v).run P w = .ok b w) (hr : (Op.eqFields d xs ys fs).run P w = .ok B w) : (Op.eqFields d xs ys (f :: fs)).run P w = .ok (b && B) w := by
  have hn' : f.name ≠ "_" := by simpa using hn
  unfold Op.eqFields
  rw [if_pos hn']
  simp only [Sem.run_bind, hx, hy, he, Result.andThen_ok, Sem.run_ite]
  cases b with
  | true => simp [hr]
  | false => simp [Sem.run_pure]
theorem eqF_nilF {P : Program} {d : Nat} {w : World} {xs ys : Array Value} : (Op.eqFields d xs ys []).run P w = .ok true w := by simp [Op.eqFields]

theorem eqf_any (a b : Eff) (w : World) : (binOp .eql 162 (flatV a) (flatV b)).run Tryz.prog w = .ok (.bool (flatB a b)) w := by
  have hu : Tryz.prog.underlying 162 = some (.struct (Tryz.prog.fieldsOf 162)) := by kernel_rfl
  obtain ⟨f0, f1, f2, f3, f4, f5, f6, f7, hf, n0, n1, n2, n3, n4, n5, n6, n7, p0, p1, p2, p3, p4, p5, p6, p7⟩ : ∃ f0 f1 f2 f3 f4 f5 f6 f7 : Field, (Tryz.prog.fieldsOf 162).toList = [f0, f1, f2, f3, f4, f5, f6, f7] ∧ (f0.name != "_") = true ∧ (f1.name != "_") = true ∧ (f2.name != "_") = true ∧ (f3.name != "_") = true ∧ (f4.name != "_") = true ∧ (f5.name != "_") = true ∧ (f6.name != "_") = true ∧ (f7.name != "_") = true ∧
      (f0.type, f0.offset) = (3, 0) ∧ (f1.type, f1.offset) = (3, 1) ∧ (f2.type, f2.offset) = (3, 2) ∧ (f3.type, f3.offset) = (3, 3) ∧ (f4.type, f4.offset) = (3, 4) ∧ (f5.type, f5.offset) = (3, 5) ∧ (f6.type, f6.offset) = (9, 6) ∧ (f7.type, f7.offset) = (9, 7) :=
    ⟨_, _, _, _, _, _, _, _, rfl, by kernel_rfl, by kernel_rfl, by kernel_rfl, by kernel_rfl, by kernel_rfl, by kernel_rfl, by kernel_rfl, by kernel_rfl, by kernel_rfl, by kernel_rfl, by kernel_rfl, by kernel_rfl, by kernel_rfl, by kernel_rfl, by kernel_rfl, by kernel_rfl⟩
  simp only [Prod.mk.injEq] at p0 p1 p2 p3 p4 p5 p6 p7
  have hI : ∀ x y w, (Op.equalIn 9999 3 (.int .i64 x) (.int .i64 y)).run Tryz.prog w = .ok (decide (x = y)) w := fun x y w => run_equalIn_int w 9998 3 .i64 .i64 x y Tryz.underlying3
  have hS : ∀ x y w, (Op.equalIn 9999 9 (.string x) (.string y)).run Tryz.prog w = .ok (x.toList == y.toList) w := fun x y w => run_equalIn_string w 9998 9 x y Tryz.underlying9
  unfold flatV
  rw [run_eql_struct, run_equalIn_struct _ 9999 _ _ _ hu (by kernel_rfl), hf]
  rw [eqF_consF (u := .int .i64 a.kind) (v := .int .i64 b.kind) n0 (fun w => by rw [p0.1, p0.2]; simp [go_sem]) (fun w => by rw [p0.1, p0.2]; simp [go_sem]) (by rw [p0.1]; exact hI _ _ _)
    (eqF_consF (u := .int .i64 a.ino) (v := .int .i64 b.ino) n1 (fun w => by rw [p1.1, p1.2]; simp [go_sem]) (fun w => by rw [p1.1, p1.2]; simp [go_sem]) (by rw [p1.1]; exact hI _ _ _)
    (eqF_consF (u := .int .i64 a.dir) (v := .int .i64 b.dir) n2 (fun w => by rw [p2.1, p2.2]; simp [go_sem]) (fun w => by rw [p2.1, p2.2]; simp [go_sem]) (by rw [p2.1]; exact hI _ _ _)
    (eqF_consF (u := .int .i64 a.dst) (v := .int .i64 b.dst) n3 (fun w => by rw [p3.1, p3.2]; simp [go_sem]) (fun w => by rw [p3.1, p3.2]; simp [go_sem]) (by rw [p3.1]; exact hI _ _ _)
    (eqF_consF (u := .int .i64 a.page) (v := .int .i64 b.page) n4 (fun w => by rw [p4.1, p4.2]; simp [go_sem]) (fun w => by rw [p4.1, p4.2]; simp [go_sem]) (by rw [p4.1]; exact hI _ _ _)
    (eqF_consF (u := .int .i64 a.size) (v := .int .i64 b.size) n5 (fun w => by rw [p5.1, p5.2]; simp [go_sem]) (fun w => by rw [p5.1, p5.2]; simp [go_sem]) (by rw [p5.1]; exact hI _ _ _)
    (eqF_consF (u := .string a.name) (v := .string b.name) n6 (fun w => by rw [p6.1, p6.2]; simp [go_sem]) (fun w => by rw [p6.1, p6.2]; simp [go_sem]) (by rw [p6.1]; exact hS _ _ _)
    (eqF_consF (u := .string a.other) (v := .string b.other) n7 (fun w => by rw [p7.1, p7.2]; simp [go_sem]) (fun w => by rw [p7.1, p7.2]; simp [go_sem]) (by rw [p7.1]; exact hS _ _ _) eqF_nilF)))))))]
  simp only [Result.andThen_ok, Bool.and_true, flatB, Bool.and_assoc]
end Go.Proofs.YtbejbiogabpmfaaGreat

/-
  The project's Same: two effects are alike where all but their bytes is, and their bytes are.
-/
namespace Go.Proofs.YtbejbiogabpmfaaGreat
open Wd U Go.RowKit Go.ChangeShapes Go.WideShapes Go.Sort
set_option linter.unusedVariables false
set_option maxRecDepth 100000

/-- an effect's nine cells, in every world that has grown of w -/
def EffAt (w : World) (g : Nat) (e : Eff) : Prop := ∀ n os,
    (grow (w.drewN n) os).cell? ⟨g, 0, none⟩ = some (.int .i64 e.kind) ∧ (grow (w.drewN n) os).cell? ⟨g, 1, none⟩ = some (.int .i64 e.ino) ∧ (grow (w.drewN n) os).cell? ⟨g, 2, none⟩ = some (.int .i64 e.dir) ∧ (grow (w.drewN n) os).cell? ⟨g, 3, none⟩ = some (.int .i64 e.dst) ∧ (grow (w.drewN n) os).cell? ⟨g, 4, none⟩ = some (.int .i64 e.page) ∧
      (grow (w.drewN n) os).cell? ⟨g, 5, none⟩ = some (.int .i64 e.size) ∧ (grow (w.drewN n) os).cell? ⟨g, 6, none⟩ = some (.string e.name) ∧ (grow (w.drewN n) os).cell? ⟨g, 7, none⟩ = some (.string e.other) ∧ (grow (w.drewN n) os).cell? ⟨g, 8, none⟩ = some (.slice e.A e.data.length e.cp)
theorem effAt {w : World} {g : Nat} {e : Eff} (h : Cells w g 64 (effCells e)) : EffAt w g e := fun n os => by
  exact ⟨cell_grown (a := ⟨g, 0, none⟩) h.lt (h.cell 0) n os, cell_grown (a := ⟨g, 1, none⟩) h.lt (h.cell 1) n os, cell_grown (a := ⟨g, 2, none⟩) h.lt (h.cell 2) n os, cell_grown (a := ⟨g, 3, none⟩) h.lt (h.cell 3) n os, cell_grown (a := ⟨g, 4, none⟩) h.lt (h.cell 4) n os, cell_grown (a := ⟨g, 5, none⟩) h.lt (h.cell 5) n os, cell_grown (a := ⟨g, 6, none⟩) h.lt (h.cell 6) n os, cell_grown (a := ⟨g, 7, none⟩) h.lt (h.cell 7) n os, cell_grown (a := ⟨g, 8, none⟩) h.lt (h.cell 8) n os⟩

def datB (a b : Eff) : Bool := (strOf a.data).toList == (strOf b.data).toList
theorem same_is (a b : Eff) : sameB a b = (flatB a b && datB a b) := rfl

set_option maxRecDepth 100000 in
set_option maxHeartbeats 4000000 in
theorem eSame (a b : Eff) (w : World) (oa : a.Ok w w.heap.size) (ob : b.Ok w w.heap.size) : Calls Tryz.prog 88 #[a.val, b.val] w (Grows (.bool (sameB a b)) w) := by
  have hfol : Tryz.prog.follows Departure.mixedOrders = true := by kernel_rfl
  rw [same_is]
  have k1 : Below w.heap.size w (w.alloc (.cells (effCells a) 64)) := (Below.refl _ _).alloc (Nat.le_refl _) _
  have k2 : Below (w.alloc (.cells (effCells a) 64)).heap.size (w.alloc (.cells (effCells a) 64)) ((w.alloc (.cells (effCells a) 64)).alloc (.cells (effCells b) 64)) := (Below.refl _ _).alloc (Nat.le_refl _) _
  have hca := (Cells.new w 64 (effCells a)).below' k2
  have hcb := Cells.new (w.alloc (.cells (effCells a) 64)) 64 (effCells b)
  have hsz : (w.alloc (.cells (effCells a) 64)).heap.size = w.heap.size + 1 := by simp
  rw [hsz] at hcb
  have kb := k1.trans (k2.mono k1.size)
  have HC0 := Lib.hid hca; have HC1 := Lib.hid hcb
  have HB0 := Lib.hid kb
  have HG := Lib.hid (grow_alloc (grow_one w (.cells (effCells a) 64)) (.cells (effCells b) 64))
  have OA := Lib.hid oa; have OB := Lib.hid ob
  clear k1 k2 hca hcb hsz kb oa ob
  unfold Eff.val
  go_enter Tryz.func88, Tryz.ntmps88
  go_upto_region 1 with fail
  obtain ⟨w2, hw2⟩ : ∃ w2, (w.alloc (.cells (effCells a) 64)).alloc (.cells (effCells b) 64) = w2 := ⟨_, rfl⟩
  rw [hw2] at HC0 HC1 HB0 HG
  unfold effCells at hw2
  rw [hw2]
  clear hw2
  have xa := effAt HC0.out
  have xb := effAt HC1.out
  unfold EffAt at xa xb
  have gb := fun n os => below_grow' w2 n os
  have a0 := fun n os => (xa n os).1
  have a1 := fun n os => (xa n os).2.1
  have a2 := fun n os => (xa n os).2.2.1
  have a3 := fun n os => (xa n os).2.2.2.1
  have a4 := fun n os => (xa n os).2.2.2.2.1
  have a5 := fun n os => (xa n os).2.2.2.2.2.1
  have a6 := fun n os => (xa n os).2.2.2.2.2.2.1
  have a7 := fun n os => (xa n os).2.2.2.2.2.2.2.1
  have a8 := fun n os => (xa n os).2.2.2.2.2.2.2.2
  have b0 := fun n os => (xb n os).1
  have b1 := fun n os => (xb n os).2.1
  have b2 := fun n os => (xb n os).2.2.1
  have b3 := fun n os => (xb n os).2.2.2.1
  have b4 := fun n os => (xb n os).2.2.2.2.1
  have b5 := fun n os => (xb n os).2.2.2.2.2.1
  have b6 := fun n os => (xb n os).2.2.2.2.2.2.1
  have b7 := fun n os => (xb n os).2.2.2.2.2.2.2.1
  have b8 := fun n os => (xb n os).2.2.2.2.2.2.2.2
  clear xa xb
  have K0 := Lib.hid (fun w => eFlatOf a w)
  have K1 := Lib.hid (fun w => eFlatOf b w)
  have ra := fun n os => run_bytes_row (grow (w2.drewN n) os) a.A a.data.length a.cp _ a.data rfl ((OA.out.at_ (HB0.out.trans ((gb n os).mono HB0.out.size))).row)
  have rb := fun n os => run_bytes_row (grow (w2.drewN n) os) b.A b.data.length b.cp _ b.data rfl ((OB.out.at_ (HB0.out.trans ((gb n os).mono HB0.out.size))).row)
  have K2 := Lib.hid (fun n os => (Tryz.bytes_Equal_strs _ _ _ _ _ (ra n os) (rb n os)).mono (R' := Grows (.bool (datB a b)) (grow (w2.drewN n) os)) (by rintro e w' ⟨rfl, rfl⟩; exact ⟨rfl, grow_none _⟩))
  have hE := fun w => eqf_any a b w
  clear ra rb gb
  obtain ⟨F, hF⟩ : ∃ F, flatB a b = F := ⟨_, rfl⟩
  obtain ⟨D, hD⟩ : ∃ D, datB a b = D := ⟨_, rfl⟩
  rw [hD] at K2
  rw [hF] at hE
  unfold Eff.val at K0 K1
  unfold flatV at K0 K1 hE
  have HF := Lib.hid hF; have HD := Lib.hid hD
  clear hD hF
  cases F
  · refine wp_region_quiet_grown hfol (by kernel_rfl) ?_
    repeat (go_big_quiet_step (first
      | (go_at_call 130; (with_reducible exact Grows.in K0.out _ _ _))
      | (go_at_call 130; (with_reducible exact Grows.in K1.out _ _ _))
      | (go_at_call 131; (with_reducible exact Grows.inAt K2.out _ _))))
    refine wpQuiet_nil ?_
    intro _ hw'
    obtain ⟨⟨nr, osr⟩, hw''⟩ := hw'
    subst hw''
    go_wp2
    go_ret
    exact ⟨by rw [HF.out]; rfl, grow_trans HG.out ⟨nr, osr, rfl⟩⟩
  · refine wp_region_quiet_grown hfol (by kernel_rfl) ?_
    repeat (go_big_quiet_step (first
      | (go_at_call 130; (with_reducible exact Grows.in K0.out _ _ _))
      | (go_at_call 130; (with_reducible exact Grows.in K1.out _ _ _))
      | (go_at_call 131; (with_reducible exact Grows.inAt K2.out _ _))))
    refine wpQuiet_nil ?_
    intro _ hw'
    obtain ⟨⟨nr, osr⟩, hw''⟩ := hw'
    subst hw''
    go_wp2
    go_ret
    exact ⟨by rw [HF.out, HD.out]; rfl, grow_trans HG.out ⟨nr, osr, rfl⟩⟩
end Go.Proofs.YtbejbiogabpmfaaGreat

/-
  The project's just: what of an effect its kind has.
-/
namespace Go.Proofs.YtbejbiogabpmfaaGreat
open Wd U Go.RowKit Go.ChangeShapes Go.WideShapes Go.Sort
set_option linter.unusedVariables false
set_option maxRecDepth 100000
set_option linter.unusedSimpArgs false

def Eff.just (e : Eff) : Eff :=
  if e.kind = 1 then ⟨e.kind, e.ino, e.dir, 0, e.page, 0, e.name, ⟨#[]⟩, none, 0, []⟩
  else if e.kind = 2 ∨ e.kind = 3 ∨ e.kind = 4 then ⟨e.kind, e.ino, e.dir, 0, 0, 0, e.name, ⟨#[]⟩, none, 0, []⟩
  else if e.kind = 5 then ⟨e.kind, e.ino, e.dir, e.dst, 0, 0, e.name, e.other, none, 0, []⟩
  else if e.kind = 6 then ⟨e.kind, e.ino, 0, 0, 0, e.size, ⟨#[]⟩, ⟨#[]⟩, none, 0, []⟩
  else if e.kind = 7 then ⟨e.kind, e.ino, 0, 0, e.page, e.size, ⟨#[]⟩, ⟨#[]⟩, e.A, e.cp, e.data⟩
  else ⟨e.kind, e.ino, 0, 0, 0, 0, ⟨#[]⟩, ⟨#[]⟩, none, 0, []⟩

set_option maxRecDepth 100000 in
set_option maxHeartbeats 4000000 in
theorem eJust (e : Eff) (w : World) : Calls Tryz.prog 89 #[e.val] w (Grows e.just.val w) := by
  obtain ⟨kind, ino, dir, dst, page, size, name, other, A, cp, data⟩ := e
  by_cases h1 : kind = 1
  · have q1 : (kind == 1) = true := by simpa using h1
    have hj : (Eff.just ⟨kind, ino, dir, dst, page, size, name, other, A, cp, data⟩) = ⟨kind, ino, dir, 0, page, 0, name, ⟨#[]⟩, none, 0, []⟩ := by unfold Eff.just; simp [h1]
    rw [hj]
    clear hj h1
    unfold Eff.val
    go_enter Tryz.func89, Tryz.ntmps89
    go_wp2
    go_region
    all_goals go_wp2
    all_goals
      exact bodyPost_ret (v := .agg #[.int .i64 kind, .int .i64 ino, .int .i64 dir, .int .i64 0, .int .i64 page, .int .i64 0, .string name, .string ⟨#[]⟩, .slice none 0 0]) (by simp [results, Tryz.results89, go_sem]) rfl ⟨rfl, grow_drewN (grow_alloc (grow_alloc (grow_one _ _) _) _) 1⟩
  · have q1 : (kind == 1) = false := by simpa using h1
    by_cases h2 : kind = 2
    · have q2 : (kind == 2) = true := by simpa using h2
      have hj : (Eff.just ⟨kind, ino, dir, dst, page, size, name, other, A, cp, data⟩) = ⟨kind, ino, dir, 0, 0, 0, name, ⟨#[]⟩, none, 0, []⟩ := by unfold Eff.just; simp [h1, h2]
      rw [hj]
      clear hj h1 h2
      unfold Eff.val
      go_enter Tryz.func89, Tryz.ntmps89
      go_wp2
      go_region
      all_goals go_wp2
      all_goals
        exact bodyPost_ret (v := .agg #[.int .i64 kind, .int .i64 ino, .int .i64 dir, .int .i64 0, .int .i64 0, .int .i64 0, .string name, .string ⟨#[]⟩, .slice none 0 0]) (by simp [results, Tryz.results89, go_sem]) rfl ⟨rfl, grow_drewN (grow_alloc (grow_alloc (grow_one _ _) _) _) 1⟩
    · have q2 : (kind == 2) = false := by simpa using h2
      by_cases h3 : kind = 3
      · have q3 : (kind == 3) = true := by simpa using h3
        have hj : (Eff.just ⟨kind, ino, dir, dst, page, size, name, other, A, cp, data⟩) = ⟨kind, ino, dir, 0, 0, 0, name, ⟨#[]⟩, none, 0, []⟩ := by unfold Eff.just; simp [h1, h2, h3]
        rw [hj]
        clear hj h1 h2 h3
        unfold Eff.val
        go_enter Tryz.func89, Tryz.ntmps89
        go_wp2
        go_region
        all_goals go_wp2
        all_goals
          exact bodyPost_ret (v := .agg #[.int .i64 kind, .int .i64 ino, .int .i64 dir, .int .i64 0, .int .i64 0, .int .i64 0, .string name, .string ⟨#[]⟩, .slice none 0 0]) (by simp [results, Tryz.results89, go_sem]) rfl ⟨rfl, grow_drewN (grow_alloc (grow_alloc (grow_one _ _) _) _) 1⟩
      · have q3 : (kind == 3) = false := by simpa using h3
        by_cases h4 : kind = 4
        · have q4 : (kind == 4) = true := by simpa using h4
          have hj : (Eff.just ⟨kind, ino, dir, dst, page, size, name, other, A, cp, data⟩) = ⟨kind, ino, dir, 0, 0, 0, name, ⟨#[]⟩, none, 0, []⟩ := by unfold Eff.just; simp [h1, h2, h3, h4]
          rw [hj]
          clear hj h1 h2 h3 h4
          unfold Eff.val
          go_enter Tryz.func89, Tryz.ntmps89
          go_wp2
          go_region
          all_goals go_wp2
          all_goals
            exact bodyPost_ret (v := .agg #[.int .i64 kind, .int .i64 ino, .int .i64 dir, .int .i64 0, .int .i64 0, .int .i64 0, .string name, .string ⟨#[]⟩, .slice none 0 0]) (by simp [results, Tryz.results89, go_sem]) rfl ⟨rfl, grow_drewN (grow_alloc (grow_alloc (grow_one _ _) _) _) 1⟩
        · have q4 : (kind == 4) = false := by simpa using h4
          by_cases h5 : kind = 5
          · have q5 : (kind == 5) = true := by simpa using h5
            have hj : (Eff.just ⟨kind, ino, dir, dst, page, size, name, other, A, cp, data⟩) = ⟨kind, ino, dir, dst, 0, 0, name, other, none, 0, []⟩ := by unfold Eff.just; simp [h1, h2, h3, h4, h5]
            rw [hj]
            clear hj h1 h2 h3 h4 h5
            unfold Eff.val
            go_enter Tryz.func89, Tryz.ntmps89
            go_wp2
            go_region
            all_goals go_wp2
            all_goals
              exact bodyPost_ret (v := .agg #[.int .i64 kind, .int .i64 ino, .int .i64 dir, .int .i64 dst, .int .i64 0, .int .i64 0, .string name, .string other, .slice none 0 0]) (by simp [results, Tryz.results89, go_sem]) rfl ⟨rfl, grow_drewN (grow_alloc (grow_alloc (grow_one _ _) _) _) 1⟩
          · have q5 : (kind == 5) = false := by simpa using h5
            by_cases h6 : kind = 6
            · have q6 : (kind == 6) = true := by simpa using h6
              have hj : (Eff.just ⟨kind, ino, dir, dst, page, size, name, other, A, cp, data⟩) = ⟨kind, ino, 0, 0, 0, size, ⟨#[]⟩, ⟨#[]⟩, none, 0, []⟩ := by unfold Eff.just; simp [h1, h2, h3, h4, h5, h6]
              rw [hj]
              clear hj h1 h2 h3 h4 h5 h6
              unfold Eff.val
              go_enter Tryz.func89, Tryz.ntmps89
              go_wp2
              exact bodyPost_ret (v := .agg #[.int .i64 kind, .int .i64 ino, .int .i64 0, .int .i64 0, .int .i64 0, .int .i64 size, .string ⟨#[]⟩, .string ⟨#[]⟩, .slice none 0 0]) (by simp [results, Tryz.results89, go_sem]) rfl ⟨rfl, grow_alloc (grow_alloc (grow_one _ _) _) _⟩
            · have q6 : (kind == 6) = false := by simpa using h6
              by_cases h7 : kind = 7
              · have q7 : (kind == 7) = true := by simpa using h7
                have hj : (Eff.just ⟨kind, ino, dir, dst, page, size, name, other, A, cp, data⟩) = ⟨kind, ino, 0, 0, page, size, ⟨#[]⟩, ⟨#[]⟩, A, cp, data⟩ := by unfold Eff.just; simp [h1, h2, h3, h4, h5, h6, h7]
                rw [hj]
                clear hj h1 h2 h3 h4 h5 h6 h7
                unfold Eff.val
                go_enter Tryz.func89, Tryz.ntmps89
                go_wp2
                go_region
                all_goals go_wp2
                all_goals
                  exact bodyPost_ret (v := .agg #[.int .i64 kind, .int .i64 ino, .int .i64 0, .int .i64 0, .int .i64 page, .int .i64 size, .string ⟨#[]⟩, .string ⟨#[]⟩, .slice A data.length cp]) (by simp [results, Tryz.results89, go_sem]) rfl ⟨rfl, grow_drewN (grow_alloc (grow_alloc (grow_one _ _) _) _) 1⟩
              · have q7 : (kind == 7) = false := by simpa using h7
                have hj : (Eff.just ⟨kind, ino, dir, dst, page, size, name, other, A, cp, data⟩) = ⟨kind, ino, 0, 0, 0, 0, ⟨#[]⟩, ⟨#[]⟩, none, 0, []⟩ := by unfold Eff.just; simp [h1, h2, h3, h4, h5, h6, h7]
                rw [hj]
                clear hj h1 h2 h3 h4 h5 h6 h7
                unfold Eff.val
                go_enter Tryz.func89, Tryz.ntmps89
                go_wp2
                exact bodyPost_ret (v := .agg #[.int .i64 kind, .int .i64 ino, .int .i64 0, .int .i64 0, .int .i64 0, .int .i64 0, .string ⟨#[]⟩, .string ⟨#[]⟩, .slice none 0 0]) (by simp [results, Tryz.results89, go_sem]) rfl ⟨rfl, grow_alloc (grow_alloc (grow_one _ _) _) _⟩
end Go.Proofs.YtbejbiogabpmfaaGreat
