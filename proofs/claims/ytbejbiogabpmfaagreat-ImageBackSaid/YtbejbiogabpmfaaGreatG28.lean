import Derived.Test.YtbejbiogabpmfaaGreatG18
import Derived.Test.YtbejbiogabpmfaaGreatG26
import Derived.Test.YtbejbiogabpmfaaGreatG22
import Derived.Test.YtbejbiogabpmfaaGreatG07

/-! The document's State: an effect of kind 3 is done. -/
namespace Go.Proofs.YtbejbiogabpmfaaGreat
open Wd Ino Sm Go.RowKit Go.ChangeShapes Go.WideShapes Go.Sort
set_option linter.unusedVariables false
set_option maxRecDepth 100000
theorem remove_off {S : Stt} (iv : Inv S) (e : Eff) {k : Int} (hk : k = 1 ∨ k = 2) : (bareS (removeS S e k)).isSome = offB S.l e.dir e.name e.ino k ∧ ((bareS (removeS S e k)).map Prod.fst).getD S = if offB S.l e.dir e.name e.ino k = true then ⟨offS S.l e.dir e.name e.ino k, S.last⟩ else S := by
  have h1 := iv.off_eq e.dir e.ino e.name hk
  unfold removeS bareS
  cases hB : offB S.l e.dir e.name e.ino k with
  | false => rw [hB] at h1; rw [← h1]; exact ⟨rfl, rfl⟩
  | true =>
    rw [hB] at h1
    have hki : kindS S.l e.ino = k := by
      unfold offB at hB
      simp only [Bool.and_eq_true, decide_eq_true_eq] at hB
      exact hB.2.1
    rw [← h1, off_forget hki]
    exact ⟨rfl, rfl⟩
section
variable {w w' : World} {base g : Nat} {Ls : List Nd} {v : Value} {S : Stt}
set_option maxHeartbeats 8000000 in
theorem rDo3 (h : DSx w base g Ls v S) (hown : OwnNs w base v Ls) (iv : Inv S) {k0 : Nat} (nm : Num k0 S) (hk0 : k0 ≤ 900) (e : Eff) (ec : EfC e) (ref : Int) (hrf : i64R ref) (hK : e.kind = 3) :
    Calls Tryz.prog 63 #[SPtr g, e.val, .int .i64 ref] w (DX (stepS S e ref) S base g Ls w) := by
  have hfol : Tryz.prog.follows .mixedOrders = true := by kernel_rfl
  obtain ⟨w1, hw1⟩ : ∃ w1, w.alloc (.cells (effCells e) 64) = w1 := ⟨_, rfl⟩
  have hg1 : Below w.heap.size w w1 := by rw [← hw1]; exact below_of_grown (World.grownBy_alloc w (.cells (effCells e) 64) none)
  have hc1 : Cells w1 w.heap.size 64 (effCells e) := by rw [← hw1]; exact Cells.new w 64 (effCells e)
  have h1 := h.below hg1
  have hlen : Ls.length ≤ 901 := by rw [← h.len]; have := nm.len; omega
  have hle : Ls.length ≤ 1000 := by omega
  obtain ⟨x0, x1, x2, x3, x4, x5, x6, x7, x8⟩ := cells9 hc1
  have ka := rAt h1 hle e.ino
  obtain ⟨I, hI⟩ : ∃ I, atI S.l e.ino = I := ⟨_, rfl⟩
  rw [hI] at ka
  have KA := Lib.hid ka; have HI := Lib.hid hI
  clear ka hI
  have SM := Lib.hid (iv.smN nm hk0); have BD := Lib.hid (iv.bad nm hk0); have IV := Lib.hid iv; have EC := Lib.hid ec; have H1 := Lib.hid h1; have OW1 := Lib.hid (hown.below hg1); have HC1 := Lib.hid hc1; have HG1 := Lib.hid hg1; have HLE := Lib.hid hle; have HLN := Lib.hid hlen
  have HBASE := Lib.hid (show base ≤ w.heap.size by have := h.lo; have := h.cells.lt; omega)
  have HRF := Lib.hid hrf
  have HS := Lib.hid (show stepS S e ref = bareS (removeS S e 1) by unfold stepS; rw [hK]; simp)
  have HBW := Lib.hid (fun wx (hb : ∃ q os, wx = grow (w1.drewN q) os) => show Below base w wx from (HG1.out.trans ((grown_b hb).mono HG1.out.size)).mono HBASE.out)
  have HNO := Lib.hid (show bareS (removeS S e 1) = none → ∀ wx, (∃ q os, wx = grow (w1.drewN q) os) → DX (stepS S e ref) S base g Ls w (.returned (.tuple #[.slice none 0 0, .bool false])) wx from fun hn wx hg => by
    rw [HS.out, hn]
    exact ⟨none, 0, 0, Ls, v, rfl, H1.out.below (grown_b hg), Nat.le_succ _, HBW.out wx hg⟩)

  obtain ⟨kind, ino, dir, dst, page, size, name, other, A, cp, data⟩ := e
  dsimp only at hK
  subst hK
  unfold Eff.val
  unfold effCells at hw1
  dsimp only at *
  unfold SPtr at *
  clear h h1 hown iv nm ec hc1 hg1 hle hlen hrf
  go_enter Tryz.func63, Tryz.ntmps63
  go_wp2_with fail
  clear hw1
  refine (KA.out).mono ?_
  rintro e' w2 ⟨rfl, hw2⟩
  have HG2 := Lib.hid hw2
  have HC2 := Lib.hid (HC1.out.below' (grown_b hw2)); have H2 := Lib.hid (H1.out.below (grown_b hw2)); have OW2 := Lib.hid (OW1.out.below (grown_b hw2))
  clear hw2 x0 x1 x2 x3 x4 x5 x6 x7 x8 KA
  obtain ⟨e0, e1, e2, e3, e4, e5, e6, e7, e8⟩ := cells9 (e := ⟨3, ino, dir, dst, page, size, name, other, A, cp, data⟩) HC2.out
  have KO := Lib.hid (rOff H2.out HLE.out SM.out BD.out.asc BD.out.lk dir name ino 1 (by decide))
  unfold SPtr at KO
  go_wp2_with fail
  refine (KO.out).mono ?_
  rintro e' w3 ⟨rfl, L3, v3, D3, hl3, hb3, hk3⟩
  have HD3 := Lib.hid D3; have HL3 := Lib.hid hl3; have HB3 := Lib.hid ((HBW.out _ HG2.out).trans hb3)
  have hro := remove_off (S := S) IV.out ⟨3, ino, dir, dst, page, size, name, other, A, cp, data⟩ (k := 1) (by decide)
  dsimp only at hro
  have HRO := Lib.hid hro
  clear hro D3 hl3 hb3 hk3 KO e0 e1 e2 e3 e4 e5 e6 e7 e8
  go_wp2
  go_ret2
  rw [HS.out]
  exact ⟨none, 0, 0, L3, v3, by rw [HRO.out.1]; rfl, by rw [HRO.out.2]; exact HD3.out, Nat.le_succ_of_le HL3.out, HB3.out⟩
end
end Go.Proofs.YtbejbiogabpmfaaGreat

/-! The document's State: an effect of kind 4 is done. -/
namespace Go.Proofs.YtbejbiogabpmfaaGreat
open Wd Ino Sm Go.RowKit Go.ChangeShapes Go.WideShapes Go.Sort
set_option linter.unusedVariables false
set_option maxRecDepth 100000

section
variable {w w' : World} {base g : Nat} {Ls : List Nd} {v : Value} {S : Stt}
set_option maxHeartbeats 8000000 in
theorem rDo4 (h : DSx w base g Ls v S) (hown : OwnNs w base v Ls) (iv : Inv S) {k0 : Nat} (nm : Num k0 S) (hk0 : k0 ≤ 900) (e : Eff) (ec : EfC e) (ref : Int) (hrf : i64R ref) (hK : e.kind = 4) :
    Calls Tryz.prog 63 #[SPtr g, e.val, .int .i64 ref] w (DX (stepS S e ref) S base g Ls w) := by
  have hfol : Tryz.prog.follows .mixedOrders = true := by kernel_rfl
  obtain ⟨w1, hw1⟩ : ∃ w1, w.alloc (.cells (effCells e) 64) = w1 := ⟨_, rfl⟩
  have hg1 : Below w.heap.size w w1 := by rw [← hw1]; exact below_of_grown (World.grownBy_alloc w (.cells (effCells e) 64) none)
  have hc1 : Cells w1 w.heap.size 64 (effCells e) := by rw [← hw1]; exact Cells.new w 64 (effCells e)
  have h1 := h.below hg1
  have hlen : Ls.length ≤ 901 := by rw [← h.len]; have := nm.len; omega
  have hle : Ls.length ≤ 1000 := by omega
  obtain ⟨x0, x1, x2, x3, x4, x5, x6, x7, x8⟩ := cells9 hc1
  have ka := rAt h1 hle e.ino
  obtain ⟨I, hI⟩ : ∃ I, atI S.l e.ino = I := ⟨_, rfl⟩
  rw [hI] at ka
  have KA := Lib.hid ka; have HI := Lib.hid hI
  clear ka hI
  have SM := Lib.hid (iv.smN nm hk0); have BD := Lib.hid (iv.bad nm hk0); have IV := Lib.hid iv; have EC := Lib.hid ec; have H1 := Lib.hid h1; have OW1 := Lib.hid (hown.below hg1); have HC1 := Lib.hid hc1; have HG1 := Lib.hid hg1; have HLE := Lib.hid hle; have HLN := Lib.hid hlen
  have HBASE := Lib.hid (show base ≤ w.heap.size by have := h.lo; have := h.cells.lt; omega)
  have HRF := Lib.hid hrf
  have HS := Lib.hid (show stepS S e ref = bareS (removeS S e 2) by unfold stepS; rw [hK]; simp)
  have HBW := Lib.hid (fun wx (hb : ∃ q os, wx = grow (w1.drewN q) os) => show Below base w wx from (HG1.out.trans ((grown_b hb).mono HG1.out.size)).mono HBASE.out)
  have HNO := Lib.hid (show bareS (removeS S e 2) = none → ∀ wx, (∃ q os, wx = grow (w1.drewN q) os) → DX (stepS S e ref) S base g Ls w (.returned (.tuple #[.slice none 0 0, .bool false])) wx from fun hn wx hg => by
    rw [HS.out, hn]
    exact ⟨none, 0, 0, Ls, v, rfl, H1.out.below (grown_b hg), Nat.le_succ _, HBW.out wx hg⟩)

  obtain ⟨kind, ino, dir, dst, page, size, name, other, A, cp, data⟩ := e
  dsimp only at hK
  subst hK
  unfold Eff.val
  unfold effCells at hw1
  dsimp only at *
  unfold SPtr at *
  clear h h1 hown iv nm ec hc1 hg1 hle hlen hrf
  go_enter Tryz.func63, Tryz.ntmps63
  go_wp2_with fail
  clear hw1
  refine (KA.out).mono ?_
  rintro e' w2 ⟨rfl, hw2⟩
  have HG2 := Lib.hid hw2
  have HC2 := Lib.hid (HC1.out.below' (grown_b hw2)); have H2 := Lib.hid (H1.out.below (grown_b hw2)); have OW2 := Lib.hid (OW1.out.below (grown_b hw2))
  clear hw2 x0 x1 x2 x3 x4 x5 x6 x7 x8 KA
  obtain ⟨e0, e1, e2, e3, e4, e5, e6, e7, e8⟩ := cells9 (e := ⟨4, ino, dir, dst, page, size, name, other, A, cp, data⟩) HC2.out
  have KO := Lib.hid (rOff H2.out HLE.out SM.out BD.out.asc BD.out.lk dir name ino 2 (by decide))
  unfold SPtr at KO
  go_wp2_with fail
  refine (KO.out).mono ?_
  rintro e' w3 ⟨rfl, L3, v3, D3, hl3, hb3, hk3⟩
  have HD3 := Lib.hid D3; have HL3 := Lib.hid hl3; have HB3 := Lib.hid ((HBW.out _ HG2.out).trans hb3)
  have hro := remove_off (S := S) IV.out ⟨4, ino, dir, dst, page, size, name, other, A, cp, data⟩ (k := 2) (by decide)
  dsimp only at hro
  have HRO := Lib.hid hro
  clear hro D3 hl3 hb3 hk3 KO e0 e1 e2 e3 e4 e5 e6 e7 e8
  go_wp2
  go_ret2
  rw [HS.out]
  exact ⟨none, 0, 0, L3, v3, by rw [HRO.out.1]; rfl, by rw [HRO.out.2]; exact HD3.out, Nat.le_succ_of_le HL3.out, HB3.out⟩
end
end Go.Proofs.YtbejbiogabpmfaaGreat

/-! The document's State: an effect of kind 5 is done. -/
namespace Go.Proofs.YtbejbiogabpmfaaGreat
open Wd Ino Sm Go.RowKit Go.ChangeShapes Go.WideShapes Go.Sort
set_option linter.unusedVariables false
set_option maxRecDepth 100000

section
variable {w w' : World} {base g : Nat} {Ls : List Nd} {v : Value} {S : Stt}
set_option maxHeartbeats 8000000 in
theorem rDo5 (h : DSx w base g Ls v S) (hown : OwnNs w base v Ls) (iv : Inv S) {k0 : Nat} (nm : Num k0 S) (hk0 : k0 ≤ 900) (e : Eff) (ec : EfC e) (ref : Int) (hrf : i64R ref) (hK : e.kind = 5) :
    Calls Tryz.prog 63 #[SPtr g, e.val, .int .i64 ref] w (DX (stepS S e ref) S base g Ls w) := by
  have hfol : Tryz.prog.follows .mixedOrders = true := by kernel_rfl
  obtain ⟨w1, hw1⟩ : ∃ w1, w.alloc (.cells (effCells e) 64) = w1 := ⟨_, rfl⟩
  have hg1 : Below w.heap.size w w1 := by rw [← hw1]; exact below_of_grown (World.grownBy_alloc w (.cells (effCells e) 64) none)
  have hc1 : Cells w1 w.heap.size 64 (effCells e) := by rw [← hw1]; exact Cells.new w 64 (effCells e)
  have h1 := h.below hg1
  have hlen : Ls.length ≤ 901 := by rw [← h.len]; have := nm.len; omega
  have hle : Ls.length ≤ 1000 := by omega
  obtain ⟨x0, x1, x2, x3, x4, x5, x6, x7, x8⟩ := cells9 hc1
  have ka := rAt h1 hle e.ino
  obtain ⟨I, hI⟩ : ∃ I, atI S.l e.ino = I := ⟨_, rfl⟩
  rw [hI] at ka
  have KA := Lib.hid ka; have HI := Lib.hid hI
  clear ka hI
  have SM := Lib.hid (iv.smN nm hk0); have BD := Lib.hid (iv.bad nm hk0); have IV := Lib.hid iv; have EC := Lib.hid ec; have H1 := Lib.hid h1; have OW1 := Lib.hid (hown.below hg1); have HC1 := Lib.hid hc1; have HG1 := Lib.hid hg1; have HLE := Lib.hid hle; have HLN := Lib.hid hlen
  have HBASE := Lib.hid (show base ≤ w.heap.size by have := h.lo; have := h.cells.lt; omega)
  have HRF := Lib.hid hrf
  have HS := Lib.hid (show stepS S e ref = bareS (renameS S e) by unfold stepS; rw [hK]; simp)
  have HBW := Lib.hid (fun wx (hb : ∃ q os, wx = grow (w1.drewN q) os) => show Below base w wx from (HG1.out.trans ((grown_b hb).mono HG1.out.size)).mono HBASE.out)
  have HNO := Lib.hid (show bareS (renameS S e) = none → ∀ wx, (∃ q os, wx = grow (w1.drewN q) os) → DX (stepS S e ref) S base g Ls w (.returned (.tuple #[.slice none 0 0, .bool false])) wx from fun hn wx hg => by
    rw [HS.out, hn]
    exact ⟨none, 0, 0, Ls, v, rfl, H1.out.below (grown_b hg), Nat.le_succ _, HBW.out wx hg⟩)

  obtain ⟨kind, ino, dir, dst, page, size, name, other, A, cp, data⟩ := e
  dsimp only at hK
  subst hK
  unfold Eff.val
  unfold effCells at hw1
  dsimp only at *
  unfold SPtr at *
  clear h h1 hown iv nm ec hc1 hg1 hle hlen hrf
  go_enter Tryz.func63, Tryz.ntmps63
  go_wp2_with fail
  clear hw1
  refine (KA.out).mono ?_
  rintro e' w2 ⟨rfl, hw2⟩
  have HG2 := Lib.hid hw2
  have HC2 := Lib.hid (HC1.out.below' (grown_b hw2)); have H2 := Lib.hid (H1.out.below (grown_b hw2)); have OW2 := Lib.hid (OW1.out.below (grown_b hw2))
  clear hw2 x0 x1 x2 x3 x4 x5 x6 x7 x8 KA
  obtain ⟨e0, e1, e2, e3, e4, e5, e6, e7, e8⟩ := cells9 (e := ⟨5, ino, dir, dst, page, size, name, other, A, cp, data⟩) HC2.out
  have KO := Lib.hid (rRename H2.out HLE.out BD.out ⟨5, ino, dir, dst, page, size, name, other, A, cp, data⟩ EC.out.toEfB)
  unfold SPtr Eff.val at KO
  dsimp only at KO
  go_wp2_with fail
  refine (KO.out).mono ?_
  rintro e' w3 ⟨rfl, L3, v3, D3, hl3, hb3, hk3⟩
  have HD3 := Lib.hid D3; have HL3 := Lib.hid hl3; have HB3 := Lib.hid ((HBW.out _ HG2.out).trans hb3)
  have HRO := Lib.hid (IV.out.ren_eq ⟨5, ino, dir, dst, page, size, name, other, A, cp, data⟩)
  clear D3 hl3 hb3 hk3 KO e0 e1 e2 e3 e4 e5 e6 e7 e8
  go_wp2
  go_ret2
  rw [HS.out, ← HRO.out]
  have h9 := HD3.out
  cases hren : renD S ⟨5, ino, dir, dst, page, size, name, other, A, cp, data⟩ with
  | none =>
    rw [hren] at h9
    exact ⟨none, 0, 0, L3, v3, rfl, h9, Nat.le_succ_of_le HL3.out, HB3.out⟩
  | some s =>
    rw [hren] at h9
    exact ⟨none, 0, 0, L3, v3, rfl, h9, Nat.le_succ_of_le HL3.out, HB3.out⟩
end
end Go.Proofs.YtbejbiogabpmfaaGreat

/-! The document's State: an effect of kind 6 is done. -/
namespace Go.Proofs.YtbejbiogabpmfaaGreat
open Wd Ino Sm Go.RowKit Go.ChangeShapes Go.WideShapes Go.Sort
set_option linter.unusedVariables false
set_option maxRecDepth 100000

section
variable {w w' : World} {base g : Nat} {Ls : List Nd} {v : Value} {S : Stt}
set_option maxHeartbeats 8000000 in
theorem rDo6 (h : DSx w base g Ls v S) (hown : OwnNs w base v Ls) (iv : Inv S) {k0 : Nat} (nm : Num k0 S) (hk0 : k0 ≤ 900) (e : Eff) (ec : EfC e) (ref : Int) (hrf : i64R ref) (hK : e.kind = 6) :
    Calls Tryz.prog 63 #[SPtr g, e.val, .int .i64 ref] w (DX (stepS S e ref) S base g Ls w) := by
  have hfol : Tryz.prog.follows .mixedOrders = true := by kernel_rfl
  obtain ⟨w1, hw1⟩ : ∃ w1, w.alloc (.cells (effCells e) 64) = w1 := ⟨_, rfl⟩
  have hg1 : Below w.heap.size w w1 := by rw [← hw1]; exact below_of_grown (World.grownBy_alloc w (.cells (effCells e) 64) none)
  have hc1 : Cells w1 w.heap.size 64 (effCells e) := by rw [← hw1]; exact Cells.new w 64 (effCells e)
  have h1 := h.below hg1
  have hlen : Ls.length ≤ 901 := by rw [← h.len]; have := nm.len; omega
  have hle : Ls.length ≤ 1000 := by omega
  obtain ⟨x0, x1, x2, x3, x4, x5, x6, x7, x8⟩ := cells9 hc1
  have ka := rAt h1 hle e.ino
  obtain ⟨I, hI⟩ : ∃ I, atI S.l e.ino = I := ⟨_, rfl⟩
  rw [hI] at ka
  have KA := Lib.hid ka; have HI := Lib.hid hI
  clear ka hI
  have SM := Lib.hid (iv.smN nm hk0); have BD := Lib.hid (iv.bad nm hk0); have IV := Lib.hid iv; have EC := Lib.hid ec; have H1 := Lib.hid h1; have OW1 := Lib.hid (hown.below hg1); have HC1 := Lib.hid hc1; have HG1 := Lib.hid hg1; have HLE := Lib.hid hle; have HLN := Lib.hid hlen
  have HBASE := Lib.hid (show base ≤ w.heap.size by have := h.lo; have := h.cells.lt; omega)
  have HRF := Lib.hid hrf
  have HS := Lib.hid (show stepS S e ref = truncS S e by unfold stepS; rw [hK]; simp)
  have HBW := Lib.hid (fun wx (hb : ∃ q os, wx = grow (w1.drewN q) os) => show Below base w wx from (HG1.out.trans ((grown_b hb).mono HG1.out.size)).mono HBASE.out)
  have HNO := Lib.hid (show truncS S e = none → ∀ wx, (∃ q os, wx = grow (w1.drewN q) os) → DX (stepS S e ref) S base g Ls w (.returned (.tuple #[.slice none 0 0, .bool false])) wx from fun hn wx hg => by
    rw [HS.out, hn]
    exact ⟨none, 0, 0, Ls, v, rfl, H1.out.below (grown_b hg), Nat.le_succ _, HBW.out wx hg⟩)
  obtain ⟨K0, hK0⟩ : ∃ K, kindS S.l e.ino = K := ⟨_, rfl⟩
  have KI0 := Lib.hid (fun wx (hb : ∃ q os, wx = grow (w1.drewN q) os) => rKind (h1.below (grown_b hb)) hle e.ino)
  have HK0 := Lib.hid hK0
  rw [hK0] at KI0
  clear hK0
  obtain ⟨kind, ino, dir, dst, page, size, name, other, A, cp, data⟩ := e
  dsimp only at hK
  subst hK
  unfold Eff.val
  unfold effCells at hw1
  dsimp only at *
  unfold SPtr at *
  clear h h1 hown iv nm ec hc1 hg1 hle hlen hrf
  go_enter Tryz.func63, Tryz.ntmps63
  go_wp2_with fail
  clear hw1
  refine (KA.out).mono ?_
  rintro e' w2 ⟨rfl, hw2⟩
  have HG2 := Lib.hid hw2
  have HC2 := Lib.hid (HC1.out.below' (grown_b hw2)); have H2 := Lib.hid (H1.out.below (grown_b hw2)); have OW2 := Lib.hid (OW1.out.below (grown_b hw2))
  clear hw2 x0 x1 x2 x3 x4 x5 x6 x7 x8 KA
  obtain ⟨e0, e1, e2, e3, e4, e5, e6, e7, e8⟩ := cells9 (e := ⟨6, ino, dir, dst, page, size, name, other, A, cp, data⟩) HC2.out
  go_wp2_with fail
  refine (KI0.out w2 HG2.out).mono ?_
  rintro e' w3 ⟨rfl, hwn⟩
  have HG3 := Lib.hid (grow_trans HG2.out hwn)
  have C3 := Lib.hid (HC1.out.below' (grown_b HG3.out))
  clear hwn e0 e1 e2 e3 e4 e5 e6 e7 e8
  obtain ⟨e0, e1, e2, e3, e4, e5, e6, e7, e8⟩ := cells9 (e := ⟨6, ino, dir, dst, page, size, name, other, A, cp, data⟩) C3.out
  by_cases p1 : K0 = 1
  · have q1 : (K0 != 1) = false := by simpa using p1
    obtain ⟨n0, a0, a1⟩ := at_of_kind (l := S.l) (i := ino) (by rw [HK0.out, p1]; decide)
    have hkk : kindS S.l ino = 1 := HK0.out.trans p1
    have hns := SM.out n0 (atS_mem a0)
    have D3 := H1.out.below (grown_b HG3.out)
    have OW3 := OW1.out.below (grown_b HG3.out)
    obtain ⟨n, kx, gL, cL, p4, p5, p6, hv, hcl, hbb, hkx, ho, hx⟩ := D3.at_ a0
    have hI2 : I = (kx : Int) := HI.out.symm.trans p6
    subst hv hI2
    have hlt2 : (kx : Int) < (Ls.length : Int) := Int.ofNat_lt.2 hkx
    obtain ⟨cur, hcu, hbu⟩ := D3.blk hkx
    have hJ : n.ino = ino := by
      have h6 := atS_ino a0
      rw [← p5] at h6
      exact h6
    have hgn : getS S.l ino = n.plain := by rw [a1, ← p5]
    rw [← p5] at hns
    have HP4 := Lib.hid p4; have HJ := Lib.hid hJ; have HGN := Lib.hid hgn; have HNS := Lib.hid hns; have HO3 := Lib.hid ho; have HCU := Lib.hid hcu; have HBU := Lib.hid hbu; have D3H := Lib.hid D3; have OW3H := Lib.hid OW3; have HKK := Lib.hid hkk; have HA0 := Lib.hid a0; have HKX := Lib.hid hkx
    obtain ⟨J, ki, l, t, u, A0, ac, P, B, bc, N⟩ := n
    have x0 := (hx 0 _ rfl).1; have x1 := (hx 1 _ rfl).1; have x2 := (hx 2 _ rfl).1; have x3 := (hx 3 _ rfl).1; have x4 := (hx 4 _ rfl).1; have x5 := (hx 5 _ rfl).1; have x6 := (hx 6 _ rfl).1
    rw [Nat.add_zero] at x0
    dsimp only at x0 x1 x2 x3 x4 x5 x6 HJ HNS HGN
    have c0 := D3.c0
    have g4 : Below w3.heap.size w3 (w3.alloc (.cells #[.int .i64 J, .int .i64 ki, .int .i64 l, .int .i64 t, .int .i64 u, .slice A0 P.length ac, .slice B N.length bc] 51)) := below_of_grown (World.grownBy_alloc w3 _ none)
    obtain ⟨W4, hW4⟩ : ∃ W, W = w3.alloc (.cells #[.int .i64 J, .int .i64 ki, .int .i64 l, .int .i64 t, .int .i64 u, .slice A0 P.length ac, .slice B N.length bc] 51) := ⟨_, rfl⟩
    have cb : Cells W4 w3.heap.size 51 (ncells J ki l t u (.slice A0 P.length ac) (.slice B N.length bc)) := by rw [hW4]; exact Cells.new _ _ _
    rw [← hW4] at g4
    have HG4 := Lib.hid g4; have CB := Lib.hid cb; have C4 := Lib.hid (C3.out.below' g4); have D4 := Lib.hid (D3.below g4); have OW4 := Lib.hid (OW3.below g4)
    have HB4 := Lib.hid ((HBW.out _ HG3.out).trans (g4.mono (by have := (HBW.out _ HG3.out).size; have := HBASE.out; omega)))
    have HS4 := Lib.hid (show base ≤ w3.heap.size by have := (HBW.out _ HG3.out).size; have := HBASE.out; omega)
    clear p1 a0 a1 hkk hns p4 p5 p6 hcl hbb hkx ho hx hcu hbu hJ hgn D3 OW3 g4 cb
    go_upto_region 28 with fail
    rw [← hW4]
    obtain ⟨f0, f1, f2, f3, f4, f5, f6, f7, f8⟩ := cells9 (e := ⟨6, ino, dir, dst, page, size, name, other, A, cp, data⟩) C4.out
    obtain ⟨y0, y1, y2, y3, y4, y5, y6⟩ := cells7 CB.out
    have d0 := D4.out.c0
    clear hW4 x0 x1 x2 x3 x4 x5 x6 c0 e0 e1 e2 e3 e4 e5 e6 e7 e8
    have HIN := Lib.hid (EC.out.cut rfl)
    have KR := Lib.hid (rResize ⟨J, ki, l, t, u, A0, ac, P, B, bc, N⟩ size EC.out.size W4 ((HO3.out.below HG4.out).in_) HNS.out.p (Nat.le_trans HNS.out.q (by decide)))
    unfold Nd.val at KR
    dsimp only at KR
    go_wp2_with fail
    refine (KR.out).mono ?_
    rintro e' w5 ⟨V, A5, ac5, B5, bc5, G, rfl, ho5, hg5, hb5⟩
    obtain ⟨rfl, ow5⟩ := ho5.nd
    dsimp only at ow5 hg5
    rw [HIN.out, if_pos rfl] at ow5 hg5
    rw [HIN.out]
    simp only [if_true]
    obtain ⟨A6, c6, rfl, _⟩ := hg5.row
    obtain ⟨P5, hP5⟩ : ∃ L, L = fitP P (needP size).toNat := ⟨_, rfl⟩
    rw [← hP5] at ow5 ⊢
    have HP5 := Lib.hid hP5
    have b5 : Below W4.heap.size W4 w5 := hb5
    unfold Nd.val
    dsimp only
    obtain ⟨W6, hW6⟩ : ∃ W, W = w5.alloc (.cells #[.int .i64 J, .int .i64 ki, .int .i64 l, .int .i64 size, .int .i64 u, .slice A5 P5.length ac5, .slice B5 N.length bc5] 51) := ⟨_, rfl⟩
    have g6 : Below w5.heap.size w5 W6 := by rw [hW6]; exact below_of_grown (World.grownBy_alloc w5 _ none)
    have cb6 : Cells W6 w5.heap.size 51 (ncells J ki l size u (.slice A5 P5.length ac5) (.slice B5 N.length bc5)) := by rw [hW6]; exact Cells.new _ _ _
    have b6 : Below W4.heap.size W4 W6 := b5.trans (g6.mono b5.size)
    have CB6 := Lib.hid cb6; have HB6 := Lib.hid b6; have D6 := Lib.hid (D4.out.below b6); have C6 := Lib.hid (C4.out.below' b6); have OW6 := Lib.hid (ow5.below g6); have HCU6 := Lib.hid ((HCU.out.below' HG4.out).below' b6)
    clear hP5 ow5 hg5 ho5 hb5 g6 cb6 b6 b5 d0 f0 f1 f2 f3 f4 f5 f6 f7 f8 y0 y1 y2 y3 y4 y5 y6 KR
    go_upto_region 31 with fail
    rw [← hW6]
    clear hW6
    have D7 := D6; have CB7 := CB6
    have r0 := D7.out.row_cells HP4.out 0 _ rfl; have r1 := D7.out.row_cells HP4.out 1 _ rfl; have r2 := D7.out.row_cells HP4.out 2 _ rfl; have r3 := D7.out.row_cells HP4.out 3 _ rfl; have r4 := D7.out.row_cells HP4.out 4 _ rfl; have r5 := D7.out.row_cells HP4.out 5 _ rfl; have r6 := D7.out.row_cells HP4.out 6 _ rfl
    obtain ⟨r0, s0⟩ := r0; obtain ⟨r1, s1⟩ := r1; obtain ⟨r2, s2⟩ := r2; obtain ⟨r3, s3⟩ := r3; obtain ⟨r4, s4⟩ := r4; obtain ⟨r5, s5⟩ := r5; obtain ⟨r6, s6⟩ := r6
    rw [Nat.add_zero] at r0 s0
    dsimp only at r0 r1 r2 r3 r4 r5 r6
    obtain ⟨y0, y1, y2, y3, y4, y5, y6⟩ := cells7 CB7.out
    have d0 := D7.out.c0
    refine wp_region_still_tail 7 (by kernel_rfl) (by kernel_rfl) ?_
    simp only [List.take_succ_cons, List.take_zero, List.drop_succ_cons, List.drop_zero]
    repeat still_step
    try refine wpStill_nil ?_
    have HF := Lib.hid (D6.out.set7 HP4.out BD.out.asc (n' := ⟨J, ki, l, size, u, A5, ac5, P5, B5, bc5, N⟩) (f := resNod size) (by rw [HP5.out]; rfl) (OW6.out.mono (Nat.le_trans HS4.out HG4.out.size)))
    have hst : truncS S ⟨6, ino, dir, dst, page, size, name, other, A, cp, data⟩ = some (⟨modS S.l ino (resNod size), S.last⟩, refsP ((getS S.l ino).pages.drop (needP size).toNat)) := by unfold truncS; rw [if_pos HKK.out]
    have HST := Lib.hid hst
    have HJM := Lib.hid (show modS S.l J (resNod size) = modS S.l ino (resNod size) by rw [show J = ino from HJ.out])
    clear hst
    have HF2 := Lib.hid (HF.out.below (below_drewN (Below.refl _ _) 1 : Below _ _ (World.drew _)))
    have HB9 := Lib.hid (show Below base w (World.drew (set7o W6 gL (kx * 7) ⟨J, ki, l, size, u, A5, ac5, P5, B5, bc5, N⟩)) from (below_drewN (set7o_below (HB4.out.trans (HB6.out.mono (by have := HB4.out.size; have := HBASE.out; omega))) HBU.out) 1))
    have HLL := Lib.hid (show (Ls.set kx ⟨J, ki, l, size, u, A5, ac5, P5, B5, bc5, N⟩).length ≤ Ls.length + 1 by rw [List.length_set]; exact Nat.le_succ _)

    change wpList _ _ _ _ _ W6.drew
    go_wp2
    go_ret2
    rw [HS.out, HST.out]
    have h9 : DSx _ _ _ _ _ ⟨modS S.l J (resNod size), S.last⟩ := HF2.out
    rw [HJM.out] at h9
    exact ⟨A6, c6, _, _, _, rfl, h9, HLL.out, HB9.out⟩
  · have q1 : (K0 != 1) = true := by simpa using p1
    have HP1 := Lib.hid p1
    clear p1
    go_wp2
    go_ret2
    exact HNO.out (by unfold truncS; rw [if_neg (by rw [HK0.out]; first | exact HP1.out | exact fun h => HP1.out h.1)]) _ HG3.out
end
end Go.Proofs.YtbejbiogabpmfaaGreat

/-! The document's State: an effect of kind 7 is done. -/
namespace Go.Proofs.YtbejbiogabpmfaaGreat
open Wd Ino Sm Go.RowKit Go.ChangeShapes Go.WideShapes Go.Sort
set_option linter.unusedVariables false
set_option maxRecDepth 100000

section
variable {w w' : World} {base g : Nat} {Ls : List Nd} {v : Value} {S : Stt}
set_option maxHeartbeats 8000000 in
theorem rDo7 (h : DSx w base g Ls v S) (hown : OwnNs w base v Ls) (iv : Inv S) {k0 : Nat} (nm : Num k0 S) (hk0 : k0 ≤ 900) (e : Eff) (ec : EfC e) (ref : Int) (hrf : i64R ref) (hK : e.kind = 7) :
    Calls Tryz.prog 63 #[SPtr g, e.val, .int .i64 ref] w (DX (stepS S e ref) S base g Ls w) := by
  have hfol : Tryz.prog.follows .mixedOrders = true := by kernel_rfl
  obtain ⟨w1, hw1⟩ : ∃ w1, w.alloc (.cells (effCells e) 64) = w1 := ⟨_, rfl⟩
  have hg1 : Below w.heap.size w w1 := by rw [← hw1]; exact below_of_grown (World.grownBy_alloc w (.cells (effCells e) 64) none)
  have hc1 : Cells w1 w.heap.size 64 (effCells e) := by rw [← hw1]; exact Cells.new w 64 (effCells e)
  have h1 := h.below hg1
  have hlen : Ls.length ≤ 901 := by rw [← h.len]; have := nm.len; omega
  have hle : Ls.length ≤ 1000 := by omega
  obtain ⟨x0, x1, x2, x3, x4, x5, x6, x7, x8⟩ := cells9 hc1
  have ka := rAt h1 hle e.ino
  obtain ⟨I, hI⟩ : ∃ I, atI S.l e.ino = I := ⟨_, rfl⟩
  rw [hI] at ka
  have KA := Lib.hid ka; have HI := Lib.hid hI
  clear ka hI
  have SM := Lib.hid (iv.smN nm hk0); have BD := Lib.hid (iv.bad nm hk0); have IV := Lib.hid iv; have EC := Lib.hid ec; have H1 := Lib.hid h1; have OW1 := Lib.hid (hown.below hg1); have HC1 := Lib.hid hc1; have HG1 := Lib.hid hg1; have HLE := Lib.hid hle; have HLN := Lib.hid hlen
  have HBASE := Lib.hid (show base ≤ w.heap.size by have := h.lo; have := h.cells.lt; omega)
  have HRF := Lib.hid hrf
  have HS := Lib.hid (show stepS S e ref = writeS S e ref by unfold stepS; rw [hK]; simp)
  have HBW := Lib.hid (fun wx (hb : ∃ q os, wx = grow (w1.drewN q) os) => show Below base w wx from (HG1.out.trans ((grown_b hb).mono HG1.out.size)).mono HBASE.out)
  have HNO := Lib.hid (show writeS S e ref = none → ∀ wx, (∃ q os, wx = grow (w1.drewN q) os) → DX (stepS S e ref) S base g Ls w (.returned (.tuple #[.slice none 0 0, .bool false])) wx from fun hn wx hg => by
    rw [HS.out, hn]
    exact ⟨none, 0, 0, Ls, v, rfl, H1.out.below (grown_b hg), Nat.le_succ _, HBW.out wx hg⟩)
  obtain ⟨K0, hK0⟩ : ∃ K, kindS S.l e.ino = K := ⟨_, rfl⟩
  have KI0 := Lib.hid (fun wx (hb : ∃ q os, wx = grow (w1.drewN q) os) => rKind (h1.below (grown_b hb)) hle e.ino)
  have HK0 := Lib.hid hK0
  rw [hK0] at KI0
  clear hK0
  obtain ⟨kind, ino, dir, dst, page, size, name, other, A, cp, data⟩ := e
  dsimp only at hK
  subst hK
  unfold Eff.val
  unfold effCells at hw1
  dsimp only at *
  unfold SPtr at *
  clear h h1 hown iv nm ec hc1 hg1 hle hlen hrf
  go_enter Tryz.func63, Tryz.ntmps63
  go_wp2_with fail
  clear hw1
  refine (KA.out).mono ?_
  rintro e' w2 ⟨rfl, hw2⟩
  have HG2 := Lib.hid hw2
  have HC2 := Lib.hid (HC1.out.below' (grown_b hw2)); have H2 := Lib.hid (H1.out.below (grown_b hw2)); have OW2 := Lib.hid (OW1.out.below (grown_b hw2))
  clear hw2 x0 x1 x2 x3 x4 x5 x6 x7 x8 KA
  obtain ⟨e0, e1, e2, e3, e4, e5, e6, e7, e8⟩ := cells9 (e := ⟨7, ino, dir, dst, page, size, name, other, A, cp, data⟩) HC2.out
  go_wp2_with fail
  refine (KI0.out w2 HG2.out).mono ?_
  rintro e' w3 ⟨rfl, hwn⟩
  have HG3 := Lib.hid (grow_trans HG2.out hwn)
  have C3 := Lib.hid (HC1.out.below' (grown_b HG3.out))
  clear hwn e0 e1 e2 e3 e4 e5 e6 e7 e8
  obtain ⟨e0, e1, e2, e3, e4, e5, e6, e7, e8⟩ := cells9 (e := ⟨7, ino, dir, dst, page, size, name, other, A, cp, data⟩) C3.out
  by_cases p1 : K0 = 1
  · have q1 : (K0 != 1) = false := by simpa using p1
    obtain ⟨n0, a0, a1⟩ := at_of_kind (l := S.l) (i := ino) (by rw [HK0.out, p1]; decide)
    have hkk : kindS S.l ino = 1 := HK0.out.trans p1
    have hns := SM.out n0 (atS_mem a0)
    have D3 := H1.out.below (grown_b HG3.out)
    have OW3 := OW1.out.below (grown_b HG3.out)
    obtain ⟨n, kx, gL, cL, p4, p5, p6, hv, hcl, hbb, hkx, ho, hx⟩ := D3.at_ a0
    have hI2 : I = (kx : Int) := HI.out.symm.trans p6
    subst hv hI2
    have hlt2 : (kx : Int) < (Ls.length : Int) := Int.ofNat_lt.2 hkx
    obtain ⟨cur, hcu, hbu⟩ := D3.blk hkx
    have hJ : n.ino = ino := by
      have h6 := atS_ino a0
      rw [← p5] at h6
      exact h6
    have hgn : getS S.l ino = n.plain := by rw [a1, ← p5]
    rw [← p5] at hns
    have HP4 := Lib.hid p4; have HJ := Lib.hid hJ; have HGN := Lib.hid hgn; have HNS := Lib.hid hns; have HO3 := Lib.hid ho; have HCU := Lib.hid hcu; have HBU := Lib.hid hbu; have D3H := Lib.hid D3; have OW3H := Lib.hid OW3; have HKK := Lib.hid hkk; have HA0 := Lib.hid a0; have HKX := Lib.hid hkx
    obtain ⟨J, ki, l, t, u, A0, ac, P, B, bc, N⟩ := n
    have x0 := (hx 0 _ rfl).1; have x1 := (hx 1 _ rfl).1; have x2 := (hx 2 _ rfl).1; have x3 := (hx 3 _ rfl).1; have x4 := (hx 4 _ rfl).1; have x5 := (hx 5 _ rfl).1; have x6 := (hx 6 _ rfl).1
    rw [Nat.add_zero] at x0
    dsimp only at x0 x1 x2 x3 x4 x5 x6 HJ HNS HGN
    have c0 := D3.c0
    have g4 : Below w3.heap.size w3 (w3.alloc (.cells #[.int .i64 J, .int .i64 ki, .int .i64 l, .int .i64 t, .int .i64 u, .slice A0 P.length ac, .slice B N.length bc] 51)) := below_of_grown (World.grownBy_alloc w3 _ none)
    obtain ⟨W4, hW4⟩ : ∃ W, W = w3.alloc (.cells #[.int .i64 J, .int .i64 ki, .int .i64 l, .int .i64 t, .int .i64 u, .slice A0 P.length ac, .slice B N.length bc] 51) := ⟨_, rfl⟩
    have cb : Cells W4 w3.heap.size 51 (ncells J ki l t u (.slice A0 P.length ac) (.slice B N.length bc)) := by rw [hW4]; exact Cells.new _ _ _
    rw [← hW4] at g4
    have HG4 := Lib.hid g4; have CB := Lib.hid cb; have C4 := Lib.hid (C3.out.below' g4); have D4 := Lib.hid (D3.below g4); have OW4 := Lib.hid (OW3.below g4)
    have HB4 := Lib.hid ((HBW.out _ HG3.out).trans (g4.mono (by have := (HBW.out _ HG3.out).size; have := HBASE.out; omega)))
    have HS4 := Lib.hid (show base ≤ w3.heap.size by have := (HBW.out _ HG3.out).size; have := HBASE.out; omega)
    clear p1 a0 a1 hkk hns p4 p5 p6 hcl hbb hkx ho hx hcu hbu hJ hgn D3 OW3 g4 cb
    go_upto_region 28 with fail
    rw [← hW4]
    obtain ⟨f0, f1, f2, f3, f4, f5, f6, f7, f8⟩ := cells9 (e := ⟨7, ino, dir, dst, page, size, name, other, A, cp, data⟩) C4.out
    obtain ⟨y0, y1, y2, y3, y4, y5, y6⟩ := cells7 CB.out
    have d0 := D4.out.c0
    clear hW4 x0 x1 x2 x3 x4 x5 x6 c0 e0 e1 e2 e3 e4 e5 e6 e7 e8
    have HPO := Lib.hid (EC.out.put rfl)
    by_cases p2 : t ≤ size
    · have q2 : decide (size < t) = false := decide_eq_false (by omega)
      have HT2 := Lib.hid p2
      clear p2
      have hpr : 0 ≤ page ∧ page < needP size ∧ 0 ≤ size ∧ size ≤ 16384 := by
        have h := HPO.out
        unfold putOk inB at h
        simp only [Bool.and_eq_true, decide_eq_true_eq] at h
        refine ⟨h.2.1, by omega, ?_, h.1⟩
        have h3 : 1 ≤ needP size := by omega
        unfold needP at h3
        split at h3 <;> omega
      have HIN := Lib.hid (show inB size 0 16384 = true by unfold inB; rw [decide_eq_true hpr.2.2.1, decide_eq_true hpr.2.2.2]; rfl)
      obtain ⟨K, hK, hKl⟩ : ∃ K : Nat, page = (K : Int) ∧ K < (needP size).toNat := ⟨page.toNat, by omega, by omega⟩
      subst hK
      have HKL := Lib.hid hKl
      clear hpr hKl
      have KR := Lib.hid (rResize ⟨J, ki, l, t, u, A0, ac, P, B, bc, N⟩ size EC.out.size W4 ((HO3.out.below HG4.out).in_) HNS.out.p (Nat.le_trans HNS.out.q (by decide)))
      unfold Nd.val at KR
      dsimp only at KR
      go_wp2_with fail
      refine (KR.out).mono ?_
      rintro e' w5 ⟨V, A5, ac5, B5, bc5, G, rfl, ho5, hg5, hb5⟩
      obtain ⟨rfl, ow5⟩ := ho5.nd
      dsimp only at ow5 hg5
      simp only [HIN.out, ↓reduceIte] at ow5 hg5
      rw [HIN.out]
      simp only [if_true]
      obtain ⟨A6, c6, rfl, _⟩ := hg5.row
      obtain ⟨P5, hP5⟩ : ∃ L, L = fitP P (needP size).toNat := ⟨_, rfl⟩
      rw [← hP5] at ow5 ⊢
      have HP5 := Lib.hid hP5
      have b5 : Below W4.heap.size W4 w5 := hb5
      unfold Nd.val
      dsimp only
      obtain ⟨W6, hW6⟩ : ∃ W, W = w5.alloc (.cells #[.int .i64 J, .int .i64 ki, .int .i64 l, .int .i64 size, .int .i64 u, .slice A5 P5.length ac5, .slice B5 N.length bc5] 51) := ⟨_, rfl⟩
      have g6 : Below w5.heap.size w5 W6 := by rw [hW6]; exact below_of_grown (World.grownBy_alloc w5 _ none)
      have cb6 : Cells W6 w5.heap.size 51 (ncells J ki l size u (.slice A5 P5.length ac5) (.slice B5 N.length bc5)) := by rw [hW6]; exact Cells.new _ _ _
      have b6 : Below W4.heap.size W4 W6 := b5.trans (g6.mono b5.size)
      have CB6 := Lib.hid cb6; have HB6 := Lib.hid b6; have D6 := Lib.hid (D4.out.below b6); have C6 := Lib.hid (C4.out.below' b6); have OW6 := Lib.hid (ow5.below g6); have HCU6 := Lib.hid ((HCU.out.below' HG4.out).below' b6)
      clear hP5 ow5 hg5 ho5 hb5 g6 cb6 b6 b5 d0 f0 f1 f2 f3 f4 f5 f6 f7 f8 y0 y1 y2 y3 y4 y5 y6 KR
      go_upto_region 37 with fail
      rw [← hW6]
      clear hW6
      have hlen5 : P5.length = (needP size).toNat := by rw [HP5.out]; exact fit_len _ _
      obtain ⟨x, hx⟩ : ∃ x, P5[K]? = some x := ⟨_, List.getElem?_eq_getElem (by rw [hlen5]; exact HKL.out)⟩
      have ow1 := OW6.out.1
      obtain ⟨gp, hA5, hgp, curp, hcp, hcx, hfx⟩ : ∃ gp, A5 = some ⟨gp, 0, none⟩ ∧ W4.heap.size ≤ gp ∧ ∃ cur, Cells W6 gp 3 cur ∧ W6.cell? ⟨gp, K, none⟩ = some (.int .i64 x) ∧ W6.frozen? ⟨gp, K, none⟩ = false := by
        have hk1 := (List.getElem?_eq_some_iff.1 hx).1
        have hxv : (P5.map iv)[K]? = some (.int .i64 x) := by rw [List.getElem?_map, hx]; rfl
        rcases ow1.2 with ⟨h0, h00⟩ | ⟨gp, cap, cur, hv, hb, hh, h1, h2, hs, ht⟩
        · dsimp only at h00; omega
        · injection hv with hv _ hc
          refine ⟨gp, hv, hb, cur, hh, ?_, (show Cells W6 gp _ cur from hh).free K⟩
          rw [(show Cells W6 gp 3 cur from hh).cell K, ← Array.getElem?_toList, ← hxv, ← ht]
          rw [List.getElem?_take_of_lt (by dsimp only; omega)]
      subst hA5
      have hlK : (K : Int) < (P5.length : Int) := by have := (List.getElem?_eq_some_iff.1 hx).1; omega
      obtain ⟨Q, hQ⟩ : ∃ Q, Q = P5.set K ref := ⟨_, rfl⟩
      have hQl : P5.length = Q.length := by rw [hQ, List.length_set]
      have hks := KeepC.set hcp K (.int .i64 ref)
      obtain ⟨W7, hW7⟩ : ∃ W, W = W6.setCell ⟨gp, K, none⟩ (.int .i64 ref) := ⟨_, rfl⟩
      rw [← hW7] at hks
      have b7 : Below W4.heap.size W4 W7 := by rw [hW7]; exact HB6.out.setCell (p := ⟨gp, K, none⟩) hgp _
      have cb7 := hks _ _ _ (by decide) CB6.out
      have ow7 : OwnNd W7 W4.heap.size ⟨J, ki, l, size, u, some ⟨gp, 0, none⟩, ac5, Q, B5, bc5, N⟩ := ⟨by
        show World.ownsRow _ _ _ _ (.slice _ Q.length _) Q.length (Q.map iv)
        rw [hQ, List.length_set, List.map_set]
        rw [hW7]
        exact own_set ow1 K (.int .i64 ref), hks.own (by decide) OW6.out.2⟩
      rw [hQl] at cb7
      have CB7 := Lib.hid cb7; have D7 := Lib.hid (D4.out.below b7); have HB7 := Lib.hid b7; have OW7 := Lib.hid ow7; have HQ := Lib.hid hQ; have HX := Lib.hid hx
      obtain ⟨y0, y1, y2, y3, y4, y5, y6⟩ := cells7 CB6.out
      obtain ⟨f0, f1, f2, f3, f4, f5, f6, f7, f8⟩ := cells9 (e := ⟨7, ino, dir, dst, (K : Int), size, name, other, A, cp, data⟩) C6.out
      clear cb7 b7 ow7 ow1 hks hcp hgp hlen5 hQ hx hQl
      go_upto_region 39 with fail
      rw [← hW7]
      clear hW7
      clear y0 y1 y2 y3 y4 y5 y6 f0 f1 f2 f3 f4 f5 f6 f7 f8
      have r0 := D7.out.row_cells HP4.out 0 _ rfl; have r1 := D7.out.row_cells HP4.out 1 _ rfl; have r2 := D7.out.row_cells HP4.out 2 _ rfl; have r3 := D7.out.row_cells HP4.out 3 _ rfl; have r4 := D7.out.row_cells HP4.out 4 _ rfl; have r5 := D7.out.row_cells HP4.out 5 _ rfl; have r6 := D7.out.row_cells HP4.out 6 _ rfl
      obtain ⟨r0, s0⟩ := r0; obtain ⟨r1, s1⟩ := r1; obtain ⟨r2, s2⟩ := r2; obtain ⟨r3, s3⟩ := r3; obtain ⟨r4, s4⟩ := r4; obtain ⟨r5, s5⟩ := r5; obtain ⟨r6, s6⟩ := r6
      rw [Nat.add_zero] at r0 s0
      dsimp only at r0 r1 r2 r3 r4 r5 r6
      obtain ⟨y0, y1, y2, y3, y4, y5, y6⟩ := cells7 CB7.out
      have d0 := D7.out.c0
      refine wp_region_still_tail 7 (by kernel_rfl) (by kernel_rfl) ?_
      simp only [List.take_succ_cons, List.take_zero, List.drop_succ_cons, List.drop_zero]
      repeat still_step
      try refine wpStill_nil ?_
      have HF := Lib.hid (D7.out.set7 HP4.out BD.out.asc (n' := ⟨J, ki, l, size, u, some ⟨gp, 0, none⟩, ac5, Q, B5, bc5, N⟩) (f := putNod K ref size) (by rw [HQ.out, HP5.out]; rfl) (OW7.out.mono (Nat.le_trans HS4.out HG4.out.size)))
      have hst : writeS S ⟨7, ino, dir, dst, (K : Int), size, name, other, A, cp, data⟩ ref = some (⟨modS S.l ino (putNod K ref size), S.last⟩, oneP (putV (getS S.l ino).pages K size)) := by
        unfold writeS
        rw [if_pos ⟨HKK.out, by rw [HGN.out]; exact HT2.out⟩]
      have HST := Lib.hid hst
      have HJM := Lib.hid (show modS S.l J (putNod K ref size) = modS S.l ino (putNod K ref size) by rw [show J = ino from HJ.out])
      clear hst
      have HF2 := Lib.hid (HF.out.below (below_drewN (Below.refl _ _) 1 : Below _ _ (World.drew _)))
      have HB9 := Lib.hid (show Below base w (World.drew (set7o W7 gL (kx * 7) ⟨J, ki, l, size, u, (some ⟨gp, 0, none⟩), ac5, Q, B5, bc5, N⟩)) from (below_drewN (set7o_below (HB4.out.trans (HB7.out.mono (by have := HB4.out.size; have := HBASE.out; omega))) HBU.out) 1))
      have HLL := Lib.hid (show (Ls.set kx ⟨J, ki, l, size, u, (some ⟨gp, 0, none⟩), ac5, Q, B5, bc5, N⟩).length ≤ Ls.length + 1 by rw [List.length_set]; exact Nat.le_succ _)
      have h9 : DSx _ _ _ _ _ ⟨modS S.l J (putNod K ref size), S.last⟩ := HF2.out
      rw [HJM.out] at h9
      have H9 := Lib.hid h9
      clear h9
      change wpList _ _ _ _ _ W7.drew
      by_cases hx0 : x = 0
      · have q4 : (x == 0) = true := by simpa using hx0
        clear hx0
        go_wp2
        go_ret2
        rw [HS.out, HST.out]
        exact ⟨none, 0, 0, _, _, rfl, H9.out, HLL.out, HB9.out⟩
      · have q4 : (x == 0) = false := by simpa using hx0
        clear hx0
        go_wp2
        go_ret2
        rw [HS.out, HST.out]
        have ga : Below _ _ _ := below_of_grown (World.grownBy_alloc (set7o W7 gL (kx * 7) ⟨J, ki, l, size, u, some ⟨gp, 0, none⟩, ac5, Q, B5, bc5, N⟩) (.cells #[.int .i64 x] 3) none)
        have gb : Below (set7o W7 gL (kx * 7) ⟨J, ki, l, size, u, some ⟨gp, 0, none⟩, ac5, Q, B5, bc5, N⟩).heap.size (set7o W7 gL (kx * 7) ⟨J, ki, l, size, u, some ⟨gp, 0, none⟩, ac5, Q, B5, bc5, N⟩) (World.drew ((set7o W7 gL (kx * 7) ⟨J, ki, l, size, u, some ⟨gp, 0, none⟩, ac5, Q, B5, bc5, N⟩).alloc (.cells #[.int .i64 x] 3))) := below_drewN ga 1
        have h8 : DSx _ _ _ _ _ ⟨modS S.l J (putNod K ref size), S.last⟩ := HF.out.below gb
        rw [HJM.out] at h8
        have hb8 : Below base w (set7o W7 gL (kx * 7) ⟨J, ki, l, size, u, some ⟨gp, 0, none⟩, ac5, Q, B5, bc5, N⟩) := set7o_below (HB4.out.trans (HB7.out.mono (by have := HB4.out.size; have := HBASE.out; omega))) HBU.out
        exact ⟨_, 1, 1, _, _, rfl, h8, HLL.out, hb8.trans (gb.mono (by have := hb8.size; have := HBASE.out; omega))⟩
    · have q2 : decide (size < t) = true := decide_eq_true (by omega)
      have HT2 := Lib.hid p2
      clear p2
      go_wp2
      go_ret2
      rw [HS.out, show writeS S ⟨7, ino, dir, dst, page, size, name, other, A, cp, data⟩ ref = none by unfold writeS; rw [if_neg (fun h => absurd h.2 (by rw [HGN.out]; have := HT2.out; show ¬ (t ≤ size); omega))]]
      exact ⟨none, 0, 0, _, _, rfl, D4.out, Nat.le_succ _, HB4.out⟩
  · have q1 : (K0 != 1) = true := by simpa using p1
    have HP1 := Lib.hid p1
    clear p1
    go_wp2
    go_ret2
    exact HNO.out (by unfold writeS; rw [if_neg (by rw [HK0.out]; first | exact HP1.out | exact fun h => HP1.out h.1)]) _ HG3.out
end
end Go.Proofs.YtbejbiogabpmfaaGreat
