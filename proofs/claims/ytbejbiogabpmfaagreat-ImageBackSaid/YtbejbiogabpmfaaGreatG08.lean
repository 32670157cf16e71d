import Derived.Test.YtbejbiogabpmfaaGreatG01
import Derived.Test.YtbejbiogabpmfaaGreatG07
import Derived.Test.YtbejbiogabpmfaaGreatG05
import Derived.Test.YtbejbiogabpmfaaGreatG03
import Derived.Test.YtbejbiogabpmfaaGreatG02
import Derived.Laws.CopyRow
import Derived.Laws.Tables

/-! The project's image: its reader's spoil and num. -/
namespace Go.Proofs.YtbejbiogabpmfaaGreat
open Wd U Go.ChangeShapes Go.WideShapes Go.RowKit Go.Sort
set_option linter.unusedVariables false
set_option maxRecDepth 100000

structure RdStI (W : World) (g : Nat) (xs : List Nat) (bad : Bool) (w : World) : Prop where
  b : Below W.heap.size W w
  hg : W.heap.size ≤ g
  len : xs.length ≤ 400000
  small : Small xs
  nb : bad = true → xs = []
  v : ∃ v, Cells w g 87 #[v, .bool bad] ∧ RdRow w W.heap.size v xs
theorem RdStI.below {W w w' : World} {g : Nat} {xs : List Nat} {bad : Bool} (h : RdStI W g xs bad w) (hb : Below w.heap.size w w') : RdStI W g xs bad w' := by
  obtain ⟨h1, h2, h3, h4, hn, v, h5, h6⟩ := h
  exact ⟨h1.trans (hb.mono h1.size), h2, h3, h4, hn, v, h5.below' hb, h6.below hb⟩
theorem rd_putI {W w : World} {g : Nat} {v v' : Value} {bad : Bool} {xs xs' : List Nat} (h : RdStI W g xs bad w) (hv : Cells w g 87 #[v, .bool bad]) (hl : xs'.length ≤ 400000) (hs : Small xs') (hn : bad = true → xs' = []) (hr : RdRow w W.heap.size v' xs') {w' : World} (hb : Below W.heap.size W w') (hw : w' = w.setCell ⟨g, 0, none⟩ v') : RdStI W g xs' bad w' := by
  subst hw
  refine ⟨hb, h.hg, hl, hs, hn, v', by simpa using hv.set 0 v', hr.keep fun q cs hc => ?_⟩
  exact Below.heap_setCell w _ _ q fun e => (hv.ne hc (by decide)) e.symm

theorem rd_dropI {w : World} {B q off c n m k : Nat} {cs : Array Value} {xs : List Nat} {v : Value} (hn : xs.length = n) (hc : n ≤ c) (hB : B ≤ q) (hh : Cells w q 59 cs) (hx : ∀ j x, xs[j]? = some x → cs[off + j]? = some (wd x)) (hk : m + k = n)
    (hv : v = .slice (some ⟨q, off + k, none⟩) m (c - k) ∨ c = k ∧ v = .slice (some ⟨q, off, none⟩) m 0) : RdRow w B v (xs.drop k) := by
  have hl : (xs.drop k).length = m := by rw [List.length_drop]; omega
  rcases hv with rfl | ⟨rfl, rfl⟩
  · refine .inr ⟨q, off + k, c - k, cs, by rw [hl], by omega, hB, hh, fun j x hj => ?_⟩
    rw [List.getElem?_drop] at hj
    have := hx _ _ hj
    rw [← this]
    congr 1
    omega
  · refine .inr ⟨q, off, 0, cs, by rw [hl], by omega, hB, hh, fun j x hj => ?_⟩
    have h1 := (List.getElem?_eq_some_iff.1 hj).1
    exact absurd h1 (by omega)
def SpoiltRI (W : World) (g : Nat) (e : Ending) (w : World) : Prop := e = .returned (.tuple #[]) ∧ RdStI W g [] true w
def topNI : Nat := 9223372036854775807
def numOkI : List Nat → Bool
  | [] => false
  | x :: _ => decide (x ≤ topNI)
def numVI (xs : List Nat) : Nat := if numOkI xs then xs.headD 0 else 0
def numXI (xs : List Nat) : List Nat := if numOkI xs then xs.tail else []
def numBI (xs : List Nat) (bad : Bool) : Bool := if numOkI xs then bad else true
def NumRI (W : World) (g : Nat) (xs : List Nat) (bad : Bool) (e : Ending) (w : World) : Prop := e = .returned (.int .i64 (numVI xs)) ∧ RdStI W g (numXI xs) (numBI xs bad) w
end Go.Proofs.YtbejbiogabpmfaaGreat

/-! The project's image: its reader's took and upTo. -/
namespace Go.Proofs.YtbejbiogabpmfaaGreat
open Wd U Go.ChangeShapes Go.WideShapes Go.RowKit Go.Sort
set_option linter.unusedVariables false
set_option maxRecDepth 100000
theorem took_i {W w : World} {g : Nat} {xs : List Nat} {bad : Bool} (h : RdStI W g xs bad w) : Calls Tryz.prog 47 #[.pointer (some ⟨g, 0, none⟩)] w fun e w' => e = .returned (.bool (!bad && decide (xs.length = 0))) ∧ w = w' := by
  obtain ⟨_, _, hl, _, _, v, hc, hrow⟩ := h
  obtain ⟨A, c, rfl, _, _⟩ := hrow.row
  obtain ⟨n, hn⟩ : ∃ n, xs.length = n := ⟨_, rfl⟩
  rw [hn] at hc hl ⊢
  have c0 : w.cell? ⟨g, 0, none⟩ = some (.slice A n c) := hc.cell 0
  have c1 : w.cell? ⟨g, 1, none⟩ = some (.bool bad) := hc.cell 1
  clear hc hrow hn
  by_cases h0 : n = 0
  · subst h0
    cases bad with
    | true =>
      go_enter Tryz.func47, Tryz.ntmps47
      go_wp2
      go_ret
      exact ⟨by simp, rfl⟩
    | false =>
      go_enter Tryz.func47, Tryz.ntmps47
      go_wp2
      go_ret
      exact ⟨by simp, rfl⟩
  · have q0 : ((n : Int) == 0) = false := by rw [beq_eq_false_iff_ne]; omega
    cases bad with
    | true =>
      go_enter Tryz.func47, Tryz.ntmps47
      go_wp2
      go_ret
      exact ⟨by simp, rfl⟩
    | false =>
      go_enter Tryz.func47, Tryz.ntmps47
      go_wp2
      go_ret
      exact ⟨by simp [h0], rfl⟩
/-- a number that is at most m -/
def upToV (m : Nat) (xs : List Nat) : Nat := if numVI xs ≤ m then numVI xs else 0
def upToX (m : Nat) (xs : List Nat) : List Nat := if numVI xs ≤ m then numXI xs else []
def upToB (m : Nat) (xs : List Nat) (bad : Bool) : Bool := if numVI xs ≤ m then numBI xs bad else true
def UpToI (W : World) (g m : Nat) (xs : List Nat) (bad : Bool) (e : Ending) (w : World) : Prop := e = .returned (.int .i64 (upToV m xs)) ∧ RdStI W g (upToX m xs) (upToB m xs bad) w
end Go.Proofs.YtbejbiogabpmfaaGreat

/-! The project's image: its reader's text, where a name's words are there. -/
namespace Go.Proofs.YtbejbiogabpmfaaGreat
open Wd Ino Sm U Go.ChangeShapes Go.WideShapes Go.RowKit Go.Sort
set_option linter.unusedVariables false
set_option maxRecDepth 100000
theorem strOf_bsI (s : ByteArray) : strOf (bsOfW s) = s := by
  unfold strOf bsOfW
  rw [List.map_map]
  have h := foldl_push_byteCells s.data.toList ByteArray.empty
  have e : (List.map ((fun x : Nat => (x : Int)) ∘ fun x : UInt8 => x.toNat) s.data.toList) = s.data.toList.map (fun b => (b.toNat : Int)) := rfl
  rw [e, h]
  have e0 : ByteArray.empty.data = #[] := rfl
  have e2 : (ByteArray.empty.data ++ s.data.toList.toArray) = s.data := by rw [e0]; simp
  rw [e2]
theorem row_storeI {w : World} {B n g i : Nat} {A : Option Addr} {xs : List Value} {u : Value} (h : Row w B A n xs) (hne : ∀ b off, A = some ⟨b, off, none⟩ → 0 < n → b ≠ g) : Row (w.setCell ⟨g, i, none⟩ u) B A n xs :=
  ⟨h.1, fun hp => by
    obtain ⟨b, off, e, hb, hc⟩ := h.2 hp
    refine ⟨b, off, e, hb, fun j hj => ?_⟩
    rw [← hc j hj]
    have := Below.heap_setCell w ⟨g, i, none⟩ u b (hne b off e hp)
    unfold World.cell?
    rw [this]⟩
theorem bytes_neI {w : World} {B n g : Nat} {A : Option Addr} {l : List Nat} {v : Value} {bad : Bool} {T : TypeId} (hc : Cells w g T #[v, .bool bad]) (hv : ∃ A c k, v = .slice A k c) (h : Row w B A n (l.map bt)) : ∀ b off, A = some ⟨b, off, none⟩ → 0 < n → b ≠ g := by
  intro b off e hp hg
  subst hg
  obtain ⟨b', off', x, e', _, _, hx⟩ := h.get (k := 0) hp
  rw [e] at e'
  injection e' with e'
  injection e' with e1 e2
  subst e1 e2
  rw [hc.cell] at hx
  obtain ⟨A', c, k, rfl⟩ := hv
  rcases hj : off + 0 with _ | _ | j
  · rw [hj] at hx; injection hx with hx; cases hx
  · rw [hj] at hx; injection hx with hx; cases hx
  · rw [hj] at hx; simp at hx
/-- what is read of a picture that is right -/
def GotT (W : World) (g : Nat) (v : Value) (rest : List Nat) (w0 : World) (e : Ending) (w : World) : Prop := e = .returned v ∧ RdStI W g rest false w ∧ Trn w0 w [g]
theorem Trn.fresh {a b c : World} {S : List Nat} (h : Trn a b S) (k : Below a.heap.size b c) : Trn a c S := ⟨k.os.trans h.os, k.tape.trans h.tape, k.output.trans h.output, Nat.le_trans h.size k.size, fun i hi hn => (k.block i hi).trans (h.block i hi hn)⟩
theorem RdStI.keepC {W w w' : World} {g : Nat} {xs : List Nat} {bad : Bool} (h : RdStI W g xs bad w) (t : Trn w w' [g]) : KeepC [87] w w' := by
  obtain ⟨v, hc, _⟩ := h.v
  intro q t' cs ht hq
  refine (t.block q hq.lt fun hm => ?_).trans hq
  have e := List.mem_singleton.1 hm
  subst e
  exact ht (by
    have : t' = 87 := Decidable.byContradiction fun hne => hq.ne hc hne rfl
    rw [this]; exact List.mem_singleton.2 rfl)
theorem ne_ownI {w : World} {g base sz n : Nat} {T e : TypeId} {cs : Array Value} {v : Value} {xs : List Value} (hc : Cells w g T cs) (ho : w.ownsRow base e sz v n xs) (hne : T ≠ e) : some g ≠ v.ownBlock := by
  rcases ho.2 with ⟨rfl, _⟩ | ⟨g', cap, cur, rfl, _, hh, _⟩
  · intro h; cases h
  · intro h
    have : g = g' := by simpa [Value.ownBlock] using h
    exact hc.ne (show Cells w g' e cur from hh) hne this
theorem KeepC.setI {w : World} {g : Nat} {T : TypeId} {cs : Array Value} (hc : Cells w g T cs) (i : Nat) (u : Value) : KeepC [T] w (w.setCell ⟨g, i, none⟩ u) := fun q t cs' ht hc' => hc'.far (fun e => ht (by
    have e' : q = g := e
    subst e'
    have : t = T := Decidable.byContradiction fun hne => hc'.ne hc hne rfl
    rw [this]; exact List.mem_singleton.2 rfl)) _
theorem KeepC.grownI {w w' : World} {base sz n : Nat} {e : TypeId} {v : Value} {xs : List Value} (ho : w.ownsRow base e sz v n xs) (hg : w.grownBy w' v.ownBlock) : KeepC [e] w w' := fun q t cs ht hc =>
  hc.grown hg (ne_ownI hc ho (fun h => ht (List.mem_singleton.2 h)))
theorem RdStI.keep {W w w' : World} {g : Nat} {xs : List Nat} {bad : Bool} {Ts : List TypeId} (h : RdStI W g xs bad w) (hb : Below W.heap.size w w') (hk : KeepC Ts w w') (i1 : 87 ∉ Ts) (i2 : 59 ∉ Ts) : RdStI W g xs bad w' := by
  obtain ⟨h1, h2, h3, h4, hn, v, h5, h6⟩ := h
  exact ⟨h1.trans hb, h2, h3, h4, hn, v, hk _ _ _ i1 h5, h6.keep fun q cs hc => (hk q _ cs i2 hc).trans hc.symm⟩
set_option maxHeartbeats 1000000 in
theorem num_t {W w : World} {g x : Nat} {t : List Nat} (h : RdStI W g (x :: t) false w) (hx1 : x ≤ 9223372036854775807) : Calls Tryz.prog 43 #[.pointer (some ⟨g, 0, none⟩)] w (GotT W g (.int .i64 (x : Int)) t w) := by
  have H := Lib.hid h
  obtain ⟨hb, hg, hl, hs, hnb, v, hc, hrow⟩ := h
  rcases hrow with ⟨_, h0⟩ | ⟨q, off, c, cs, rfl, hcap, hB, hq, hx⟩
  · cases h0
  clear hnb
  have hx0 := hs x (by simp)
  have cx : w.cell? ⟨q, off + 0, none⟩ = some (.int .u64 (x : Int)) := by rw [hq.cell]; exact hx 0 x rfl
  rw [Nat.add_zero] at cx
  have cx' : w.cell? ⟨q, off, none⟩ = some (.int .u64 (x : Int)) := cx
  obtain ⟨n, hn⟩ : ∃ n, (x :: t).length = n + 1 := ⟨t.length, rfl⟩
  rw [hn] at hcap hc
  have c0 : w.cell? ⟨g, 0, none⟩ = some (.slice (some ⟨q, off, none⟩) (n + 1) c) := hc.cell 0
  have f0 := hc.free 0
  have htl : t.length = n := by simpa using hn
  have hn2 : n + 1 ≤ 400000 := by rw [← hn]; exact hl
  have e0 : (((n : Int) + 1) == 0) = false := by rw [beq_eq_false_iff_ne]; omega
  have q1 : decide ((x : Int) > 9223372036854775807) = false := by simp; omega
  have hw : IntKind.i64.wrap (x : Int) = (x : Int) := by rw [IntKind.wrap_i64]; omega
  have HN := Lib.hid hn; have HC := Lib.hid hc; have HQ := Lib.hid hq; have HX := Lib.hid hx; have HTL := Lib.hid htl; have HS := Lib.hid hs; have HL := Lib.hid hl; have HB := Lib.hid hb; have HCAP := Lib.hid hcap
  clear hn hc hq hx htl hs hl hb
  go_enter Tryz.func43, Tryz.ntmps43
  go_wp2
  all_goals
    go_ret
    refine ⟨rfl, ?_, Trn.set w (List.mem_singleton.2 rfl) _⟩
    exact rd_putI H.out HC.out (by have := HTL.out; omega) (fun y hy => HS.out y (List.mem_cons_of_mem _ hy)) (fun e => by cases e) (rd_dropI (xs := x :: t) (k := 1) (m := n) HN.out HCAP.out hB HQ.out HX.out (by omega) (by first | exact .inl rfl | exact .inr ⟨by assumption, rfl⟩)) (HB.out.setCell (p := ⟨g, 0, none⟩) hg _) rfl
theorem upTo_t {W w : World} {g x : Nat} {t : List Nat} (h : RdStI W g (x :: t) false w) (m : Nat) (hm : m ≤ 9223372036854775807) (hx : x ≤ m) : Calls Tryz.prog 45 #[.pointer (some ⟨g, 0, none⟩), .int .i64 (m : Nat)] w (GotT W g (.int .i64 (x : Int)) t w) := by
  have KN := Lib.hid (num_t h (by omega))
  have q1 : decide ((x : Int) > (m : Int)) = false := by simp; omega
  have q2 : ¬ m < x := by omega
  have q3 : decide (m < x) = false := by simp; omega
  clear h hm hx
  go_enter Tryz.func45, Tryz.ntmps45
  go_wp2_with fail
  refine (KN.out).mono ?_
  rintro e w1 ⟨rfl, h1⟩
  have H1 := Lib.hid h1
  clear h1 KN
  go_wp2
  go_ret
  exact ⟨rfl, H1.out⟩
set_option maxHeartbeats 4000000 in
theorem text_i {W w : World} {g : Nat} {s : ByteArray} {rest : List Nat} (h : RdStI W g (s.size :: (pk (bsOfW s) ++ rest)) false w) (s1 : 1 ≤ s.size) (s2 : s.size ≤ 24) :
    Calls Tryz.prog 118 #[.pointer (some ⟨g, 0, none⟩)] w (GotT W g (.string s) rest w) := by
  have hk0 : (pk (bsOfW s)).length = need s.size := by rw [pk_len, bsOf_lenW]
  have ht : (pk (bsOfW s) ++ rest).take (need s.size) = pk (bsOfW s) := by rw [← hk0, List.take_left]
  have hd : (pk (bsOfW s) ++ rest).drop (need s.size) = rest := by rw [← hk0, List.drop_left]
  have hm : mayU (pk (bsOfW s)) (s.size : Int) = true := by rw [← bsOf_lenW s]; exact mayU_pk (bsOf_bytesW s)
  have hs : strOf (bytesOf (pk (bsOfW s)) s.size) = s := by
    have := bytes_pk (bsOf_bytesW s)
    rw [bsOf_lenW] at this
    rw [this, strOf_bsI]
  have hl0 : need s.size ≤ (pk (bsOfW s) ++ rest).length := by rw [List.length_append]; omega
  obtain ⟨x, hx⟩ : ∃ x, s.size = x := ⟨_, rfl⟩
  obtain ⟨t, htt⟩ : ∃ t, pk (bsOfW s) ++ rest = t := ⟨_, rfl⟩
  obtain ⟨p, hp⟩ : ∃ p, pk (bsOfW s) = p := ⟨_, rfl⟩
  rw [hx] at h s1 s2 hk0 ht hd hm hs hl0
  rw [htt] at h ht hd hl0
  rw [hp] at hk0 ht hm hs
  obtain ⟨k, hk⟩ : ∃ k, need x = k := ⟨_, rfl⟩
  rw [hk] at hk0 ht hd hl0
  have hk1 : 1 ≤ k := by rw [← hk]; unfold need; omega
  have hk3 : k ≤ 3 := by rw [← hk]; unfold need; omega
  have hkI : needIW (x : Int) = (k : Int) := by rw [needI_natW, hk]
  have HKI := Lib.hid hkI; have HT := Lib.hid ht; have HD := Lib.hid hd; have HM := Lib.hid hm; have HS := Lib.hid hs
  have KU := Lib.hid (upTo_t h 24 (by omega) s2)
  clear h ht hd hm hs hx htt hp hk hkI hk0
  go_enter Tryz.func118, Tryz.ntmps118
  go_wp2_with fail
  refine (KU.out).mono ?_
  rintro e w1 ⟨rfl, h1, t1⟩
  have H1 := Lib.hid h1; have T1 := Lib.hid t1
  obtain ⟨hb1, hg1, hl1, hs1, _, v1, hc1, hr1⟩ := h1
  have HS1 := Lib.hid hs1
  rcases hr1 with ⟨rfl, rfl⟩ | ⟨q, off, c, cs, rfl, hcap, hB, hh, hx⟩
  · rw [List.length_nil] at hl0; omega
  obtain ⟨n, hn⟩ : ∃ n, t.length = n := ⟨_, rfl⟩
  rw [hn] at hcap hc1 hl0 hl1
  have hrow := row_take (row_at hn hh hx) hl0
  have c0 : w1.cell? ⟨g, 0, none⟩ = some (.slice (some ⟨q, off, none⟩) n c) := hc1.cell 0
  have f0 := hc1.free 0
  have HC1 := Lib.hid hc1; have HN := Lib.hid hn; have HH := Lib.hid hh; have HX := Lib.hid hx; have HROW := Lib.hid hrow; have HCAP := Lib.hid hcap
  have hkc : k ≤ c := by omega
  have q2 : decide ((k : Int) > (n : Int)) = false := by simp; omega
  have HU := Lib.hid (show ∀ w2, Below w1.heap.size w1 w2 → Calls Tryz.prog 166 #[.slice (some ⟨q, off, none⟩) k c, .int .i64 (x : Int)] w2 (Unpacked p x true w2) from fun w2 hb => wUnpack p k (x : Int) (by omega) (by omega) (by rw [← HT.out, List.length_take, HN.out]; omega) (fun y hy => HS1.out y (List.mem_of_mem_take (by rw [HT.out]; exact hy))) (by omega) true HM.out (some ⟨q, off, none⟩) c _ (by rw [← HT.out, List.map_take]; exact (HROW.out.below hb).more hb.size))
  clear hn hh hx hrow hs1 hc1 hb1 KU t1
  go_wp2_with (go_at_call 86; refine (need_isW (x : Int) (by omega) (by omega) _).mono ?_; rintro e w' ⟨rfl, rfl⟩; rw [HKI.out])
  refine (HU.out _ (Below.refl _ _)).mono ?_
  rintro e w2 ⟨A2, c2, k2, rfl, hk2, hr2, hb2⟩
  obtain rfl : k2 = x := by simpa using hk2
  have hr2 : Row w2 w2.heap.size A2 k2 ((bytesOf p k2).map bt) := by have := hr2 rfl; rwa [Int.toNat_natCast] at this
  have hc2 := HC1.out.below' hb2
  have c02 : w2.cell? ⟨g, 0, none⟩ = some (.slice (some ⟨q, off, none⟩) n c) := hc2.cell 0
  have f02 := hc2.free 0
  have hcv : ∀ v', (convert 62 9 (.slice A2 k2 c2)).run Tryz.prog (w2.setCell ⟨g, 0, none⟩ v') = .ok (.string s) (w2.setCell ⟨g, 0, none⟩ v') := fun v' => by
    rw [← HS.out]
    exact run_bytes_row _ A2 k2 c2 w2.heap.size _ (bytesOf_len _ _) (row_storeI (w := w2) hr2 (bytes_neI (w := w2) hc2 ⟨_, _, _, rfl⟩ hr2))
  have HC2 := Lib.hid hc2; have HB2 := Lib.hid hb2; have HCV := Lib.hid hcv
  clear hk2 hr2 hc2 hb2 hcv
  have hcv := HCV.out
  go_wp2
  all_goals
    go_ret
    refine ⟨rfl, ?_, (T1.out.fresh (HB2.out.mono T1.out.size)).trans (Trn.set w2 (List.mem_singleton.2 rfl) _)⟩
    have H2 := H1.out.below HB2.out
    rw [← HD.out]
    exact rd_putI H2 HC2.out (by rw [List.length_drop]; have := HN.out; omega) (fun y hy => H2.small y (List.mem_of_mem_drop hy)) (fun e => by cases e) (rd_dropI (w := w2) (B := W.heap.size) (m := n - k) (k := k) HN.out HCAP.out hB (HH.out.below' HB2.out) HX.out (by omega) (by first | exact .inl rfl | exact .inr ⟨by assumption, rfl⟩)) (H2.b.setCell (p := ⟨g, 0, none⟩) hg1 _) rfl
end Go.Proofs.YtbejbiogabpmfaaGreat

/-! The project's image: rows that are read where they are there: ints. -/
namespace Go.Proofs.YtbejbiogabpmfaaGreat
open Wd Ino Sm U Go.RowKit Go.ChangeShapes Go.WideShapes Go.Sort
set_option linter.unusedVariables false
set_option maxRecDepth 100000
def okZ (x : Int) : Prop := 0 ≤ x ∧ x ≤ 9223372036854775807
theorem uw_z {x : Int} (h : okZ x) : ((uw x : Nat) : Int) = x := by unfold okZ at h; unfold uw; omega
theorem uw_zle {x : Int} (h : okZ x) : uw x ≤ 9223372036854775807 := by have := uw_z h; unfold okZ at h; omega
def NumF (g : Nat) : Value := .func (.func 43) #[.pointer (some ⟨g, 0, none⟩)] #[]
def RowZ (W w : World) (g : Nat) (xs : List Int) (rest : List Nat) (i v : Value) (wr : World) : Prop := ∃ k : Nat, k ≤ xs.length ∧ i = .int .i64 k ∧ OwnI wr w.heap.size v (xs.take k) ∧ RdStI W g ((xs.drop k).map uw ++ rest) false wr ∧ Trn w wr [g]
def GotRow (W : World) (g : Nat) (xs : List Int) (rest : List Nat) (w : World) (e : Ending) (w' : World) : Prop := ∃ A c, e = .returned (.slice A xs.length c) ∧ OwnI w' w.heap.size (.slice A xs.length c) xs ∧ RdStI W g rest false w' ∧ Trn w w' [g]
set_option maxHeartbeats 4000000 in
theorem rowI_t {W w : World} {g : Nat} {xs : List Int} {rest : List Nat} (h : RdStI W g (xs.map uw ++ rest) false w) (hx : ∀ x ∈ xs, okZ x) (hl : xs.length ≤ 1000) : Calls Tryz.prog 76 #[.pointer (some ⟨g, 0, none⟩), .int .i64 (xs.length : Nat), NumF g] w (GotRow W g xs rest w) := by
  have H := Lib.hid h; have HX := Lib.hid hx; have HLN := Lib.hid hl
  obtain ⟨n, hn⟩ : ∃ n, xs.length = n := ⟨_, rfl⟩
  have HN := Lib.hid hn
  unfold NumF
  rw [hn]
  clear h hx hl hn
  go_enter Tryz.func76, Tryz.ntmps76
  go_wp2
  go_loopw [7, 9] (fun v i wr => RowZ W w g xs rest i v wr) (fun v i _ => n - (intOf i).toNat)
  case atStart => exact ⟨0, Nat.zero_le _, rfl, OwnI.nil _ _, by simpa using H.out, Trn.refl _ _⟩
  case round =>
    obtain ⟨k, hk, rfl, ho, hr, ht⟩ := hrel
    rw [HN.out] at hk
    obtain ⟨v0, hc0, _⟩ := hr.v
    have c1 : wr.cell? ⟨g, 1, none⟩ = some (.bool false) := hc0.cell 1
    clear hc0
    by_cases hlt : k < n
    · have hlt2 : (k : Int) < (n : Int) := Int.ofNat_lt.2 hlt
      obtain ⟨x, hxk⟩ : ∃ x, xs[k]? = some x := ⟨_, List.getElem?_eq_getElem (by rw [HN.out]; exact hlt)⟩
      have hdr : xs.drop k = x :: xs.drop (k + 1) := by
        have := (List.getElem?_eq_some_iff.1 hxk).2
        rw [← this]; exact List.drop_eq_getElem_cons (by rw [HN.out]; exact hlt)
      have hz := HX.out x (List.mem_of_getElem? hxk)
      have hr2 := hr
      rw [hdr, List.map_cons, List.cons_append] at hr2
      have KN := num_t hr2 (uw_zle hz)
      rw [uw_z hz] at KN
      have KN' := Lib.hid KN
      have HO := Lib.hid ho; have HR := Lib.hid hr; have HT := Lib.hid ht; have HK := Lib.hid hxk; have HLT := Lib.hid hlt
      obtain ⟨A3, c3, rfl, _⟩ := ho.row
      have hkl : (xs.take k).length = k := by rw [List.length_take, HN.out]; omega
      have HKL := Lib.hid hkl
      have hn1 : n ≤ 1000 := by rw [← HN.out]; exact HLN.out
      clear hr hr2 ho ht hxk KN hdr hlt hz
      rw [hkl] at HO ⊢
      go_wp2_with fail
      refine (KN'.out).mono ?_
      rintro e w1 ⟨rfl, h1, t1⟩
      have hT1 := HT.out.trans t1
      have ho1 := HO.out
      unfold OwnI at ho1
      rw [HKL.out] at ho1
      have how1 := (HR.out.keepC t1).own (by decide) ho1
      have HO2 := Lib.hid (show (w1.alloc (.cells #[.int .i64 x] 3)).ownsRow w.heap.size 3 1 (.slice A3 k c3) k ((xs.take k).map iv) from own_below how1 (below_of_grown (World.grownBy_alloc w1 _ none)))
      have HR2 := Lib.hid (Row.one w1 (.int .i64 x) 3)
      have HT1 := Lib.hid hT1; have H1 := Lib.hid h1
      have hz1 := hT1.size
      clear h1 t1 hT1 ho1 how1
      go_wp2_with (at_builtin; refine wpList_append_row _ rfl (.tmp 15) (.tmp 18) 40 rfl w.heap.size 3 (.int .i64 0) 8 Tryz.underlying40 infoI rfl (.slice A3 k c3) k ((xs.take k).map iv) rfl HO2.out _ (some ⟨w1.heap.size, 0, none⟩) 1 1 [.int .i64 x] rfl HR2.out (by simp [Value.oneCell']) (by unfold maxLen; omega) (by omega) (by simp <;> omega) ?_; intro v5 w5 hown5 hgr5 hat5; have HO5 := Lib.hid hown5; have HB5 := Lib.hid (show Below w.heap.size w1 w5 from ((Below.refl _ w1).alloc hz1 (.cells #[.int .i64 x] 3)).grown hgr5 (by simp <;> omega) (own_base HO2.out)); have HG5 := Lib.hid hgr5; clear hown5 hgr5 hat5)
      go_roundw
      case rel =>
        refine ⟨k + 1, by rw [HN.out]; exact HLT.out, by go_num, ?_, ?_, HT1.out.fresh HB5.out⟩
        · unfold OwnI; rw [take_two HK.out, List.length_append, List.map_append, HKL.out]; exact HO5.out
        · exact H1.out.keep (HB5.out.mono H.out.b.size) ((KeepC.of (Ts := []) (below_of_grown (World.grownBy_alloc w1 _ none))).more (by simp) |>.trans (KeepC.grownI HO2.out HG5.out)) (by decide) (by decide)
      case measure => simp [intOf]; have := HLT.out; omega
    · have hkn : k = n := by omega
      subst hkn
      have hlt2 : ¬ (k : Int) < (k : Int) := by omega
      rw [List.take_of_length_le (by rw [HN.out]; exact Nat.le_refl _)] at ho
      rw [List.drop_of_length_le (by rw [HN.out]; exact Nat.le_refl _), List.map_nil, List.nil_append] at hr
      obtain ⟨A3, c3, rfl, _⟩ := ho.row
      rw [HN.out] at ho
      have HO := Lib.hid ho; have HR := Lib.hid hr; have HT := Lib.hid ht
      rw [HN.out]
      clear ho hr ht hlt
      go_wp2
      go_ret
      exact ⟨A3, c3, by rw [HN.out]; rfl, by rw [HN.out]; exact HO.out, HR.out, HT.out⟩
end Go.Proofs.YtbejbiogabpmfaaGreat

/-! A picture's words, plainly. -/
namespace Go.Proofs.YtbejbiogabpmfaaGreat
open Wd Ino Sm U Go.RowKit Go.ChangeShapes Go.WideShapes Go.Sort
def nameW (e : Ent) : List Nat := [e.s.size] ++ pk (bsOfW e.s) ++ [uw e.n]
def hdrZ (n : Nod) : List Int := [n.ino, n.kind, n.links, n.size, n.up, (n.pages.length : Nat), (n.names.length : Nat)]
def nodeW (n : Nod) : List Nat := (hdrZ n).map uw ++ n.pages.map uw ++ n.names.flatMap nameW
end Go.Proofs.YtbejbiogabpmfaaGreat

namespace Go.Proofs.YtbejbiogabpmfaaGreat
open Wd Ino Go.RowKit Go.ChangeShapes Go.WideShapes Go.Sort
set_option linter.unusedVariables false
set_option maxRecDepth 100000

/-! where a name stands, or would stand -/
theorem nLessD (a b : ByteArray) (w : World) : Calls Tryz.prog 189 #[.string a, .string b] w (Grows (.bool (lessN a b)) w) := by
  go_enter Tryz.func189, Tryz.ntmps189
  go_wp2
  go_ret
  exact ⟨rfl, grow_none _⟩
/-- an entry's block: its two cells -/
def ecells (e : Ent) : Array Value := #[.string e.s, .int .i64 e.n]
theorem ecells2 {w : World} {g : Nat} {t : TypeId} {e : Ent} (h : Cells w g t (ecells e)) : w.cell? ⟨g, 0, none⟩ = some (.string e.s) ∧ w.cell? ⟨g, 1, none⟩ = some (.int .i64 e.n) := ⟨h.cell 0, h.cell 1⟩
def LookRel (s : ByteArray) (l : List Ent) (w : World) (v b i : Value) (wr : World) : Prop := ∃ (k m : Nat), k ≤ l.length ∧ b = .bool false ∧ i = .int .i64 k ∧ v = .int .i64 m ∧ (∀ x ∈ l.take k, nameIs s x = false) ∧
  ((m = l.length ∧ ∀ x ∈ l.take k, foreE s x = false) ∨ (m < k ∧ l.findIdx (foreE s) = m)) ∧ ∃ q os, wr = grow (w.drewN q) os
set_option maxHeartbeats 4000000 in
theorem dLook {w : World} {hi : Nat} {A : Option Addr} {c : Nat} {l : List Ent} (h : Ens w hi A l) (hh : hi ≤ w.heap.size) (hm : l.length ≤ 1000) (s : ByteArray) : Calls Tryz.prog 175 #[.slice A l.length c, .string s] w (Grows (.tuple #[.int .i64 (lookN s l), .bool (hasN s l)]) w) := by
  have H := Lib.hid h
  clear h
  go_enter Tryz.func175, Tryz.ntmps175
  go_wp2
  go_step3
  go_wp2
  go_step3
  go_wp2
  go_loopw [6, 7, 14] (fun v b i wr => LookRel s l w v b i wr) (fun _ _ i _ => l.length - (intOf i).toNat)
  case atStart => exact ⟨0, l.length, Nat.zero_le _, rfl, rfl, rfl, by simp, .inl ⟨rfl, by simp⟩, grow_none _⟩
  case round =>
    obtain ⟨k, m, hk, rfl, rfl, rfl, hno, hat, hgr⟩ := hrel
    have HNO := Lib.hid hno; have HAT := Lib.hid hat; have HG := Lib.hid hgr
    have hb := (Grows.below (e := .returned (.bool true)) ⟨rfl, hgr⟩).2
    have HB := Lib.hid hb
    clear hno hat hgr hb
    by_cases hlt : k < l.length
    · obtain ⟨e, he⟩ : ∃ e, l[k]? = some e := ⟨_, List.getElem?_eq_getElem hlt⟩
      obtain ⟨bl, off, rfl, hbB, x0, x1⟩ := ens_cells (H.out.below (HB.out.mono hh)) he
      have hlt2 : (k : Int) < (l.length : Int) := Int.ofNat_lt.2 hlt
      have HE := Lib.hid he
      clear he
      cases hn : nameIs s e with
      | true =>
        have q0 : (e.s.toList == s.toList) = true := hn
        have HR := Lib.hid (look_yes HNO.out HE.out hn)
        clear hn
        go_wp2_with fail
        rw [Exit.noGoto_ret]
        go_ret2
        exact ⟨by rw [HR.out.1, HR.out.2.1]; rfl, grow_alloc HG.out _⟩
      | false =>
        have q0 : (e.s.toList == s.toList) = false := hn
        have HN := Lib.hid (none_snoc HE.out HNO.out hn)
        clear hn
        by_cases hm2 : m < l.length
        · have hm3 : (m : Int) < (l.length : Int) := Int.ofNat_lt.2 hm2
          go_wp2_with fail
          go_roundw
          case rel => exact ⟨k + 1, m, by omega, rfl, by go_num, rfl, HN.out, by rcases HAT.out with h | h; omega; exact .inr ⟨by omega, h.2⟩, grow_alloc HG.out _⟩
          case measure => simp [intOf]; omega
        · have hm4 : m = l.length ∧ ∀ x ∈ l.take k, foreE s x = false := by rcases HAT.out with h | h; exact h; omega
          obtain ⟨rfl, hf⟩ := hm4
          have HF := Lib.hid hf
          clear hf hm2
          have K := Lib.hid (fun w => nLessD s e.s w)
          cases hl : foreE s e with
          | true =>
            have hl2 : lessN s e.s = true := hl
            rw [hl2] at K
            have HL := Lib.hid (findIdx_at HF.out HE.out hl)
            clear hl hl2
            go_wp2_with fail
            refine (K.out _).mono ?_
            rintro e1 w2 ⟨rfl, hw2⟩
            have HW2 := Lib.hid hw2
            clear hw2
            go_wp2_with fail
            go_roundw
            case rel => exact ⟨k + 1, k, by omega, rfl, by go_num, rfl, HN.out, .inr ⟨by omega, HL.out⟩, grow_trans (grow_alloc HG.out _) HW2.out⟩
            case measure => simp [intOf]; omega
          | false =>
            have hl2 : lessN s e.s = false := hl
            rw [hl2] at K
            have HL := Lib.hid (none_snoc HE.out HF.out hl)
            clear hl hl2
            go_wp2_with fail
            refine (K.out _).mono ?_
            rintro e1 w2 ⟨rfl, hw2⟩
            have HW2 := Lib.hid hw2
            clear hw2
            go_wp2_with fail
            go_roundw
            case rel => exact ⟨k + 1, l.length, by omega, rfl, by go_num, rfl, HN.out, .inl ⟨rfl, HL.out⟩, grow_trans (grow_alloc HG.out _) HW2.out⟩
            case measure => simp [intOf]; omega
    · obtain rfl : k = l.length := by omega
      have hno := HNO.out
      rw [List.take_length] at hno
      have hm4 : l.findIdx (foreE s) = m := by
        rcases HAT.out with h | h
        · rw [List.take_length] at h; rw [h.1]; exact findIdx_all h.2
        · exact h.2
      have HR := Lib.hid (look_no hno)
      have HM := Lib.hid hm4
      clear hno hm4
      go_wp2_with fail
      rw [Exit.noGoto_ret]
      go_ret2
      exact ⟨by rw [HR.out.1, HR.out.2.1, HM.out]; rfl, HG.out⟩
end Go.Proofs.YtbejbiogabpmfaaGreat

namespace Go.Proofs.YtbejbiogabpmfaaGreat
open Wd Ino Go.RowKit Go.ChangeShapes Go.WideShapes Go.ChangeAt Go.Deep Go.Sort
set_option linter.unusedVariables false
set_option maxRecDepth 100000

/-! a row of names that the call made: its block, and what is stored into it -/
theorem evals_take (l : List Ent) (k : Nat) : evals (l.take k) = (evals l).take (k * 2) := by
  induction l generalizing k with
  | nil => simp [evals]
  | cons e l ih =>
    cases k with
    | zero => simp [evals]
    | succ k =>
      rw [List.take_succ_cons, evals_cons, evals_cons, ih, show (k + 1) * 2 = k * 2 + 1 + 1 by omega]
      rfl
theorem evals_drop (l : List Ent) (k : Nat) : evals (l.drop k) = (evals l).drop (k * 2) := by
  induction l generalizing k with
  | nil => simp [evals]
  | cons e l ih =>
    cases k with
    | zero => rfl
    | succ k =>
      rw [List.drop_succ_cons, ih, evals_cons, show (k + 1) * 2 = k * 2 + 1 + 1 by omega]
      rfl
theorem evals_set {l : List Ent} {k : Nat} {e : Ent} (x : Ent) (he : l[k]? = some e) : ((evals l).set (k * 2) (.string x.s)).set (k * 2 + 1) (.int .i64 x.n) = evals (l.set k x) := by
  induction l generalizing k with
  | nil => simp at he
  | cons d l ih =>
    cases k with
    | zero => rfl
    | succ k =>
      rw [List.set_cons_succ, evals_cons, evals_cons, ← ih (by simpa using he), show (k + 1) * 2 = k * 2 + 1 + 1 by omega]
      rfl
theorem evals_setS {l : List Ent} {k : Nat} {e : Ent} (he : l[k]? = some e) : (evals l).set (k * 2) (.string e.s) = evals l := by
  induction l generalizing k with
  | nil => simp at he
  | cons d l ih =>
    cases k with
    | zero =>
      simp only [List.getElem?_cons_zero, Option.some.injEq] at he
      subst he
      rfl
    | succ k =>
      have := ih (k := k) (by simpa using he)
      rw [evals_cons, show (k + 1) * 2 = k * 2 + 1 + 1 by omega]
      show Value.string d.s :: Value.int .i64 d.n :: (evals l).set (k * 2) (.string e.s) = _
      rw [this]; rfl
/-- its block, if it has one -/
theorem OwnE.block {w : World} {base : Nat} {v : Value} {l : List Ent} (h : OwnE w base v l) (hn : 0 < l.length) : ∃ g cap cur, v = .slice (some ⟨g, 0, none⟩) l.length cap ∧ base ≤ g ∧ Cells w g 103 cur ∧ l.length ≤ cap ∧ cap ≤ maxLen ∧ cur.size = cap * 2 ∧ cur.toList.take (l.length * 2) = evals l := by
  rcases h.2 with ⟨rfl, h0⟩ | ⟨g, cap, cur, rfl, hb, hh, hc, hm, hs, ht⟩
  · omega
  · exact ⟨g, cap, cur, rfl, hb, hh, hc, hm, hs, ht⟩
theorem OwnE.of {w : World} {base g cap : Nat} {cur : Array Value} {l : List Ent} {n : Nat} (hn : l.length = n) (hb : base ≤ g) (hc : Cells w g 103 cur) (h1 : n ≤ cap) (h2 : cap ≤ maxLen) (hs : cur.size = cap * 2) (ht : cur.toList.take (n * 2) = evals l) : OwnE w base (.slice (some ⟨g, 0, none⟩) n cap) l := by
  subst hn
  exact ⟨evals_len l, .inr ⟨g, cap, cur, rfl, hb, hc, h1, h2, hs, ht⟩⟩
theorem OwnE.get {w : World} {base : Nat} {v : Value} {l : List Ent} (h : OwnE w base v l) {k : Nat} {e : Ent} (he : l[k]? = some e) : ∃ g cap, v = .slice (some ⟨g, 0, none⟩) l.length cap ∧ base ≤ g ∧ g < w.heap.size ∧ l.length ≤ cap ∧
    w.cell? ⟨g, k * 2, none⟩ = some (.string e.s) ∧ w.cell? ⟨g, k * 2 + 1, none⟩ = some (.int .i64 e.n) ∧ w.frozen? ⟨g, k * 2, none⟩ = false ∧ w.frozen? ⟨g, k * 2 + 1, none⟩ = false := by
  have hk := (List.getElem?_eq_some_iff.1 he).1
  obtain ⟨g, cap, cur, rfl, hb, hc, h1, h2, hs, ht⟩ := h.block (by omega)
  have at_ : ∀ j u, (ev e)[j]? = some u → w.cell? ⟨g, k * 2 + j, none⟩ = some u := fun j u hu => by
    have hx := evals_at l k j e u he hu
    rw [← ht, List.getElem?_take] at hx
    rw [hc.cell, ← Array.getElem?_toList]
    split at hx
    · exact hx
    · cases hx
  exact ⟨g, cap, rfl, hb, hc.lt, h1, at_ 0 _ rfl, at_ 1 _ rfl, hc.free _, hc.free _⟩
/-- one cell stored -/
theorem OwnE.setS {w : World} {base g cap n : Nat} {l : List Ent} (h : OwnE w base (.slice (some ⟨g, 0, none⟩) n cap) l) {k : Nat} {e : Ent} (he : l[k]? = some e) : OwnE (w.setCell ⟨g, k * 2, none⟩ (.string e.s)) base (.slice (some ⟨g, 0, none⟩) n cap) l := by
  have hk := (List.getElem?_eq_some_iff.1 he).1
  obtain ⟨g', cap', cur, hv, hb, hc, h1, h2, hs, ht⟩ := h.block (by omega)
  injection hv with hv hn hcc
  injection hv with hv
  injection hv with hv _ _
  subst hv hn hcc
  refine OwnE.of rfl hb (hc.set _ _) h1 h2 (by simp [hs]) ?_
  rw [Array.toList_setIfInBounds, List.take_set, ht, evals_setS he]
/-- one name stored -/
theorem OwnE.set {w : World} {base g cap n : Nat} {l : List Ent} (h : OwnE w base (.slice (some ⟨g, 0, none⟩) n cap) l) {k : Nat} {e : Ent} (x : Ent) (he : l[k]? = some e) : OwnE ((w.setCell ⟨g, k * 2, none⟩ (.string x.s)).setCell ⟨g, k * 2 + 1, none⟩ (.int .i64 x.n)) base (.slice (some ⟨g, 0, none⟩) n cap) (l.set k x) := by
  have hk := (List.getElem?_eq_some_iff.1 he).1
  obtain ⟨g', cap', cur, hv, hb, hc, h1, h2, hs, ht⟩ := h.block (by omega)
  injection hv with hv hn hcc
  injection hv with hv
  injection hv with hv _ _
  subst hv hn hcc
  refine OwnE.of (by simp) hb ((hc.set _ _).set _ _) h1 h2 (by simp [hs]) ?_
  rw [Array.toList_setIfInBounds, Array.toList_setIfInBounds, List.take_set, List.take_set, ht, evals_set x he]
/-- the first names of it -/
theorem OwnE.first {w : World} {base g cap n : Nat} {l : List Ent} (h : OwnE w base (.slice (some ⟨g, 0, none⟩) n cap) l) (k : Nat) (hk : k ≤ n) (h0 : 0 < n) : OwnE w base (.slice (some ⟨g, 0, none⟩) k cap) (l.take k) := by
  have hl : 0 < l.length := by
    rcases h.2 with ⟨h1, _⟩ | ⟨_, _, _, h1, _⟩
    · cases h1
    · injection h1 with _ h1 _; omega
  obtain ⟨g', cap', cur, hv, hb, hc, h1, h2, hs, ht⟩ := h.block hl
  injection hv with hv hn hcc
  injection hv with hv
  injection hv with hv _ _
  subst hv hn hcc
  refine OwnE.of (by rw [List.length_take]; omega) hb hc (by omega) h2 hs ?_
  rw [evals_take, ← ht, List.take_take]
  congr 1; omega
end Go.Proofs.YtbejbiogabpmfaaGreat

namespace Go.Proofs.YtbejbiogabpmfaaGreat
open Wd Ino Go.RowKit Go.ChangeShapes Go.WideShapes Go.Sort
set_option linter.unusedVariables false
set_option maxRecDepth 100000

/-! a copy of a row of names, with texts of its own -/
theorem grown_below {w w1 w2 : World} (h : Below w.heap.size w w1) (k : ∃ q os, w2 = grow (w1.drewN q) os) : Below w.heap.size w w2 := by
  obtain ⟨q, os, rfl⟩ := k
  exact h.trans ((below_grow' w1 q os).mono h.size)
theorem grown_self {w w1 : World} (k : ∃ q os, w1 = grow (w.drewN q) os) : Below w.heap.size w w1 := by
  obtain ⟨q, os, rfl⟩ := k
  exact below_grow' w q os
def CopyRel (l : List Ent) (v : Value) (w : World) (i : Value) (wr : World) : Prop := ∃ k : Nat, k ≤ l.length ∧ i = .int .i64 k ∧ OwnE wr w.heap.size v l ∧ Below w.heap.size w wr
set_option maxHeartbeats 4000000 in
theorem dOwn {w : World} {hi : Nat} {A : Option Addr} {c : Nat} {l : List Ent} (h : Ens w hi A l) (hh : hi ≤ w.heap.size) (hm : l.length ≤ 1000) (hs : ∀ e ∈ l, e.s.size ≤ 1000) : Calls Tryz.prog 191 #[.slice A l.length c] w (MadeE l w) := by
  have HS := Lib.hid hs
  have K := Lib.hid (cloneE (c := c) rfl h hh (by omega))
  clear h hs
  go_enter Tryz.func191, Tryz.ntmps191
  go_wp2_with fail
  refine K.out.mono ?_
  rintro e1 w1 ⟨v, rfl, ho, hb⟩
  obtain ⟨A1, c1, rfl, _, _⟩ := ho.form
  have HO := Lib.hid ho; have HB := Lib.hid hb
  clear ho hb K
  go_wp2
  go_loopw [9] (fun i wr => CopyRel l (.slice A1 l.length c1) w i wr) (fun i _ => l.length - (intOf i).toNat)
  case atStart => exact ⟨0, Nat.zero_le _, rfl, HO.out, HB.out⟩
  case round =>
    obtain ⟨k, hk, rfl, hown, hb1⟩ := hrel
    have HO1 := Lib.hid hown; have HB1 := Lib.hid hb1
    clear hown hb1
    by_cases hlt : k < l.length
    · obtain ⟨e, he⟩ : ∃ e, l[k]? = some e := ⟨_, List.getElem?_eq_getElem hlt⟩
      obtain ⟨g, cap, hv, hbg, hgw, _, x0, x1, f0, f1⟩ := HO1.out.get he
      injection hv with hv1 _ hv3
      subst hv1 hv3
      have hlt2 : (k : Int) < (l.length : Int) := Int.ofNat_lt.2 hlt
      have KC := Lib.hid (cloneG e.s (by have := HS.out e (List.mem_of_getElem? he); omega))
      have HE := Lib.hid he
      have HG := Lib.hid hbg
      clear he hbg
      go_wp2_with fail
      refine (KC.out _).mono ?_
      rintro e1 w2 ⟨rfl, hw2⟩
      have HB0 := Lib.hid (grown_below ((Below.refl _ wr).alloc (Nat.le_refl _) (.cells (ecells e) 103)) hw2)
      have y0 : w2.cell? ⟨g, k * 2, none⟩ = some (.string e.s) := by rw [HB0.out.cell (p := ⟨g, k * 2, none⟩) hgw]; exact x0
      have z0 : w2.frozen? ⟨g, k * 2, none⟩ = false := by rw [HB0.out.frozen (p := ⟨g, k * 2, none⟩) hgw]; exact f0
      clear hw2 x0 x1 f0 f1
      go_wp2
      go_roundw
      case rel => exact ⟨k + 1, by omega, by go_num, (HO1.out.below HB0.out).setS HE.out, (HB1.out.trans (HB0.out.mono HB1.out.size)).setCell HG.out _⟩
      case measure => simp [intOf]; omega
    · obtain rfl : k = l.length := by omega
      go_wp2
      go_ret
      exact ⟨_, rfl, HO1.out, HB1.out⟩
end Go.Proofs.YtbejbiogabpmfaaGreat
