import Derived.Test.YtbegnnohmahglaaDiRp
import Derived.Test.YtbegnnohmahglaaSpRef
namespace Go.Proofs.Ytbegnnohmahglaa
open Wd Ino Go.RowKit Go.ChangeShapes Go.WideShapes Go.Sort
set_option linter.unusedVariables false
set_option maxRecDepth 100000

/-! Find, Names and Count -/
theorem look_at {s : ByteArray} {l : List Ent} (h : hasN s l = true) : ∃ e, l[lookN s l]? = some e ∧ inoN s l = e.n := by
  have hk : l.findIdx (nameIs s) < l.length := List.findIdx_lt_length.2 (by obtain ⟨e, he, hs⟩ := List.any_eq_true.1 h; exact ⟨e, he, hs⟩)
  have he : l[l.findIdx (nameIs s)]? = some l[l.findIdx (nameIs s)] := List.getElem?_eq_getElem hk
  have h0 : ∀ x ∈ l.take (l.findIdx (nameIs s)), nameIs s x = false := fun x hx => by
    obtain ⟨i, hi, rfl⟩ := List.mem_take_iff_getElem.1 hx
    simpa using List.not_of_lt_findIdx (show i < l.findIdx (nameIs s) by omega)
  have hy := look_yes h0 he (List.findIdx_getElem (w := hk))
  exact ⟨_, by rw [hy.2.1]; exact he, hy.2.2⟩
set_option maxHeartbeats 4000000 in
theorem dFind {w : World} {hi : Nat} {A : Option Addr} {c : Nat} {l : List Ent} (h : Ens w hi A l) (hh : hi ≤ w.heap.size) (hm : l.length ≤ 1000) (s : ByteArray) : Calls Try.prog 8 #[.slice A l.length c, .string s] w (Grows (.tuple #[.int .i64 (inoN s l), .bool (hasN s l)]) w) := by
  have H := Lib.hid h
  have K := Lib.hid (dLook (c := c) h hh hm s)
  clear h
  cases hn : hasN s l with
  | true =>
    obtain ⟨e, he, hi'⟩ := look_at hn
    obtain ⟨k, hk⟩ : ∃ k, lookN s l = k := ⟨_, rfl⟩
    rw [hn, hk] at K
    rw [hk] at he
    have hlt : k < l.length := (List.getElem?_eq_some_iff.1 he).1
    have i1 : (k : Int) < (l.length : Int) := Int.ofNat_lt.2 hlt
    have i0 : (0 : Int) ≤ (k : Int) := by omega
    have HE := Lib.hid he; have HI := Lib.hid hi'
    clear he hi' hk hn
    go_enter Try.func8, Try.ntmps8
    go_wp2_with fail
    refine K.out.mono ?_
    rintro e1 w1 ⟨rfl, hw1⟩
    have HG := Lib.hid hw1
    obtain ⟨b, off, rfl, _, x0, x1⟩ := ens_cells (H.out.below ((grown_self hw1).mono hh)) HE.out
    clear hw1 K
    go_wp2_with fail
    go_ret2
    exact ⟨by rw [HI.out]; rfl, HG.out⟩
  | false =>
    have HI := Lib.hid (inoN_none hn)
    rw [hn] at K
    clear hn
    go_enter Try.func8, Try.ntmps8
    go_wp2_with fail
    refine K.out.mono ?_
    rintro e1 w1 ⟨rfl, hw1⟩
    have HG := Lib.hid hw1
    clear hw1 K
    go_wp2_with fail
    go_ret2
    exact ⟨by rw [HI.out]; rfl, HG.out⟩

theorem countN_snoc {n : Int} {l : List Ent} {k : Nat} {e : Ent} (he : l[k]? = some e) : countN n (l.take (k + 1)) = countN n (l.take k) + (if e.n = n then 1 else 0) := by
  rw [take_snoc he]
  unfold countN
  rw [List.countP_append, List.countP_singleton]
  by_cases h : e.n = n <;> simp [h]
def CountRel (n : Int) (l : List Ent) (w : World) (v i : Value) (wr : World) : Prop := ∃ k m : Nat, k ≤ l.length ∧ i = .int .i64 k ∧ v = .int .i64 m ∧ countN n (l.take k) = m ∧ m ≤ k ∧ ∃ q os, wr = grow (w.drewN q) os
set_option maxHeartbeats 4000000 in
theorem dCount {w : World} {hi : Nat} {A : Option Addr} {c : Nat} {l : List Ent} (h : Ens w hi A l) (hh : hi ≤ w.heap.size) (hm : l.length ≤ 1000) (n : Int) : Calls Try.prog 19 #[.slice A l.length c, .int .i64 n] w (Grows (.int .i64 (countN n l)) w) := by
  have H := Lib.hid h
  clear h
  go_enter Try.func19, Try.ntmps19
  go_wp2
  go_loopw [5, 10] (fun v i wr => CountRel n l w v i wr) (fun _ i _ => l.length - (intOf i).toNat)
  case atStart => exact ⟨0, 0, Nat.zero_le _, rfl, rfl, by simp [countN], Nat.le_refl _, grow_none _⟩
  case round =>
    obtain ⟨k, m, hk, rfl, rfl, hc, hmk, hgr⟩ := hrel
    have HC := Lib.hid hc
    have HG := Lib.hid hgr
    have HB := Lib.hid (grown_self hgr)
    clear hgr hc
    by_cases hlt : k < l.length
    · obtain ⟨e, he⟩ : ∃ e, l[k]? = some e := ⟨_, List.getElem?_eq_getElem hlt⟩
      obtain ⟨bl, off, rfl, hbB, x0, x1⟩ := ens_cells (H.out.below (HB.out.mono hh)) he
      have hlt2 : (k : Int) < (l.length : Int) := Int.ofNat_lt.2 hlt
      have HE := Lib.hid he
      clear he
      by_cases hq : e.n = n
      · have HN := Lib.hid (show countN n (l.take (k + 1)) = m + 1 by rw [countN_snoc HE.out, if_pos hq, HC.out])
        have q0 : (e.n == n) = true := by simpa using hq
        clear hq
        go_wp2
        go_roundw
        case rel => exact ⟨k + 1, m + 1, by omega, by go_num, by go_num, HN.out, by omega, grow_alloc HG.out _⟩
        case measure => simp [intOf]; omega
      · have HN := Lib.hid (show countN n (l.take (k + 1)) = m by rw [countN_snoc HE.out, if_neg hq, HC.out]; rfl)
        have q0 : (e.n == n) = false := by simpa using hq
        clear hq
        go_wp2
        go_roundw
        case rel => exact ⟨k + 1, m, by omega, by go_num, rfl, HN.out, by omega, grow_alloc HG.out _⟩
        case measure => simp [intOf]; omega
    · obtain rfl : k = l.length := by omega
      have hc := HC.out
      rw [List.take_length] at hc
      have HCC := Lib.hid hc
      clear hc
      go_wp2
      go_ret
      exact ⟨by rw [HCC.out]; rfl, HG.out⟩

/-- a row of texts of the call's own -/
def textsV (l : List Ent) : List Value := (l.map Ent.s).map Value.string
def MadeS (l : List Ent) (w : World) (e : Ending) (w' : World) : Prop := ∃ v, e = .returned v ∧ w'.ownsRow w.heap.size 9 1 v l.length (textsV l) ∧ Below w.heap.size w w'
def NamesRel (l : List Ent) (v0 : Value) (w : World) (v i : Value) (wr : World) : Prop := ∃ k : Nat, k ≤ l.length ∧ i = .int .i64 k ∧ OwnE wr w.heap.size v0 l ∧ wr.ownsRow w.heap.size 9 1 v k (textsV (l.take k)) ∧ (∀ g, v.ownBlock = some g → v0.ownBlock ≠ some g) ∧ Below w.heap.size w wr
theorem textsV_snoc {l : List Ent} {k : Nat} {e : Ent} (he : l[k]? = some e) : textsV (l.take (k + 1)) = textsV (l.take k) ++ [.string e.s] := by
  unfold textsV
  rw [take_snoc he, List.map_append, List.map_append]; rfl
theorem textsV_len (l : List Ent) : (textsV l).length = l.length := by unfold textsV; simp
theorem row_one (w : World) (v : Value) (t : TypeId) : Row (w.alloc (.cells #[v] t)) (w.heap.size + 1) (some ⟨w.heap.size, 0, none⟩) 1 [v] := by
  have := Row.one w v t
  simpa using this
theorem oneSt (s : ByteArray) : ∀ u ∈ [Value.string s], u.oneCell' = true := by
  intro u hu
  rw [List.mem_singleton.1 hu]; rfl
theorem OwnE.grown {w w' : World} {base : Nat} {v u : Value} {l : List Ent} (h : OwnE w base v l) (hg : w.grownBy w' u.ownBlock) (hne : ∀ g, u.ownBlock = some g → v.ownBlock ≠ some g) : OwnE w' base v l := by
  refine ⟨h.1, ?_⟩
  rcases h.2 with ⟨h1, h0⟩ | ⟨g, cap, cur, h1, h2, hh, h3⟩
  · exact .inl ⟨h1, h0⟩
  · refine .inr ⟨g, cap, cur, h1, h2, ?_, h3⟩
    refine (hg.block g (lt_of_block hh) (fun e => hne g e.symm ?_)).trans hh
    rw [h1]; rfl
theorem own_lt' {w : World} {base : Nat} {t : TypeId} {v : Value} {n : Nat} {xs : List Value} (h : w.ownsRow base t 1 v n xs) : ∀ q, v.ownBlock = some q → q < w.heap.size := by
  intro q hq
  rcases h.2 with ⟨rfl, _⟩ | ⟨g, cap, cur, rfl, _, hh, _⟩
  · cases hq
  · have : g = q := by simpa [Value.ownBlock] using hq
    subst this
    exact lt_of_block hh
theorem own_at {w w' : World} {base : Nat} {t : TypeId} {v : Value} {n : Nat} {xs : List Value} (h : w.ownsRow base t 1 v n xs) (hb : Below w.heap.size w w') : w'.ownsRow base t 1 v n xs := by
  refine ⟨h.1, ?_⟩
  rcases h.2 with ⟨h1, h0⟩ | ⟨g, cap, cur, h1, h2, hh, h3⟩
  · exact .inl ⟨h1, h0⟩
  · exact .inr ⟨g, cap, cur, h1, h2, (hb.block g (lt_of_block hh)).trans hh, h3⟩
set_option maxHeartbeats 4000000 in
theorem dNames {w : World} {hi : Nat} {A : Option Addr} {c : Nat} {l : List Ent} (h : Ens w hi A l) (hh : hi ≤ w.heap.size) (hm : l.length ≤ 1000) (hs : ∀ e ∈ l, e.s.size ≤ 1000) : Calls Try.prog 18 #[.slice A l.length c] w (MadeS l w) := by
  have K := Lib.hid (dOwn (c := c) h hh hm hs)
  clear h hs
  go_enter Try.func18, Try.ntmps18
  go_wp2_with fail
  refine K.out.mono ?_
  rintro e1 w1 ⟨v, rfl, ho, hb⟩
  obtain ⟨A1, c1, rfl, _, _⟩ := ho.form
  have HO := Lib.hid ho; have HB := Lib.hid hb
  clear ho hb K
  go_wp2
  go_loopw [3, 9] (fun v i wr => NamesRel l (.slice A1 l.length c1) w v i wr) (fun _ i _ => l.length - (intOf i).toNat)
  case atStart => exact ⟨0, Nat.zero_le _, rfl, HO.out, by rw [List.take_zero]; exact ⟨rfl, .inl ⟨rfl, rfl⟩⟩, fun g hg => by simp [Value.ownBlock] at hg, HB.out⟩
  case round =>
    obtain ⟨k, hk, rfl, ho, hx, hne, hb⟩ := hrel
    have HO1 := Lib.hid ho; have HX := Lib.hid hx; have HNE := Lib.hid hne; have HB1 := Lib.hid hb
    clear ho hx hne hb
    by_cases hlt : k < l.length
    · obtain ⟨e, he⟩ : ∃ e, l[k]? = some e := ⟨_, List.getElem?_eq_getElem hlt⟩
      obtain ⟨g, cap, hv, hbg, hgw, _, x0, x1, f0, f1⟩ := HO1.out.get he
      injection hv with hv1 _ hv3
      subst hv1 hv3
      have hlt2 : (k : Int) < (l.length : Int) := Int.ofNat_lt.2 hlt
      have HE := Lib.hid he
      have hb2 := below_two wr (.cells #[.string e.s, .int .i64 e.n] 32) (.cells #[.string e.s] 9)
      have HX2 := Lib.hid (own_at HX.out hb2)
      have HO2 := Lib.hid (HO1.out.below hb2)
      have HZ := Lib.hid (Nat.le_trans HB1.out.size hb2.size)
      have hr1 := row_one (wr.alloc (.cells #[.string e.s, .int .i64 e.n] 32)) (.string e.s) 9
      rw [show (wr.alloc (.cells #[.string e.s, .int .i64 e.n] 32)).heap.size = wr.heap.size + 1 by simp] at hr1
      have HR := Lib.hid hr1
      have HB2 := Lib.hid hb2
      clear he hb2 hr1 hbg
      go_wp2_with (at_builtin; refine wpList_append_row _ rfl (.tmp 13) (.tmp 16) 30 rfl w.heap.size 9 (.string ByteArray.empty) 16 Try.underlying30 infoStr rfl _ _ _ rfl HX2.out _ _ 1 1 [.string e.s] rfl HR.out (oneSt _) (by unfold maxLen; omega) (by omega) HZ.out ?_; intro v5 w5 hown5 hgr5 hat5; have HO5 := Lib.hid hown5; have HG5 := Lib.hid hgr5; have HA5 := Lib.hid hat5; clear hown5 hgr5 hat5)
      go_roundw
      case rel =>
        refine ⟨k + 1, by omega, by go_num, HO2.out.grown HG5.out HNE.out, ?_, ?_, (HB1.out.trans (HB2.out.mono HB1.out.size)).grown HG5.out HZ.out (own_base HX2.out)⟩
        · rw [textsV_snoc HE.out]; exact HO5.out
        · intro q hq
          rcases HA5.out with h5 | h5
          · exact HNE.out q (h5.symm.trans hq)
          · rw [h5] at hq
            have h6 := Option.some.inj hq
            intro h7
            have h8 := ownE_lt HO2.out q h7
            omega
      case measure => simp [intOf]; omega
    · obtain rfl : k = l.length := by omega
      have hx := HX.out
      rw [List.take_length] at hx
      have HXX := Lib.hid hx
      clear hx
      go_wp2
      go_ret
      exact ⟨_, rfl, HXX.out, HB1.out⟩
end Go.Proofs.Ytbegnnohmahglaa
