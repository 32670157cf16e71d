import Derived.Test.YtamndllolppmoaaGreatDoorG31
import Derived.Test.YtamndllolppmoaaGreatDoorG24
import Derived.Test.YtamndllolppmoaaGreatDoorG32
import Derived.Sort.OwnSortedInts
import Derived.Test.YtamndllolppmoaaGreatDoorG07
import Derived.Test.YtamndllolppmoaaGreatDoorG13
import Derived.Test.YtamndllolppmoaaGreatDoorG22

/-! Root and what is found from it, directory by directory, plainly. -/
namespace Go.Proofs.YtamndllolppmoaaGreatDoor
open Wd Ino
set_option linter.unusedVariables false
/-- what stands in F once its first i directories have been gone through, and k names of the next one -/
structure Bf (S : Stt) (i : Nat) (k : Nat) (F : List Int) : Prop where
  nd : F.Pairwise (· ≠ ·)
  kind : ∀ x ∈ F, kindS S.l x = 2
  from_ : ∀ x ∈ F, x = 1 ∨ upS S.l x ∈ F.take i ∨ ∃ d, F[i]? = some d ∧ ∃ e ∈ (namesS S.l d).take k, e.n = x
  done : ∀ x ∈ F.take i, ∀ e ∈ namesS S.l x, kindS S.l e.n = 2 → e.n ∈ F
  part : ∀ d, F[i]? = some d → ∀ e ∈ (namesS S.l d).take k, kindS S.l e.n = 2 → e.n ∈ F
  one : 1 ∈ F
theorem Bf.start {S : Stt} (h : Inv S) : Bf S 0 0 [1] := by
  obtain ⟨r, hr, hk⟩ := h.root
  refine ⟨List.pairwise_singleton _ _, fun x hx => ?_, fun x hx => .inl (List.mem_singleton.1 hx), fun x hx => (by cases hx), fun d _ e he => (by cases he), List.mem_singleton.2 rfl⟩
  rw [List.mem_singleton.1 hx, kind_some hr, hk]
theorem Bf.len {S : Stt} {i k : Nat} {F : List Int} (h : Bf S i k F) : F.length ≤ S.l.length := by
  have := nodup_len F (S.l.map Nod.ino) h.nd (fun x hx => by
    obtain ⟨n, hn, _⟩ := at_of_kind (l := S.l) (i := x) (by rw [h.kind x hx]; decide)
    exact List.mem_map.2 ⟨n, atS_mem hn, atS_ino hn⟩)
  rwa [List.length_map] at this
theorem mem_take_next {α : Type} {l : List α} {k : Nat} {e x : α} (he : l[k]? = some e) : x ∈ l.take (k + 1) ↔ x ∈ l.take k ∨ x = e := by
  rw [take_two he, List.mem_append, List.mem_singleton]
/-- a name of no directory -/
theorem Bf.skip {S : Stt} {i k : Nat} {F : List Int} (h : Bf S i k F) {d : Int} (hd : F[i]? = some d) {e : Ent} (he : (namesS S.l d)[k]? = some e) (hk : kindS S.l e.n ≠ 2) : Bf S i (k + 1) F := by
  refine ⟨h.nd, h.kind, fun x hx => ?_, h.done, fun d' hd' e' he' hk' => ?_, h.one⟩
  · rcases h.from_ x hx with h1 | h1 | ⟨d', hd', e', he', h2⟩
    · exact .inl h1
    · exact .inr (.inl h1)
    · have : d' = d := by rw [hd] at hd'; exact (Option.some.inj hd').symm
      subst this
      exact .inr (.inr ⟨d', hd', e', (mem_take_next he).2 (.inl he'), h2⟩)
  · have : d' = d := by rw [hd] at hd'; exact (Option.some.inj hd').symm
    subst this
    rcases (mem_take_next he).1 he' with h1 | rfl
    · exact h.part d' hd e' h1 hk'
    · exact absurd hk' hk
theorem two_count {n : Int} {l : List Ent} {k : Nat} {e e' : Ent} (he : l[k]? = some e) (h' : e' ∈ l.take k) (h1 : e.n = n) (h2 : e'.n = n) : 2 ≤ countN n l := by
  have h3 : countN n (l.take (k + 1)) ≤ countN n l := by
    unfold countN
    exact List.Sublist.countP_le (List.take_sublist _ _)
  have h4 : 1 ≤ countN n (l.take k) := by
    unfold countN
    exact List.countP_pos_iff.2 ⟨e', h', by simpa using h2⟩
  rw [countN_snoc he, if_pos h1] at h3
  omega
theorem count_le_cnt {l : List Nod} {n : Int} {d : Nod} (hd : d ∈ l) : countN n d.names ≤ cntS l n := by
  unfold cntS
  induction l with
  | nil => cases hd
  | cons a l ih =>
    rw [List.map_cons, List.sum_cons]
    rcases List.mem_cons.1 hd with rfl | hd
    · omega
    · have := ih hd; omega
theorem names_of {S : Stt} {d : Int} (hk : kindS S.l d = 2) : ∃ n, atS S.l d = some n ∧ n ∈ S.l ∧ n.ino = d ∧ namesS S.l d = n.names := by
  obtain ⟨n, hn, _⟩ := at_of_kind (l := S.l) (i := d) (by rw [hk]; decide)
  exact ⟨n, hn, atS_mem hn, atS_ino hn, by unfold namesS; rw [getS_some hn]⟩
/-- a name of a directory that isn't there yet -/
theorem Bf.new {S : Stt} (iv : Inv S) {i k : Nat} {F : List Int} (h : Bf S i k F) {d : Int} (hd : F[i]? = some d) {e : Ent} (he : (namesS S.l d)[k]? = some e) (hk : kindS S.l e.n = 2) : Bf S i (k + 1) (F ++ [e.n]) := by
  have hiF : i < F.length := (List.getElem?_eq_some_iff.1 hd).1
  have hdF : d ∈ F := List.mem_of_getElem? hd
  obtain ⟨nd, hnd, hndm, hndi, hns⟩ := names_of (h.kind d hdF)
  have hem : e ∈ nd.names := by rw [← hns]; exact List.mem_of_getElem? he
  obtain ⟨n, hn, hup⟩ := iv.there nd hndm e hem
  rw [kind_some hn] at hk
  have hup := hup hk
  have hu : upS S.l e.n = d := by unfold upS; rw [getS_some hn, hup.2, hndi]
  have hnot : e.n ∉ F := by
    intro hx
    rcases h.from_ e.n hx with h1 | h1 | ⟨d', hd', e', he', h2⟩
    · exact hup.1 h1
    · rw [hu] at h1
      obtain ⟨j, hj⟩ := List.mem_iff_getElem?.1 h1
      have hji : j < i := by
        have := (List.getElem?_eq_some_iff.1 hj).1
        rw [List.length_take] at this; omega
      rw [List.getElem?_take_of_lt hji] at hj
      have := List.pairwise_iff_getElem.1 h.nd j i (by omega) hiF hji
      rw [(List.getElem?_eq_some_iff.1 hj).2, (List.getElem?_eq_some_iff.1 hd).2] at this
      exact this rfl
    · have : d' = d := by rw [hd] at hd'; exact (Option.some.inj hd').symm
      subst this
      have h3 := two_count he he' rfl h2
      rw [hns] at h3
      have h4 := count_le_cnt (n := e.n) hndm
      have h5 := iv.cnt n (atS_mem hn) (by rw [atS_ino hn]; exact hup.1)
      have h6 := (right_dir (iv.right n (atS_mem hn)) hk).2.2.1
      rw [atS_ino hn] at h5
      omega
  have ht : (F ++ [e.n]).take i = F.take i := List.take_append_of_le_length (by omega)
  have hg : (F ++ [e.n])[i]? = some d := by rw [List.getElem?_append_left hiF]; exact hd
  refine ⟨?_, fun x hx => ?_, fun x hx => ?_, fun x hx e' he' hk' => ?_, fun d' hd' e' he' hk' => ?_, List.mem_append_left _ h.one⟩
  · rw [List.pairwise_append]
    exact ⟨h.nd, List.pairwise_singleton _ _, fun a ha b hb => by rw [List.mem_singleton.1 hb]; exact fun e9 => hnot (e9 ▸ ha)⟩
  · rcases List.mem_append.1 hx with hx | hx
    · exact h.kind x hx
    · rw [List.mem_singleton.1 hx, kind_some hn]; exact hk
  · rw [ht]
    rcases List.mem_append.1 hx with hx | hx
    · rcases h.from_ x hx with h1 | h1 | ⟨d', hd', e', he', h2⟩
      · exact .inl h1
      · exact .inr (.inl h1)
      · have : d' = d := by rw [hd] at hd'; exact (Option.some.inj hd').symm
        subst this
        exact .inr (.inr ⟨d', hg, e', (mem_take_next he).2 (.inl he'), h2⟩)
    · exact .inr (.inr ⟨d, hg, e, (mem_take_next he).2 (.inr rfl), (List.mem_singleton.1 hx).symm⟩)
  · rw [ht] at hx
    exact List.mem_append_left _ (h.done x hx e' he' hk')
  · have : d' = d := by rw [hg] at hd'; exact (Option.some.inj hd').symm
    subst this
    rcases (mem_take_next he).1 he' with h1 | rfl
    · exact List.mem_append_left _ (h.part d' hd e' h1 hk')
    · exact List.mem_append_right _ (List.mem_singleton.2 rfl)
/-- all names of a directory -/
theorem Bf.turn {S : Stt} (iv : Inv S) {i : Nat} {F : List Int} {d : Int} (hd : F[i]? = some d) (h : Bf S i (namesS S.l d).length F) : Bf S (i + 1) 0 F := by
  have hdF : d ∈ F := List.mem_of_getElem? hd
  refine ⟨h.nd, h.kind, fun x hx => ?_, fun x hx e he hk => ?_, fun d' _ e he => (by cases he), h.one⟩
  · rw [take_two hd]
    rcases h.from_ x hx with h1 | h1 | ⟨d', hd', e', he', h2⟩
    · exact .inl h1
    · exact .inr (.inl (List.mem_append_left _ h1))
    · have : d' = d := by rw [hd] at hd'; exact (Option.some.inj hd').symm
      subst this
      obtain ⟨nd, hnd, hndm, hndi, hns⟩ := names_of (h.kind d' hdF)
      obtain ⟨n, hn, hup⟩ := iv.there nd hndm e' (by rw [← hns]; exact List.mem_of_mem_take he')
      have hk := h.kind x hx
      rw [← h2, kind_some hn] at hk
      have hu : upS S.l x = d' := by rw [← h2]; unfold upS; rw [getS_some hn, (hup hk).2, hndi]
      exact .inr (.inl (by rw [hu]; exact List.mem_append_right _ (List.mem_singleton.2 rfl)))
  · rw [take_two hd] at hx
    rcases List.mem_append.1 hx with hx | hx
    · exact h.done x hx e he hk
    · rw [List.mem_singleton] at hx
      subst hx
      exact h.part x hd e (by rw [List.take_length]; exact he) hk
theorem Bf.all {S : Stt} (iv : Inv S) {F : List Int} (h : Bf S F.length 0 F) : ∀ {k : Nat} {x : Int}, Rch S.l k x → x ∈ F
  | 0, x, hx => by have : x = 1 := hx; rw [this]; exact h.one
  | k + 1, x, hx => by
    have hin := Bf.all iv h hx.2.2
    obtain ⟨n, hn, _⟩ := at_of_kind (l := S.l) (i := x) (by rw [hx.2.1]; decide)
    have hkn : n.kind = 2 := by rw [← kind_some hn]; exact hx.2.1
    have h5 := iv.cnt n (atS_mem hn) (by rw [atS_ino hn]; exact hx.1)
    rw [(right_dir (iv.right n (atS_mem hn)) hkn).2.2.1, atS_ino hn] at h5
    have h6 : ∃ d ∈ S.l, ∃ e ∈ d.names, e.n = x := Classical.byContradiction fun hc => by
      have : cntS S.l x = 0 := by
        unfold cntS
        rw [List.sum_eq_zero_iff_forall_eq_nat]
        intro y hy
        obtain ⟨d, hd, rfl⟩ := List.mem_map.1 hy
        unfold countN
        rw [List.countP_eq_zero]
        intro e he h9
        exact hc ⟨d, hd, e, he, by simpa using h9⟩
      omega
    obtain ⟨d, hd, e, he, rfl⟩ := h6
    obtain ⟨n', hn', hup⟩ := iv.there d hd e he
    have : n' = n := by rw [hn] at hn'; exact (Option.some.inj hn').symm
    subst this
    have hu : upS S.l e.n = d.ino := by unfold upS; rw [getS_some hn]; exact (hup hkn).2
    rw [hu] at hin
    have hd2 : namesS S.l d.ino = d.names := by unfold namesS; rw [getS_some (atS_of_mem iv.asc hd)]
    exact h.done d.ino (by rw [List.take_length]; exact hin) e (by rw [hd2]; exact he) hx.2.1
theorem asc_nodup {l : List Nod} (h : AscS l) : (l.map Nod.ino).Pairwise (· ≠ ·) := by
  rw [List.pairwise_map]
  exact List.Pairwise.imp (fun hab => by omega) h
theorem Bf.end_ {S : Stt} (iv : Inv S) {F : List Int} (h : Bf S F.length 0 F) : F.length = dirsN S.l := by
  have hd : dirsN S.l = ((S.l.filter (fun n => decide (n.kind = 2))).map Nod.ino).length := by
    unfold dirsN
    rw [List.length_map, List.countP_eq_length_filter]
  rw [hd]
  have hm : ∀ x, x ∈ (S.l.filter (fun n => decide (n.kind = 2))).map Nod.ino ↔ kindS S.l x = 2 := fun x => by
    rw [List.mem_map]
    constructor
    · rintro ⟨n, hn, rfl⟩
      rw [List.mem_filter] at hn
      rw [kind_some (atS_of_mem iv.asc hn.1)]
      simpa using hn.2
    · intro hk
      obtain ⟨n, hn, _⟩ := at_of_kind (l := S.l) (i := x) (by rw [hk]; decide)
      exact ⟨n, List.mem_filter.2 ⟨atS_mem hn, by rw [← kind_some hn]; simpa using hk⟩, atS_ino hn⟩
  apply Nat.le_antisymm
  · exact nodup_len _ _ h.nd (fun x hx => (hm x).2 (h.kind x hx))
  · refine nodup_len _ _ ?_ (fun x hx => ?_)
    · exact List.Pairwise.sublist (List.filter_sublist.map _) (asc_nodup iv.asc)
    · obtain ⟨k, hk⟩ := iv.reach x ((hm x).1 hx)
      exact h.all iv hk
end Go.Proofs.YtamndllolppmoaaGreatDoor

/-! The project's rightRefs: no reference twice. -/
namespace Go.Proofs.YtamndllolppmoaaGreatDoor
open Wd Ino Sm U Go.RowKit Go.ChangeShapes Go.WideShapes Go.Sort
set_option linter.unusedVariables false
set_option maxRecDepth 100000
theorem sort_ints {w : World} {base : Nat} {v : Value} {l : List Int} (h : OwnI w base v l) (hl : l.length ≤ 1000000) : Calls Tryz.prog 85 #[v] w fun e w' => e = .returned (.tuple #[]) ∧ OwnI w' base v (l.mergeSort leI) ∧ w.grownBy w' v.ownBlock := by
  rcases h.2 with ⟨rfl, h0⟩ | ⟨g, cap, cur, rfl, hb, hh, h1, h2, h3, ht⟩
  · obtain rfl : l = [] := List.eq_nil_of_length_eq_zero h0
    refine (AnyM.slices_Sort_int_none Tryz.sortA none 0 w).mono ?_
    rintro e w' ⟨rfl, rfl⟩
    exact ⟨rfl, by rw [List.mergeSort_nil]; exact OwnI.nil _ _, World.grownBy.refl _ _⟩
  · have hH : Holds (Value.int .i64) w g 0 l.toArray := holds_of_blockI hh (by rw [Nat.mul_one] at ht; exact ht)
    refine (AnyM.slices_Sort_int Tryz.sortA g 0 cap l w hH (show Cells w g _ cur from hh).lt (by omega)).mono ?_
    rintro e w' ⟨rfl, n, os, rfl⟩
    refine ⟨rfl, ?_, grownBy_sortedI _⟩
    have := ownsRow_sortedI (w := w) (n := n) (os := os) (ss := l) (ts := l.mergeSort leI) (by rw [List.length_mergeSort]) hb hh h1 h2 h3
    unfold OwnI
    rw [List.length_mergeSort]
    exact this
section
variable {w : World} {base m g b : Nat} {S : Stt}
def RrRel (n : Nat) (w : World) (i : Value) (wr : World) : Prop := ∃ k : Nat, k ≤ n ∧ i = .int .i64 k ∧ wr = w
set_option maxHeartbeats 4000000 in
theorem pRightRefs (h : PSt w base m g b S) (ha : AscS S.l) (hs : SmS S.l) (hl : S.l.length ≤ 1000) (hm : m < 999900) (hap : (refsS S.l).Nodup) : Calls Tryz.prog 49 #[SPtr g] w (RetB w true) := by
  have KR := Lib.hid ((callsIn_wide (n := 3)).1 (pRefs_in 3 (Nat.le_refl _) h ha hs hl hm))
  have hlen : (refsS S.l).length ≤ 1000000 := by
    have h1 := flat_len_le (B := 1000) (f := fun n : Nod => refsP n.pages) S.l (fun n hn => Nat.le_trans (refs_len _) (hs n hn).p)
    have h2 : S.l.length * 1000 ≤ 1000 * 1000 := Nat.mul_le_mul_right _ hl
    unfold refsS; omega
  have HLE := Lib.hid hlen; have HAP := Lib.hid hap
  clear h ha hs hl hm hap hlen
  unfold SPtr at *
  go_enter Tryz.func49, Tryz.ntmps49
  go_wp2_with fail
  refine (KR.out).mono ?_
  rintro e w2 ⟨v, rfl, ho, hb2⟩
  have KS := Lib.hid (sort_ints ho HLE.out)
  obtain ⟨A, c, rfl, _⟩ := ho.row
  have HB2 := Lib.hid hb2; have HO := Lib.hid ho
  clear hb2 ho KR
  go_wp2_with fail
  refine (KS.out).mono ?_
  rintro e w3 ⟨rfl, ho3, hg3⟩
  have HB3 := Lib.hid (HB2.out.grown hg3 HB2.out.size (fun q hq => own_base HO.out q hq))
  have hrise := rise_srt HAP.out
  obtain ⟨R, hR⟩ : ∃ R, (refsS S.l).mergeSort leI = R := ⟨_, rfl⟩
  have hRl : (refsS S.l).length = R.length := by rw [← hR, List.length_mergeSort]
  rw [hR] at ho3 hrise
  rw [hRl]
  obtain ⟨A1, c1, hv1, hrow⟩ := ho3.row
  injection hv1 with hv1 _ hv3
  subst hv1 hv3
  have hrl : R.length ≤ 1000000 := by rw [← hRl]; exact HLE.out
  have HROW := Lib.hid hrow; have HRISE := Lib.hid hrise
  clear ho3 hg3 hR hRl hrow hrise KS HLE
  go_wp2_with fail
  go_loopw [12] (fun i wr => RrRel R.length w3 i wr) (fun i _ => R.length - (intOf i).toNat)
  case atStart => exact ⟨0, Nat.zero_le _, rfl, rfl⟩
  case round =>
    obtain ⟨k, hk, rfl, rfl⟩ := hrel
    by_cases hlt : k < R.length
    · have hlt2 : (k : Int) < (R.length : Int) := Int.ofNat_lt.2 hlt
      obtain ⟨b1, o1, x, hA, hbb, hx, cx⟩ := getI HROW.out hlt
      have HLT := Lib.hid hlt
      by_cases h0 : k = 0
      · have q2 : decide ((k : Int) > 0) = false := decide_eq_false (by omega)
        have q2n : decide (0 < k) = false := decide_eq_false (by omega)
        have q2m : ¬ 0 < k := by omega
        have H0 := Lib.hid h0
        subst hA
        clear hk hlt hx h0
        go_wp2
        go_roundw
        case rel => exact ⟨k + 1, HLT.out, by go_num, rfl⟩
        case measure => simp [intOf]; have := HLT.out; omega
      · obtain ⟨j, rfl⟩ : ∃ j, k = j + 1 := ⟨k - 1, by omega⟩
        obtain ⟨b2, o2, y, hA2, _, hy, cy⟩ := getI HROW.out (k := j) (by omega)
        subst hA
        injection hA2 with hA2
        injection hA2 with hb hoo
        subst hb hoo
        have hxy : y < x := by
          have h9 := List.pairwise_iff_getElem.1 HRISE.out j (j + 1) (List.getElem?_eq_some_iff.1 hy).1 (List.getElem?_eq_some_iff.1 hx).1 (by omega)
          rw [(List.getElem?_eq_some_iff.1 hy).2, (List.getElem?_eq_some_iff.1 hx).2] at h9
          exact h9
        have q1 : (x == y) = false := by rw [beq_eq_false_iff_ne]; omega
        have q2 : decide (((j + 1 : Nat) : Int) > 0) = true := decide_eq_true (by omega)
        have q3 : wrap64 (((j + 1 : Nat) : Int) - 1) = (j : Int) := by unfold wrap64; omega
        have q4 : IntKind.i64.wrap (((j + 1 : Nat) : Int) - 1) = (j : Int) := by rw [IntKind.wrap_i64]; omega
        have q5 : (j : Int) < (R.length : Int) := by omega
        clear hk hlt hx hy hxy h0
        obtain ⟨N, hN⟩ : ∃ N : Nat, j + 1 = N := ⟨_, rfl⟩
        rw [hN] at q2 q3 q4 cx hlt2 ⊢
        have HN := Lib.hid hN
        clear hN
        have q6 : decide (0 < N) = true := decide_eq_true (by have := HN.out; omega)
        have q7 : 0 < N := by have := HN.out; omega
        go_wp2
        go_roundw
        case rel => exact ⟨N + 1, by have := HLT.out; have := HN.out; omega, by go_num, rfl⟩
        case measure => simp [intOf]; have := HLT.out; have := HN.out; omega
    · obtain rfl : k = R.length := by omega
      clear hk hlt
      go_wp2
      go_ret
      exact ⟨rfl, HB3.out⟩
end
end Go.Proofs.YtamndllolppmoaaGreatDoor

/-! The project's mayStand and rightNodes. -/
namespace Go.Proofs.YtamndllolppmoaaGreatDoor
open Wd Ino Sm U Go.RowKit Go.ChangeShapes Go.WideShapes Go.Sort
set_option linter.unusedVariables false
set_option maxRecDepth 100000
section
variable {w : World} {base m g b : Nat} {S : Stt}
def mayS (l : List Nod) (d i : Int) : Bool := decide (kindS l i = 1) || (decide (kindS l i = 2) && (!decide (i = 1) && decide (upS l i = d)))
theorem pMayStand (h : PSt w base m g b S) (d i : Int) (hi : i64R i) : Calls Tryz.prog 83 #[SPtr g, .int .i64 d, .int .i64 i] w (Grows (.bool (mayS S.l d i)) w) := by
  obtain ⟨n, hn, ho, lk⟩ := h.look hi
  have hU : upS S.l i = n.up := by unfold upS; rw [← hn]; rfl
  have KI1 := Lib.hid (pIs h i 1 hi)
  have KI2 := Lib.hid (fun wx (hb : Below w.heap.size w wx) => pIs (h.below hb) i 2 hi)
  have LK := Lib.hid lk
  have HC := Lib.hid h
  unfold mayS
  rw [hU]
  obtain ⟨K1, hK1⟩ : ∃ q, decide (kindS S.l i = 1) = q := ⟨_, rfl⟩
  obtain ⟨K2, hK2⟩ : ∃ q, decide (kindS S.l i = 2) = q := ⟨_, rfl⟩
  rw [hK1] at KI1 ⊢
  rw [hK2] at KI2 ⊢
  obtain ⟨j, ki, l, t, u, A, ac, P, B, bc, N⟩ := n
  unfold Nd.val at LK
  dsimp only at LK ⊢
  clear h lk ho hn hU hK1 hK2
  unfold SPtr at *
  go_enter Tryz.func83, Tryz.ntmps83
  go_wp2_with fail
  refine (KI1.out).mono ?_
  rintro e w1 ⟨rfl, hw1⟩
  have HB1 := Lib.hid (grown_b hw1); have HG1 := Lib.hid hw1
  cases K1 with
  | true =>
    clear hw1
    go_wp2
    go_ret
    exact ⟨rfl, HG1.out⟩
  | false =>
    clear hw1
    go_wp2_with fail
    refine (KI2.out _ HB1.out).mono ?_
    rintro e w2 ⟨rfl, hw2⟩
    have HG2 := Lib.hid (grow_trans HG1.out hw2)
    clear hw2
    cases K2 with
    | false =>
      go_wp2
      go_ret
      exact ⟨rfl, HG2.out⟩
    | true =>
      by_cases e1 : i = 1
      · have q2 : (i != 1) = false := by simpa using e1
        have Q1 := Lib.hid (decide_eq_true e1)
        clear e1
        go_wp2
        go_ret
        exact ⟨by rw [Q1.out]; rfl, HG2.out⟩
      · have q2 : (i != 1) = true := by simpa using e1
        have Q1 := Lib.hid (decide_eq_false e1)
        have hb := grown_b HG2.out
        have c0 := (HC.out.below hb).c0
        have lk0 := LK.out _ (hb.block b HC.out.blt)
        have q3 : decide (u = d) = (u == d) := by by_cases hh : u = d <;> simp [hh]
        have Q3 := Lib.hid q3
        clear e1 hb q3
        go_wp2
        go_ret
        exact ⟨by rw [Q1.out, Q3.out]; rfl, HG2.out⟩
end
end Go.Proofs.YtamndllolppmoaaGreatDoor
namespace Go.Proofs.YtamndllolppmoaaGreatDoor
open Wd Ino Sm U Go.RowKit Go.ChangeShapes Go.WideShapes Go.Shelf
set_option linter.unusedVariables false
attribute [local go_sem] Oper.semAt_some
set_option maxRecDepth 100000
section
variable {w : World} {base m g b : Nat} {S : Stt}
set_option maxHeartbeats 8000000 in
theorem pRightNodes_in (n0 : Nat) (hn : 3 ≤ n0) (h : PSt w base m g b S) (iv : Inv S) {k0 : Nat} (nm : Num k0 S) (hk0 : k0 ≤ 900) (hm : m < 999900) : CallsIn Fence.wide n0 Tryz.prog 46 #[SPtr g] w fun e w' => e = .returned (.bool true) ∧ Below w.heap.size w w' := by
  have h1 : 1 ≤ n0 := by omega
  have hs := iv.smN nm hk0
  have KO := Lib.hid (fun wx (hb : Below w.heap.size w wx) => pInOrder h hb iv.asc hs (by have := nm.len; omega) hm)
  have HH := Lib.hid h; have HSM := Lib.hid hs; have IV := Lib.hid iv
  obtain ⟨w1, hw1⟩ : ∃ w1, (w.alloc (.cells #[SPtr g] 25)).alloc (.cells #[.bool false] 4) = w1 := ⟨_, rfl⟩
  have hbe : Below w.heap.size w (w.alloc (.cells #[SPtr g] 25)) := below_of_grown (World.grownBy_alloc w _ none)
  have hb1 : Below w.heap.size w w1 := by rw [← hw1]; exact hbe.alloc (by simp) _
  have hs1 : w1.heap.size = w.heap.size + 2 := by rw [← hw1]; simp
  have hcs : Cells w1 w.heap.size 25 #[SPtr g] := by rw [← hw1]; exact (Cells.new _ _ _).alloc _
  have hcr : Cells w1 (w.heap.size + 1) 4 #[.bool false] := by rw [← hw1]; have := Cells.new (w.alloc (.cells #[SPtr g] 25)) 4 #[.bool false]; simpa using this
  have HB1 := Lib.hid hb1; have HS1 := Lib.hid hs1; have HW1 := Lib.hid hw1
  have KO1 := Lib.hid (KO.out _ hb1)
  rw [← hw1] at KO1
  unfold SPtr at *
  clear hs1 hw1 hbe
  refine callsIn_of_wp_marks Tryz.func46 rfl trivial ?_ rfl
  simp only [Tryz.ntmps46, List.size_toArray, List.length_cons, List.length_nil, Nat.reduceAdd, Nat.reduceSub, Array.replicate_succ, Array.replicate_zero, List.push_toArray, List.append_toArray, List.nil_append, List.cons_append]
  gi_wp2_with (refine ⟨trivial, ?_⟩; gi_at_call 51; refine (callsIn_wide.2 KO1.out).mono ?_; rintro e w2 ⟨q, Lk, v, rfl, hor, hb2⟩)
  rw [HW1.out] at hor hb2
  obtain ⟨hq, hcq, hro, hon, hpl⟩ := hor
  obtain ⟨A, c, rfl, hE, hA, hAb⟩ := row_hi (n := 0) hro
  have hs1 := HS1.out
  have hB2 : Below w.heap.size w w2 := hb1.trans (hb2.mono hb1.size)
  have hlen : Lk.length ≤ 1000 := by have := congrArg List.length hpl; rw [List.length_map] at this; have := nm.len; omega
  have hqc := hcq.cell 0
  simp only [List.getElem?_toArray, List.getElem?_cons_zero] at hqc
  have hcs2 := hcs.below' hb2
  have hcr2 := hcr.below' hb2
  have HA := Lib.hid hA; have HQ := Lib.hid hcq.lt; have HB2 := Lib.hid hB2; have HON := Lib.hid hon; have HPL := Lib.hid hpl
  have hinv : ∀ n ∈ Lk, Nd.plain n ∈ S.l := fun n hn => by rw [← hpl]; exact List.mem_map_of_mem hn
  have HINV := Lib.hid hinv
  clear KO1 hinv
  refine wp_inOrder (L := Lk) (q := q) (cap := c) (A := A) hn rfl rfl hqc hcq.lt hA hE hlen
    (fun pre W => Cells W w.heap.size 25 #[.pointer (some ⟨g, 0, none⟩)] ∧ Cells W (w.heap.size + 1) 4 #[.bool false] ∧ Below w.heap.size w W ∧ w2.heap.size ≤ W.heap.size)
    (OwnFrom.and (own_box _ _ _ (fun _ => #[.pointer (some ⟨g, 0, none⟩)])) (OwnFrom.and (own_box _ _ _ (fun _ => #[.bool false])) (OwnFrom.and (ownFrom_below (Nat.le_refl _) hB2.size) (fun s X Y row hs hg hr => Nat.le_trans hs hg.size))))
    ⟨hcs2, hcr2, hB2, Nat.le_refl _⟩
    (fun x a' W => ∃ Bx, w2.heap.size ≤ Bx ∧ Cells W Bx 38 (ndc x.1) ∧ a' = { tmps := #[.pointer (some ⟨g, 0, none⟩), .pointer (some ⟨w.heap.size, 0, none⟩), .pointer (some ⟨w.heap.size + 1, 0, none⟩), .int .i64 x.1.ino, .pointer (some ⟨Bx, 0, none⟩), .pointer (some ⟨g, 0, none⟩), .func (.func 89) #[] #[.pointer (some ⟨q, 0, none⟩)], .int .i64 x.1.ino, x.1.val, undef, undef, undef, undef, undef, undef, undef, undef, undef, undef, undef, undef, undef, undef, undef, undef, undef, undef, undef], defers := [] })
    (fun x a' _ X Y row hs hg hr => by obtain ⟨Bx, g1, g2, g3⟩ := hs; exact ⟨Bx, g1, (grownBy_keeps_cells hg (fun r e => (hr r e).2) g2 rfl).trans g2, g3⟩)
    ?assign ?body ?done
  case assign =>
    rintro lp pre ⟨⟨J, ki, l, t, u, A0, ac, P, B0, bc, N⟩, hx⟩ W K ⟨g0, g1, hB, hsz⟩ hK
    have hK' := hK { tmps := #[.pointer (some ⟨g, 0, none⟩), .pointer (some ⟨w.heap.size, 0, none⟩), .pointer (some ⟨w.heap.size + 1, 0, none⟩), .int .i64 J, .pointer (some ⟨W.heap.size, 0, none⟩), .pointer (some ⟨g, 0, none⟩), .func (.func 89) #[] #[.pointer (some ⟨q, 0, none⟩)], .int .i64 J, Nd.val ⟨J, ki, l, t, u, A0, ac, P, B0, bc, N⟩, undef, undef, undef, undef, undef, undef, undef, undef, undef, undef, undef, undef, undef, undef, undef, undef, undef, undef, undef], defers := [] } (W.alloc (.cells (ndc ⟨J, ki, l, t, u, A0, ac, P, B0, bc, N⟩) 38)) ((KeepsOthers.alloc _ _).from _)
      (Kq.grow (below_of_grown (World.grownBy_alloc W _ none)) (Nat.lt_of_lt_of_le HQ.out hsz) (fun b off e => Nat.lt_of_lt_of_le (HA.out b off e) hsz)) ⟨g0.alloc _, g1.alloc _, hB.alloc hB.size _, Nat.le_trans hsz (by simp)⟩ ⟨W.heap.size, hsz, Cells.new _ _ _, rfl⟩
    unfold Nd.val ndc ncells at hK'
    unfold Nd.val
    dsimp only at hK' ⊢
    clear hK
    gi_wp2
    exact hK'
  case body =>
    rintro lp pre ⟨⟨J, ki, l, t, u, A0, ac, P, B0, bc, N⟩, hx⟩ a' W hl9 ⟨g0, g1, hB, hsz⟩ ⟨Bx, hBx, cX, rfl⟩ hlt
    unfold ndc at cX
    dsimp only at cX
    have hmem := HINV.out _ hx
    have hsm := HSM.out _ hmem
    have how := (HON.out _ hx).below hB
    have h1' : 1 ≤ n0 - 1 - 1 := by omega
    have hrt : rightB J ki l t u P.length N.length = true := IV.out.right _ hmem
    have hrn : decide (RightN N) = true := decide_eq_true (IV.out.names _ hmem)
    have hle : J ≤ S.last := IV.out.last _ hmem
    have KR := Lib.hid (iRight J ki l t u A0 B0 P.length ac N.length bc hsm.size W)
    rw [hrt] at KR
    have KD := Lib.hid (fun wx (hb : Below W.heap.size W wx) => dRight (c := bc) ((how.below hb).ens.2) (Nat.le_refl _) (Nat.le_trans hsm.q (by decide)) hsm.sz)
    dsimp only at KD
    rw [hrn] at KD
    obtain ⟨z0, z1, z2, z3, z4, z5, z6⟩ := cells7 cX
    have q9 : decide (J > S.last) = false := decide_eq_false (by omega)
    have CX := Lib.hid cX; have G0 := Lib.hid g0; have G1 := Lib.hid g1; have HB := Lib.hid hB; have HSZ := Lib.hid hsz
    unfold nv at KR
    unfold Nd.val
    dsimp only
    clear hmem hsm how hrt hrn g0 g1 hB hsz cX
    gi_wp2_with (first
      | (refine ⟨trivial, ?_⟩; gi_at_call 81; refine (CallsIn.inRound lp (callsIn_wide.2 KR.out)).mono ?_; rintro e w6 ⟨rfl, hw6⟩; have HB6 := Lib.hid (grown_b hw6); obtain ⟨v0, v1, v2, v3, v4, v5, v6⟩ := cells7 (CX.out.below' (grown_b hw6)); clear hw6)
      | (refine ⟨trivial, ?_⟩; gi_at_call 82; refine (CallsIn.inRound lp (callsIn_wide.2 (KD.out _ HB6.out))).mono ?_; rintro e w7 ⟨rfl, hw7⟩; have HB7 := Lib.hid (HB6.out.trans ((grown_b hw7).mono HB6.out.size)); have s0 := (G0.out.below' HB7.out).cell 0; have s1 := (HH.out.below (HB.out.trans (HB7.out.mono HB.out.size))).c1; simp only [List.getElem?_toArray, List.getElem?_cons_zero] at s0; clear hw7))
    exact ⟨KeepsFrom.of_grownBy (grown_of_below HB7.out none) (fun j e => by cases e), Kq.grow HB7.out (Nat.lt_of_lt_of_le HQ.out HSZ.out) (fun b off e => Nat.lt_of_lt_of_le (HA.out b off e) HSZ.out), G0.out.below' HB7.out, G1.out.below' HB7.out, HB.out.trans (HB7.out.mono HB.out.size), Nat.le_trans HSZ.out HB7.out.size⟩
  case done =>
    rintro D ys W hD hys ⟨g0, g1, hB, hsz⟩ hK
    have c0 := g0.cell 0
    simp only [List.getElem?_toArray, List.getElem?_cons_zero] at c0
    have KI := Lib.hid (pIs (HH.out.below hB) 1 2 (by unfold i64R; omega))
    have hk2 : decide (kindS S.l 1 = 2) = true := by
      obtain ⟨r, hr, hrk⟩ := IV.out.root
      exact decide_eq_true (by rw [kind_some hr]; exact hrk)
    rw [hk2] at KI
    unfold SPtr at KI
    have G1 := Lib.hid g1; have HB := Lib.hid hB; have HKD := Lib.hid hK; have HD := Lib.hid hD; have HSZ := Lib.hid hsz
    clear g0 g1 hB hK hk2 hsz
    gi_wp2_with (refine ⟨trivial, ?_⟩; gi_at_call 34; refine (callsIn_wide.2 KI.out).mono ?_; rintro e w6 ⟨rfl, hw6⟩; have HB6 := Lib.hid (grown_b hw6); have hc6 := G1.out.below' (grown_b hw6); have HC6 := Lib.hid hc6; have f6 := hc6.free 0; have r6 := hc6.cell 0; simp only [List.getElem?_toArray, List.getElem?_cons_zero] at r6; clear hw6 hc6)
    have hDl : D < W.heap.size := (Array.getElem?_eq_some_iff.1 HKD.out).1
    have hK' := (KeepsOthers.setCell w6 ⟨w.heap.size + 1, 0, none⟩ (.bool true)).same D _ ((HB6.out.block D hDl).trans HKD.out) rfl
    refine ⟨by simp, .inl ⟨_, _, rfl, run_takeDeferred hK', ?_⟩⟩
    have hR2 : Cells (w6.setCell ⟨w.heap.size + 1, 0, none⟩ (.bool true)) (w.heap.size + 1) 4 #[.bool true] := HC6.out.set 0 (.bool true)
    have hR3 := (grownBy_keeps_cells (grownBy_putObj' _ D (.deferred none)) (fun r e => by cases e; exact ⟨_, hK', rfl⟩) hR2 rfl).trans hR2
    have cR3 := Cells.cell hR3 0
    simp at cR3
    refine ⟨.bool true, ?_, rfl, ((HB.out.trans (HB6.out.mono HB.out.size)).setCell (p := ⟨w.heap.size + 1, 0, none⟩) (by simp) _).trans (belowK_b (w := w) (Nat.le_refl _) _ D _ _ (by have := HB2.out.size; have := HD.out; omega) hK' rfl rfl)⟩
    simp [results, Tryz.f46, go_sem, cR3]
end
end Go.Proofs.YtamndllolppmoaaGreatDoor

/-! The project's rightWays. -/
namespace Go.Proofs.YtamndllolppmoaaGreatDoor
open Wd Ino Sm U Go.RowKit Go.ChangeShapes Go.WideShapes Go.Shelf Go.Sort
set_option linter.unusedVariables false
set_option maxRecDepth 100000
def RyRel (S : Stt) (w : World) (f i : Value) (wr : World) : Prop := ∃ (F : List Int) (k : Nat), k ≤ F.length ∧ i = .int .i64 k ∧ Bf S k 0 F ∧ OwnI wr w.heap.size f F ∧ Below w.heap.size w wr
def RxRel (S : Stt) (w wo : World) (i : Nat) (d : Int) (N : List Ent) (f j : Value) (wr : World) : Prop := ∃ (F : List Int) (k : Nat), k ≤ N.length ∧ j = .int .i64 k ∧ F[i]? = some d ∧ Bf S i k F ∧ OwnI wr w.heap.size f F ∧ Below w.heap.size w wr
section
variable {w : World} {base m g b : Nat} {S : Stt}
set_option maxHeartbeats 16000000 in
theorem pRightWays (h : PSt w base m g b S) (iv : Inv S) {k0 : Nat} (nm : Num k0 S) (hk0 : k0 ≤ 900) (hm : m < 999900) : Calls Tryz.prog 48 #[SPtr g] w fun e w' => e = .returned (.bool true) ∧ Below w.heap.size w w' := by
  have hs := iv.smN nm hk0
  have hl : S.l.length ≤ 1000 := by have := nm.len; omega
  have KD := Lib.hid (fun wx (hb : Below w.heap.size w wx) => (callsIn_wide (n := 3)).1 (pDirs_in 3 (Nat.le_refl _) (h.below hb) iv.asc hs hl hm))
  have HH := Lib.hid h; have HSM := Lib.hid hs; have IV := Lib.hid iv; have HL := Lib.hid hl
  have H1 := Lib.hid (Bf.start iv)
  have HC0 := Lib.hid h.c0
  clear h iv nm hs hl
  unfold SPtr at *
  go_enter Tryz.func48, Tryz.ntmps48
  have HOW := Lib.hid (show OwnI (w.alloc (.cells #[.int .i64 1] 3)) w.heap.size (.slice (some ⟨w.heap.size, 0, none⟩) 1 1) [1] from ⟨rfl, Or.inr ⟨w.heap.size, 1, #[.int .i64 1], rfl, Nat.le_refl _, Cells.new _ _ _, Nat.le_refl _, by unfold maxLen; omega, rfl, rfl⟩⟩)
  have HB0 := Lib.hid (show Below w.heap.size w (w.alloc (.cells #[.int .i64 1] 3)) from below_of_grown (World.grownBy_alloc w _ none))
  go_wp2
  go_loopw [3, 4] (fun f i wr => RyRel S w f i wr) (fun f i _ => S.l.length - (intOf i).toNat)
  case atStart => exact ⟨[1], 0, by decide, rfl, H1.out, HOW.out, HB0.out⟩
  case round =>
    obtain ⟨F, k, hk, rfl, hbf, how, hB⟩ := hrel
    obtain ⟨wo, rfl⟩ : ∃ wo : World, wo = wr := ⟨_, rfl⟩
    have hFl := hbf.len
    obtain ⟨A, c, rfl, hrow⟩ := how.row
    have c0 := (HH.out.below hB).c0
    have HB := Lib.hid hB; have HOW2 := Lib.hid how; have HFL := Lib.hid hFl
    by_cases hlt : k < F.length
    · obtain ⟨b1, o1, d, rfl, hb1, hd, cx⟩ := getI hrow hlt
      have hlt2 : (k : Int) < (F.length : Int) := Int.ofNat_lt.2 hlt
      have hkd := hbf.kind d (List.mem_of_getElem? hd)
      obtain ⟨nd, hnd, hndm, hndi, hns⟩ := names_of hkd
      have hdi : i64R d := by rw [← hndi]; exact (HSM.out _ hndm).ino
      obtain ⟨n, hn, ho, lk⟩ := HH.out.look hdi
      have lk0 := lk wo (hB.block b HH.out.blt)
      have lk1 := lk wo.drew (hB.block b HH.out.blt)
      have hN : namesS S.l d = n.names := by unfold namesS; rw [← hn]; rfl
      have hmem : n.plain = nd := by rw [hn]; exact getS_some hnd
      obtain ⟨J, ki, l, t, u, A0, ac, P, B0, bc, N⟩ := n
      have HSMN := Lib.hid (HSM.out _ hndm)
      have HMEM := Lib.hid hmem
      have hNl : N.length ≤ 1000 := by have := Nat.le_trans (HSM.out _ hndm).q (show _ ≤ 1000 by decide); rw [← hmem] at this; exact this
      have hkb : k ≤ 1000 := by have := HL.out; omega
      have HO := Lib.hid ho; have HN := Lib.hid hN; have HD := Lib.hid hd; have HBF := Lib.hid hbf; have HLT := Lib.hid hlt
      unfold Nd.val at lk0 lk1
      dsimp only at lk0 lk1
      clear hB how hFl hrow hlt hd hkd hnd hndm hndi hns hdi hn ho lk hN hmem hbf hk
      go_wp2
      go_region
      go_wp2
      go_loopw [3, 25] (fun f j wr => RxRel S w wo k d N f j wr) (fun f j _ => N.length - (intOf j).toNat)
      case atStart => exact ⟨F, 0, Nat.zero_le _, rfl, HD.out, HBF.out, own_below HOW2.out (below_drewN (Below.refl _ _) 1), below_drewN HB.out 1⟩
      case round =>
        obtain ⟨F2, j, hj, rfl, hd2, hbf2, how2, hB2⟩ := hrel
        have hF2 := hbf2.len
        by_cases hjl : j < N.length
        · obtain ⟨e, he⟩ : ∃ e, N[j]? = some e := ⟨_, List.getElem?_eq_getElem hjl⟩
          have hon := (HO.out.below hB2).ens.2
          obtain ⟨b2, o2, hA2, hbb, x0, x1⟩ := ens_cells hon he
          dsimp only at hA2 x0 x1
          have hjl2 : (j : Int) < (N.length : Int) := Int.ofNat_lt.2 hjl
          have hxi : i64R e.n := by have := HSMN.out.nm; rw [← HMEM.out] at this; exact this e (List.mem_of_getElem? he)
          have hen : (namesS S.l d)[j]? = some e := by rw [HN.out]; exact he
          have KI := Lib.hid (fun wx (hb : Below wr.heap.size wr wx) => pIs (HH.out.below (hB2.trans (hb.mono hB2.size))) e.n 2 hxi)
          have hC := Cells.new wr 97 #[.string e.s, .int .i64 e.n]
          have hbA : Below wr.heap.size wr (wr.alloc (.cells #[.string e.s, .int .i64 e.n] 97)) := below_of_grown (World.grownBy_alloc wr _ none)
          have HC := Lib.hid hC; have HBA := Lib.hid hbA; have HEN := Lib.hid hen; have HJL := Lib.hid hjl
          have HOW3 := Lib.hid how2; have HBF2 := Lib.hid hbf2; have HB2 := Lib.hid hB2; have HD2 := Lib.hid hd2; have HF2 := Lib.hid hF2
          subst hA2
          unfold SPtr at KI
          by_cases hkk : kindS S.l e.n = 2
          · rw [decide_eq_true hkk] at KI
            have HBN := Lib.hid (hbf2.new IV.out hd2 hen hkk)
            clear hC hbA hen hjl how2 hbf2 hB2 hd2 hF2 he hj hbb hon hkk hxi
            go_wp2_with fail
            refine (KI.out _ HBA.out).mono ?_
            rintro e' w3 ⟨rfl, hw3⟩
            have hb3 : Below wr.heap.size wr w3 := HBA.out.trans ((grown_b hw3).mono HBA.out.size)
            have hc3 := (HC.out.below' (grown_b hw3)).cell 1
            simp only [List.getElem?_toArray, List.getElem?_cons_zero, List.getElem?_cons_succ] at hc3
            obtain ⟨A3, c3, rfl, _⟩ := HOW3.out.row
            have HO2 := Lib.hid (show (w3.alloc (.cells #[.int .i64 e.n] 3)).ownsRow w.heap.size 3 1 (.slice A3 F2.length c3) F2.length (F2.map iv) from own_below HOW3.out (hb3.trans ((below_of_grown (World.grownBy_alloc w3 _ none)).mono hb3.size)))
            have HR2 := Lib.hid (Row.one w3 (.int .i64 e.n) 3)
            have hle2 : F2.length + 1 ≤ 1001 := by have := HF2.out; have := HL.out; omega
            have HB3 := Lib.hid (HB2.out.trans (hb3.mono HB2.out.size))
            have hz3 := HB3.out.size
            clear hw3 hb3
            go_wp2_with (at_builtin; refine wpList_append_row _ rfl (.tmp 33) (.tmp 36) 35 rfl w.heap.size 3 (.int .i64 0) 8 Tryz.underlying35 infoI rfl (.slice A3 F2.length c3) F2.length (F2.map iv) rfl HO2.out _ (some ⟨w3.heap.size, 0, none⟩) 1 1 [.int .i64 e.n] rfl HR2.out (by simp [Value.oneCell']) (by unfold maxLen; omega) (by omega) (by simp <;> omega) ?_; intro v5 w5 hown5 hgr5 hat5; have HO5 := Lib.hid hown5; have HB5 := Lib.hid ((HB3.out.alloc hz3 (.cells #[.int .i64 e.n] 3)).grown hgr5 (by simp <;> omega) (own_base HO2.out)); clear hown5 hgr5 hat5)
            go_roundw
            case rel => exact ⟨F2 ++ [e.n], j + 1, HJL.out, by go_num, by rw [List.getElem?_append_left (List.getElem?_eq_some_iff.1 HD2.out).1]; exact HD2.out, HBN.out, by unfold OwnI; rw [List.length_append, List.map_append]; exact HO5.out, HB5.out⟩
            case measure => simp [intOf]; have := HJL.out; omega
          · rw [decide_eq_false hkk] at KI
            have HBN := Lib.hid (hbf2.skip hd2 hen hkk)
            clear hC hbA hen hjl how2 hbf2 hB2 hd2 hF2 he hj hbb hon hkk hxi
            go_wp2_with fail
            refine (KI.out _ HBA.out).mono ?_
            rintro e' w3 ⟨rfl, hw3⟩
            have hb3 : Below wr.heap.size wr w3 := HBA.out.trans ((grown_b hw3).mono HBA.out.size)
            have HB3 := Lib.hid hb3
            clear hw3 hb3
            go_wp2
            go_roundw
            case rel => exact ⟨F2, j + 1, HJL.out, by go_num, HD2.out, HBN.out, own_below HOW3.out HB3.out, HB2.out.trans (HB3.out.mono HB2.out.size)⟩
            case measure => simp [intOf]; have := HJL.out; omega
        · obtain rfl : j = N.length := by omega
          have HBT := Lib.hid (Bf.turn IV.out hd2 (by rw [HN.out]; exact hbf2))
          have hkl := (List.getElem?_eq_some_iff.1 hd2).1
          have HKL := Lib.hid hkl; have HOW3 := Lib.hid how2; have HB2 := Lib.hid hB2; have HF2 := Lib.hid hF2
          clear hd2 hbf2 how2 hB2 hF2 hj hjl hkl
          go_wp2
          go_roundw
          case rel => exact ⟨F2, k + 1, HKL.out, by go_num, HBT.out, HOW3.out, HB2.out⟩
          case measure => simp [intOf]; have := HKL.out; have := HF2.out; omega
    · obtain rfl : k = F.length := by omega
      have HE := Lib.hid (Bf.end_ IV.out hbf)
      have KD2 := Lib.hid (KD.out wo hB)
      clear hB how hFl hrow hlt hbf hk
      go_wp2_with fail
      refine KD2.out.mono ?_
      rintro e' w3 ⟨rfl, hw3⟩
      have HB3 := Lib.hid (HB.out.trans (hw3.mono HB.out.size))
      have q1 : ((F.length : Int) == (dirsN S.l : Int)) = true := by rw [HE.out]; simp
      clear hw3
      go_wp2
      go_ret
      exact ⟨rfl, HB3.out⟩
end
end Go.Proofs.YtamndllolppmoaaGreatDoor
