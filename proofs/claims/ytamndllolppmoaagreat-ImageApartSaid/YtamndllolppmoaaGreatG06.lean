import Derived.Test.YtamndllolppmoaaGreatG00
import Derived.IntWalk
import Derived.Laws.Strings
import Derived.Test.YtamndllolppmoaaGreatG02
import Derived.Test.YtamndllolppmoaaGreatG05

namespace Go.Proofs.YtamndllolppmoaaGreat
open Wd Go.ChangeShapes Go.WideShapes Go.RowKit Go.Sort
set_option linter.unusedVariables false

/-- a byte that no name has -/
def badC (c : UInt8) : Bool := c == 47 || c == 0
/-- the error's number of a name -/
def plainN (l : List UInt8) : Int := if l.any badC then 22 else if 24 < l.length then 36 else 0
def nameN (l : List UInt8) : Int := if l = [] ∨ l = [46] ∨ l = [46, 46] then 22 else plainN l
def IntIs (v : Int) (w : World) (e : Ending) (w' : World) : Prop := e = .returned (.int .i64 v) ∧ w = w'

theorem size_list (s : ByteArray) : s.toList.length = s.size := by
  rw [ByteArray.toList_eq]; simp

def NameRel (s : ByteArray) (W : World) (i : Value) (w : World) : Prop := ∃ k : Nat, k ≤ s.size ∧ i = .int .i64 k ∧ (∀ c ∈ s.toList.take k, badC c = false) ∧ w = W

theorem name_odd (s : ByteArray) (w : World) (h : s.toList = [] ∨ s.toList = [46] ∨ s.toList = [46, 46]) : Calls Tryz.prog 104 #[.string s] w (IntIs 22 w) := by
  rcases h with h | h | h
  · have h1 : s.toList.isEmpty = true := by rw [h]; rfl
    go_enter Tryz.func104, Tryz.ntmps104
    go_wp2
    go_ret
    exact ⟨rfl, rfl⟩
  · have h1 : s.toList.isEmpty = false := by rw [h]; rfl
    have h2 : (s.toList == [46]) = true := by rw [h]; rfl
    clear h
    go_enter Tryz.func104, Tryz.ntmps104
    go_wp2
    go_ret
    exact ⟨rfl, rfl⟩
  · have h1 : s.toList.isEmpty = false := by rw [h]; rfl
    have h2 : (s.toList == [46]) = false := by rw [h]; rfl
    have h3 : (s.toList == [46, 46]) = true := by rw [h]; rfl
    clear h
    go_enter Tryz.func104, Tryz.ntmps104
    go_wp2
    go_ret
    exact ⟨rfl, rfl⟩

set_option maxHeartbeats 1000000 in
theorem name_plain (s : ByteArray) (w : World) (hs : s.size ≤ 1000) (h1 : s.toList.isEmpty = false) (h2 : (s.toList == [46]) = false) (h3 : (s.toList == [46, 46]) = false) : Calls Tryz.prog 104 #[.string s] w (IntIs (plainN s.toList) w) := by
  have hn : s.toList ≠ [] := by intro h; rw [h] at h1; cases h1
  go_enter Tryz.func104, Tryz.ntmps104
  go_wp2
  go_loopw [3] (fun i wr => NameRel s w i wr) (fun i _ => s.size - (intOf i).toNat)
  case atStart => exact ⟨0, Nat.zero_le _, rfl, by simp, rfl⟩
  case round =>
    obtain ⟨k, hk, rfl, hg, rfl⟩ := hrel
    have HG := Lib.hid hg
    clear hg
    by_cases hlt : k < s.size
    · have hl : k < s.toList.length := by rw [size_list]; exact hlt
      have hget : s.toList[k]? = some s[k] := by
        rw [List.getElem?_eq_getElem hl]
        congr 1
        simp [ByteArray.toList_eq]
        rfl
      have hmem : s[k] ∈ s.toList := List.mem_of_getElem? hget
      have ht : s.toList.take (k + 1) = s.toList.take k ++ [s[k]] := by rw [List.take_add_one, hget]; rfl
      by_cases hb : badC s[k] = true
      · have hany : s.toList.any badC = true := List.any_eq_true.2 ⟨_, hmem, hb⟩
        have HANY := Lib.hid (show plainN s.toList = 22 by unfold plainN; rw [if_pos hany])
        have hc : (s[k].toNat : Int) = 47 ∨ (s[k].toNat : Int) ≠ 47 ∧ (s[k].toNat : Int) = 0 := by
          unfold badC at hb
          simp only [Bool.or_eq_true, beq_iff_eq] at hb
          rcases hb with h | h
          · left; rw [h]; rfl
          · right; rw [h]; exact ⟨by decide, rfl⟩
        have HC := Lib.hid hc
        clear hany hb hget hmem ht hl hc
        rcases HC.out with hc | ⟨hc1, hc2⟩
        · have q1 : ((s[k].toNat : Int) == 47) = true := by simpa using hc
          clear hc
          go_wp2
          go_ret
          exact ⟨by rw [HANY.out]; rfl, rfl⟩
        · have q1 : ((s[k].toNat : Int) == 47) = false := by simpa using hc1
          have q2 : ((s[k].toNat : Int) == 0) = true := by simpa using hc2
          clear hc1 hc2
          go_wp2
          go_ret
          exact ⟨by rw [HANY.out]; rfl, rfl⟩
      · have hb' : badC s[k] = false := by simpa using hb
        have hq : ((s[k].toNat : Int) == 47) = false ∧ ((s[k].toNat : Int) == 0) = false := by
          unfold badC at hb'
          rw [Bool.or_eq_false_iff] at hb'
          refine ⟨?_, ?_⟩
          · rw [beq_eq_false_iff_ne]
            intro h
            have h47 : s[k].toNat = 47 := by omega
            have : s[k] = 47 := UInt8.toNat_inj.1 h47
            rw [this] at hb'
            exact absurd hb'.1 (by decide)
          · rw [beq_eq_false_iff_ne]
            intro h
            have h00 : s[k].toNat = 0 := by omega
            have : s[k] = 0 := UInt8.toNat_inj.1 h00
            rw [this] at hb'
            exact absurd hb'.2 (by decide)
        obtain ⟨q1, q2⟩ := hq
        have HT := Lib.hid ht; have HBB := Lib.hid hb'
        clear hb hb' hget hmem ht hl
        go_wp2
        go_roundw
        case rel =>
          refine ⟨k + 1, by omega, by go_num, ?_, rfl⟩
          rw [HT.out]
          intro c hc
          rcases List.mem_append.1 hc with h | h
          · exact HG.out c h
          · rw [List.mem_singleton.1 h]; exact HBB.out
        case measure => simp [intOf]; omega
    · obtain rfl : k = s.size := by omega
      have hany : ¬ s.toList.any badC = true := by
        intro h
        obtain ⟨c, hc, hb⟩ := List.any_eq_true.1 h
        have := HG.out c (by rw [List.take_of_length_le (by rw [size_list]; exact Nat.le_refl _)]; exact hc)
        rw [this] at hb; cases hb
      have hv : plainN s.toList = if 24 < s.size then 36 else 0 := by unfold plainN; rw [if_neg hany, size_list]
      have HV := Lib.hid hv
      clear hany hv
      by_cases h24 : 24 < s.size
      · go_wp2
        go_ret
        exact ⟨by rw [HV.out, if_pos h24]; rfl, rfl⟩
      · go_wp2
        go_ret
        exact ⟨by rw [HV.out, if_neg h24]; rfl, rfl⟩

theorem refName_any (s : ByteArray) (hs : s.size ≤ 1000) (w : World) : Calls Tryz.prog 104 #[.string s] w (IntIs (nameN s.toList) w) := by
  by_cases h : s.toList = [] ∨ s.toList = [46] ∨ s.toList = [46, 46]
  · have := name_odd s w h
    rwa [show nameN s.toList = 22 by unfold nameN; rw [if_pos h]]
  · have e : nameN s.toList = plainN s.toList := by unfold nameN; rw [if_neg h]
    rw [e]
    refine name_plain s w hs ?_ ?_ ?_
    · cases hl : s.toList with
      | nil => exact absurd (.inl hl) h
      | cons a t => rfl
    · rw [beq_eq_false_iff_ne]; exact fun h' => h (.inr (.inl h'))
    · rw [beq_eq_false_iff_ne]; exact fun h' => h (.inr (.inr h'))
end Go.Proofs.YtamndllolppmoaaGreat

namespace Ino
open Go
set_option linter.unusedVariables false
/-! names in a directory, plainly -/
def lessN (a b : ByteArray) : Bool := Op.bytesLess a.toList b.toList
def nameIs (s : ByteArray) (e : Ent) : Bool := e.s.toList == s.toList
def foreE (s : ByteArray) (e : Ent) : Bool := lessN s e.s
def hasN (s : ByteArray) (l : List Ent) : Bool := l.any (nameIs s)
def inoN (s : ByteArray) : List Ent → Int
  | [] => 0
  | e :: l => if nameIs s e then e.n else inoN s l
def lookN (s : ByteArray) (l : List Ent) : Nat := if hasN s l then l.findIdx (nameIs s) else l.findIdx (foreE s)
def putN (s : ByteArray) (n : Int) (l : List Ent) : List Ent := l.take (l.findIdx (foreE s)) ++ ⟨s, n⟩ :: l.drop (l.findIdx (foreE s))
def dropN (s : ByteArray) (l : List Ent) : List Ent := l.filter (fun e => !nameIs s e)
def okE (e : Ent) : Bool := decide (Go.Proofs.YtamndllolppmoaaGreat.nameN e.s.toList = 0) && (decide (1 ≤ e.n) && decide (e.n ≤ 1048576))
def RightN (l : List Ent) : Prop := (∀ e ∈ l, okE e = true) ∧ l.Pairwise (fun a b => lessN a.s b.s = true)
instance (l : List Ent) : Decidable (RightN l) := by unfold RightN; infer_instance
def countN (n : Int) (l : List Ent) : Nat := l.countP (fun e => decide (e.n = n))

theorem bytes_less : ∀ (x y : List UInt8), Op.bytesLess x y = decide (x < y)
  | [], [] => by simp [Op.bytesLess]
  | _ :: _, [] => by simp [Op.bytesLess]
  | [], _ :: _ => by simp [Op.bytesLess]
  | a :: x, b :: y => by
    rw [Op.bytesLess, bytes_less x y]
    simp only [List.cons_lt_cons_iff]
    by_cases h1 : a < b <;> by_cases h2 : a = b <;> by_cases h3 : x < y <;> simp [h1, h2, h3]
theorem lessN_iff {a b : ByteArray} : lessN a b = true ↔ a.toList < b.toList := by
  unfold lessN; rw [bytes_less]; exact decide_eq_true_iff
theorem lessN_trans {a b c : ByteArray} (h : lessN a b = true) (k : lessN b c = true) : lessN a c = true :=
  lessN_iff.2 (List.lt_trans (lessN_iff.1 h) (lessN_iff.1 k))
theorem lessN_irrefl (a : ByteArray) : lessN a a = false := by
  cases h : lessN a a with
  | false => rfl
  | true => exact absurd (lessN_iff.1 h) (List.lt_irrefl _)
theorem bytes_inj {a b : ByteArray} (h : a.toList = b.toList) : a = b := by
  rw [ByteArray.toList_eq, ByteArray.toList_eq] at h
  cases a with | mk x => cases b with | mk y => exact congrArg ByteArray.mk (Array.toList_inj.1 h)
theorem nameIs_iff {s : ByteArray} {e : Ent} : nameIs s e = true ↔ e.s = s := by
  unfold nameIs
  rw [beq_iff_eq]
  exact ⟨bytes_inj, fun h => by rw [h]⟩
theorem less_or {a b : ByteArray} (h : lessN a b = false) : b = a ∨ lessN b a = true := by
  have h1 : ¬ a.toList < b.toList := fun h2 => by rw [lessN_iff.2 h2] at h; cases h
  have h2 : b.toList ≤ a.toList := List.not_lt.1 h1
  by_cases h3 : b.toList < a.toList
  · exact .inr (lessN_iff.2 h3)
  · exact .inl (bytes_inj (List.le_antisymm h2 (List.not_lt.1 h3)))

theorem RightN.nil : RightN [] := ⟨fun e h => absurd h (List.not_mem_nil), List.Pairwise.nil⟩
theorem RightN.take {l : List Ent} (h : RightN l) (k : Nat) : RightN (l.take k) := ⟨fun e he => h.1 e (List.mem_of_mem_take he), h.2.take⟩
theorem RightN.snoc {l : List Ent} {e : Ent} (h : RightN l) (ho : okE e = true) (hl : ∀ d, l.getLast? = some d → lessN d.s e.s = true) : RightN (l ++ [e]) := by
  refine ⟨fun x hx => ?_, ?_⟩
  · rcases List.mem_append.1 hx with hx | hx
    · exact h.1 x hx
    · rw [List.mem_singleton.1 hx]; exact ho
  · rw [List.pairwise_append]
    refine ⟨h.2, List.pairwise_singleton _ _, fun a ha b hb => ?_⟩
    rw [List.mem_singleton.1 hb]
    rcases List.eq_nil_or_concat l with rfl | ⟨r, d, rfl⟩
    · cases ha
    · rw [List.concat_eq_append] at ha h hl
      have hd : lessN d.s e.s = true := hl d (by simp)
      rcases List.mem_append.1 ha with ha | ha
      · exact lessN_trans ((List.pairwise_append.1 h.2).2.2 a ha d (by simp)) hd
      · rw [List.mem_singleton.1 ha]; exact hd
theorem RightN.dropN {l : List Ent} (h : RightN l) (s : ByteArray) : RightN (dropN s l) := by
  unfold Ino.dropN
  exact ⟨fun e he => h.1 e (List.mem_filter.1 he).1, h.2.filter _⟩
theorem RightN.step {l : List Ent} {k : Nat} {e : Ent} (h : RightN (l.take k)) (he : l[k]? = some e) (ho : okE e = true) (hl : ∀ d, 0 < k → l[k - 1]? = some d → lessN d.s e.s = true) : RightN (l.take (k + 1)) := by
  rw [List.take_add_one, he]
  refine h.snoc ho fun d hd => ?_
  have hk : k < l.length := (List.getElem?_eq_some_iff.1 he).1
  rw [List.getLast?_take] at hd
  cases k with
  | zero => simp at hd
  | succ k =>
    rw [if_neg (by omega)] at hd
    refine hl d (by omega) ?_
    simp only [Nat.add_sub_cancel] at hd ⊢
    rw [List.getElem?_eq_getElem (show k < l.length by omega)] at hd ⊢
    simpa using hd
theorem RightN.not_ok {l : List Ent} {k : Nat} {e : Ent} (he : l[k]? = some e) (ho : okE e = false) : ¬ RightN l := fun h => by
  rw [h.1 e (List.mem_of_getElem? he)] at ho; cases ho
theorem RightN.not_less {l : List Ent} {k : Nat} {d e : Ent} (hd : l[k]? = some d) (he : l[k + 1]? = some e) (ho : lessN d.s e.s = false) : ¬ RightN l := fun h => by
  obtain ⟨hk, hd⟩ := List.getElem?_eq_some_iff.1 hd
  obtain ⟨hk2, he⟩ := List.getElem?_eq_some_iff.1 he
  have := List.pairwise_iff_getElem.1 h.2 k (k + 1) hk hk2 (by omega)
  rw [hd, he, ho] at this; cases this

theorem has_false {s : ByteArray} {l : List Ent} : hasN s l = false ↔ ∀ e ∈ l, nameIs s e = false := by
  unfold hasN
  rw [List.any_eq_false]
  exact ⟨fun h e he => by simpa using h e he, fun h e he => by simpa using h e he⟩
theorem dropN_none {s : ByteArray} {l : List Ent} (h : hasN s l = false) : dropN s l = l := by
  unfold dropN
  rw [List.filter_eq_self]
  intro e he
  rw [has_false.1 h e he]; rfl
theorem has_dropN (s : ByteArray) (l : List Ent) : hasN s (dropN s l) = false := by
  rw [has_false]
  intro e he
  have := (List.mem_filter.1 he).2
  simpa using this
theorem hasN_cons (s : ByteArray) (e : Ent) (l : List Ent) : hasN s (e :: l) = (nameIs s e || hasN s l) := rfl
theorem dropN_cons (s : ByteArray) (e : Ent) (l : List Ent) : dropN s (e :: l) = if nameIs s e then dropN s l else e :: dropN s l := by
  unfold dropN
  rw [List.filter_cons]
  cases nameIs s e <;> rfl
theorem dropN_len (s : ByteArray) (l : List Ent) : (dropN s l).length ≤ l.length := List.length_filter_le _ _
theorem drop_less (s : ByteArray) (l : List Ent) : decide ((dropN s l).length < l.length) = hasN s l := by
  induction l with
  | nil => rfl
  | cons e l ih =>
    rw [dropN_cons, hasN_cons]
    cases h : nameIs s e with
    | true =>
      have := dropN_len s l
      simp
      omega
    | false =>
      rw [Bool.false_or, ← ih]
      simp
theorem dropN_putN {s : ByteArray} {n : Int} {l : List Ent} (h : hasN s l = false) : dropN s (putN s n l) = l := by
  unfold putN dropN
  rw [List.filter_append, List.filter_cons]
  have hx : nameIs s ⟨s, n⟩ = true := nameIs_iff.2 rfl
  rw [hx]
  simp only [Bool.not_true, Bool.false_eq_true, if_false]
  rw [← List.filter_append, List.take_append_drop]
  exact dropN_none h
theorem has_putN (s : ByteArray) (n : Int) (l : List Ent) : hasN s (putN s n l) = true := by
  unfold hasN putN
  rw [List.any_append, List.any_cons, show nameIs s ⟨s, n⟩ = true from nameIs_iff.2 rfl]
  simp
theorem RightN.putN {s : ByteArray} {n : Int} {l : List Ent} (h : RightN l) (hn : hasN s l = false) (ho : okE ⟨s, n⟩ = true) : RightN (putN s n l) := by
  unfold Ino.putN
  obtain ⟨k, hk⟩ : ∃ k, l.findIdx (foreE s) = k := ⟨_, rfl⟩
  rw [hk]
  have hlow : ∀ e ∈ l.take k, lessN e.s s = true := fun e he => by
    have hf : foreE s e = false := by
      obtain ⟨i, hi, rfl⟩ := List.mem_take_iff_getElem.1 he
      have hi' : i < l.findIdx (foreE s) := by omega
      simpa using List.not_of_lt_findIdx hi'
    rcases less_or hf with h1 | h1
    · have := has_false.1 hn e (List.mem_of_mem_take he)
      rw [nameIs_iff.2 h1] at this; cases this
    · exact h1
  have hpw : (l.take k ++ l.drop k).Pairwise (fun a b => lessN a.s b.s = true) := by rw [List.take_append_drop]; exact h.2
  have hp := List.pairwise_append.1 hpw
  have hhigh : ∀ e ∈ l.drop k, lessN s e.s = true := fun e he => by
    cases hd : l.drop k with
    | nil => rw [hd] at he; cases he
    | cons f r =>
      have hkl : k < l.length := by
        apply Classical.byContradiction
        intro hc
        rw [List.drop_eq_nil_of_le (by omega)] at hd; cases hd
      have hf : l[k] = f := by
        rw [List.drop_eq_getElem_cons hkl] at hd
        exact (List.cons.inj hd).1
      have h1 : foreE s f = true := by
        have := List.findIdx_getElem (p := foreE s) (xs := l) (w := by rw [hk]; exact hkl)
        simp only [hk] at this
        rw [← hf]; exact this
      rw [hd] at he
      rcases List.mem_cons.1 he with rfl | he
      · exact h1
      · have h2 := hp.2.1
        rw [hd] at h2
        exact lessN_trans h1 ((List.pairwise_cons.1 h2).1 e he)
  refine ⟨fun e he => ?_, ?_⟩
  · rcases List.mem_append.1 he with he | he
    · exact h.1 e (List.mem_of_mem_take he)
    · rcases List.mem_cons.1 he with rfl | he
      · exact ho
      · exact h.1 e (List.mem_of_mem_drop he)
  · rw [List.pairwise_append]
    refine ⟨hp.1, List.pairwise_cons.2 ⟨hhigh, hp.2.1⟩, fun a ha b hb => ?_⟩
    rcases List.mem_cons.1 hb with rfl | hb
    · exact hlow a ha
    · exact hp.2.2 a ha b hb
theorem RightN.ino {l : List Ent} (h : RightN l) {e : Ent} (he : e ∈ l) : hasN e.s l = true ∧ inoN e.s l = e.n := by
  refine ⟨List.any_eq_true.2 ⟨e, he, nameIs_iff.2 rfl⟩, ?_⟩
  induction l with
  | nil => cases he
  | cons f l ih =>
    rw [inoN]
    rcases List.mem_cons.1 he with rfl | he
    · rw [if_pos (nameIs_iff.2 rfl)]
    · have hp := List.pairwise_cons.1 h.2
      have hne : nameIs e.s f = false := by
        cases hc : nameIs e.s f with
        | false => rfl
        | true =>
          have := hp.1 e he
          rw [nameIs_iff.1 hc, lessN_irrefl] at this; cases this
      rw [if_neg (by rw [hne]; decide)]
      exact ih ⟨fun x hx => h.1 x (List.mem_cons_of_mem _ hx), hp.2⟩ he
theorem inoN_none {s : ByteArray} {l : List Ent} (h : hasN s l = false) : inoN s l = 0 := by
  induction l with
  | nil => rfl
  | cons e l ih =>
    rw [hasN_cons, Bool.or_eq_false_iff] at h
    rw [inoN, h.1]
    exact ih h.2
theorem RightN.drop_len {l : List Ent} (h : RightN l) (s : ByteArray) : (Ino.dropN s l).length + (if hasN s l then 1 else 0) = l.length := by
  induction l with
  | nil => rfl
  | cons e l ih =>
    have hp := List.pairwise_cons.1 h.2
    have hr : RightN l := ⟨fun x hx => h.1 x (List.mem_cons_of_mem _ hx), hp.2⟩
    rw [dropN_cons, hasN_cons]
    cases hc : nameIs s e with
    | true =>
      have hn : hasN s l = false := has_false.2 fun x hx => by
        cases hx2 : nameIs s x with
        | false => rfl
        | true =>
          have := hp.1 x hx
          rw [nameIs_iff.1 hc, nameIs_iff.1 hx2, lessN_irrefl] at this; cases this
      rw [dropN_none hn]
      rfl
    | false =>
      have := ih hr
      simp only [Bool.false_or, Bool.false_eq_true, if_false, List.length_cons]
      omega

/-! what the loops say -/
theorem look_yes {s : ByteArray} {l : List Ent} {k : Nat} {e : Ent} (h0 : ∀ x ∈ l.take k, nameIs s x = false) (he : l[k]? = some e) (hs : nameIs s e = true) : hasN s l = true ∧ lookN s l = k ∧ inoN s l = e.n := by
  obtain ⟨hk, hke⟩ := List.getElem?_eq_some_iff.1 he
  have h1 : hasN s l = true := List.any_eq_true.2 ⟨e, List.mem_of_getElem? he, hs⟩
  refine ⟨h1, ?_, ?_⟩
  · unfold lookN
    rw [if_pos h1]
    rw [List.findIdx_eq hk]
    refine ⟨by rw [hke]; exact hs, fun j hj => ?_⟩
    exact h0 _ (List.mem_take_iff_getElem.2 ⟨j, by omega, rfl⟩)
  · have hl : l = l.take k ++ e :: l.drop (k + 1) := by
      rw [← hke, ← List.drop_eq_getElem_cons hk, List.take_append_drop]
    have gen : ∀ (m r : List Ent), (∀ x ∈ m, nameIs s x = false) → inoN s (m ++ e :: r) = e.n := by
      intro m
      induction m with
      | nil => intro r _; rw [List.nil_append, inoN, if_pos hs]
      | cons x m ih =>
        intro r hm
        rw [List.cons_append, inoN, if_neg (by rw [hm x (by simp)]; decide)]
        exact ih r fun y hy => hm y (List.mem_cons_of_mem _ hy)
    rw [hl]
    exact gen _ _ h0
theorem look_no {s : ByteArray} {l : List Ent} (h0 : ∀ x ∈ l, nameIs s x = false) : hasN s l = false ∧ lookN s l = l.findIdx (foreE s) ∧ inoN s l = 0 := by
  have h1 := has_false.2 h0
  exact ⟨h1, by unfold lookN; rw [if_neg (by rw [h1]; decide)], inoN_none h1⟩
theorem lookN_le (s : ByteArray) (l : List Ent) : lookN s l ≤ l.length := by
  unfold lookN
  split <;> exact List.findIdx_le_length
theorem findIdx_all {p : Ent → Bool} {l : List Ent} (h : ∀ x ∈ l, p x = false) : l.findIdx p = l.length :=
  List.findIdx_eq_length.2 h
theorem findIdx_at {p : Ent → Bool} {l : List Ent} {k : Nat} {e : Ent} (h0 : ∀ x ∈ l.take k, p x = false) (he : l[k]? = some e) (hs : p e = true) : l.findIdx p = k := by
  obtain ⟨hk, hke⟩ := List.getElem?_eq_some_iff.1 he
  rw [List.findIdx_eq hk]
  exact ⟨by rw [hke]; exact hs, fun j hj => h0 _ (List.mem_take_iff_getElem.2 ⟨j, by omega, rfl⟩)⟩
theorem take_snoc {l : List Ent} {k : Nat} {e : Ent} (he : l[k]? = some e) : l.take (k + 1) = l.take k ++ [e] := by
  rw [List.take_add_one, he]; rfl
theorem none_snoc {p : Ent → Bool} {l : List Ent} {k : Nat} {e : Ent} (he : l[k]? = some e) (h0 : ∀ x ∈ l.take k, p x = false) (h1 : p e = false) : ∀ x ∈ l.take (k + 1), p x = false := by
  rw [take_snoc he]
  intro x hx
  rcases List.mem_append.1 hx with hx | hx
  · exact h0 x hx
  · rw [List.mem_singleton.1 hx]; exact h1
end Ino

/-! All nodes, plainly: a row of nodes, found by number, changed one by one. -/
namespace Go.Proofs.YtamndllolppmoaaGreat
open Wd Ino
set_option linter.unusedVariables false
set_option linter.unusedSimpArgs false
/-- one node, plainly, wherever its pages and names lie -/
structure Nod where
  ino : Int
  kind : Int
  links : Int
  size : Int
  up : Int
  pages : List Int
  names : List Ent
deriving DecidableEq
/-- all nodes, and the greatest number that one ever had -/
structure Stt where
  l : List Nod
  last : Int
deriving DecidableEq

def atS (l : List Nod) (i : Int) : Option Nod := l.find? (fun n => decide (n.ino = i))
def zeroN : Nod := ⟨0, 0, 0, 0, 0, [], []⟩
def getS (l : List Nod) (i : Int) : Nod := (atS l i).getD zeroN
def kindS (l : List Nod) (i : Int) : Int := (getS l i).kind
def namesS (l : List Nod) (i : Int) : List Ent := (getS l i).names
def upS (l : List Nod) (i : Int) : Int := (getS l i).up
def modS (l : List Nod) (i : Int) (f : Nod → Nod) : List Nod := l.map (fun n => if n.ino = i then f n else n)
def rmS (l : List Nod) (i : Int) : List Nod := l.filter (fun n => !decide (n.ino = i))
def cntS (l : List Nod) (i : Int) : Nat := (l.map (fun d => countN i d.names)).sum
def putNm (s : ByteArray) (i : Int) (n : Nod) : Nod := { n with names := putR' s i n.names }
where putR' (s : ByteArray) (i : Int) (l : List Ent) : List Ent := if hasN s l then l else putN s i l
def cutNm (s : ByteArray) (n : Nod) : Nod := { n with names := dropN s n.names }
def lessLk (n : Nod) : Nod := { n with links := n.links - 1 }
def moreLk (n : Nod) : Nod := { n with links := n.links + 1 }
def setUp (u : Int) (n : Nod) : Nod := { n with up := u }

theorem atS_ino {l : List Nod} {i : Int} {n : Nod} (h : atS l i = some n) : n.ino = i := by
  have := List.find?_some h
  simpa using this
theorem atS_mem {l : List Nod} {i : Int} {n : Nod} (h : atS l i = some n) : n ∈ l := List.mem_of_find?_eq_some h
theorem atS_none {l : List Nod} {i : Int} : atS l i = none ↔ ∀ n ∈ l, n.ino ≠ i := by
  unfold atS
  rw [List.find?_eq_none]
  simp
theorem atS_cons (n : Nod) (l : List Nod) (i : Int) : atS (n :: l) i = if n.ino = i then some n else atS l i := by
  unfold atS
  rw [List.find?_cons]
  by_cases h : n.ino = i <;> simp [h]
theorem atS_of_mem {l : List Nod} (hp : l.Pairwise (fun a b => a.ino < b.ino)) {n : Nod} (h : n ∈ l) : atS l n.ino = some n := by
  induction l with
  | nil => cases h
  | cons a l ih =>
    rw [List.pairwise_cons] at hp
    rw [atS_cons]
    rcases List.mem_cons.1 h with rfl | h
    · simp
    · have := hp.1 n h
      rw [if_neg (by omega)]
      exact ih hp.2 h
theorem atS_mod {l : List Nod} {i : Int} {f : Nod → Nod} (hf : ∀ n, (f n).ino = n.ino) (j : Int) : atS (modS l i f) j = (atS l j).map (fun n => if j = i then f n else n) := by
  induction l with
  | nil => rfl
  | cons a l ih =>
    have e : modS (a :: l) i f = (if a.ino = i then f a else a) :: modS l i f := rfl
    rw [e, atS_cons, atS_cons, ih]
    by_cases h : a.ino = i
    · rw [if_pos h, hf]
      by_cases h2 : a.ino = j
      · rw [if_pos h2, if_pos h2]; simp [← h2, h]
      · rw [if_neg h2, if_neg h2]
    · rw [if_neg h]
      by_cases h2 : a.ino = j
      · rw [if_pos h2, if_pos h2]; simp [show ¬ j = i by omega]
      · rw [if_neg h2, if_neg h2]
theorem atS_rm (l : List Nod) (i j : Int) : atS (rmS l i) j = if j = i then none else atS l j := by
  induction l with
  | nil => simp [rmS, atS]
  | cons a l ih =>
    have e : rmS (a :: l) i = if a.ino = i then rmS l i else a :: rmS l i := by
      unfold rmS
      rw [List.filter_cons]
      by_cases h : a.ino = i <;> simp [h]
    rw [e, atS_cons]
    by_cases h : a.ino = i
    · rw [if_pos h, ih]
      by_cases h2 : j = i
      · rw [if_pos h2, if_pos h2]
      · rw [if_neg h2, if_neg h2, if_neg (by omega)]
    · rw [if_neg h, atS_cons, ih]
      by_cases h2 : j = i
      · rw [if_pos h2, if_neg (by omega), if_pos h2]
      · rw [if_neg h2, if_neg h2]
theorem atS_app (l : List Nod) (n : Nod) (j : Int) : atS (l ++ [n]) j = (atS l j).or (if n.ino = j then some n else none) := by
  induction l with
  | nil => rw [List.nil_append, atS_cons]; rfl
  | cons a l ih =>
    rw [List.cons_append, atS_cons, atS_cons, ih]
    by_cases h : a.ino = j
    · rw [if_pos h, if_pos h]; rfl
    · rw [if_neg h, if_neg h]

def AscS (l : List Nod) : Prop := l.Pairwise (fun a b => a.ino < b.ino)
theorem modS_len (l : List Nod) (i : Int) (f : Nod → Nod) : (modS l i f).length = l.length := by unfold modS; simp
theorem rmS_len (l : List Nod) (i : Int) : (rmS l i).length ≤ l.length := List.length_filter_le _ _
theorem asc_mod {l : List Nod} (h : AscS l) {i : Int} {f : Nod → Nod} (hf : ∀ n, (f n).ino = n.ino) : AscS (modS l i f) := by
  unfold AscS modS
  rw [List.pairwise_map]
  refine h.imp fun {a b} hab => ?_
  have e : ∀ n : Nod, (if n.ino = i then f n else n).ino = n.ino := fun n => by split <;> simp [hf]
  rw [e, e]
  exact hab
theorem asc_rm {l : List Nod} (h : AscS l) (i : Int) : AscS (rmS l i) := List.Pairwise.filter _ h
theorem asc_app {l : List Nod} (h : AscS l) {n : Nod} (hn : ∀ a ∈ l, a.ino < n.ino) : AscS (l ++ [n]) := by
  unfold AscS
  rw [List.pairwise_append]
  exact ⟨h, List.pairwise_singleton _ _, fun a ha b hb => by rw [List.mem_singleton.1 hb]; exact hn a ha⟩

/-! how often a number is named -/
theorem cnt_mod {l : List Nod} (hp : AscS l) {i : Int} {n : Nod} {f : Nod → Nod} (h : atS l i = some n) (j : Int) : cntS (modS l i f) j + countN j n.names = cntS l j + countN j (f n).names := by
  induction l with
  | nil => cases h
  | cons a l ih =>
    have hp' := List.pairwise_cons.1 hp
    have e : cntS (modS (a :: l) i f) j = countN j (if a.ino = i then f a else a).names + cntS (modS l i f) j := by unfold cntS modS; simp
    have e2 : cntS (a :: l) j = countN j a.names + cntS l j := by unfold cntS; simp
    rw [e, e2]
    rw [atS_cons] at h
    by_cases hi : a.ino = i
    · rw [if_pos hi] at h
      obtain rfl := Option.some.inj h
      have e3 : modS l i f = l := by
        unfold modS
        conv => rhs; rw [← List.map_id l]
        refine List.map_congr_left fun b hb => ?_
        have := hp'.1 b hb
        rw [if_neg (by omega)]; rfl
      rw [if_pos hi, e3]
      omega
    · rw [if_neg hi] at h
      have := ih hp'.2 h
      rw [if_neg hi]
      omega
theorem cnt_rm {l : List Nod} (hp : AscS l) {i : Int} {n : Nod} (h : atS l i = some n) (j : Int) : cntS (rmS l i) j + countN j n.names = cntS l j := by
  induction l with
  | nil => cases h
  | cons a l ih =>
    have hp' := List.pairwise_cons.1 hp
    have e2 : cntS (a :: l) j = countN j a.names + cntS l j := by unfold cntS; simp
    have e : rmS (a :: l) i = if a.ino = i then rmS l i else a :: rmS l i := by
      unfold rmS
      rw [List.filter_cons]
      by_cases h : a.ino = i <;> simp [h]
    rw [e, e2]
    rw [atS_cons] at h
    by_cases hi : a.ino = i
    · rw [if_pos hi] at h
      obtain rfl := Option.some.inj h
      have e3 : rmS l i = l := by
        unfold rmS
        refine List.filter_eq_self.2 fun b hb => ?_
        have := hp'.1 b hb
        simp; omega
      rw [if_pos hi, e3]
      omega
    · rw [if_neg hi] at h
      have := ih hp'.2 h
      rw [if_neg hi]
      have e4 : cntS (a :: rmS l i) j = countN j a.names + cntS (rmS l i) j := by unfold cntS; simp
      omega
theorem cnt_app (l : List Nod) (n : Nod) (j : Int) : cntS (l ++ [n]) j = cntS l j + countN j n.names := by
  unfold cntS; simp [List.sum_append]
theorem cnt_zero {l : List Nod} {j : Int} (h : cntS l j = 0) : ∀ d ∈ l, ∀ e ∈ d.names, e.n ≠ j := by
  induction l with
  | nil => intro d hd; cases hd
  | cons a l ih =>
    have e2 : cntS (a :: l) j = countN j a.names + cntS l j := by unfold cntS; simp
    rw [e2] at h
    intro d hd e he
    rcases List.mem_cons.1 hd with rfl | hd
    · have h0 : countN j d.names = 0 := by omega
      unfold countN at h0
      have := List.countP_eq_zero.1 h0 e he
      simpa using this
    · exact ih (by omega) d hd e he
theorem cnt_pos {l : List Nod} {d : Nod} {e : Ent} (hd : d ∈ l) (he : e ∈ d.names) : 1 ≤ cntS l e.n := by
  rcases Nat.eq_zero_or_pos (cntS l e.n) with h | h
  · exact absurd rfl (cnt_zero h d hd e he)
  · exact h
theorem cnt_two {l : List Nod} (hp : AscS l) {d1 d2 : Nod} {e1 e2 : Ent} (h1 : d1 ∈ l) (h2 : d2 ∈ l) (hne : d1.ino ≠ d2.ino) (he1 : e1 ∈ d1.names) (he2 : e2 ∈ d2.names) (hn : e1.n = e2.n) : 2 ≤ cntS l e1.n := by
  have a1 := cnt_rm hp (atS_of_mem hp h1) e1.n
  have hd2 : d2 ∈ rmS l d1.ino := by unfold rmS; rw [List.mem_filter]; exact ⟨h2, by simpa using fun h => hne h.symm⟩
  have a2 := cnt_pos hd2 he2
  have a3 : 1 ≤ countN e1.n d1.names := by
    unfold countN
    exact List.countP_pos_iff.2 ⟨e1, he1, by simp⟩
  rw [← hn] at a2
  omega

/-! names in one directory: how often -/
theorem countN_put (s : ByteArray) (m j : Int) (l : List Ent) : countN j (putN s m l) = countN j l + (if m = j then 1 else 0) := by
  have e : ∀ k : Nat, countN j l = countN j (l.take k) + countN j (l.drop k) := fun k => by
    unfold countN
    rw [← List.countP_append, List.take_append_drop]
  have e2 : countN j (putN s m l) = countN j (l.take (l.findIdx (foreE s))) + (countN j (l.drop (l.findIdx (foreE s))) + if m = j then 1 else 0) := by
    unfold putN countN
    rw [List.countP_append, List.countP_cons]
    simp
  rw [e2, e (l.findIdx (foreE s))]
  omega
theorem countN_drop {s : ByteArray} {l : List Ent} (hr : RightN l) (h : hasN s l = true) (j : Int) : countN j (dropN s l) + (if inoN s l = j then 1 else 0) = countN j l := by
  induction l with
  | nil => simp [hasN] at h
  | cons e l ih =>
    have hc := List.pairwise_cons.1 hr.2
    have hr' : RightN l := ⟨fun x hx => hr.1 x (List.mem_cons_of_mem _ hx), hc.2⟩
    rw [dropN_cons]
    have e1 : inoN s (e :: l) = if nameIs s e then e.n else inoN s l := rfl
    rw [e1]
    cases hs : nameIs s e with
    | true =>
      have e2 : dropN s l = l := by
        refine dropN_none (has_false.2 fun x hx => ?_)
        have h1 := hc.1 x hx
        have h2 := nameIs_iff.1 hs
        rw [h2] at h1
        cases h3 : nameIs s x
        · rfl
        · rw [nameIs_iff.1 h3, lessN_irrefl] at h1; cases h1
      rw [if_pos rfl, e2, if_pos rfl]
      unfold countN
      rw [List.countP_cons]
      by_cases h : e.n = j <;> simp [h]
    | false =>
      rw [hasN_cons, hs, Bool.false_or] at h
      have := ih hr' h
      simp only [Bool.false_eq_true, if_false]
      have e3 : countN j (e :: dropN s l) = countN j (dropN s l) + (if e.n = j then 1 else 0) := by unfold countN; rw [List.countP_cons]; simp
      have e4 : countN j (e :: l) = countN j l + (if e.n = j then 1 else 0) := by unfold countN; rw [List.countP_cons]; simp
      rw [e3, e4]
      omega
theorem mem_putN {s : ByteArray} {m : Int} {l : List Ent} {e : Ent} (h : e ∈ putN s m l) : e = ⟨s, m⟩ ∨ e ∈ l := by
  unfold putN at h
  rcases List.mem_append.1 h with h | h
  · exact .inr (List.mem_of_mem_take h)
  · rcases List.mem_cons.1 h with h | h
    · exact .inl h
    · exact .inr (List.mem_of_mem_drop h)
theorem putN_mem {s : ByteArray} {m : Int} {l : List Ent} {e : Ent} (h : e ∈ l) : e ∈ putN s m l := by
  unfold putN
  rw [← List.take_append_drop (l.findIdx (foreE s)) l] at h
  rcases List.mem_append.1 h with h | h
  · exact List.mem_append_left _ h
  · exact List.mem_append_right _ (List.mem_cons_of_mem _ h)
theorem putN_len (s : ByteArray) (m : Int) (l : List Ent) : (putN s m l).length = l.length + 1 := by
  unfold putN
  rw [List.length_append, List.length_cons, List.length_take, List.length_drop]
  have := List.findIdx_le_length (p := foreE s) (xs := l)
  omega
theorem mem_dropN {s : ByteArray} {l : List Ent} {e : Ent} (h : e ∈ dropN s l) : e ∈ l := (List.mem_filter.1 h).1
theorem has_mem {s : ByteArray} {l : List Ent} (h : hasN s l = true) : ∃ e ∈ l, e.s = s ∧ e.n = inoN s l := by
  induction l with
  | nil => simp [hasN] at h
  | cons a l ih =>
    have e1 : inoN s (a :: l) = if nameIs s a then a.n else inoN s l := rfl
    rw [e1]
    cases hs : nameIs s a with
    | true => exact ⟨a, List.mem_cons_self, nameIs_iff.1 hs, by simp⟩
    | false =>
      rw [hasN_cons, hs, Bool.false_or] at h
      obtain ⟨e, he, h1, h2⟩ := ih h
      exact ⟨e, List.mem_cons_of_mem _ he, h1, by simpa using h2⟩
/-- what was dropped and put again stands at its place -/
theorem putN_dropN {s : ByteArray} {l : List Ent} (hr : RightN l) (h : hasN s l = true) : putN s (inoN s l) (dropN s l) = l := by
  induction l with
  | nil => simp [hasN] at h
  | cons e l ih =>
    have hc := List.pairwise_cons.1 hr.2
    have hr' : RightN l := ⟨fun x hx => hr.1 x (List.mem_cons_of_mem _ hx), hc.2⟩
    have e1 : inoN s (e :: l) = if nameIs s e then e.n else inoN s l := rfl
    rw [e1, dropN_cons]
    cases hs : nameIs s e with
    | true =>
      have h2 := nameIs_iff.1 hs
      have e2 : dropN s l = l := by
        refine dropN_none (has_false.2 fun x hx => ?_)
        have h1 := hc.1 x hx
        rw [h2] at h1
        cases h3 : nameIs s x
        · rfl
        · rw [nameIs_iff.1 h3, lessN_irrefl] at h1; cases h1
      rw [if_pos rfl, if_pos rfl, e2]
      have e3 : l.findIdx (foreE s) = 0 := by
        cases l with
        | nil => rfl
        | cons b l =>
          have h1 := hc.1 b List.mem_cons_self
          rw [h2] at h1
          rw [List.findIdx_cons]
          unfold foreE
          rw [h1]; rfl
      unfold putN
      rw [e3]
      simp only [List.take_zero, List.drop_zero, List.nil_append]
      rw [← h2]
    | false =>
      rw [hasN_cons, hs, Bool.false_or] at h
      have ih' := ih hr' h
      simp only [Bool.false_eq_true, if_false]
      obtain ⟨x, hx, hxs, hxn⟩ := has_mem h
      have h1 := hc.1 x hx
      rw [hxs] at h1
      have e4 : foreE s e = false := by
        unfold foreE
        cases h5 : lessN s e.s
        · rfl
        · have := lessN_trans h1 h5
          rw [lessN_irrefl] at this; cases this
      have e5 : putN s (inoN s l) (e :: dropN s l) = e :: putN s (inoN s l) (dropN s l) := by
        unfold putN
        rw [List.findIdx_cons, e4]
        simp
      rw [e5, ih']
end Go.Proofs.YtamndllolppmoaaGreat

namespace Go.Proofs.YtamndllolppmoaaGreat
open Wd Ino Go.RowKit Go.ChangeShapes Go.WideShapes Go.Sort
set_option linter.unusedVariables false
set_option maxRecDepth 100000

/-! the document's copy -/
set_option maxHeartbeats 8000000 in
theorem rCopy (n : Nd) (w : World) (h : n.In w) (hp : n.pages.length ≤ 1000) (hq : n.names.length ≤ 1000) :
    Calls Tryz.prog 74 #[n.val] w fun e w' => ∃ V A ac B bc, e = .returned V ∧ OwnN w' w.heap.size V n.ino n.kind n.links n.size n.up n.pages n.names A ac B bc ∧ Below w.heap.size w w' := by
  obtain ⟨i, ki, l, s, u, A, ac, P, B, bc, N⟩ := n
  dsimp only at hp hq ⊢
  have hr := h.row
  have he := h.ens
  dsimp only at hr he
  have hRow := hr
  unfold Nd.val
  dsimp only
  have HB0 := Lib.hid (((Below.refl w.heap.size w).alloc (Nat.le_refl _) (.cells (ncells i ki l s u (.slice A P.length ac) (.slice B N.length bc)) 55)).alloc (by simp) (.cells (ncells 0 0 0 0 0 (.slice none 0 0) (.slice none 0 0)) 55))
  have hc : Cells ((w.alloc (.cells (ncells i ki l s u (.slice A P.length ac) (.slice B N.length bc)) 55)).alloc (.cells (ncells 0 0 0 0 0 (.slice none 0 0) (.slice none 0 0)) 55)) w.heap.size 55 (ncells i ki l s u (.slice A P.length ac) (.slice B N.length bc)) := (Cells.new _ _ _).alloc _
  have hr2 : Cells ((w.alloc (.cells (ncells i ki l s u (.slice A P.length ac) (.slice B N.length bc)) 55)).alloc (.cells (ncells 0 0 0 0 0 (.slice none 0 0) (.slice none 0 0)) 55)) (w.heap.size + 1) 55 (ncells 0 0 0 0 0 (.slice none 0 0) (.slice none 0 0)) := by
    have := Cells.new (w.alloc (.cells (ncells i ki l s u (.slice A P.length ac) (.slice B N.length bc)) 55)) 55 (ncells 0 0 0 0 0 (.slice none 0 0) (.slice none 0 0)); simpa using this
  obtain ⟨W2, hW2⟩ : ∃ W2, (w.alloc (.cells (ncells i ki l s u (.slice A P.length ac) (.slice B N.length bc)) 55)).alloc (.cells (ncells 0 0 0 0 0 (.slice none 0 0) (.slice none 0 0)) 55) = W2 := ⟨_, rfl⟩
  have hs2 : W2.heap.size = w.heap.size + 2 := by rw [← hW2]; simp
  rw [hW2] at HB0 hc hr2
  have HE0 := Lib.hid he
  have hrow2 := (hr.below HB0.out).more HB0.out.size
  have hens2 := (he.below HB0.out).more HB0.out.size
  unfold ncells at hW2
  have HC := Lib.hid hc; have HR := Lib.hid hr2; have HS2 := Lib.hid hs2; have HRow := Lib.hid hrow2; have HEns := Lib.hid hens2
  have h1 : 0 + P.length ≤ 1000 := by omega
  have hb2 : w.heap.size + 2 ≤ W2.heap.size := Nat.le_of_eq hs2.symm
  have hl3 : ([] : List Ent).length + N.length ≤ 100000 := by rw [List.length_nil]; omega
  have O2 := Lib.hid (own_nil W2 (w.heap.size + 2) 3)
  clear hr he h hRow hrow2 hens2
  go_enter Tryz.func74, Tryz.ntmps74
  go_upto_region 1 with fail
  obtain ⟨c0, c1, c2, c3, c4, c5, c6⟩ := cells7 hc
  clear hc hr2 hW2 hs2
  go_upto_region 2 with (at_builtin; refine wpList_append_row _ rfl (.const (.slice none 0 0)) (.tmp 4) 40 rfl (w.heap.size + 2) 3 (.int .i64 0) 8 Tryz.underlying40 infoI rfl (.slice none 0 0) 0 [] rfl O2.out _ A P.length ac (P.map iv) rfl HRow.out (oneI _) (by unfold maxLen; omega) (by omega) hb2 ?_; intro v5 w5 hown5 hgr5 hat5; obtain ⟨A3, c3', rfl, _⟩ := Row.of_own hown5; have hb5 : Below W2.heap.size W2 w5 := (Below.refl _ _).grown hgr5 (Nat.le_refl _) (fun q e => by cases e); have HO5 := Lib.hid hown5; have HB5 := Lib.hid hb5; have x5 := (HC.out.below' hb5).cell 5; have z5 := (HC.out.below' hb5).free 5; simp [ncells] at x5; clear hown5 hgr5 hat5 hb5)
  obtain ⟨W6, hW6⟩ : ∃ W6, w5.setCell ⟨w.heap.size, 5, none⟩ (.slice A3 P.length c3') = W6 := ⟨_, rfl⟩
  have hB5 := HB0.out.trans (HB5.out.mono HB0.out.size)
  have b6 : Below w.heap.size w W6 := by rw [← hW6]; exact hB5.setCell (p := ⟨w.heap.size, 5, none⟩) (Nat.le_refl _) _
  have hc6 : Cells W6 w.heap.size 55 (ncells i ki l s u (.slice A3 P.length c3') (.slice B N.length bc)) := by
    rw [← hW6]
    have h : Cells _ w.heap.size 55 (ncells i ki l s u (.slice A3 P.length c3') (.slice B N.length bc)) := Cells.set (HC.out.below' HB5.out) 5 (.slice A3 P.length c3')
    exact h
  have hr6 : Cells W6 (w.heap.size + 1) 55 (ncells 0 0 0 0 0 (.slice none 0 0) (.slice none 0 0)) := by
    rw [← hW6]; exact (HR.out.below' HB5.out).far (p := ⟨w.heap.size, 5, none⟩) (by simp) _
  have oI6 : OwnI W6 (w.heap.size + 2) (.slice A3 P.length c3') P := by
    rw [← hW6]
    have h := HO5.out
    rw [List.nil_append, Nat.zero_add] at h
    exact own_far h (p := ⟨w.heap.size, 5, none⟩) (by simp) _
  rw [hW6]
  have hens6 := (HE0.out.below b6).more b6.size
  have hs6 : w.heap.size + 2 ≤ W6.heap.size := by have := hr6.lt; omega
  have c6' := (cells7 hc6).2.2.2.2.2.2
  have O6 := Lib.hid (own_nilE W6 (w.heap.size + 2))
  have B6 := Lib.hid b6; have C6 := Lib.hid hc6; have R6 := Lib.hid hr6; have OI6 := Lib.hid oI6; have E6 := Lib.hid hens6
  clear hW6 hB5 b6 hc6 hr6 oI6 hens6 c0 c1 c2 c3 c4 c5 c6 x5 z5 HO5 HB5 HC HR HS2 HRow HEns HB0 O2 hb2 h1
  go_upto_region 3 with (at_builtin; refine wpList_append_ens rfl (.const (.slice none 0 0)) (.tmp 8) rfl rfl rfl O6.out E6.out hl3 hs6 ?_; intro v7 w7 hown7 hgr7 hat7; obtain ⟨B3, d3', rfl, _, _⟩ := hown7.form; have hb7 : Below W6.heap.size W6 w7 := (Below.refl _ _).grown hgr7 (Nat.le_refl _) (fun q e => by cases e); have HO7 := Lib.hid hown7; have HB7 := Lib.hid hb7; have x6 := (C6.out.below' hb7).cell 6; have z6 := (C6.out.below' hb7).free 6; simp [ncells] at x6; clear hown7 hgr7 hat7 hb7)
  obtain ⟨W8, hW8⟩ : ∃ W8, w7.setCell ⟨w.heap.size, 6, none⟩ (.slice B3 N.length d3') = W8 := ⟨_, rfl⟩
  have b8 : Below w.heap.size w W8 := by rw [← hW8]; exact (B6.out.trans (HB7.out.mono B6.out.size)).setCell (p := ⟨w.heap.size, 6, none⟩) (Nat.le_refl _) _
  have hc8 : Cells W8 w.heap.size 55 (ncells i ki l s u (.slice A3 P.length c3') (.slice B3 N.length d3')) := by
    rw [← hW8]
    have h : Cells _ w.heap.size 55 (ncells i ki l s u (.slice A3 P.length c3') (.slice B3 N.length d3')) := Cells.set (C6.out.below' HB7.out) 6 (.slice B3 N.length d3')
    exact h
  have hr8 : Cells W8 (w.heap.size + 1) 55 (ncells 0 0 0 0 0 (.slice none 0 0) (.slice none 0 0)) := by
    rw [← hW8]; exact (R6.out.below' HB7.out).far (p := ⟨w.heap.size, 6, none⟩) (by simp) _
  have oI8 : OwnI W8 (w.heap.size + 2) (.slice A3 P.length c3') P := by
    rw [← hW8]
    exact own_far (OI6.out.below HB7.out) (p := ⟨w.heap.size, 6, none⟩) (by simp) _
  have oE8 : OwnE W8 (w.heap.size + 2) (.slice B3 N.length d3') N := by
    rw [← hW8]
    have h := HO7.out
    rw [List.nil_append] at h
    exact own_far h (p := ⟨w.heap.size, 6, none⟩) (by simp) _
  rw [hW8]
  obtain ⟨c0, c1, c2, c3, c4, c5, c6⟩ := cells7 hc8
  obtain ⟨d0, d1, d2, d3, d4, d5, d6⟩ := cells7 hr8
  have z := fun j => Cells.free hr8 j
  have R8 := Lib.hid hr8; have B8 := Lib.hid b8; have OI8 := Lib.hid oI8; have OE8 := Lib.hid oE8
  clear hW8 b8 hc8 hr8 oI8 oE8 x6 z6 c6' hs6 hl3
  go_wp2
  exact bodyPost_ret (results_cell_row rfl _ _ (w.heap.size + 1) 55 (ncells i ki l s u (.slice A3 P.length c3') (.slice B3 N.length d3')) (0, 0) _ rfl (set7_cells R8.out) Tryz.underlying55 rfl (by kernel_rfl)) rfl
    ⟨_, A3, c3', B3, d3', rfl, ⟨rfl, OwnI.mono (own_set7 OI8.out (by omega)) (by omega), OwnE.mono (own_set7 OE8.out (by omega)) (by omega)⟩, set7_below B8.out (by omega)⟩
end Go.Proofs.YtamndllolppmoaaGreat
