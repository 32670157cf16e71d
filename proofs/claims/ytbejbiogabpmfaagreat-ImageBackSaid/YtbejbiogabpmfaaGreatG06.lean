import Derived.Test.YtbejbiogabpmfaaGreatG05

/-! All nodes, plainly: a row of nodes, found by number, changed one by one. -/
namespace Go.Proofs.YtbejbiogabpmfaaGreat
open Wd Ino
set_option linter.unusedVariables false
set_option linter.unusedSimpArgs false
/-- one node, plainly, wherever its pages and names lie -/
structure Nod where
  ino : Int
  kind : Int
  links : Int
  size : Int
  up : Int
  pages : List Int
  names : List Ent
deriving DecidableEq
/-- all nodes, and the greatest number that one ever had -/
structure Stt where
  l : List Nod
  last : Int
deriving DecidableEq

def atS (l : List Nod) (i : Int) : Option Nod := l.find? (fun n => decide (n.ino = i))
def zeroN : Nod := ⟨0, 0, 0, 0, 0, [], []⟩
def getS (l : List Nod) (i : Int) : Nod := (atS l i).getD zeroN
def kindS (l : List Nod) (i : Int) : Int := (getS l i).kind
def namesS (l : List Nod) (i : Int) : List Ent := (getS l i).names
def upS (l : List Nod) (i : Int) : Int := (getS l i).up
def modS (l : List Nod) (i : Int) (f : Nod → Nod) : List Nod := l.map (fun n => if n.ino = i then f n else n)
def rmS (l : List Nod) (i : Int) : List Nod := l.filter (fun n => !decide (n.ino = i))
def cntS (l : List Nod) (i : Int) : Nat := (l.map (fun d => countN i d.names)).sum
def putNm (s : ByteArray) (i : Int) (n : Nod) : Nod := { n with names := putR' s i n.names }
where putR' (s : ByteArray) (i : Int) (l : List Ent) : List Ent := if hasN s l then l else putN s i l
def cutNm (s : ByteArray) (n : Nod) : Nod := { n with names := dropN s n.names }
def lessLk (n : Nod) : Nod := { n with links := n.links - 1 }
def moreLk (n : Nod) : Nod := { n with links := n.links + 1 }
def setUp (u : Int) (n : Nod) : Nod := { n with up := u }

theorem atS_ino {l : List Nod} {i : Int} {n : Nod} (h : atS l i = some n) : n.ino = i := by
  have := List.find?_some h
  simpa using this
theorem atS_mem {l : List Nod} {i : Int} {n : Nod} (h : atS l i = some n) : n ∈ l := List.mem_of_find?_eq_some h
theorem atS_none {l : List Nod} {i : Int} : atS l i = none ↔ ∀ n ∈ l, n.ino ≠ i := by
  unfold atS
  rw [List.find?_eq_none]
  simp
theorem atS_cons (n : Nod) (l : List Nod) (i : Int) : atS (n :: l) i = if n.ino = i then some n else atS l i := by
  unfold atS
  rw [List.find?_cons]
  by_cases h : n.ino = i <;> simp [h]
theorem atS_of_mem {l : List Nod} (hp : l.Pairwise (fun a b => a.ino < b.ino)) {n : Nod} (h : n ∈ l) : atS l n.ino = some n := by
  induction l with
  | nil => cases h
  | cons a l ih =>
    rw [List.pairwise_cons] at hp
    rw [atS_cons]
    rcases List.mem_cons.1 h with rfl | h
    · simp
    · have := hp.1 n h
      rw [if_neg (by omega)]
      exact ih hp.2 h
theorem atS_mod {l : List Nod} {i : Int} {f : Nod → Nod} (hf : ∀ n, (f n).ino = n.ino) (j : Int) : atS (modS l i f) j = (atS l j).map (fun n => if j = i then f n else n) := by
  induction l with
  | nil => rfl
  | cons a l ih =>
    have e : modS (a :: l) i f = (if a.ino = i then f a else a) :: modS l i f := rfl
    rw [e, atS_cons, atS_cons, ih]
    by_cases h : a.ino = i
    · rw [if_pos h, hf]
      by_cases h2 : a.ino = j
      · rw [if_pos h2, if_pos h2]; simp [← h2, h]
      · rw [if_neg h2, if_neg h2]
    · rw [if_neg h]
      by_cases h2 : a.ino = j
      · rw [if_pos h2, if_pos h2]; simp [show ¬ j = i by omega]
      · rw [if_neg h2, if_neg h2]
theorem atS_rm (l : List Nod) (i j : Int) : atS (rmS l i) j = if j = i then none else atS l j := by
  induction l with
  | nil => simp [rmS, atS]
  | cons a l ih =>
    have e : rmS (a :: l) i = if a.ino = i then rmS l i else a :: rmS l i := by
      unfold rmS
      rw [List.filter_cons]
      by_cases h : a.ino = i <;> simp [h]
    rw [e, atS_cons]
    by_cases h : a.ino = i
    · rw [if_pos h, ih]
      by_cases h2 : j = i
      · rw [if_pos h2, if_pos h2]
      · rw [if_neg h2, if_neg h2, if_neg (by omega)]
    · rw [if_neg h, atS_cons, ih]
      by_cases h2 : j = i
      · rw [if_pos h2, if_neg (by omega), if_pos h2]
      · rw [if_neg h2, if_neg h2]
theorem atS_app (l : List Nod) (n : Nod) (j : Int) : atS (l ++ [n]) j = (atS l j).or (if n.ino = j then some n else none) := by
  induction l with
  | nil => rw [List.nil_append, atS_cons]; rfl
  | cons a l ih =>
    rw [List.cons_append, atS_cons, atS_cons, ih]
    by_cases h : a.ino = j
    · rw [if_pos h, if_pos h]; rfl
    · rw [if_neg h, if_neg h]

def AscS (l : List Nod) : Prop := l.Pairwise (fun a b => a.ino < b.ino)
theorem modS_len (l : List Nod) (i : Int) (f : Nod → Nod) : (modS l i f).length = l.length := by unfold modS; simp
theorem asc_mod {l : List Nod} (h : AscS l) {i : Int} {f : Nod → Nod} (hf : ∀ n, (f n).ino = n.ino) : AscS (modS l i f) := by
  unfold AscS modS
  rw [List.pairwise_map]
  refine h.imp fun {a b} hab => ?_
  have e : ∀ n : Nod, (if n.ino = i then f n else n).ino = n.ino := fun n => by split <;> simp [hf]
  rw [e, e]
  exact hab
theorem asc_rm {l : List Nod} (h : AscS l) (i : Int) : AscS (rmS l i) := List.Pairwise.filter _ h
theorem asc_app {l : List Nod} (h : AscS l) {n : Nod} (hn : ∀ a ∈ l, a.ino < n.ino) : AscS (l ++ [n]) := by
  unfold AscS
  rw [List.pairwise_append]
  exact ⟨h, List.pairwise_singleton _ _, fun a ha b hb => by rw [List.mem_singleton.1 hb]; exact hn a ha⟩

/-! how often a number is named -/
theorem cnt_mod {l : List Nod} (hp : AscS l) {i : Int} {n : Nod} {f : Nod → Nod} (h : atS l i = some n) (j : Int) : cntS (modS l i f) j + countN j n.names = cntS l j + countN j (f n).names := by
  induction l with
  | nil => cases h
  | cons a l ih =>
    have hp' := List.pairwise_cons.1 hp
    have e : cntS (modS (a :: l) i f) j = countN j (if a.ino = i then f a else a).names + cntS (modS l i f) j := by unfold cntS modS; simp
    have e2 : cntS (a :: l) j = countN j a.names + cntS l j := by unfold cntS; simp
    rw [e, e2]
    rw [atS_cons] at h
    by_cases hi : a.ino = i
    · rw [if_pos hi] at h
      obtain rfl := Option.some.inj h
      have e3 : modS l i f = l := by
        unfold modS
        conv => rhs; rw [← List.map_id l]
        refine List.map_congr_left fun b hb => ?_
        have := hp'.1 b hb
        rw [if_neg (by omega)]; rfl
      rw [if_pos hi, e3]
      omega
    · rw [if_neg hi] at h
      have := ih hp'.2 h
      rw [if_neg hi]
      omega
theorem cnt_rm {l : List Nod} (hp : AscS l) {i : Int} {n : Nod} (h : atS l i = some n) (j : Int) : cntS (rmS l i) j + countN j n.names = cntS l j := by
  induction l with
  | nil => cases h
  | cons a l ih =>
    have hp' := List.pairwise_cons.1 hp
    have e2 : cntS (a :: l) j = countN j a.names + cntS l j := by unfold cntS; simp
    have e : rmS (a :: l) i = if a.ino = i then rmS l i else a :: rmS l i := by
      unfold rmS
      rw [List.filter_cons]
      by_cases h : a.ino = i <;> simp [h]
    rw [e, e2]
    rw [atS_cons] at h
    by_cases hi : a.ino = i
    · rw [if_pos hi] at h
      obtain rfl := Option.some.inj h
      have e3 : rmS l i = l := by
        unfold rmS
        refine List.filter_eq_self.2 fun b hb => ?_
        have := hp'.1 b hb
        simp; omega
      rw [if_pos hi, e3]
      omega
    · rw [if_neg hi] at h
      have := ih hp'.2 h
      rw [if_neg hi]
      have e4 : cntS (a :: rmS l i) j = countN j a.names + cntS (rmS l i) j := by unfold cntS; simp
      omega
theorem cnt_app (l : List Nod) (n : Nod) (j : Int) : cntS (l ++ [n]) j = cntS l j + countN j n.names := by
  unfold cntS; simp [List.sum_append]
theorem cnt_zero {l : List Nod} {j : Int} (h : cntS l j = 0) : ∀ d ∈ l, ∀ e ∈ d.names, e.n ≠ j := by
  induction l with
  | nil => intro d hd; cases hd
  | cons a l ih =>
    have e2 : cntS (a :: l) j = countN j a.names + cntS l j := by unfold cntS; simp
    rw [e2] at h
    intro d hd e he
    rcases List.mem_cons.1 hd with rfl | hd
    · have h0 : countN j d.names = 0 := by omega
      unfold countN at h0
      have := List.countP_eq_zero.1 h0 e he
      simpa using this
    · exact ih (by omega) d hd e he
/-! names in one directory: how often -/
theorem countN_put (s : ByteArray) (m j : Int) (l : List Ent) : countN j (putN s m l) = countN j l + (if m = j then 1 else 0) := by
  have e : ∀ k : Nat, countN j l = countN j (l.take k) + countN j (l.drop k) := fun k => by
    unfold countN
    rw [← List.countP_append, List.take_append_drop]
  have e2 : countN j (putN s m l) = countN j (l.take (l.findIdx (foreE s))) + (countN j (l.drop (l.findIdx (foreE s))) + if m = j then 1 else 0) := by
    unfold putN countN
    rw [List.countP_append, List.countP_cons]
    simp
  rw [e2, e (l.findIdx (foreE s))]
  omega
theorem countN_drop {s : ByteArray} {l : List Ent} (hr : RightN l) (h : hasN s l = true) (j : Int) : countN j (dropN s l) + (if inoN s l = j then 1 else 0) = countN j l := by
  induction l with
  | nil => simp [hasN] at h
  | cons e l ih =>
    have hc := List.pairwise_cons.1 hr.2
    have hr' : RightN l := ⟨fun x hx => hr.1 x (List.mem_cons_of_mem _ hx), hc.2⟩
    rw [dropN_cons]
    have e1 : inoN s (e :: l) = if nameIs s e then e.n else inoN s l := rfl
    rw [e1]
    cases hs : nameIs s e with
    | true =>
      have e2 : dropN s l = l := by
        refine dropN_none (has_false.2 fun x hx => ?_)
        have h1 := hc.1 x hx
        have h2 := nameIs_iff.1 hs
        rw [h2] at h1
        cases h3 : nameIs s x
        · rfl
        · rw [nameIs_iff.1 h3, lessN_irrefl] at h1; cases h1
      rw [if_pos rfl, e2, if_pos rfl]
      unfold countN
      rw [List.countP_cons]
      by_cases h : e.n = j <;> simp [h]
    | false =>
      rw [hasN_cons, hs, Bool.false_or] at h
      have := ih hr' h
      simp only [Bool.false_eq_true, if_false]
      have e3 : countN j (e :: dropN s l) = countN j (dropN s l) + (if e.n = j then 1 else 0) := by unfold countN; rw [List.countP_cons]; simp
      have e4 : countN j (e :: l) = countN j l + (if e.n = j then 1 else 0) := by unfold countN; rw [List.countP_cons]; simp
      rw [e3, e4]
      omega
theorem mem_putN {s : ByteArray} {m : Int} {l : List Ent} {e : Ent} (h : e ∈ putN s m l) : e = ⟨s, m⟩ ∨ e ∈ l := by
  unfold putN at h
  rcases List.mem_append.1 h with h | h
  · exact .inr (List.mem_of_mem_take h)
  · rcases List.mem_cons.1 h with h | h
    · exact .inl h
    · exact .inr (List.mem_of_mem_drop h)
theorem putN_len (s : ByteArray) (m : Int) (l : List Ent) : (putN s m l).length = l.length + 1 := by
  unfold putN
  rw [List.length_append, List.length_cons, List.length_take, List.length_drop]
  have := List.findIdx_le_length (p := foreE s) (xs := l)
  omega
theorem mem_dropN {s : ByteArray} {l : List Ent} {e : Ent} (h : e ∈ dropN s l) : e ∈ l := (List.mem_filter.1 h).1
theorem has_mem {s : ByteArray} {l : List Ent} (h : hasN s l = true) : ∃ e ∈ l, e.s = s ∧ e.n = inoN s l := by
  induction l with
  | nil => simp [hasN] at h
  | cons a l ih =>
    have e1 : inoN s (a :: l) = if nameIs s a then a.n else inoN s l := rfl
    rw [e1]
    cases hs : nameIs s a with
    | true => exact ⟨a, List.mem_cons_self, nameIs_iff.1 hs, by simp⟩
    | false =>
      rw [hasN_cons, hs, Bool.false_or] at h
      obtain ⟨e, he, h1, h2⟩ := ih h
      exact ⟨e, List.mem_cons_of_mem _ he, h1, by simpa using h2⟩
end Go.Proofs.YtbejbiogabpmfaaGreat

namespace Go.Proofs.YtbejbiogabpmfaaGreat
open Wd Ino Go.RowKit Go.ChangeShapes Go.WideShapes Go.Sort
set_option linter.unusedVariables false
set_option maxRecDepth 100000

/-! the document's copy -/
set_option maxHeartbeats 8000000 in
theorem rCopy (n : Nd) (w : World) (h : n.In w) (hp : n.pages.length ≤ 1000) (hq : n.names.length ≤ 1000) :
    Calls Tryz.prog 69 #[n.val] w fun e w' => ∃ V A ac B bc, e = .returned V ∧ OwnN w' w.heap.size V n.ino n.kind n.links n.size n.up n.pages n.names A ac B bc ∧ Below w.heap.size w w' := by
  obtain ⟨i, ki, l, s, u, A, ac, P, B, bc, N⟩ := n
  dsimp only at hp hq ⊢
  have hr := h.row
  have he := h.ens
  dsimp only at hr he
  have hRow := hr
  unfold Nd.val
  dsimp only
  have HB0 := Lib.hid (((Below.refl w.heap.size w).alloc (Nat.le_refl _) (.cells (ncells i ki l s u (.slice A P.length ac) (.slice B N.length bc)) 51)).alloc (by simp) (.cells (ncells 0 0 0 0 0 (.slice none 0 0) (.slice none 0 0)) 51))
  have hc : Cells ((w.alloc (.cells (ncells i ki l s u (.slice A P.length ac) (.slice B N.length bc)) 51)).alloc (.cells (ncells 0 0 0 0 0 (.slice none 0 0) (.slice none 0 0)) 51)) w.heap.size 51 (ncells i ki l s u (.slice A P.length ac) (.slice B N.length bc)) := (Cells.new _ _ _).alloc _
  have hr2 : Cells ((w.alloc (.cells (ncells i ki l s u (.slice A P.length ac) (.slice B N.length bc)) 51)).alloc (.cells (ncells 0 0 0 0 0 (.slice none 0 0) (.slice none 0 0)) 51)) (w.heap.size + 1) 51 (ncells 0 0 0 0 0 (.slice none 0 0) (.slice none 0 0)) := by
    have := Cells.new (w.alloc (.cells (ncells i ki l s u (.slice A P.length ac) (.slice B N.length bc)) 51)) 51 (ncells 0 0 0 0 0 (.slice none 0 0) (.slice none 0 0)); simpa using this
  obtain ⟨W2, hW2⟩ : ∃ W2, (w.alloc (.cells (ncells i ki l s u (.slice A P.length ac) (.slice B N.length bc)) 51)).alloc (.cells (ncells 0 0 0 0 0 (.slice none 0 0) (.slice none 0 0)) 51) = W2 := ⟨_, rfl⟩
  have hs2 : W2.heap.size = w.heap.size + 2 := by rw [← hW2]; simp
  rw [hW2] at HB0 hc hr2
  have HE0 := Lib.hid he
  have hrow2 := (hr.below HB0.out).more HB0.out.size
  have hens2 := (he.below HB0.out).more HB0.out.size
  unfold ncells at hW2
  have HC := Lib.hid hc; have HR := Lib.hid hr2; have HS2 := Lib.hid hs2; have HRow := Lib.hid hrow2; have HEns := Lib.hid hens2
  have h1 : 0 + P.length ≤ 1000 := by omega
  have hb2 : w.heap.size + 2 ≤ W2.heap.size := Nat.le_of_eq hs2.symm
  have hl3 : ([] : List Ent).length + N.length ≤ 100000 := by rw [List.length_nil]; omega
  have O2 := Lib.hid (own_nil W2 (w.heap.size + 2) 3)
  clear hr he h hRow hrow2 hens2
  go_enter Tryz.func69, Tryz.ntmps69
  go_upto_region 1 with fail
  obtain ⟨c0, c1, c2, c3, c4, c5, c6⟩ := cells7 hc
  clear hc hr2 hW2 hs2
  go_upto_region 2 with (at_builtin; refine wpList_append_row _ rfl (.const (.slice none 0 0)) (.tmp 4) 40 rfl (w.heap.size + 2) 3 (.int .i64 0) 8 Tryz.underlying40 infoI rfl (.slice none 0 0) 0 [] rfl O2.out _ A P.length ac (P.map iv) rfl HRow.out (oneI _) (by unfold maxLen; omega) (by omega) hb2 ?_; intro v5 w5 hown5 hgr5 hat5; obtain ⟨A3, c3', rfl, _⟩ := Row.of_own hown5; have hb5 : Below W2.heap.size W2 w5 := (Below.refl _ _).grown hgr5 (Nat.le_refl _) (fun q e => by cases e); have HO5 := Lib.hid hown5; have HB5 := Lib.hid hb5; have x5 := (HC.out.below' hb5).cell 5; have z5 := (HC.out.below' hb5).free 5; simp [ncells] at x5; clear hown5 hgr5 hat5 hb5)
  obtain ⟨W6, hW6⟩ : ∃ W6, w5.setCell ⟨w.heap.size, 5, none⟩ (.slice A3 P.length c3') = W6 := ⟨_, rfl⟩
  have hB5 := HB0.out.trans (HB5.out.mono HB0.out.size)
  have b6 : Below w.heap.size w W6 := by rw [← hW6]; exact hB5.setCell (p := ⟨w.heap.size, 5, none⟩) (Nat.le_refl _) _
  have hc6 : Cells W6 w.heap.size 51 (ncells i ki l s u (.slice A3 P.length c3') (.slice B N.length bc)) := by
    rw [← hW6]
    have h : Cells _ w.heap.size 51 (ncells i ki l s u (.slice A3 P.length c3') (.slice B N.length bc)) := Cells.set (HC.out.below' HB5.out) 5 (.slice A3 P.length c3')
    exact h
  have hr6 : Cells W6 (w.heap.size + 1) 51 (ncells 0 0 0 0 0 (.slice none 0 0) (.slice none 0 0)) := by
    rw [← hW6]; exact (HR.out.below' HB5.out).far (p := ⟨w.heap.size, 5, none⟩) (by simp) _
  have oI6 : OwnI W6 (w.heap.size + 2) (.slice A3 P.length c3') P := by
    rw [← hW6]
    have h := HO5.out
    rw [List.nil_append, Nat.zero_add] at h
    exact own_far h (p := ⟨w.heap.size, 5, none⟩) (by simp) _
  rw [hW6]
  have hens6 := (HE0.out.below b6).more b6.size
  have hs6 : w.heap.size + 2 ≤ W6.heap.size := by have := hr6.lt; omega
  have c6' := (cells7 hc6).2.2.2.2.2.2
  have O6 := Lib.hid (own_nilE W6 (w.heap.size + 2))
  have B6 := Lib.hid b6; have C6 := Lib.hid hc6; have R6 := Lib.hid hr6; have OI6 := Lib.hid oI6; have E6 := Lib.hid hens6
  clear hW6 hB5 b6 hc6 hr6 oI6 hens6 c0 c1 c2 c3 c4 c5 c6 x5 z5 HO5 HB5 HC HR HS2 HRow HEns HB0 O2 hb2 h1
  go_upto_region 3 with (at_builtin; refine wpList_append_ens rfl (.const (.slice none 0 0)) (.tmp 8) rfl rfl rfl O6.out E6.out hl3 hs6 ?_; intro v7 w7 hown7 hgr7 hat7; obtain ⟨B3, d3', rfl, _, _⟩ := hown7.form; have hb7 : Below W6.heap.size W6 w7 := (Below.refl _ _).grown hgr7 (Nat.le_refl _) (fun q e => by cases e); have HO7 := Lib.hid hown7; have HB7 := Lib.hid hb7; have x6 := (C6.out.below' hb7).cell 6; have z6 := (C6.out.below' hb7).free 6; simp [ncells] at x6; clear hown7 hgr7 hat7 hb7)
  obtain ⟨W8, hW8⟩ : ∃ W8, w7.setCell ⟨w.heap.size, 6, none⟩ (.slice B3 N.length d3') = W8 := ⟨_, rfl⟩
  have b8 : Below w.heap.size w W8 := by rw [← hW8]; exact (B6.out.trans (HB7.out.mono B6.out.size)).setCell (p := ⟨w.heap.size, 6, none⟩) (Nat.le_refl _) _
  have hc8 : Cells W8 w.heap.size 51 (ncells i ki l s u (.slice A3 P.length c3') (.slice B3 N.length d3')) := by
    rw [← hW8]
    have h : Cells _ w.heap.size 51 (ncells i ki l s u (.slice A3 P.length c3') (.slice B3 N.length d3')) := Cells.set (C6.out.below' HB7.out) 6 (.slice B3 N.length d3')
    exact h
  have hr8 : Cells W8 (w.heap.size + 1) 51 (ncells 0 0 0 0 0 (.slice none 0 0) (.slice none 0 0)) := by
    rw [← hW8]; exact (R6.out.below' HB7.out).far (p := ⟨w.heap.size, 6, none⟩) (by simp) _
  have oI8 : OwnI W8 (w.heap.size + 2) (.slice A3 P.length c3') P := by
    rw [← hW8]
    exact own_far (OI6.out.below HB7.out) (p := ⟨w.heap.size, 6, none⟩) (by simp) _
  have oE8 : OwnE W8 (w.heap.size + 2) (.slice B3 N.length d3') N := by
    rw [← hW8]
    have h := HO7.out
    rw [List.nil_append] at h
    exact own_far h (p := ⟨w.heap.size, 6, none⟩) (by simp) _
  rw [hW8]
  obtain ⟨c0, c1, c2, c3, c4, c5, c6⟩ := cells7 hc8
  obtain ⟨d0, d1, d2, d3, d4, d5, d6⟩ := cells7 hr8
  have z := fun j => Cells.free hr8 j
  have R8 := Lib.hid hr8; have B8 := Lib.hid b8; have OI8 := Lib.hid oI8; have OE8 := Lib.hid oE8
  clear hW8 b8 hc8 hr8 oI8 oE8 x6 z6 c6' hs6 hl3
  go_wp2
  exact bodyPost_ret (results_cell_row rfl _ _ (w.heap.size + 1) 51 (ncells i ki l s u (.slice A3 P.length c3') (.slice B3 N.length d3')) (0, 0) _ rfl (set7_cells R8.out) Tryz.underlying51 rfl (by kernel_rfl)) rfl
    ⟨_, A3, c3', B3, d3', rfl, ⟨rfl, OwnI.mono (own_set7 OI8.out (by omega)) (by omega), OwnE.mono (own_set7 OE8.out (by omega)) (by omega)⟩, set7_below B8.out (by omega)⟩
end Go.Proofs.YtbejbiogabpmfaaGreat

namespace Go.Proofs.YtbejbiogabpmfaaGreat
open Wd Ino Go.RowKit Go.ChangeShapes Go.WideShapes Go.Sort
set_option linter.unusedVariables false
set_option maxRecDepth 100000

/-! the document's Resize -/
theorem own_grown {w w' : World} {base : Nat} {e : TypeId} {sz n : Nat} {v : Value} {xs : List Value} {row : Option Nat} (h : w.ownsRow base e sz v n xs) (hgr : w.grownBy w' row) (hne : ∀ b, v.ownBlock = some b → row ≠ some b) : w'.ownsRow base e sz v n xs := by
  rcases h with ⟨hl, h⟩
  refine ⟨hl, ?_⟩
  rcases h with h | ⟨g, cap, cur, rfl, hb, hh, h1⟩
  · exact .inl h
  · exact .inr ⟨g, cap, cur, rfl, hb, (hgr.block g (lt_of_block hh) (fun e => hne g rfl e.symm)).trans hh, h1⟩
theorem own_ne {w : World} {base : Nat} {e t : TypeId} {sz n g : Nat} {v : Value} {xs : List Value} {cs : Array Value} (h : w.ownsRow base e sz v n xs) (hc : Cells w g t cs) (ht : t ≠ e) : some g ≠ v.ownBlock := by
  rcases h.2 with ⟨rfl, _⟩ | ⟨g', cap, cur, rfl, _, hh, _⟩
  · intro e; cases e
  · intro e'
    have : g = g' := by simpa [Value.ownBlock] using e'
    subst this
    exact Cells.ne hc (show Cells w g e cur from hh) ht rfl
theorem own_ne' {w : World} {b1 b2 : Nat} {e t : TypeId} {s1 s2 n1 n2 : Nat} {v u : Value} {xs ys : List Value} (h : w.ownsRow b1 e s1 v n1 xs) (k : w.ownsRow b2 t s2 u n2 ys) (ht : t ≠ e) : ∀ b, u.ownBlock = some b → v.ownBlock ≠ some b := by
  intro b hb e'
  rcases k.2 with ⟨rfl, _⟩ | ⟨g', cap, cur, rfl, _, hh, _⟩
  · cases hb
  · have : g' = b := by simpa [Value.ownBlock] using hb
    subst this
    exact own_ne h (show Cells w g' t cur from hh) ht e'.symm
theorem fit_at (P : List Int) (K k : Nat) (hk : k < K) : (fitP P K)[k]? = some ((P[k]?).getD 0) := by
  unfold fitP
  by_cases h : k < P.length
  · rw [List.getElem?_append_left (by rw [List.length_take]; omega), List.getElem?_take_of_lt hk, List.getElem?_eq_getElem h, Option.getD_some]
  · rw [List.getElem?_append_right (by rw [List.length_take]; omega), show P[k]? = none from List.getElem?_eq_none (by omega), Option.getD_none, List.length_take, List.getElem?_replicate, if_pos (by omega)]
theorem fit_grow (P : List Int) (K k : Nat) (hk : k < K) : (fitP P K).take (k + 1) = (fitP P K).take k ++ [(P[k]?).getD 0] := take_two (fit_at P K k hk)
theorem fit_full (P : List Int) (K k : Nat) (hk : K ≤ k) : (fitP P K).take k = fitP P K := List.take_of_length_le (by rw [fit_len]; exact hk)
theorem fit_part (P : List Int) (K k : Nat) : ((fitP P K).take k).length ≤ K := by rw [List.length_take, fit_len]; omega
theorem gone_none (P : List Int) (K k : Nat) (hk : k ≤ K) : (P.take k).drop K = [] := List.drop_of_length_le (by rw [List.length_take]; omega)
theorem gone_grow {P : List Int} {K k : Nat} {x : Int} (hk : K ≤ k) (hx : P[k]? = some x) : refsP ((P.take (k + 1)).drop K) = refsP ((P.take k).drop K) ++ (if x = 0 then [] else [x]) := by
  have hkl := (List.getElem?_eq_some_iff.1 hx).1
  rw [take_two hx, List.drop_append_of_le_length (by rw [List.length_take]; omega)]
  unfold refsP
  rw [List.filter_append]
  by_cases h : x = 0
  · simp [h]
  · simp [h]
theorem gone_len (P : List Int) (K k : Nat) : (refsP ((P.take k).drop K)).length ≤ P.length := by
  refine Nat.le_trans (refs_len _) ?_
  rw [List.length_drop, List.length_take]; omega
structure RzAt (n : Nd) (size : Int) (K hn : Nat) (B4 : Option Addr) (c4 : Nat) (w : World) (k : Nat) (A3 : Option Addr) (c3 : Nat) (G : Value) (wr : World) : Prop where
  row : OwnI wr (w.heap.size + 2) (.slice A3 ((fitP n.pages K).take k).length c3) ((fitP n.pages K).take k)
  gone : OwnI wr (w.heap.size + 2) G (refsP ((n.pages.take k).drop K))
  apart : ∀ b, (Value.slice A3 ((fitP n.pages K).take k).length c3).ownBlock = some b → G.ownBlock ≠ some b
  names : OwnE wr (w.heap.size + 2) (.slice B4 n.names.length c4) n.names
  own : Cells wr hn 51 (ncells n.ino n.kind n.links size n.up (.slice A3 ((fitP n.pages K).take k).length c3) (.slice B4 n.names.length c4))
  arg : Cells wr w.heap.size 51 (ncells n.ino n.kind n.links n.size n.up (.slice n.A n.pages.length n.ac) (.slice n.B n.names.length n.bc))
  res : Cells wr (w.heap.size + 1) 51 (ncells 0 0 0 0 0 (.slice none 0 0) (.slice none 0 0))
  hn : w.heap.size + 2 ≤ hn
  below : Below w.heap.size w wr
  nil : k ≤ K → G = .slice none 0 0
theorem RzAt.grown {n : Nd} {size : Int} {K hn : Nat} {B4 : Option Addr} {c4 : Nat} {w : World} {k : Nat} {A3 : Option Addr} {c3 : Nat} {G : Value} {wr : World} (h : RzAt n size K hn B4 c4 w k A3 c3 G wr) {wx : World} (hb : Below wr.heap.size wr wx) : RzAt n size K hn B4 c4 w k A3 c3 G wx :=
  ⟨h.row.below hb, h.gone.below hb, h.apart, h.names.below hb, h.own.below' hb, h.arg.below' hb, h.res.below' hb, h.hn, h.below.trans (hb.mono h.below.size), h.nil⟩
/-- one page more: the row grew -/
theorem RzAt.put {n : Nd} {size : Int} {K hn : Nat} {B4 : Option Addr} {c4 : Nat} {w : World} {k : Nat} {A3 : Option Addr} {c3 : Nat} {G : Value} {wr wx : World} (h : RzAt n size K hn B4 c4 w k A3 c3 G wr) (hk : k < K)
    {A5 : Option Addr} {c5 : Nat} (ho : wx.ownsRow (w.heap.size + 2) 3 1 (.slice A5 (((fitP n.pages K).take k).length + 1) c5) (((fitP n.pages K).take k).length + 1) (((fitP n.pages K).take k).map iv ++ [iv ((n.pages[k]?).getD 0)]))
    (hgr : wr.grownBy wx (Value.slice A3 ((fitP n.pages K).take k).length c3).ownBlock) :
    RzAt n size K hn B4 c4 w (k + 1) A5 c5 (.slice none 0 0) (wx.setCell ⟨hn, 5, none⟩ (.slice A5 (((fitP n.pages K).take k).length + 1) c5)) := by
  have hl : ((fitP n.pages K).take (k + 1)).length = ((fitP n.pages K).take k).length + 1 := by rw [fit_grow _ _ _ hk, List.length_append]; rfl
  have hx : OwnI wx (w.heap.size + 2) (.slice A5 ((fitP n.pages K).take (k + 1)).length c5) ((fitP n.pages K).take (k + 1)) := by
    unfold OwnI
    rw [hl, fit_grow _ _ _ hk, List.map_append]
    exact ho
  have hown := h.own.grown hgr (own_ne h.row h.own (by decide))
  have hnm : OwnE wx (w.heap.size + 2) (.slice B4 n.names.length c4) n.names := own_grown h.names hgr (own_ne' h.row h.names (by decide))
  have harg := h.arg.grown hgr (own_ne h.row h.arg (by decide))
  have hres := h.res.grown hgr (own_ne h.row h.res (by decide))
  have h2 := h.hn
  have hbl : Below w.heap.size w wx := h.below.grown hgr h.below.size (fun q e => Nat.le_trans (Nat.le_add_right _ 2) (own_base h.row q e))
  refine ⟨?_, ?_, (fun b _ e => by cases e), ?_, ?_, ?_, ?_, h2, hbl.setCell (p := ⟨hn, 5, none⟩) (by simp; omega) _, fun _ => rfl⟩
  · exact own_apart hx hown (by decide) _ _
  · rw [gone_none _ _ _ (by omega)]
    exact OwnI.nil _ _
  · exact own_apart hnm hown (by decide) _ _
  · have h3 : Cells _ hn 51 (ncells n.ino n.kind n.links size n.up (.slice A5 (((fitP n.pages K).take k).length + 1) c5) (.slice B4 n.names.length c4)) := Cells.set hown 5 (.slice A5 (((fitP n.pages K).take k).length + 1) c5)
    rw [hl]
    exact h3
  · exact harg.far (p := ⟨hn, 5, none⟩) (by simp; omega) _
  · exact hres.far (p := ⟨hn, 5, none⟩) (by simp; omega) _
/-- one page less, and it isn't told -/
theorem RzAt.skip {n : Nd} {size : Int} {K hn : Nat} {B4 : Option Addr} {c4 : Nat} {w : World} {k : Nat} {A3 : Option Addr} {c3 : Nat} {G : Value} {wr : World} (h : RzAt n size K hn B4 c4 w k A3 c3 G wr) (hk : K ≤ k) (hx : n.pages[k]? = some 0) :
    RzAt n size K hn B4 c4 w (k + 1) A3 c3 G wr := by
  have e1 : (fitP n.pages K).take (k + 1) = (fitP n.pages K).take k := by rw [fit_full _ _ _ hk, fit_full _ _ _ (by omega)]
  refine ⟨by rw [e1]; exact h.row, ?_, by rw [e1]; exact h.apart, h.names, by rw [e1]; exact h.own, h.arg, h.res, h.hn, h.below, fun h0 => by omega⟩
  rw [gone_grow hk hx, if_pos rfl, List.append_nil]
  exact h.gone
/-- one page cut off -/
theorem RzAt.cut {n : Nd} {size : Int} {K hn : Nat} {B4 : Option Addr} {c4 : Nat} {w : World} {k : Nat} {A3 : Option Addr} {c3 : Nat} {G G' : Value} {wr wx : World} {x : Int} (h : RzAt n size K hn B4 c4 w k A3 c3 G wr) (hk : K ≤ k) (hx : n.pages[k]? = some x) (hx0 : x ≠ 0)
    (ho : wx.ownsRow (w.heap.size + 2) 3 1 G' ((refsP ((n.pages.take k).drop K)).length + 1) ((refsP ((n.pages.take k).drop K)).map iv ++ [iv x])) (hgr : wr.grownBy wx G.ownBlock) (hat : G'.ownBlock = G.ownBlock ∨ G'.ownBlock = some wr.heap.size) :
    RzAt n size K hn B4 c4 w (k + 1) A3 c3 G' wx := by
  have e1 : (fitP n.pages K).take (k + 1) = (fitP n.pages K).take k := by rw [fit_full _ _ _ hk, fit_full _ _ _ (by omega)]
  have hap : ∀ b, (Value.slice A3 ((fitP n.pages K).take k).length c3).ownBlock = some b → G'.ownBlock ≠ some b := by
    intro b hb e'
    rcases hat with h1 | h1
    · exact h.apart b hb (by rw [← h1]; exact e')
    · rw [h1] at e'
      have hbb : wr.heap.size = b := by simpa using e'
      rcases h.row.2 with ⟨h0, _⟩ | ⟨g', cap, cur, hv, _, hh, _⟩
      · rw [h0] at hb; cases hb
      · rw [hv] at hb
        have : g' = b := by simpa [Value.ownBlock] using hb
        have := lt_of_block hh
        omega
  refine ⟨by rw [e1]; exact own_grown h.row hgr (fun b hb => h.apart b hb), ?_, by rw [e1]; exact hap, own_grown h.names hgr (own_ne' h.gone h.names (by decide)), by rw [e1]; exact h.own.grown hgr (own_ne h.gone h.own (by decide)), h.arg.grown hgr (own_ne h.gone h.arg (by decide)), h.res.grown hgr (own_ne h.gone h.res (by decide)), h.hn, h.below.grown hgr h.below.size (fun q e => Nat.le_trans (Nat.le_add_right _ 2) (own_base h.gone q e)), fun h0 => by omega⟩
  rw [gone_grow hk hx, if_neg hx0]
  unfold OwnI
  rw [List.length_append, List.map_append]
  exact ho
end Go.Proofs.YtbejbiogabpmfaaGreat
