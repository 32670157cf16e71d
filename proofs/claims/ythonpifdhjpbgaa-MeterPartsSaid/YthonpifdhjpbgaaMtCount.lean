import Derived.Test.YthonpifdhjpbgaaMtInts
namespace Go.Proofs.Ythonpifdhjpbgaa
open Wd So Go.ChangeShapes Go.WideShapes Go.RowKit
set_option linter.unusedVariables false

/-- how many of each class -/
def tally (l : List Nat) : List Nat := l.foldl (fun cs x => bump cs (cls x).toNat) (List.replicate 7 0)
theorem tally_snoc (l : List Nat) (x : Nat) : tally (l ++ [x]) = bump (tally l) (cls x).toNat := by
  unfold tally; rw [List.foldl_append]; rfl
theorem tally_len (l : List Nat) : (tally l).length = 7 := by
  unfold tally
  have : ∀ (cs : List Nat), (l.foldl (fun cs x => bump cs (cls x).toNat) cs).length = cs.length := by
    induction l with
    | nil => intro cs; rfl
    | cons r rs ih => intro cs; rw [List.foldl_cons, ih, bump_len]
  rw [this, List.length_replicate]
theorem cls_bd (x : Nat) : 0 ≤ cls x ∧ cls x < 7 := by
  unfold cls
  repeat' split
  all_goals omega
theorem bump_le {cs : List Nat} {i j c m : Nat} (h : ∀ k d : Nat, cs[k]? = some d → d ≤ m) (hc : (bump cs i)[j]? = some c) : c ≤ m + 1 := by
  unfold bump at hc
  by_cases e : i = j
  · subst e
    rw [List.getElem?_set] at hc
    simp only [if_true] at hc
    split at hc
    · rename_i hlt
      have := h i _ (List.getElem?_eq_getElem hlt)
      rw [List.getElem?_eq_getElem hlt] at hc
      simp at hc; omega
    · cases hc
  · rw [List.getElem?_set_ne e] at hc
    have := h j c hc; omega
theorem tally_bd (l : List Nat) : ∀ i c : Nat, (tally l)[i]? = some c → c ≤ l.length := by
  have : ∀ (l cs : List Nat) (m : Nat), (∀ k d : Nat, cs[k]? = some d → d ≤ m) → ∀ i c : Nat, (l.foldl (fun cs x => bump cs (cls x).toNat) cs)[i]? = some c → c ≤ m + l.length := by
    intro l
    induction l with
    | nil => intro cs m h i c hc; exact h i c hc
    | cons r rs ih =>
      intro cs m h i c hc
      have := ih (bump cs (cls r).toNat) (m + 1) (fun k d hd => bump_le h hd) i c hc
      simp; omega
  intro i c hc
  have := this l (List.replicate 7 0) 0 (fun k d hd => by
    have := List.mem_of_getElem? hd
    have := List.eq_of_mem_replicate this; omega) i c hc
  omega

/-- an array of counts in a block -/
def ARow (w : World) (g : Nat) (cs : List Nat) : Prop := Cells w g 33 (cs.map nat_).toArray
theorem ARow.cell {w : World} {g : Nat} {cs : List Nat} (h : ARow w g cs) {j c : Nat} (hx : cs[j]? = some c) : w.cell? ⟨g, j, none⟩ = some (.int .i64 (c : Int)) := by
  rw [Cells.cell h]; simp [hx, nat_]
theorem ARow.set {w : World} {g : Nat} {cs : List Nat} (h : ARow w g cs) (j c : Nat) : ARow (w.setCell ⟨g, j, none⟩ (.int .i64 (c : Int))) g (cs.set j c) := by
  have := Cells.set h j (.int .i64 (c : Int))
  unfold ARow
  rw [List.map_set, ← List.setIfInBounds_toArray]
  exact this
theorem seven {l : List Nat} (h : l.length = 7) : ∃ a b c d e f g, l = [a, b, c, d, e, f, g] := by
  match l, h with
  | [a, b, c, d, e, f, g], _ => exact ⟨a, b, c, d, e, f, g, rfl⟩

theorem self_is {w : World} {a : Addr} {v : Value} (h : (w.cell? a).isSome = true) : (w.setCell a v).cell? a = some v := by
  obtain ⟨u, hu⟩ := Option.isSome_iff_exists.1 h
  exact World.cell?_setCell_same _ _ _ hu
theorem set7 {w wr : World} {B g : Nat} {v0 v1 v2 v3 v4 v5 v6 : Value} (h : Below B w wr) (hg : B ≤ g) : Below B w (((((((wr.setCell ⟨g, 0, none⟩ v0).setCell ⟨g, 1, none⟩ v1).setCell ⟨g, 2, none⟩ v2).setCell ⟨g, 3, none⟩ v3).setCell ⟨g, 4, none⟩ v4).setCell ⟨g, 5, none⟩ v5).setCell ⟨g, 6, none⟩ v6) :=
  ((((((h.setCell (p := ⟨g, 0, none⟩) hg v0).setCell (p := ⟨g, 1, none⟩) hg v1).setCell (p := ⟨g, 2, none⟩) hg v2).setCell (p := ⟨g, 3, none⟩) hg v3).setCell (p := ⟨g, 4, none⟩) hg v4).setCell (p := ⟨g, 5, none⟩) hg v5).setCell (p := ⟨g, 6, none⟩) hg v6

def TallyRel (l : List Nat) (o : Nat) (W : World) (i : Value) (w : World) : Prop :=
  ∃ k : Nat, k ≤ l.length ∧ i = .int .i64 k ∧ ARow w (o + 1) (tally (l.take k)) ∧ ARow w o [0, 0, 0, 0, 0, 0, 0] ∧ Below W.heap.size W w

/-- the counts, as an array -/
def Tallied (l : List Nat) (W : World) (e : Ending) (w : World) : Prop := e = .returned (.agg ((tally l).map nat_).toArray) ∧ Below W.heap.size W w

set_option maxHeartbeats 1000000 in
theorem count_any (l : List Nat) (A : Option Addr) (c : Nat) (w : World) (hn : l.length ≤ 1000) (hw : Words l) (hr : Row w w.heap.size A l.length (l.map (Value.float .f64))) :
    Calls Try.prog 20 #[.slice A l.length c] w (Tallied l w) := by
  have HR := Lib.hid hr; have HW := Lib.hid hw
  clear hr hw
  go_enter Try.func20, Try.ntmps20
  go_wp2
  go_loopw [8] (fun i wr => TallyRel l w.heap.size w i wr) (fun i _ => l.length - (intOf i).toNat)
  case atStart =>
    refine ⟨0, Nat.zero_le _, rfl, ?_, (Cells.new w _ _).alloc _, ((Below.refl _ _).alloc (Nat.le_refl _) _).alloc (by simp) _⟩
    have := Cells.new (w.alloc (.cells ([0, 0, 0, 0, 0, 0, 0].map nat_).toArray 33)) 33 ([0, 0, 0, 0, 0, 0, 0].map nat_).toArray
    rw [World.size_alloc] at this
    exact this
  case round =>
    obtain ⟨k, hk, rfl, hi, hr0, hb⟩ := hrel
    have HI := Lib.hid hi; have HB := Lib.hid hb; have HR0 := Lib.hid hr0
    clear hi hr0
    by_cases hlt : k < l.length
    · obtain ⟨b, off, x, rfl, hbb, hx, cx⟩ := (HR.out.below hb).get hlt
      have hwx := HW.out.at hx
      have ht := take_one hx
      have HT := Lib.hid ht
      clear ht hx hb
      obtain ⟨i, hi⟩ : ∃ i : Nat, cls x = (i : Int) := ⟨(cls x).toNat, by have := cls_bd x; omega⟩
      have hi7 : i < 7 := by have := cls_bd x; omega
      have hci : (cls x).toNat = i := by omega
      have HCI := Lib.hid hci; have HCX := Lib.hid hi
      obtain ⟨q, hq⟩ : ∃ q, (tally (l.take k))[i]? = some q := ⟨_, List.getElem?_eq_getElem (by rw [tally_len]; omega)⟩
      have hq1 : q ≤ 1000 := by have := tally_bd _ _ _ hq; rw [List.length_take] at this; omega
      have cq := HI.out.cell hq
      have fq : wr.frozen? ⟨w.heap.size + 1, i, none⟩ = false := Cells.free HI.out i
      have HQ := Lib.hid hq
      have hz := HB.out.size
      clear hq hci hi
      go_wp2_with fail
      refine (class_any x hwx _).mono ?_
      rintro e w' ⟨rfl, rfl⟩
      rw [HCX.out]
      go_wp2
      go_roundw
      case rel =>
        refine ⟨k + 1, by omega, by go_num, ?_, Cells.far HR0.out (by show w.heap.size ≠ w.heap.size + 1; omega) _, HB.out.setCell (Nat.le_succ _) _⟩
        rw [HT.out, tally_snoc, HCI.out]
        unfold bump
        rw [HQ.out]
        exact HI.out.set i (q + 1)
      case measure => simp [intOf]; omega
    · obtain rfl : k = l.length := by omega
      have hi := HI.out
      rw [List.take_length] at hi
      obtain ⟨a0, a1, a2, a3, a4, a5, a6, ht⟩ := seven (tally_len l)
      rw [ht] at hi
      have HT := Lib.hid ht
      have c0 := hi.cell (j := 0) rfl
      have c1 := hi.cell (j := 1) rfl
      have c2 := hi.cell (j := 2) rfl
      have c3 := hi.cell (j := 3) rfl
      have c4 := hi.cell (j := 4) rfl
      have c5 := hi.cell (j := 5) rfl
      have c6 := hi.cell (j := 6) rfl
      have d0 := HR0.out.cell (j := 0) rfl
      have d1 := HR0.out.cell (j := 1) rfl
      have d2 := HR0.out.cell (j := 2) rfl
      have d3 := HR0.out.cell (j := 3) rfl
      have d4 := HR0.out.cell (j := 4) rfl
      have d5 := HR0.out.cell (j := 5) rfl
      have d6 := HR0.out.cell (j := 6) rfl
      have f0 := Cells.free HR0.out
      clear hi ht
      go_wp2
      refine bodyPost_ret (v := .agg #[.int .i64 a0, .int .i64 a1, .int .i64 a2, .int .i64 a3, .int .i64 a4, .int .i64 a5, .int .i64 a6]) (by simp [results, Try.results20, go_sem, self_is, d0, d1, d2, d3, d4, d5, d6]) rfl ⟨?_, ?_⟩
      · rw [HT.out]; rfl
      · exact set7 HB.out (Nat.le_refl _)
end Go.Proofs.Ythonpifdhjpbgaa
