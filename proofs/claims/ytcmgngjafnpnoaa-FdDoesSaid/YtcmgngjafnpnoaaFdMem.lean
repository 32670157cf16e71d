import Derived.Test.YtcmgngjafnpnoaaWd
import Derived.Test.YtcmgngjafnpnoaaGrow
import Derived.Test.YtcmgngjafnpnoaaI64
/-! Open files, plainly, and a table of them in a world. -/
namespace Go.Proofs.Ytcmgngjafnpnoaa
open Wd Go.RowKit Go.ChangeShapes Go.WideShapes Go.Sort
set_option linter.unusedVariables false
set_option maxRecDepth 100000
structure Opn where
  ino : Int
  off : Int
  fl : Int
instance : Inhabited Opn := ⟨⟨0, 0, 0⟩⟩
def Opn.zero : Opn := ⟨0, 0, 0⟩
def Opn.cells (o : Opn) : List Value := [.int .i64 o.ino, .int .i64 o.off, .int .i64 o.fl]
def Opn.val (o : Opn) : Value := .agg #[.int .i64 o.ino, .int .i64 o.off, .int .i64 o.fl]
def ocells (T : List Opn) : List Value := T.flatMap Opn.cells
theorem ocells_len (T : List Opn) : (ocells T).length = T.length * 3 := by
  unfold ocells
  induction T with
  | nil => rfl
  | cons a t ih => rw [List.flatMap_cons, List.length_append, ih, List.length_cons]; show 3 + _ = _; omega
theorem ocells_at : ∀ (T : List Opn) (i : Nat) (o : Opn) (k : Nat) (x : Value), T[i]? = some o → o.cells[k]? = some x → (ocells T)[i * 3 + k]? = some x
  | [], i, o, k, x, h, _ => by simp at h
  | a :: t, 0, o, k, x, h, hx => by
    have e : a = o := by simpa using h
    subst e
    have hk : k < 3 := (List.getElem?_eq_some_iff.1 hx).1
    show (a.cells ++ ocells t)[0 * 3 + k]? = some x
    rw [List.getElem?_append_left (by show 0 * 3 + k < 3; omega), show 0 * 3 + k = k by omega]
    exact hx
  | a :: t, i + 1, o, k, x, h, hx => by
    have h' : t[i]? = some o := by simpa using h
    have := ocells_at t i o k x h' hx
    show (a.cells ++ ocells t)[(i + 1) * 3 + k]? = some x
    rw [List.getElem?_append_right (by show 3 ≤ _; omega)]
    have e : (i + 1) * 3 + k - a.cells.length = i * 3 + k := by show (i + 1) * 3 + k - 3 = _; omega
    rw [e]; exact this
theorem ocells_set : ∀ (T : List Opn) (i : Nat) (o : Opn), i < T.length → (((ocells T).set (i * 3) (.int .i64 o.ino)).set (i * 3 + 1) (.int .i64 o.off)).set (i * 3 + 2) (.int .i64 o.fl) = ocells (T.set i o)
  | [], i, o, h => by simp at h
  | a :: t, 0, o, _ => rfl
  | a :: t, i + 1, o, h => by
    have ih := ocells_set t i o (by simpa using h)
    show (((a.cells ++ ocells t).set ((i + 1) * 3) _).set ((i + 1) * 3 + 1) _).set ((i + 1) * 3 + 2) _ = a.cells ++ ocells (t.set i o)
    have hl : a.cells.length = 3 := rfl
    rw [List.set_append_right (h := by rw [hl]; omega), List.set_append_right (h := by rw [hl]; omega), List.set_append_right (h := by rw [hl]; omega), hl,
      show (i + 1) * 3 - 3 = i * 3 by omega, show (i + 1) * 3 + 1 - 3 = i * 3 + 1 by omega, show (i + 1) * 3 + 2 - 3 = i * 3 + 2 by omega, ih]
/-- places that aren't open are zero, others have an Ino from 1 on -/
def GoodT (T : List Opn) : Prop := T.length = 16 ∧ ∀ o ∈ T, o = Opn.zero ∨ 1 ≤ o.ino
def noneT : List Opn := List.replicate 16 Opn.zero
theorem GoodT.none : GoodT noneT := ⟨rfl, fun o h => .inl (List.eq_of_mem_replicate h)⟩
theorem GoodT.set {T : List Opn} (h : GoodT T) (i : Nat) {o : Opn} (ho : o = Opn.zero ∨ 1 ≤ o.ino) : GoodT (T.set i o) := ⟨by rw [List.length_set]; exact h.1, fun x hx => by
  rcases List.mem_or_eq_of_mem_set hx with hx | hx
  · exact h.2 x hx
  · rw [hx]; exact ho⟩
def freeT (T : List Opn) : Nat := T.findIdx (fun o => decide (o.ino = 0))
def nextB (T : List Opn) : Bool := decide (freeT T < 16)
def nextV (T : List Opn) : Nat := if freeT T < 16 then freeT T else 0
def isT (T : List Opn) (fd : Int) : Bool := decide (0 ≤ fd) && decide (fd < 16) && decide (((T[fd.toNat]?).getD Opn.zero).ino ≠ 0)
def getT (T : List Opn) (fd : Int) : Opn := if isT T fd then (T[fd.toNat]?).getD Opn.zero else Opn.zero
def openB (T : List Opn) (o : Opn) : Bool := nextB T && decide (1 ≤ o.ino)
def openT (T : List Opn) (o : Opn) : List Opn := if openB T o then T.set (freeT T) o else T
def openV (T : List Opn) (o : Opn) : Nat := if openB T o then freeT T else 0
def closeT (T : List Opn) (fd : Int) : List Opn := if isT T fd then T.set fd.toNat Opn.zero else T
def setB (T : List Opn) (fd : Int) (o : Opn) : Bool := isT T fd && decide (1 ≤ o.ino)
def setT (T : List Opn) (fd : Int) (o : Opn) : List Opn := if setB T fd o then T.set fd.toNat o else T
def allT (T : List Opn) : List Opn := T.filter (fun o => decide (o.ino ≠ 0))
def usersT (T : List Opn) (ino : Int) : Nat := (allT T).countP (fun o => decide (o.ino = ino))
/-- blocks but g are as they were -/
structure Sd (w w' : World) (g : Nat) : Prop where
  os : w'.os = w.os
  tape : w'.tape = w.tape
  output : w'.output = w.output
  size : w.heap.size ≤ w'.heap.size
  block : ∀ k, k < w.heap.size → k ≠ g → w'.heap[k]? = w.heap[k]?
theorem Sd.of {w w' : World} {g : Nat} (h : Below w.heap.size w w') : Sd w w' g := ⟨h.os, h.tape, h.output, h.size, fun k hk _ => h.block k hk⟩
theorem Sd.refl (w : World) (g : Nat) : Sd w w g := ⟨rfl, rfl, rfl, Nat.le_refl _, fun _ _ _ => rfl⟩
theorem Sd.trans {a b c : World} {g : Nat} (h : Sd a b g) (k : Sd b c g) : Sd a c g := ⟨k.os.trans h.os, k.tape.trans h.tape, k.output.trans h.output, Nat.le_trans h.size k.size, fun i hi hn => (k.block i (Nat.lt_of_lt_of_le hi h.size) hn).trans (h.block i hi hn)⟩
theorem Sd.cells {w w' : World} {g q : Nat} {t : TypeId} {cs : Array Value} (h : Sd w w' g) (hc : Cells w q t cs) (hne : q ≠ g) : Cells w' q t cs := (h.block q hc.lt hne).trans hc
theorem Sd.below {B : Nat} {w0 w w' : World} {g : Nat} (h0 : Below B w0 w) (hB : B ≤ w.heap.size) (h : Sd w w' g) (hg : B ≤ g) : Below B w0 w' := h0.trans ⟨h.os, h.tape, h.output, h.size, fun k hk => h.block k (Nat.lt_of_lt_of_le hk hB) (by omega)⟩
theorem Sd.setAt (w : World) (g i : Nat) (u : Value) : Sd w (w.setCell ⟨g, i, none⟩ u) g := ⟨rfl, rfl, rfl, by simp [World.setCell], fun k _ hn => Below.heap_setCell w ⟨g, i, none⟩ u k hn⟩
end Go.Proofs.Ytcmgngjafnpnoaa
