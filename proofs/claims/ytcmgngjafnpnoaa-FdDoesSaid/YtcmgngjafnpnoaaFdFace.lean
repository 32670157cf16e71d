import Derived.Test.YtcmgngjafnpnoaaFdMem
/-! What the laws of fd ask of a table, however it is kept. -/
namespace Go.Proofs.Ytcmgngjafnpnoaa
open Wd Go.RowKit Go.ChangeShapes Go.WideShapes Go.Sort
set_option linter.unusedVariables false
set_option maxRecDepth 100000
/-- a row of open files -/
def OpRow (w : World) (A : Option Addr) (l : List Opn) : Prop := 0 < l.length → ∃ b off, A = some ⟨b, off, none⟩ ∧ b < w.heap.size ∧ ∀ (i : Nat) (o : Opn), l[i]? = some o → ∀ (k : Nat) (x : Value), o.cells[k]? = some x → w.cell? ⟨b, off + (i * 3 + k), none⟩ = some x
def RetOB (o : Opn) (b : Bool) : Ending := .returned (.tuple #[o.val, .bool b])
def RetIB (n : Nat) (b : Bool) : Ending := .returned (.tuple #[.int .i64 (n : Nat), .bool b])
abbrev fptr (g : Nat) : Value := .pointer (some ⟨g, 0, none⟩)
structure FdFace where
  st : World → Nat → List Opn → Prop
  lt : ∀ {w g T}, st w g T → g < w.heap.size
  same : ∀ {w w' g T}, st w g T → w'.heap[g]? = w.heap[g]? → st w' g T
  kind : ∀ {w g T}, st w g T → ∃ cs, Cells w g 45 cs
  new : ∀ w, Calls Try.prog 7 #[] w fun e w' => ∃ g, e = .returned (fptr g) ∧ st w' g noneT ∧ Below w.heap.size w w' ∧ w.heap.size ≤ g
  next : ∀ {w g T}, st w g T → GoodT T → Calls Try.prog 8 #[fptr g] w fun e w' => e = RetIB (nextV T) (nextB T) ∧ Below w.heap.size w w'
  open_ : ∀ {w g T}, st w g T → GoodT T → ∀ o : Opn, Calls Try.prog 11 #[fptr g, o.val] w fun e w' => e = RetIB (openV T o) (openB T o) ∧ st w' g (openT T o) ∧ Sd w w' g
  get : ∀ {w g T}, st w g T → GoodT T → ∀ fd : Int, i64R fd → Calls Try.prog 16 #[fptr g, .int .i64 fd] w fun e w' => e = RetOB (getT T fd) (isT T fd) ∧ Below w.heap.size w w'
  set : ∀ {w g T}, st w g T → GoodT T → ∀ (fd : Int) (o : Opn), i64R fd → Calls Try.prog 10 #[fptr g, .int .i64 fd, o.val] w fun e w' => e = .returned (.bool (setB T fd o)) ∧ st w' g (setT T fd o) ∧ Sd w w' g
  close : ∀ {w g T}, st w g T → GoodT T → ∀ fd : Int, i64R fd → Calls Try.prog 9 #[fptr g, .int .i64 fd] w fun e w' => e = RetOB (getT T fd) (isT T fd) ∧ st w' g (closeT T fd) ∧ Sd w w' g
  users : ∀ {w g T}, st w g T → GoodT T → ∀ ino : Int, Calls Try.prog 15 #[fptr g, .int .i64 ino] w fun e w' => e = .returned (.int .i64 (usersT T ino : Nat)) ∧ Below w.heap.size w w'
  len : ∀ {w g T}, st w g T → GoodT T → Calls Try.prog 13 #[fptr g] w fun e w' => e = .returned (.int .i64 ((allT T).length : Nat)) ∧ Below w.heap.size w w'
  full : ∀ {w g T}, st w g T → GoodT T → Calls Try.prog 14 #[fptr g] w fun e w' => e = .returned (.bool (!nextB T)) ∧ Below w.heap.size w w'
  all : ∀ {w g T}, st w g T → GoodT T → Calls Try.prog 12 #[fptr g] w fun e w' => ∃ A c, e = .returned (.slice A (allT T).length c) ∧ OpRow w' A (allT T) ∧ Below w.heap.size w w'
  nopen : ∀ (o : Opn) w, Calls Try.prog 11 #[.pointer none, o.val] w fun e w' => e = RetIB 0 false ∧ Below w.heap.size w w'
  nget : ∀ (fd : Int) w, Calls Try.prog 16 #[.pointer none, .int .i64 fd] w fun e w' => e = RetOB Opn.zero false ∧ Below w.heap.size w w'
  nclose : ∀ (fd : Int) w, Calls Try.prog 9 #[.pointer none, .int .i64 fd] w fun e w' => e = RetOB Opn.zero false ∧ Below w.heap.size w w'
  nnext : ∀ w, Calls Try.prog 8 #[.pointer none] w fun e w' => e = RetIB 0 false ∧ Below w.heap.size w w'
  nset : ∀ (fd : Int) (o : Opn) w, Calls Try.prog 10 #[.pointer none, .int .i64 fd, o.val] w fun e w' => e = .returned (.bool false) ∧ Below w.heap.size w w'
  nlen : ∀ w, Calls Try.prog 13 #[.pointer none] w fun e w' => e = .returned (.int .i64 0) ∧ Below w.heap.size w w'
  nusers : ∀ (ino : Int) w, Calls Try.prog 15 #[.pointer none, .int .i64 ino] w fun e w' => e = .returned (.int .i64 0) ∧ Below w.heap.size w w'
  nall : ∀ w, Calls Try.prog 12 #[.pointer none] w fun e w' => ∃ A c, e = .returned (.slice A 0 c) ∧ Below w.heap.size w w'
  nfull : ∀ w, Calls Try.prog 14 #[.pointer none] w fun e w' => e = .returned (.bool false) ∧ Below w.heap.size w w'
variable {F : FdFace}
theorem FdFace.below {w w' : World} {g : Nat} {T : List Opn} (h : F.st w g T) (hb : Below w.heap.size w w') : F.st w' g T := F.same h (hb.block g (F.lt h))
theorem FdFace.side {w w' : World} {g q : Nat} {T : List Opn} (h : F.st w g T) (s : Sd w w' q) (hne : g ≠ q) : F.st w' g T := F.same h (s.block g (F.lt h) hne)
theorem FdFace.far {w : World} {g q : Nat} {T : List Opn} {t : TypeId} {cs : Array Value} (h : F.st w g T) (hc : Cells w q t cs) (ht : t ≠ 45) : g ≠ q := fun e => by
  subst e
  obtain ⟨cs', hk⟩ := F.kind h
  exact hc.ne hk ht rfl
theorem FdFace.set_ {w : World} {g q i : Nat} {T : List Opn} (h : F.st w g T) (hne : g ≠ q) (u : Value) : F.st (w.setCell ⟨q, i, none⟩ u) g T := F.same h (Below.heap_setCell w ⟨q, i, none⟩ u g hne)
end Go.Proofs.Ytcmgngjafnpnoaa
