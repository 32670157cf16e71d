import Derived.Test.YtbegnnohmahglaaEnMem
import Derived.Lib.SliceRun
import Derived.OwnWalk
namespace Go.Proofs.Ytbegnnohmahglaa
open Wd Ino Go.RowKit Go.ChangeShapes Go.WideShapes Go.Sort
set_option linter.unusedVariables false
set_option maxRecDepth 100000

/-! slices.Clone of names -/
def MadeE (l : List Ent) (w : World) (e : Ending) (w' : World) : Prop := ∃ v, e = .returned v ∧ OwnE w' w.heap.size v l ∧ Below w.heap.size w w'
theorem ownE_base {w : World} {base : Nat} {v : Value} {l : List Ent} (h : OwnE w base v l) : ∀ q, v.ownBlock = some q → base ≤ q := own_base h
set_option maxHeartbeats 4000000 in
theorem cloneE {w : World} {B n c : Nat} {A : Option Addr} {xs : List Ent} (hn : xs.length = n) (h : Ens w B A xs) (hB : B ≤ w.heap.size) (hle : n ≤ 50000) : Calls Try.prog 31 #[.slice A n c] w (MadeE xs w) := by
  subst hn
  cases A with
  | none =>
    obtain rfl : xs = [] := by
      cases xs with
      | nil => rfl
      | cons e l =>
        obtain ⟨b, off, e, _⟩ := h (by simp)
        cases e
    have hq := fun (w : World) => Lib.run_eql_slice_nil (P := Try.prog) w 22 32 none 0 c 0 0 Try.underlying22
    clear h
    go_enter Try.func31, Try.ntmps31
    go_wp2
    go_ret
    exact ⟨_, rfl, own_nilE _ _, Below.refl _ _⟩
  | some a =>
    have ho : OwnE (w.alloc (.cells #[] 32)) w.heap.size (.slice (some ⟨w.heap.size, 0, none⟩) 0 0) [] := ⟨rfl, .inr ⟨w.heap.size, 0, #[], rfl, Nat.le_refl _, Cells.new w _ _, Nat.le_refl _, by decide, rfl, rfl⟩⟩
    have HO := Lib.hid ho
    have hr' : Ens (w.alloc (.cells #[] 32)) w.heap.size (some a) xs := (h.more hB).below ((Below.refl w.heap.size w).alloc (Nat.le_refl _) _)
    have HR := Lib.hid hr'
    have hl3 : ([] : List Ent).length + xs.length ≤ 100000 := by rw [List.length_nil]; omega
    have hs3 : w.heap.size ≤ (w.alloc (.cells #[] 32)).heap.size := by simp
    have hq := fun (w : World) => Lib.run_eql_slice_nil (P := Try.prog) w 22 32 (some a) xs.length c 0 0 Try.underlying22
    clear ho hr' h
    go_enter Try.func31, Try.ntmps31
    go_wp2_with (at_builtin; refine wpList_append_ens rfl (.tmp 5) (.tmp 6) rfl rfl rfl HO.out HR.out hl3 hs3 ?_; intro v5 w5 hown5 hgr5 hat5; have HO5 := Lib.hid hown5; have HG5 := Lib.hid hgr5; clear hown5 hgr5 hat5)
    go_ret
    have hb5 : Below w.heap.size w w5 := ((Below.refl _ _).alloc (Nat.le_refl _) _).grown HG5.out (by simp) (ownE_base HO.out)
    have ho5 := HO5.out
    rw [List.nil_append] at ho5
    exact ⟨_, rfl, ho5, hb5⟩
end Go.Proofs.Ytbegnnohmahglaa
