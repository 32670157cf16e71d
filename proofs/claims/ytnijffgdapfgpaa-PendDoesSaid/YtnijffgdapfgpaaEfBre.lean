import Derived.Test.YtnijffgdapfgpaaEfTch
import Derived.Deep.Cut
import Derived.BigRegion
import Derived.RegionTactic
import Derived.Deep.RegionWith
/-
  strings.Clone as 'returns its text, some blocks more'; the project's Bare.
-/
namespace Go.Proofs.Ytnijffgdapfgpaa
open Wd U Go.RowKit Go.ChangeShapes Go.WideShapes Go.Sort
set_option linter.unusedVariables false
set_option maxRecDepth 100000

theorem freeze_drawn (w : World) (p : Addr) (n : Nat) : (w.freeze p n).drawn = w.drawn := by
  unfold World.freeze
  split <;> rfl
theorem clone_empty (w : World) : Calls Try.prog 23 #[.string ⟨#[]⟩] w (Grows (.string ⟨#[]⟩) w) := by
  go_enter Try.func23, Try.ntmps23
  go_wp2
  go_ret
  exact ⟨rfl, grow_none _⟩

set_option maxHeartbeats 4000000 in
set_option maxRecDepth 100000 in
theorem clone_some (s : ByteArray) (h0 : s.size ≠ 0) (hs : s.size ≤ 1000000) (w : World) : Calls Try.prog 23 #[.string s] w (Grows (.string s) w) := by
  obtain ⟨i0, hi, hz0, hz1, hz2⟩ := info_parts (show (Try.prog.info? 5).map (fun i => (i.zero, i.size, i.bytes)) = some (some (.int .u8 0), 1, 1) by kernel_rfl)
  have hsz : (Try.prog.info? 5).map (·.size) = some 1 := by rw [hi]; simp [hz1]
  have hco : Try.prog.cellsOf 5 = 1 := by simp [Program.cellsOf, hi, hz1]
  -- the room
  obtain ⟨M, hM⟩ : ∃ M, madeCells (Value.int .u8 0).cells (((s.size : Nat) : Int).toNat * i0.size) = M := ⟨_, rfl⟩
  have hMl : M.toList.length = s.size := by rw [Array.length_toList, ← hM, size_madeCells, hz1]; simp
  have hmk : ∀ W : World, (Instr.makeSlice 30 (.int .i64 (s.size : Int)) (.int .i64 (s.size : Int))).run Try.prog W = .ok (.slice (some ⟨W.heap.size, 0, none⟩) s.size s.size) (W.alloc (.cells M 5)) := fun W => by
    have h := run_make (P := Try.prog) W 30 5 i0 (.int .u8 0) Try.underlying30 hi hz0 .i64 .i64 (s.size : Int) (s.size : Int) (by omega) (by omega) (by rw [hz2]; omega) (by omega)
    rw [hM] at h
    simpa using h
  clear hM
  -- the bytes in it
  obtain ⟨W1, hW1⟩ : ∃ W1, w.alloc (.cells M 5) = W1 := ⟨_, rfl⟩
  have hh1 : W1.heap[w.heap.size]? = some (.cells M 5 (0, 0)) := by rw [← hW1]; exact heap_alloc_new w _
  have hcp := Lib.run_copy_row_string (P := Try.prog) W1 30 9 3 5 w.heap.size 0 s.size s.size s M 5 Try.underlying30 hsz hh1 (Nat.le_refl _) (by rw [← Array.length_toList, hMl]; omega)
  obtain ⟨Y, hY⟩ : ∃ Y, (M.toList.take 0 ++ Lib.byteCells s.data.toList ++ M.toList.drop (0 + s.size)).toArray = Y := ⟨_, rfl⟩
  rw [hY] at hcp
  have hYl : Y.toList = Lib.byteCells s.data.toList := by
    rw [← hY]
    simp only [List.take_zero, List.nil_append, Nat.zero_add]
    rw [List.drop_of_length_le (by omega), List.append_nil]
  have hYs : Y.size = s.size := by rw [← Array.length_toList, hYl, Lib.byteCells_length, ← Lib.size_eq]
  obtain ⟨W2, hW2⟩ : ∃ W2, W1.setRow w.heap.size Y = W2 := ⟨_, rfl⟩
  have hh2 : W2.heap[w.heap.size]? = some (.cells Y 5 (0, 0)) := by rw [← hW2]; exact setRow_heap _ _ M _ 5 (0, 0) hh1
  -- the text over them
  have hne : s.data.toList ≠ [] := fun e => h0 (by rw [Lib.size_eq, e]; rfl)
  have hus := Lib.run_unsafeString_row (P := Try.prog) W2 53 3 9 5 Try.underlying53 hco w.heap.size Y.size (by unfold World.shape?; rw [hh2]) s.data.toList hne (by rw [← Lib.size_eq]; omega) (by rw [← Lib.size_eq]; omega)
    (fun j x hx => Lib.cells_of_row hh2 Y.size j _ (by rw [List.take_of_length_le (by rw [Array.length_toList]; exact Nat.le_refl _), hYl]; simp [Lib.byteCells, hx]))
  rw [← Lib.size_eq] at hus
  have b1 : Below w.heap.size w W1 := by rw [← hW1]; exact (Below.refl _ w).alloc (Nat.le_refl _) _
  have b2 : Below w.heap.size W1 W2 := by rw [← hW2]; exact ⟨rfl, rfl, rfl, by simp, fun k hk => setRow_other _ _ _ _ (by omega)⟩
  have d2 : w.drawn ≤ W2.drawn := by rw [← hW2, ← hW1]; exact Nat.le_refl _
  have HB := Lib.hid (b1.trans b2)
  have HD := Lib.hid d2
  rw [hW2] at hcp
  clear hY hYl hne hco hsz hi hz0 hz1 hz2 hh1 hh2 b1 b2 d2 hMl hW2
  subst hW1
  go_enter Try.func23, Try.ntmps23
  go_wp2
  go_ret
  exact Grows.of_below (Lib.below_freeze HB.out (p := ⟨w.heap.size, 0, none⟩) (Nat.le_refl _) _) (by rw [freeze_drawn]; exact HD.out)

theorem cloneG (s : ByteArray) (hs : s.size ≤ 1000000) (w : World) : Calls Try.prog 21 #[.string s] w (Grows (.string s) w) := by
  have h : ∀ w, Calls Try.prog 23 #[.string s] w (Grows (.string s) w) := fun w => by
    by_cases h0 : s.size = 0
    · have : s = ⟨#[]⟩ := ByteArray.ext (Array.eq_empty_of_size_eq_zero h0)
      subst this
      exact clone_empty w
    · exact clone_some s h0 hs w
  go_enter Try.func21, Try.ntmps21
  go_wp2_with fail
  refine (h _).mono ?_
  rintro e w1 ⟨rfl, hw⟩
  go_wp2
  go_ret
  exact ⟨rfl, hw⟩
end Go.Proofs.Ytnijffgdapfgpaa
