import Derived.Test.YtnijffgdapfgpaaEfOpen
import Derived.Test.YtnijffgdapfgpaaGrow
import Derived.WalkKit
import Derived.WalkMore
import Derived.Laws.Strings
namespace Go.Proofs.Ytnijffgdapfgpaa
open Wd U Go.RowKit Go.ChangeShapes Go.WideShapes Go.Sort
set_option linter.unusedVariables false

/-! two effects, alike -/
def sameB (a b : Eff) : Bool := decide (a.kind = b.kind) && decide (a.ino = b.ino) && decide (a.dir = b.dir) && decide (a.dst = b.dst) && decide (a.page = b.page) && decide (a.size = b.size) && (a.name.toList == b.name.toList) && (a.other.toList == b.other.toList) && ((strOf a.data).toList == (strOf b.data).toList)
set_option maxRecDepth 100000 in
set_option maxHeartbeats 2000000 in
theorem refSame_any (a b : Eff) (w : World) (oa : a.Ok w w.heap.size) (ob : b.Ok w w.heap.size) :
    Calls Try.prog 10 #[a.val, b.val] w (Grows (.bool (sameB a b)) w) := by
  obtain ⟨kind, ino, dir, dst, page, size, name, other, A, cp, data⟩ := a
  obtain ⟨kind', ino', dir', dst', page', size', name', other', A', cp', data'⟩ := b
  unfold Eff.val
  obtain ⟨s, hs⟩ : ∃ s, strOf data = s := ⟨_, rfl⟩
  obtain ⟨s', hs'⟩ : ∃ s', strOf data' = s' := ⟨_, rfl⟩
  obtain ⟨B, hB⟩ : ∃ B, sameB ⟨kind, ino, dir, dst, page, size, name, other, A, cp, data⟩ ⟨kind', ino', dir', dst', page', size', name', other', A', cp', data'⟩ = B := ⟨_, rfl⟩
  rw [hB]
  have hB' : (decide (kind = kind') && decide (ino = ino') && decide (dir = dir') && decide (dst = dst') && decide (page = page') && decide (size = size') && (name.toList == name'.toList) && (other.toList == other'.toList) && (s.toList == s'.toList)) = B := by rw [← hs, ← hs']; exact hB
  have k2 : ∀ o1 o2 : Obj, Below w.heap.size w ((w.alloc o1).alloc o2) := fun o1 o2 => ((Below.refl _ _).alloc (Nat.le_refl _) o1).alloc (by simp) o2
  have cA : ∀ o1 o2 : Obj, (convert 30 9 (.slice A data.length cp)).run Try.prog ((w.alloc o1).alloc o2) = .ok (.string s) ((w.alloc o1).alloc o2) := fun o1 o2 => by
    rw [← hs]; exact run_bytes_row _ A data.length cp w.heap.size data rfl (oa.row.below (k2 o1 o2))
  have cB : ∀ o1 o2 : Obj, (convert 30 9 (.slice A' data'.length cp')).run Try.prog ((w.alloc o1).alloc o2) = .ok (.string s') ((w.alloc o1).alloc o2) := fun o1 o2 => by
    rw [← hs']; exact run_bytes_row _ A' data'.length cp' w.heap.size data' rfl (ob.row.below (k2 o1 o2))
  have HB := Lib.hid hB'; have CA := Lib.hid cA; have CB := Lib.hid cB
  clear hs hs' hB hB' k2 cA cB oa ob
  by_cases n0 : kind = kind'
  · subst n0
    by_cases n1 : ino = ino'
    · subst n1
      by_cases n2 : dir = dir'
      · subst n2
        by_cases n3 : dst = dst'
        · subst n3
          by_cases n4 : page = page'
          · subst n4
            by_cases n5 : size = size'
            · subst n5
              cases s1 : (name.toList == name'.toList)
              · have e : B = false := by rw [← HB.out]; simp [s1]
                have E := Lib.hid e
                clear e
                go_enter Try.func10, Try.ntmps10
                go_wp2
                go_ret
                exact ⟨by rw [E.out]; rfl, grow_alloc (grow_one w _) _⟩
              · skip
                cases s2 : (other.toList == other'.toList)
                · have e : B = false := by rw [← HB.out]; simp [s1, s2]
                  have E := Lib.hid e
                  clear e
                  go_enter Try.func10, Try.ntmps10
                  go_wp2
                  go_ret
                  exact ⟨by rw [E.out]; rfl, grow_alloc (grow_one w _) _⟩
                · skip
                  cases s3 : (s.toList == s'.toList)
                  · have e : B = false := by rw [← HB.out]; simp [s1, s2, s3]
                    have E := Lib.hid e
                    clear e
                    have ca := CA.out (.cells #[.int .i64 kind, .int .i64 ino, .int .i64 dir, .int .i64 dst, .int .i64 page, .int .i64 size, .string name, .string other, .slice A data.length cp] 32) (.cells #[.int .i64 kind, .int .i64 ino, .int .i64 dir, .int .i64 dst, .int .i64 page, .int .i64 size, .string name', .string other', .slice A' data'.length cp'] 32)
                    have cb := CB.out (.cells #[.int .i64 kind, .int .i64 ino, .int .i64 dir, .int .i64 dst, .int .i64 page, .int .i64 size, .string name, .string other, .slice A data.length cp] 32) (.cells #[.int .i64 kind, .int .i64 ino, .int .i64 dir, .int .i64 dst, .int .i64 page, .int .i64 size, .string name', .string other', .slice A' data'.length cp'] 32)
                    go_enter Try.func10, Try.ntmps10
                    go_wp2
                    go_ret
                    exact ⟨by rw [E.out]; rfl, grow_alloc (grow_one w _) _⟩
                  · have e : B = true := by rw [← HB.out]; simp [s1, s2, s3]
                    have E := Lib.hid e
                    clear e
                    have ca := CA.out (.cells #[.int .i64 kind, .int .i64 ino, .int .i64 dir, .int .i64 dst, .int .i64 page, .int .i64 size, .string name, .string other, .slice A data.length cp] 32) (.cells #[.int .i64 kind, .int .i64 ino, .int .i64 dir, .int .i64 dst, .int .i64 page, .int .i64 size, .string name', .string other', .slice A' data'.length cp'] 32)
                    have cb := CB.out (.cells #[.int .i64 kind, .int .i64 ino, .int .i64 dir, .int .i64 dst, .int .i64 page, .int .i64 size, .string name, .string other, .slice A data.length cp] 32) (.cells #[.int .i64 kind, .int .i64 ino, .int .i64 dir, .int .i64 dst, .int .i64 page, .int .i64 size, .string name', .string other', .slice A' data'.length cp'] 32)
                    go_enter Try.func10, Try.ntmps10
                    go_wp2
                    go_ret
                    exact ⟨by rw [E.out]; rfl, grow_alloc (grow_one w _) _⟩
            · have q : (size != size') = true := by simpa using n5
              have e : B = false := by rw [← HB.out]; simp [n5]
              have E := Lib.hid e
              clear e
              go_enter Try.func10, Try.ntmps10
              go_wp2
              go_ret
              exact ⟨by rw [E.out]; rfl, grow_alloc (grow_one w _) _⟩
          · have q : (page != page') = true := by simpa using n4
            have e : B = false := by rw [← HB.out]; simp [n4]
            have E := Lib.hid e
            clear e
            go_enter Try.func10, Try.ntmps10
            go_wp2
            go_ret
            exact ⟨by rw [E.out]; rfl, grow_alloc (grow_one w _) _⟩
        · have q : (dst != dst') = true := by simpa using n3
          have e : B = false := by rw [← HB.out]; simp [n3]
          have E := Lib.hid e
          clear e
          go_enter Try.func10, Try.ntmps10
          go_wp2
          go_ret
          exact ⟨by rw [E.out]; rfl, grow_alloc (grow_one w _) _⟩
      · have q : (dir != dir') = true := by simpa using n2
        have e : B = false := by rw [← HB.out]; simp [n2]
        have E := Lib.hid e
        clear e
        go_enter Try.func10, Try.ntmps10
        go_wp2
        go_ret
        exact ⟨by rw [E.out]; rfl, grow_alloc (grow_one w _) _⟩
    · have q : (ino != ino') = true := by simpa using n1
      have e : B = false := by rw [← HB.out]; simp [n1]
      have E := Lib.hid e
      clear e
      go_enter Try.func10, Try.ntmps10
      go_wp2
      go_ret
      exact ⟨by rw [E.out]; rfl, grow_alloc (grow_one w _) _⟩
  · have q : (kind != kind') = true := by simpa using n0
    have e : B = false := by rw [← HB.out]; simp [n0]
    have E := Lib.hid e
    clear e
    go_enter Try.func10, Try.ntmps10
    go_wp2
    go_ret
    exact ⟨by rw [E.out]; rfl, grow_alloc (grow_one w _) _⟩
end Go.Proofs.Ytnijffgdapfgpaa
