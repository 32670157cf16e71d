import Derived.Test.YtanjikflljdjcaaDoorCcOpen
import Derived.Test.YtanjikflljdjcaaDoorTrue
import Derived.WalkKit
import Derived.WalkMore
import Derived.Laws.Strings
/-
  Two calls, alike: the project's Same and the document's SameCall.
-/
namespace Go.Proofs.YtanjikflljdjcaaDoor
open Wd U Go.RowKit Go.ChangeShapes Go.WideShapes Go.Sort
set_option linter.unusedVariables false
set_option maxRecDepth 100000

def sameC (a b : Cal) : Bool := decide (a.kind = b.kind) && decide (a.fd = b.fd) && decide (a.flags = b.flags) && decide (a.n = b.n) && decide (a.off = b.off) && (a.path.toList == b.path.toList) && (a.other.toList == b.other.toList) && ((strOf a.data).toList == (strOf b.data).toList)

theorem bEqual {w : World} {u v : Value} {s s' : ByteArray} (hu : (convert 22 9 u).run Tryd.prog w = .ok (.string s) w) (hv : (convert 22 9 v).run Tryd.prog w = .ok (.string s') w) :
    Calls Tryd.prog 19 #[u, v] w fun e w' => e = .returned (.bool (s.toList == s'.toList)) ∧ w' = w := by
  cases q : (s.toList == s'.toList) <;>
  · go_enter Tryd.func19, Tryd.ntmps19
    go_wp2
    go_ret
    exact ⟨rfl, rfl⟩

set_option maxRecDepth 100000 in
set_option maxHeartbeats 2000000 in
theorem rSame (a b : Cal) (w : World) (oa : a.Ok w w.heap.size) (ob : b.Ok w w.heap.size) :
    Calls Tryd.prog 12 #[a.val, b.val] w (Grows (.bool (sameC a b)) w) := by
  obtain ⟨kind, fd, flags, n, off, path, other, A, cp, data⟩ := a
  obtain ⟨kind', fd', flags', n', off', path', other', A', cp', data'⟩ := b
  unfold Cal.val
  obtain ⟨s, hs⟩ : ∃ s, strOf data = s := ⟨_, rfl⟩
  obtain ⟨s', hs'⟩ : ∃ s', strOf data' = s' := ⟨_, rfl⟩
  obtain ⟨B, hB⟩ : ∃ B, sameC ⟨kind, fd, flags, n, off, path, other, A, cp, data⟩ ⟨kind', fd', flags', n', off', path', other', A', cp', data'⟩ = B := ⟨_, rfl⟩
  rw [hB]
  have hB' : (decide (kind = kind') && decide (fd = fd') && decide (flags = flags') && decide (n = n') && decide (off = off') && (path.toList == path'.toList) && (other.toList == other'.toList) && (s.toList == s'.toList)) = B := by rw [← hs, ← hs']; exact hB
  have k2 : ∀ o1 o2 : Obj, Below w.heap.size w ((w.alloc o1).alloc o2) := fun o1 o2 => ((Below.refl _ _).alloc (Nat.le_refl _) o1).alloc (by simp) o2
  have cA : ∀ o1 o2 : Obj, (convert 22 9 (.slice A data.length cp)).run Tryd.prog ((w.alloc o1).alloc o2) = .ok (.string s) ((w.alloc o1).alloc o2) := fun o1 o2 => by
    rw [← hs]; exact run_bytes_row _ A data.length cp w.heap.size data rfl (oa.row.below (k2 o1 o2))
  have cB : ∀ o1 o2 : Obj, (convert 22 9 (.slice A' data'.length cp')).run Tryd.prog ((w.alloc o1).alloc o2) = .ok (.string s') ((w.alloc o1).alloc o2) := fun o1 o2 => by
    rw [← hs']; exact run_bytes_row _ A' data'.length cp' w.heap.size data' rfl (ob.row.below (k2 o1 o2))
  have HB := Lib.hid hB'; have CA := Lib.hid cA; have CB := Lib.hid cB
  clear hs hs' hB hB' k2 cA cB oa ob
  by_cases n0 : kind = kind'
  · subst n0
    by_cases n1 : fd = fd'
    · subst n1
      by_cases n2 : flags = flags'
      · subst n2
        by_cases n3 : n = n'
        · subst n3
          by_cases n4 : off = off'
          · subst n4
            cases s1 : (path.toList == path'.toList)
            · skip
              have e : B = false := by rw [← HB.out]; simp [s1]
              have E := Lib.hid e
              clear e
              go_enter Tryd.func12, Tryd.ntmps12
              go_wp2
              go_ret
              exact ⟨by rw [E.out]; rfl, grow_alloc (grow_one w _) _⟩
            · skip
              cases s2 : (other.toList == other'.toList)
              · skip
                have e : B = false := by rw [← HB.out]; simp [s1, s2]
                have E := Lib.hid e
                clear e
                go_enter Tryd.func12, Tryd.ntmps12
                go_wp2
                go_ret
                exact ⟨by rw [E.out]; rfl, grow_alloc (grow_one w _) _⟩
              · skip
                cases s3 : (s.toList == s'.toList)
                · skip
                  have e : B = false := by rw [← HB.out]; simp [s1, s2, s3]
                  have E := Lib.hid e
                  clear e
                  have ca := CA.out (.cells #[.int .i64 kind, .int .i64 fd, .int .i64 flags, .int .i64 n, .int .i64 off, .string path, .string other, .slice A data.length cp] 24) (.cells #[.int .i64 kind, .int .i64 fd, .int .i64 flags, .int .i64 n, .int .i64 off, .string path', .string other', .slice A' data'.length cp'] 24)
                  have cb := CB.out (.cells #[.int .i64 kind, .int .i64 fd, .int .i64 flags, .int .i64 n, .int .i64 off, .string path, .string other, .slice A data.length cp] 24) (.cells #[.int .i64 kind, .int .i64 fd, .int .i64 flags, .int .i64 n, .int .i64 off, .string path', .string other', .slice A' data'.length cp'] 24)
                  go_enter Tryd.func12, Tryd.ntmps12
                  go_wp2
                  go_ret
                  exact ⟨by rw [E.out]; rfl, grow_alloc (grow_one w _) _⟩
                · skip
                  have e : B = true := by rw [← HB.out]; simp [s1, s2, s3]
                  have E := Lib.hid e
                  clear e
                  have ca := CA.out (.cells #[.int .i64 kind, .int .i64 fd, .int .i64 flags, .int .i64 n, .int .i64 off, .string path, .string other, .slice A data.length cp] 24) (.cells #[.int .i64 kind, .int .i64 fd, .int .i64 flags, .int .i64 n, .int .i64 off, .string path', .string other', .slice A' data'.length cp'] 24)
                  have cb := CB.out (.cells #[.int .i64 kind, .int .i64 fd, .int .i64 flags, .int .i64 n, .int .i64 off, .string path, .string other, .slice A data.length cp] 24) (.cells #[.int .i64 kind, .int .i64 fd, .int .i64 flags, .int .i64 n, .int .i64 off, .string path', .string other', .slice A' data'.length cp'] 24)
                  go_enter Tryd.func12, Tryd.ntmps12
                  go_wp2
                  go_ret
                  exact ⟨by rw [E.out]; rfl, grow_alloc (grow_one w _) _⟩
          · have q : (off == off') = false := by simpa using n4
            have e : B = false := by rw [← HB.out]; simp [n4]
            have E := Lib.hid e
            clear e
            go_enter Tryd.func12, Tryd.ntmps12
            go_wp2
            go_ret
            exact ⟨by rw [E.out]; rfl, grow_alloc (grow_one w _) _⟩
        · have q : (n == n') = false := by simpa using n3
          have e : B = false := by rw [← HB.out]; simp [n3]
          have E := Lib.hid e
          clear e
          go_enter Tryd.func12, Tryd.ntmps12
          go_wp2
          go_ret
          exact ⟨by rw [E.out]; rfl, grow_alloc (grow_one w _) _⟩
      · have q : (flags == flags') = false := by simpa using n2
        have e : B = false := by rw [← HB.out]; simp [n2]
        have E := Lib.hid e
        clear e
        go_enter Tryd.func12, Tryd.ntmps12
        go_wp2
        go_ret
        exact ⟨by rw [E.out]; rfl, grow_alloc (grow_one w _) _⟩
    · have q : (fd == fd') = false := by simpa using n1
      have e : B = false := by rw [← HB.out]; simp [n1]
      have E := Lib.hid e
      clear e
      go_enter Tryd.func12, Tryd.ntmps12
      go_wp2
      go_ret
      exact ⟨by rw [E.out]; rfl, grow_alloc (grow_one w _) _⟩
  · have q : (kind == kind') = false := by simpa using n0
    have e : B = false := by rw [← HB.out]; simp [n0]
    have E := Lib.hid e
    clear e
    go_enter Tryd.func12, Tryd.ntmps12
    go_wp2
    go_ret
    exact ⟨by rw [E.out]; rfl, grow_alloc (grow_one w _) _⟩

set_option maxRecDepth 100000 in
set_option maxHeartbeats 2000000 in
theorem cSame (a b : Cal) (w : World) (oa : a.Ok w w.heap.size) (ob : b.Ok w w.heap.size) :
    Calls Tryd.prog 11 #[a.val, b.val] w (Grows (.bool (sameC a b)) w) := by
  obtain ⟨kind, fd, flags, n, off, path, other, A, cp, data⟩ := a
  obtain ⟨kind', fd', flags', n', off', path', other', A', cp', data'⟩ := b
  unfold Cal.val
  obtain ⟨s, hs⟩ : ∃ s, strOf data = s := ⟨_, rfl⟩
  obtain ⟨s', hs'⟩ : ∃ s', strOf data' = s' := ⟨_, rfl⟩
  obtain ⟨B, hB⟩ : ∃ B, sameC ⟨kind, fd, flags, n, off, path, other, A, cp, data⟩ ⟨kind', fd', flags', n', off', path', other', A', cp', data'⟩ = B := ⟨_, rfl⟩
  rw [hB]
  have hB' : (decide (kind = kind') && decide (fd = fd') && decide (flags = flags') && decide (n = n') && decide (off = off') && (path.toList == path'.toList) && (other.toList == other'.toList) && (s.toList == s'.toList)) = B := by rw [← hs, ← hs']; exact hB
  have k2 : ∀ o1 o2 : Obj, Below w.heap.size w ((w.alloc o1).alloc o2) := fun o1 o2 => ((Below.refl _ _).alloc (Nat.le_refl _) o1).alloc (by simp) o2
  have cA : ∀ o1 o2 : Obj, (convert 22 9 (.slice A data.length cp)).run Tryd.prog ((w.alloc o1).alloc o2) = .ok (.string s) ((w.alloc o1).alloc o2) := fun o1 o2 => by
    rw [← hs]; exact run_bytes_row _ A data.length cp w.heap.size data rfl (oa.row.below (k2 o1 o2))
  have cB : ∀ o1 o2 : Obj, (convert 22 9 (.slice A' data'.length cp')).run Tryd.prog ((w.alloc o1).alloc o2) = .ok (.string s') ((w.alloc o1).alloc o2) := fun o1 o2 => by
    rw [← hs']; exact run_bytes_row _ A' data'.length cp' w.heap.size data' rfl (ob.row.below (k2 o1 o2))
  have HB := Lib.hid hB'; have CA := Lib.hid cA; have CB := Lib.hid cB
  clear hs hs' hB hB' k2 cA cB oa ob
  by_cases n0 : kind = kind'
  · subst n0
    by_cases n1 : fd = fd'
    · subst n1
      by_cases n2 : flags = flags'
      · subst n2
        by_cases n3 : n = n'
        · subst n3
          by_cases n4 : off = off'
          · subst n4
            cases s1 : (path.toList == path'.toList)
            · skip
              have e : B = false := by rw [← HB.out]; simp [s1]
              have E := Lib.hid e
              clear e
              go_enter Tryd.func11, Tryd.ntmps11
              go_wp2
              go_ret
              exact ⟨by rw [E.out]; rfl, grow_alloc (grow_one w _) _⟩
            · skip
              cases s2 : (other.toList == other'.toList)
              · skip
                have e : B = false := by rw [← HB.out]; simp [s1, s2]
                have E := Lib.hid e
                clear e
                go_enter Tryd.func11, Tryd.ntmps11
                go_wp2
                go_ret
                exact ⟨by rw [E.out]; rfl, grow_alloc (grow_one w _) _⟩
              · skip
                cases s3 : (s.toList == s'.toList)
                · skip
                  have e : B = false := by rw [← HB.out]; simp [s1, s2, s3]
                  have E := Lib.hid e
                  clear e
                  have K := Lib.hid (bEqual (CA.out (.cells #[.int .i64 kind, .int .i64 fd, .int .i64 flags, .int .i64 n, .int .i64 off, .string path, .string other, .slice A data.length cp] 24) (.cells #[.int .i64 kind, .int .i64 fd, .int .i64 flags, .int .i64 n, .int .i64 off, .string path', .string other', .slice A' data'.length cp'] 24)) (CB.out (.cells #[.int .i64 kind, .int .i64 fd, .int .i64 flags, .int .i64 n, .int .i64 off, .string path, .string other, .slice A data.length cp] 24) (.cells #[.int .i64 kind, .int .i64 fd, .int .i64 flags, .int .i64 n, .int .i64 off, .string path', .string other', .slice A' data'.length cp'] 24)))
                  go_enter Tryd.func11, Tryd.ntmps11
                  go_wp2_with fail
                  refine K.out.mono ?_
                  rintro e' w1 ⟨rfl, rfl⟩
                  rw [s3]
                  go_wp2
                  go_ret
                  exact ⟨by rw [E.out]; rfl, grow_alloc (grow_one w _) _⟩
                · skip
                  have e : B = true := by rw [← HB.out]; simp [s1, s2, s3]
                  have E := Lib.hid e
                  clear e
                  have K := Lib.hid (bEqual (CA.out (.cells #[.int .i64 kind, .int .i64 fd, .int .i64 flags, .int .i64 n, .int .i64 off, .string path, .string other, .slice A data.length cp] 24) (.cells #[.int .i64 kind, .int .i64 fd, .int .i64 flags, .int .i64 n, .int .i64 off, .string path', .string other', .slice A' data'.length cp'] 24)) (CB.out (.cells #[.int .i64 kind, .int .i64 fd, .int .i64 flags, .int .i64 n, .int .i64 off, .string path, .string other, .slice A data.length cp] 24) (.cells #[.int .i64 kind, .int .i64 fd, .int .i64 flags, .int .i64 n, .int .i64 off, .string path', .string other', .slice A' data'.length cp'] 24)))
                  go_enter Tryd.func11, Tryd.ntmps11
                  go_wp2_with fail
                  refine K.out.mono ?_
                  rintro e' w1 ⟨rfl, rfl⟩
                  rw [s3]
                  go_wp2
                  go_ret
                  exact ⟨by rw [E.out]; rfl, grow_alloc (grow_one w _) _⟩
          · have q : (off == off') = false := by simpa using n4
            have e : B = false := by rw [← HB.out]; simp [n4]
            have E := Lib.hid e
            clear e
            go_enter Tryd.func11, Tryd.ntmps11
            go_wp2
            go_ret
            exact ⟨by rw [E.out]; rfl, grow_alloc (grow_one w _) _⟩
        · have q : (n == n') = false := by simpa using n3
          have e : B = false := by rw [← HB.out]; simp [n3]
          have E := Lib.hid e
          clear e
          go_enter Tryd.func11, Tryd.ntmps11
          go_wp2
          go_ret
          exact ⟨by rw [E.out]; rfl, grow_alloc (grow_one w _) _⟩
      · have q : (flags == flags') = false := by simpa using n2
        have e : B = false := by rw [← HB.out]; simp [n2]
        have E := Lib.hid e
        clear e
        go_enter Tryd.func11, Tryd.ntmps11
        go_wp2
        go_ret
        exact ⟨by rw [E.out]; rfl, grow_alloc (grow_one w _) _⟩
    · have q : (fd == fd') = false := by simpa using n1
      have e : B = false := by rw [← HB.out]; simp [n1]
      have E := Lib.hid e
      clear e
      go_enter Tryd.func11, Tryd.ntmps11
      go_wp2
      go_ret
      exact ⟨by rw [E.out]; rfl, grow_alloc (grow_one w _) _⟩
  · have q : (kind == kind') = false := by simpa using n0
    have e : B = false := by rw [← HB.out]; simp [n0]
    have E := Lib.hid e
    clear e
    go_enter Tryd.func11, Tryd.ntmps11
    go_wp2
    go_ret
    exact ⟨by rw [E.out]; rfl, grow_alloc (grow_one w _) _⟩
end Go.Proofs.YtanjikflljdjcaaDoor
