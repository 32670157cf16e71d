import Derived.Test.YtnjikgcigobcdaaPmSt
import Derived.Test.YtnjikgcigobcdaaApp
import Derived.Test.YtnjikgcigobcdaaOwn
namespace Go.Proofs.Ytnjikgcigobcdaa
open Wd Pm Go.Maps Go.RowKit
set_option linter.unusedVariables false

/-! the dirty words of a line -/
def dirtyL (F : IFn) (lo : Int) (m : Nat) : List Int := ((List.range m).map (fun (j : Nat) => lo + j)).filter (fun x => (F x).isSome)
theorem dirtyL_snoc (F : IFn) (lo : Int) (m : Nat) : dirtyL F lo (m + 1) = dirtyL F lo m ++ (if (F (lo + m)).isSome = true then [lo + m] else []) := by
  unfold dirtyL
  rw [List.range_succ, List.map_append, List.filter_append, List.map_singleton]
  congr 1
  by_cases h : (F (lo + m)).isSome = true
  · rw [if_pos h]; simp [List.filter, h]
  · rw [if_neg h]; simp [List.filter, h]
theorem dirtyL_le (F : IFn) (lo : Int) (m : Nat) : (dirtyL F lo m).length ≤ m := by
  unfold dirtyL
  have := List.length_filter_le (fun x => (F x).isSome) ((List.range m).map (fun (j : Nat) => lo + j))
  simpa using this
theorem mem_dirtyL {F : IFn} {lo x : Int} {m : Nat} : x ∈ dirtyL F lo m ↔ lo ≤ x ∧ x < lo + m ∧ (F x).isSome = true := by
  unfold dirtyL
  rw [List.mem_filter, List.mem_map]
  constructor
  · rintro ⟨⟨j, hj, rfl⟩, h⟩
    have := List.mem_range.1 hj
    exact ⟨by omega, by omega, h⟩
  · rintro ⟨h1, h2, h3⟩
    exact ⟨⟨(x - lo).toNat, List.mem_range.2 (by omega), by omega⟩, h3⟩

theorem infoInt : (Try.prog.info? 3).map (fun i => (i.zero, i.size, i.bytes)) = some (some (.int .i64 0), 1, 8) := by kernel_rfl
/-- a row of ints that the call made -/
def MadeRow (w : World) (l : List Int) (e : Ending) (w' : World) : Prop := ∃ v, e = .returned v ∧ w'.ownsRow w.heap.size 3 1 v l.length (l.map (Value.int .i64)) ∧ Below w.heap.size w w'
def DirtRel (w : World) (F : IFn) (lo : Int) (v i : Value) (wr : World) : Prop := ∃ k : Nat, k ≤ 8 ∧ i = .int .i64 (lo + k) ∧ wr.ownsRow w.heap.size 3 1 v (dirtyL F lo k).length ((dirtyL F lo k).map (Value.int .i64)) ∧ Below w.heap.size w wr

theorem dirtyIn_dev {w : World} {f : Fp} {σ : St} (h : Dev w f σ) (line : Int) (hl : 0 ≤ line ∧ line ≤ 4194304) : Calls Try.prog 73 #[f.ptr, .int .i64 line] w (MadeRow w (dirtyL σ.hd (line * 8) 8)) := by
  obtain ⟨h0, h1⟩ := hl
  have hp : f.ptr = .pointer (some ⟨f.p, 0, none⟩) := rfl
  rw [hp]
  clear hp
  go_enter Try.func73, Try.ntmps73
  go_wp2
  go_loopw [5, 6] (fun v i wr => DirtRel w σ.hd (line * 8) v i wr) (fun _ i _ => (line * 8 + 8 - intOf i).toNat)
  case atStart => exact ⟨0, by omega, by simp, own_nil _ _ _, Below.refl _ _⟩
  case round =>
    obtain ⟨k, hk, rfl, hown, hb⟩ := hrel
    have HO := Lib.hid hown
    have HB := Lib.hid hb
    have hd := h.below hb
    have c1 := hd.reads.c1
    have hs := hb.size
    have hle := dirtyL_le σ.hd (line * 8) k
    have hw := wf_i (x := line * 8 + (k : Int)) (by omega) (by omega)
    clear hown hb
    by_cases hlt : k < 8
    · cases hx : σ.hd (line * 8 + (k : Int)) with
      | none =>
        have HX := Lib.hid hx
        clear hx
        go_wp2_with (at_lookup; refine wp_look_not _ rfl _ _ 71 rfl keyedInt Try.underlying71 Try.underlying49 Try.underlying3 (zeroU _) rfl hd.2.2.1 _ rfl hw HX.out ?_)
        go_roundw
        case rel =>
          refine ⟨k + 1, by omega, by go_num, ?_, HB.out⟩
          rw [dirtyL_snoc, HX.out]
          simpa using HO.out
        case measure => simp [intOf]; omega
      | some c =>
        have HX := Lib.hid hx
        clear hx
        obtain ⟨wo, rfl⟩ : ∃ wo : World, wo = wr := ⟨_, rfl⟩
        go_wp2_with (first
          | (at_lookup; refine wp_look_yes _ rfl _ _ 71 rfl keyedInt Try.underlying71 Try.underlying49 Try.underlying3 (zeroU _) rfl hd.2.2.1 _ rfl hw c HX.out ?_)
          | (at_builtin; refine wpList_append_row _ rfl (.tmp 28) (.tmp 30) 74 rfl w.heap.size 3 (.int .i64 0) 8 Try.underlying74 infoInt rfl _ _ _ rfl (HO.out.alloc _) _ (some ⟨wo.heap.size, 0, none⟩) 1 1 [.int .i64 (line * 8 + (k : Int))] rfl (Row.one _ _ _) (by simp [Value.oneCell']) (by unfold maxLen; omega) (by omega) (by simp; omega) ?_; intro v5 w5 hown5 hgr5 hat5; have hb5 := Lib.hid (show Below w.heap.size w w5 from (HB.out.alloc hs _).grown hgr5 (by simp; omega) (own_base HO.out)); have HO5 := Lib.hid hown5; clear hown5 hgr5 hat5))
        go_roundw
        case rel =>
          refine ⟨k + 1, by omega, by go_num, ?_, hb5.out⟩
          rw [dirtyL_snoc, HX.out]
          simpa using HO5.out
        case measure => simp [intOf]; omega
    · obtain rfl : k = 8 := by omega
      go_wp2
      go_ret
      exact ⟨_, rfl, HO.out, HB.out⟩
end Go.Proofs.Ytnjikgcigobcdaa
