import Derived.Test.YtnjikgcigobcdaaGreatMA
import Derived.Maps.AppendAt
import Derived.Deep.AppendLies
import Derived.Deep.RegionLaw
import Derived.OwnWalk
import Derived.StillTailTactics
import Derived.WalkLawsBesides

namespace Wd
open Go Go.RowKit

section
variable {P : Program} (w : World)

/-- append(row of the call's own, a slice that reads as a row): the whole of it, whether it is nil, empty or not -/
theorem run_append_row (base : Nat) (t ty e : TypeId) (z : Value) (bytes : Nat) (ht : P.underlying t = some (.slice e)) (hi : (P.info? e).map (fun i => (i.zero, i.size, i.bytes)) = some (some z, 1, bytes)) (hz : z.cells.size = 1)
    (v : Value) (n : Nat) (xs : List Value) (hown : w.ownsRow base e 1 v n xs) (B : Nat) (A : Option Addr) (m c : Nat) (news : List Value) (hr : Row w B A m news) (h1 : ∀ u ∈ news, u.oneCell' = true)
    (h63 : n + m ≤ maxLen) (hbytes : (n + m) * bytes ≤ 140737488355328) (hbase : base ≤ w.heap.size) :
    ∃ v' w', (Builtin.append_ #[t, t] ty #[v, .slice A m c]).run P w = .ok v' w' ∧ w'.ownsRow base e 1 v' (n + m) (xs ++ news) ∧ w.grownBy w' v.ownBlock ∧ (v'.ownBlock = v.ownBlock ∨ v'.ownBlock = some w.heap.size) := by
  obtain ⟨i, i1, i2, i3, i4⟩ := info_parts hi
  by_cases hm : m = 0
  · subst hm
    have hn : news = [] := List.eq_nil_of_length_eq_zero hr.1
    subst hn
    cases A with
    | none =>
      refine ⟨v, w, ?_, by simpa using hown, World.grownBy.refl w _, .inl rfl⟩
      rcases hown.2 with ⟨rfl, rfl⟩ | ⟨g, cap, cur, rfl, _, _, hnc, _⟩
      · simp [Builtin.append_, run_underlying ht, Go.sizeOf, typeInfo, i1, Builtin.lenOf, Builtin.firstCells]
      · simp [Builtin.append_, run_underlying ht, Go.sizeOf, typeInfo, i1, Builtin.lenOf, Builtin.firstCells, hnc, storeCells]
    | some ad =>
      obtain ⟨v', w', h2, h3, h4, _, h5⟩ := run_append_own_at (P := P) w base t ty e i z 1 bytes ht i1 i2 i3 i4 hz (by decide) v n xs hown ad 0 c [] rfl (by simp) (by simp) h63 hbytes hbase
      exact ⟨v', w', h2, h3, h4, h5⟩
  · obtain ⟨b, off, rfl, _, hc⟩ := hr.2 (by omega)
    obtain ⟨v', w', h2, h3, h4, _, h5⟩ := run_append_own_at (P := P) w base t ty e i z 1 bytes ht i1 i2 i3 i4 hz (by decide) v n xs hown ⟨b, off, none⟩ m c news (by rw [Nat.mul_one]; exact hr.1) (fun j u hu => by
      obtain ⟨hj, rfl⟩ := List.getElem?_eq_some_iff.1 hu
      have e : (⟨b, off, none⟩ : Addr).add j = ⟨b, off + j, none⟩ := by unfold Addr.add; split <;> simp_all
      rw [e]; exact hc j hj) h1 h63 hbytes hbase
    exact ⟨v', w', h2, h3, h4, h5⟩

theorem wp_append_row {o : Oper} {a : Act} {K : Act → World → Prop} {Q : Exit → Act → World → Prop} (s x : Operand) (t : TypeId)
    (ho : o.op = .call { callee := .builtin .append, args := #[s, x], argTypes := #[t, t] })
    (base : Nat) (e : TypeId) (z : Value) (bytes : Nat) (ht : P.underlying t = some (.slice e)) (hi : (P.info? e).map (fun i => (i.zero, i.size, i.bytes)) = some (some z, 1, bytes)) (hz : z.cells.size = 1)
    (v : Value) (n : Nat) (xs : List Value) (hs : a.eval s = v) (hown : w.ownsRow base e 1 v n xs)
    (B : Nat) (A : Option Addr) (m c : Nat) (news : List Value) (hx : a.eval x = .slice A m c) (hr : Row w B A m news) (h1 : ∀ u ∈ news, u.oneCell' = true)
    (h63 : n + m ≤ maxLen) (hbytes : (n + m) * bytes ≤ 140737488355328) (hbase : base ≤ w.heap.size)
    (h : ∀ v' w', w'.ownsRow base e 1 v' (n + m) (xs ++ news) → w.grownBy w' v.ownBlock → (v'.ownBlock = v.ownBlock ∨ v'.ownBlock = some w.heap.size) → K (a.put o.dst v') w') : o.wp P a w K Q := by
  obtain ⟨v', w', hrun, h2, h3, h4⟩ := run_append_row (P := P) w base t o.type e z bytes ht hi hz v n xs hown B A m c news hr h1 h63 hbytes hbase
  unfold Oper.wp execOp
  simp only [ho, resolve, invoke, builtin, Sem.run_bind, Sem.run_pure, Result.andThen_ok, List.map_toArray, List.map_cons, List.map_nil, hs, hx, hrun]
  exact h v' w' h2 h3 h4

theorem wpList_append_row {ops : Array Oper} {rest : List Oper} {o : Oper} {a : Act} {Q : Exit → Act → World → Prop} (hgd : o.guard = none) (s x : Operand) (t : TypeId)
    (ho : o.op = .call { callee := .builtin .append, args := #[s, x], argTypes := #[t, t] })
    (base : Nat) (e : TypeId) (z : Value) (bytes : Nat) (ht : P.underlying t = some (.slice e)) (hi : (P.info? e).map (fun i => (i.zero, i.size, i.bytes)) = some (some z, 1, bytes)) (hz : z.cells.size = 1)
    (v : Value) (n : Nat) (xs : List Value) (hs : a.eval s = v) (hown : w.ownsRow base e 1 v n xs)
    (B : Nat) (A : Option Addr) (m c : Nat) (news : List Value) (hx : a.eval x = .slice A m c) (hr : Row w B A m news) (h1 : ∀ u ∈ news, u.oneCell' = true)
    (h63 : n + m ≤ maxLen) (hbytes : (n + m) * bytes ≤ 140737488355328) (hbase : base ≤ w.heap.size)
    (h : ∀ v' w', w'.ownsRow base e 1 v' (n + m) (xs ++ news) → w.grownBy w' v.ownBlock → (v'.ownBlock = v.ownBlock ∨ v'.ownBlock = some w.heap.size) → wpList P ops Q rest (a.put o.dst v') w') : wpList P ops Q (o :: rest) a w :=
  wpList_plain hgd fun _ hK => wp_append_row w s x t ho base e z bytes ht hi hz v n xs hs hown B A m c news hx hr h1 h63 hbytes hbase fun v' w' h2 h3 h4 => hK _ _ (h v' w' h2 h3 h4)

theorem step_append_row {ops : Array Oper} {o : Oper} {a : Act} {K : Act → World → Prop} {Q : Exit → Act → World → Prop} {E : Prop} (hgd : o.guard = none) (s x : Operand) (t : TypeId)
    (ho : o.op = .call { callee := .builtin .append, args := #[s, x], argTypes := #[t, t] })
    (base : Nat) (e : TypeId) (z : Value) (bytes : Nat) (ht : P.underlying t = some (.slice e)) (hi : (P.info? e).map (fun i => (i.zero, i.size, i.bytes)) = some (some z, 1, bytes)) (hz : z.cells.size = 1)
    (v : Value) (n : Nat) (xs : List Value) (hs : a.eval s = v) (hown : w.ownsRow base e 1 v n xs)
    (B : Nat) (A : Option Addr) (m c : Nat) (news : List Value) (hx : a.eval x = .slice A m c) (hr : Row w B A m news) (h1 : ∀ u ∈ news, u.oneCell' = true)
    (h63 : n + m ≤ maxLen) (hbytes : (n + m) * bytes ≤ 140737488355328) (hbase : base ≤ w.heap.size)
    (h : ∀ v' w', w'.ownsRow base e 1 v' (n + m) (xs ++ news) → w.grownBy w' v.ownBlock → (v'.ownBlock = v.ownBlock ∨ v'.ownBlock = some w.heap.size) → K (a.put o.dst v') w') :
    if Region.wanted o (yielded ops a.tmps) = true then Oper.wp P o a w K Q else E := by
  have hw : Region.wanted o (yielded ops a.tmps) = true := by simp [Region.wanted, hgd]
  rw [if_pos hw]
  exact wp_append_row w s x t ho base e z bytes ht hi hz v n xs hs hown B A m c news hx hr h1 h63 hbytes hbase h
end

theorem step_shape {P : Program} {w : World} {ops : Array Oper} {o : Oper} {a : Act} {K : Act → World → Prop} {Q : Exit → Act → World → Prop} {E : Prop} (hgd : o.guard = none) (h : Oper.wp P o a w K Q) :
    if Region.wanted o (yielded ops a.tmps) = true then Oper.wp P o a w K Q else E := by
  have hw : Region.wanted o (yielded ops a.tmps) = true := by simp [Region.wanted, hgd]
  rw [if_pos hw]; exact h

theorem own_nil (w : World) (base : Nat) (e : TypeId) : w.ownsRow base e 1 (.slice none 0 0) 0 [] := ⟨rfl, .inl ⟨rfl, rfl⟩⟩
end Wd

namespace Wd
open Go Go.RowKit
variable {w : World} {base n : Nat} {e : TypeId} {v : Value} {xs : List Value}

/-- a row that is owned, and holds something, opened -/
theorem own_open (h : w.ownsRow base e 1 v n xs) (hn : 0 < n) : ∃ g cap, v = .slice (some ⟨g, 0, none⟩) n cap ∧ base ≤ g ∧ n ≤ cap ∧ cap ≤ maxLen ∧ g < w.heap.size := by
  rcases h.2 with ⟨_, h0⟩ | ⟨g, cap, cur, rfl, hb, hh, h1, h2, _, _⟩
  · omega
  · exact ⟨g, cap, rfl, hb, h1, h2, lt_of_block hh⟩
theorem own_cell {g cap : Nat} (h : w.ownsRow base e 1 (.slice (some ⟨g, 0, none⟩) n cap) n xs) {k : Nat} {u : Value} (hk : xs[k]? = some u) : w.cell? ⟨g, k, none⟩ = some u ∧ w.frozen? ⟨g, k, none⟩ = false := by
  have hl := h.1
  rw [Nat.mul_one] at hl
  rcases h.2 with ⟨h0, _⟩ | ⟨g', cap', cur, hv, hb, hh, h1, h2, hs, ht⟩
  · cases h0
  · injection hv with hv _ hc
    injection hv with hv
    injection hv with hv
    subst hv hc
    rw [Nat.mul_one] at ht
    have hkn : k < n := by have := (List.getElem?_eq_some_iff.1 hk).1; omega
    have hc : Cells w g e cur := hh
    refine ⟨?_, hc.free k⟩
    rw [hc.cell k]
    rw [← ht, List.getElem?_take_of_lt hkn] at hk
    simpa using hk
theorem own_set {g cap : Nat} (h : w.ownsRow base e 1 (.slice (some ⟨g, 0, none⟩) n cap) n xs) (k : Nat) (u : Value) : (w.setCell ⟨g, k, none⟩ u).ownsRow base e 1 (.slice (some ⟨g, 0, none⟩) n cap) n (xs.set k u) := by
  rcases h with ⟨hl, h⟩
  refine ⟨by rw [List.length_set]; exact hl, ?_⟩
  rcases h with ⟨h0, _⟩ | ⟨g', cap', cur, hv, hb, hh, h1, h2, hs, ht⟩
  · cases h0
  · injection hv with hv _ hc
    injection hv with hv
    injection hv with hv
    subst hv hc
    refine .inr ⟨g, cap, cur.setIfInBounds k u, rfl, hb, Cells.set hh k u, h1, h2, by simp [hs], ?_⟩
    rw [Array.toList_setIfInBounds, List.take_set, ht]
end Wd

namespace Go.Proofs.YtnjikgcigobcdaaGreat
open Wd Pm Go.Maps Go.RowKit
set_option linter.unusedVariables false

/-! the dirty words of a line -/
def dirtyL (F : IFn) (lo : Int) (m : Nat) : List Int := ((List.range m).map (fun (j : Nat) => lo + j)).filter (fun x => (F x).isSome)
theorem dirtyL_snoc (F : IFn) (lo : Int) (m : Nat) : dirtyL F lo (m + 1) = dirtyL F lo m ++ (if (F (lo + m)).isSome = true then [lo + m] else []) := by
  unfold dirtyL
  rw [List.range_succ, List.map_append, List.filter_append, List.map_singleton]
  congr 1
  by_cases h : (F (lo + m)).isSome = true
  · rw [if_pos h]; simp [List.filter, h]
  · rw [if_neg h]; simp [List.filter, h]
theorem dirtyL_le (F : IFn) (lo : Int) (m : Nat) : (dirtyL F lo m).length ≤ m := by
  unfold dirtyL
  have := List.length_filter_le (fun x => (F x).isSome) ((List.range m).map (fun (j : Nat) => lo + j))
  simpa using this
theorem mem_dirtyL {F : IFn} {lo x : Int} {m : Nat} : x ∈ dirtyL F lo m ↔ lo ≤ x ∧ x < lo + m ∧ (F x).isSome = true := by
  unfold dirtyL
  rw [List.mem_filter, List.mem_map]
  constructor
  · rintro ⟨⟨j, hj, rfl⟩, h⟩
    have := List.mem_range.1 hj
    exact ⟨by omega, by omega, h⟩
  · rintro ⟨h1, h2, h3⟩
    exact ⟨⟨(x - lo).toNat, List.mem_range.2 (by omega), by omega⟩, h3⟩

theorem infoInt : (Tryz.prog.info? 3).map (fun i => (i.zero, i.size, i.bytes)) = some (some (.int .i64 0), 1, 8) := by kernel_rfl
/-- a row of ints that the call made -/
def MadeRow (w : World) (l : List Int) (e : Ending) (w' : World) : Prop := ∃ v, e = .returned v ∧ w'.ownsRow w.heap.size 3 1 v l.length (l.map (Value.int .i64)) ∧ Below w.heap.size w w'
def DirtRel (w : World) (F : IFn) (lo : Int) (v i : Value) (wr : World) : Prop := ∃ k : Nat, k ≤ 8 ∧ i = .int .i64 (lo + k) ∧ wr.ownsRow w.heap.size 3 1 v (dirtyL F lo k).length ((dirtyL F lo k).map (Value.int .i64)) ∧ Below w.heap.size w wr

theorem dirtyIn_dev {w : World} {f : Fp} {σ : St} (h : Dev w f σ) (line : Int) (hl : 0 ≤ line ∧ line ≤ 4194304) : Calls Tryz.prog 58 #[f.ptr, .int .i64 line] w (MadeRow w (dirtyL σ.hd (line * 8) 8)) := by
  obtain ⟨h0, h1⟩ := hl
  have hp : f.ptr = .pointer (some ⟨f.p, 0, none⟩) := rfl
  rw [hp]
  clear hp
  go_enter Tryz.func58, Tryz.ntmps58
  go_wp2
  go_loopw [5, 6] (fun v i wr => DirtRel w σ.hd (line * 8) v i wr) (fun _ i _ => (line * 8 + 8 - intOf i).toNat)
  case atStart => exact ⟨0, by omega, by simp, own_nil _ _ _, Below.refl _ _⟩
  case round =>
    obtain ⟨k, hk, rfl, hown, hb⟩ := hrel
    have HO := Lib.hid hown
    have HB := Lib.hid hb
    have hd := h.below hb
    have c1 := hd.reads.c1
    have hs := hb.size
    have hle := dirtyL_le σ.hd (line * 8) k
    have hw := wf_i (x := line * 8 + (k : Int)) (by omega) (by omega)
    clear hown hb
    by_cases hlt : k < 8
    · cases hx : σ.hd (line * 8 + (k : Int)) with
      | none =>
        have HX := Lib.hid hx
        clear hx
        go_wp2_with (at_lookup; refine wp_look_not _ rfl _ _ 55 rfl keyedInt Tryz.underlying55 Tryz.underlying31 Tryz.underlying3 (zeroU _) rfl hd.2.2.1 _ rfl hw HX.out ?_)
        go_roundw
        case rel =>
          refine ⟨k + 1, by omega, by go_num, ?_, HB.out⟩
          rw [dirtyL_snoc, HX.out]
          simpa using HO.out
        case measure => simp [intOf]; omega
      | some c =>
        have HX := Lib.hid hx
        clear hx
        obtain ⟨wo, rfl⟩ : ∃ wo : World, wo = wr := ⟨_, rfl⟩
        go_wp2_with (first
          | (at_lookup; refine wp_look_yes _ rfl _ _ 55 rfl keyedInt Tryz.underlying55 Tryz.underlying31 Tryz.underlying3 (zeroU _) rfl hd.2.2.1 _ rfl hw c HX.out ?_)
          | (at_builtin; refine wpList_append_row _ rfl (.tmp 28) (.tmp 30) 44 rfl w.heap.size 3 (.int .i64 0) 8 Tryz.underlying44 infoInt rfl _ _ _ rfl (HO.out.alloc _) _ (some ⟨wo.heap.size, 0, none⟩) 1 1 [.int .i64 (line * 8 + (k : Int))] rfl (Row.one _ _ _) (by simp [Value.oneCell']) (by unfold maxLen; omega) (by omega) (by simp; omega) ?_; intro v5 w5 hown5 hgr5 hat5; have hb5 := Lib.hid (show Below w.heap.size w w5 from (HB.out.alloc hs _).grown hgr5 (by simp; omega) (own_base HO.out)); have HO5 := Lib.hid hown5; clear hown5 hgr5 hat5))
        go_roundw
        case rel =>
          refine ⟨k + 1, by omega, by go_num, ?_, hb5.out⟩
          rw [dirtyL_snoc, HX.out]
          simpa using HO5.out
        case measure => simp [intOf]; omega
    · obtain rfl : k = 8 := by omega
      go_wp2
      go_ret
      exact ⟨_, rfl, HO.out, HB.out⟩
end Go.Proofs.YtnjikgcigobcdaaGreat

namespace Go.Proofs.YtnjikgcigobcdaaGreat
open Wd Pm Go.Maps Go.RowKit
set_option linter.unusedVariables false

/-! what a flush makes of a device -/
def sendL (σ : St) (l : List Int) : IFn := fun x => if x ∈ l then σ.hd x else σ.sn x
def St.send (σ : St) (line : Int) : St := { σ with sn := sendL σ (dirtyL σ.hd (line * 8) 8) }
theorem sendL_snoc (σ : St) (l : List Int) (y c : Int) (h : σ.hd y = some c) : sendL σ (l ++ [y]) = put (sendL σ l) y c := by
  funext x
  unfold sendL put
  by_cases e : x = y
  · subst e; simp [h]
  · simp [e]
theorem in_send {σ : St} (g : Good σ) (l : List Int) : ∀ x c, sendL σ l x = some c → 0 ≤ x ∧ x < σ.n ∧ U64 c := by
  intro x c h
  unfold sendL at h
  split at h
  · exact g.hd x c h
  · exact g.sn x c h
theorem take_snoc' {α : Type} {l : List α} {k : Nat} {y : α} (h : l[k]? = some y) : l.take (k + 1) = l.take k ++ [y] := by
  rw [List.take_add_one, h]; rfl

def SendRel (w1 : World) (f : Fp) (σ : St) (l : List Int) (i : Value) (wr : World) : Prop := ∃ k : Nat, k ≤ l.length ∧ i = .int .i64 k ∧ Dev wr f { σ with sn := sendL σ (l.take k) } ∧ w1.grownBy wr (some f.bn)

set_option maxRecDepth 100000 in
theorem flush1_dev {w : World} {f : Fp} {σ : St} (h : Dev w f σ) (a b : Nat) (line : Int) (hl : 0 ≤ line ∧ line ≤ 4194304) (ka : Cells w a 27 #[f.ptr]) (kb : Cells w b 3 #[.int .i64 line]) (na : a ∉ f.blocks) (nb : b ∉ f.blocks) :
    Calls Tryz.prog 57 #[.pointer (some ⟨a, 0, none⟩), .pointer (some ⟨b, 0, none⟩)] w fun e w' => e = .returned (.tuple #[]) ∧ Goes w f (σ.send line) w' := by
  have hp : f.ptr = .pointer (some ⟨f.p, 0, none⟩) := rfl
  rw [hp] at ka
  have ca : w.cell? ⟨a, 0, none⟩ = some (.pointer (some ⟨f.p, 0, none⟩)) := ka.cell 0
  have cb : w.cell? ⟨b, 0, none⟩ = some (.int .i64 line) := kb.cell 0
  unfold St.send
  have hlen := dirtyL_le σ.hd (line * 8) 8
  have hmem : ∀ x, x ∈ dirtyL σ.hd (line * 8) 8 → (σ.hd x).isSome = true := fun x hx => (mem_dirtyL.1 hx).2.2
  have HM := Lib.hid hmem
  have hna : a ≠ f.bn := fun e => na (e ▸ memN f)
  clear hmem hp
  have hdi := dirtyIn_dev h line hl
  revert hlen HM hdi
  generalize dirtyL σ.hd (line * 8) 8 = l
  intro hlen HM hdi
  go_enter Tryz.func57, Tryz.ntmps57
  go_wp2_with fail
  refine hdi.mono ?_
  clear hdi
  rintro e w1 ⟨v, rfl, hown, hb⟩
  obtain ⟨A, cp, rfl, -⟩ := Row.of_own hown
  have h1 := h.below hb
  have HO := Lib.hid hown
  have HB := Lib.hid hb
  have KA := Lib.hid (ka.below' hb)
  have hge := h.lt
  clear hown ka kb ca cb
  have hbs := hb.size
  clear hb
  go_wp2
  go_loopw [8] (fun i wr => SendRel w1 f σ l i wr) (fun i _ => l.length - (intOf i).toNat)
  case atStart =>
    refine ⟨0, Nat.zero_le _, rfl, ?_, World.grownBy.refl w1 _⟩
    have e : sendL σ (l.take 0) = σ.sn := by funext x; simp [sendL]
    rw [e]
    exact h1
  case round =>
    obtain ⟨k, hk, rfl, hd, hg⟩ := hrel
    by_cases hlt : k < l.length
    · obtain ⟨y, hy⟩ : ∃ y, l[k]? = some y := ⟨_, List.getElem?_eq_getElem hlt⟩
      have hown' := HO.out.kept hg (.inr fun e => by have := own_base HO.out _ e; omega)
      obtain ⟨g, cap, e, hgb, hc1, hc2, hgl⟩ := own_open hown' (by omega)
      injection e with e1 e2 e3
      subst e1 e3
      have cy := (own_cell hown' (k := k) (u := .int .i64 y) (by rw [List.getElem?_map, hy]; rfl)).1
      obtain ⟨c, hc⟩ := Option.isSome_iff_exists.1 (HM.out y (List.mem_of_getElem? hy))
      obtain ⟨y0, yn, yc⟩ := h1.good.hd y c hc
      have nle := h.good.nle
      have hw := wf_i (x := y) (by omega) (by omega)
      have ca : wr.cell? ⟨a, 0, none⟩ = some (.pointer (some ⟨f.p, 0, none⟩)) := (KA.out.grown hg (by simpa using hna)).cell 0
      have r1 := hd.reads.c1
      have r2 := hd.reads.c2
      have hlook : (Instr.lookup 55 (.map (some f.bh)) (.int .i64 y) false).run Tryz.prog wr.drew = .ok (.int .u64 c) wr.drew := by
        have := Mp.look (t := 55) (w := wr.drew) (hd.drewN 1).2.2.1 keyedInt Tryz.underlying55 Tryz.underlying31 Tryz.underlying3 (zeroU _) y hw
        rw [this]
        simp [hc]
      have HY := Lib.hid hy
      have HC := Lib.hid hc
      have HD := Lib.hid hd
      have HG := Lib.hid hg
      clear hy hc hd hg hown'
      go_wp2
      refine wp_region_still_tail 11 (by kernel_rfl) (by kernel_rfl) ?_
      simp only [List.take_succ_cons, List.take_zero, List.drop_succ_cons, List.drop_zero]
      repeat still_step
      try refine wpStill_nil ?_
      change wpList _ _ _ _ _ wr.drew
      go_wp2_with (at_mapUpdate; refine wp_store _ rfl _ _ _ 55 rfl keyedInt Tryz.underlying55 Tryz.underlying31 Tryz.underlying3 rfl (HD.out.drewN 1).2.2.2.1 (by show σ.n < maxLen; unfold maxLen; omega) _ _ rfl rfl hw yc ?_; intro w2 hM hT)
      go_roundw
      case rel =>
        refine ⟨k + 1, by omega, by go_num, ?_, ?_⟩
        · rw [take_snoc' HY.out, sendL_snoc _ _ _ _ HC.out]
          exact (HD.out.drewN 1).turnN hT hM (in_put (in_send h1.good _) ⟨y0, yn⟩ yc)
        · exact grown_trans (grown_drewN HG.out 1) hT.grown
      case measure => simp [intOf]; omega
    · obtain rfl : k = l.length := by omega
      have HD := Lib.hid hd
      have HG := Lib.hid hg
      clear hd hg
      go_wp2
      go_end0
      have hd := HD.out
      rw [List.take_of_length_le (Nat.le_refl _)] at hd
      exact ⟨rfl, Goes.mk' hd ((Turn.ofBelow HB.out).trans (Turn.grown HG.out (memN f)) (fun x hx => .inl hx))⟩
end Go.Proofs.YtnjikgcigobcdaaGreat

namespace Go.Proofs.YtnjikgcigobcdaaGreat
open Wd Pm Go.Maps Go.RowKit
set_option linter.unusedVariables false

/-! what a fence makes of a device; on its way there are still those of left -/
def perSt (σ : St) (left : Int → Bool) : Int → Int := fun x => if left x = true then σ.st x else (σ.sn x).getD (σ.st x)
def perHd (σ : St) (left : Int → Bool) : IFn := fun x => if left x = false ∧ (σ.sn x).isSome = true ∧ σ.hd x = σ.sn x then none else σ.hd x
def St.per (σ : St) (left : Int → Bool) : St := { σ with st := perSt σ left, hd := perHd σ left }
def St.persist (σ : St) : St := { σ with st := perSt σ (fun _ => false), hd := perHd σ (fun _ => false), sn := fun _ => none }

theorem per_start (σ : St) : σ.per (fun x => (σ.sn x).isSome) = σ := by
  have e1 : perSt σ (fun x => (σ.sn x).isSome) = σ.st := by
    funext x; unfold perSt
    cases h : σ.sn x <;> simp [h]
  have e2 : perHd σ (fun x => (σ.sn x).isSome) = σ.hd := by
    funext x; unfold perHd
    rw [if_neg (fun ⟨h1, h2, _⟩ => by simp only at h1; rw [h2] at h1; cases h1)]
  unfold St.per
  rw [e1, e2]
theorem per_st {σ : St} {left : Int → Bool} {x c : Int} (hl : left x = true) (hs : σ.sn x = some c) : (fun y => if y = x then c else perSt σ left y) = perSt σ (strike left x) := by
  funext y
  unfold perSt strike
  by_cases e : y = x
  · subst e; simp [hs]
  · simp [e]
theorem per_hd_yes {σ : St} {left : Int → Bool} {x c : Int} (hl : left x = true) (hs : σ.sn x = some c) (hq : (σ.hd x).getD 0 = c) : (fun y => if y = x then none else perHd σ left y) = perHd σ (strike left x) := by
  funext y
  unfold perHd strike
  by_cases e : y = x
  · subst e
    cases hh : σ.hd y with
    | none => simp
    | some d => rw [hh] at hq; simp at hq; simp [hs, hq]
  · simp [e]
theorem per_hd_no {σ : St} {left : Int → Bool} {x c : Int} (hl : left x = true) (hs : σ.sn x = some c) (hq : (σ.hd x).getD 0 ≠ c) : perHd σ left = perHd σ (strike left x) := by
  funext y
  unfold perHd strike
  by_cases e : y = x
  · subst e
    cases hh : σ.hd y with
    | none => simp
    | some d => rw [hh] at hq; simp at hq; simp [hs, hq, hl]
  · simp [e]
theorem in_per {σ : St} (g : Good σ) (left : Int → Bool) : ∀ x c, perHd σ left x = some c → 0 ≤ x ∧ x < σ.n ∧ U64 c := by
  intro x c h
  unfold perHd at h
  split at h
  · cases h
  · exact g.hd x c h
theorem per_end {σ : St} {left : Int → Bool} (h : ∀ x, left x = false) : σ.per left = { σ with st := perSt σ (fun _ => false), hd := perHd σ (fun _ => false) } := by
  have : left = fun _ => false := funext h
  rw [this]; rfl

theorem Dev.grownOut {w w' : World} {f : Fp} {σ : St} {r : Nat} (h : Dev w f σ) (g : w.grownBy w' (some r)) (hr : r ∉ f.blocks) : Dev w' f σ :=
  h.keep fun k hk => g.block k (by have := h.lt; simp [Fp.blocks] at hk; omega) (fun e => hr (by have := Option.some.inj e; subst this; exact hk))
/-- a new map for what is on its way -/
theorem Dev.newN {w : World} {f : Fp} {σ : St} (h : Dev w f σ) : Dev ((w.alloc (.map #[] 0)).setCell ⟨f.p, 2, none⟩ (.map (some w.heap.size))) { f with bn := w.heap.size } { σ with sn := fun _ => none } := by
  have n := h.ne
  have l := h.lt
  have h' := h.alloc (.map #[] 0)
  obtain ⟨h1, h2, h3, h4, h5, h6⟩ := h'
  refine ⟨h1.set 2 _, h2.far (by exact n.1.symm) _, h3.same (Below.heap_setCell _ _ _ _ n.2.1), ?_, by simp; omega, ?_⟩
  · exact ((Mp.made w _ _ _).mono (Nat.zero_le _)).same (Below.heap_setCell _ _ _ _ (by simp; omega))
  · exact ⟨h6.nle, h6.st, h6.hd, (fun x c hc => by cases hc), h6.ev, h6.ar⟩

def PerRel (w : World) (f : Fp) (σ : St) (wr : World) : Prop := ∃ left cnt, Rg Tryz.prog 3 31 wr f.bn w.heap.size σ.n σ.sn left cnt ∧ Dev wr f (σ.per left) ∧ Turn w wr f.blocks

set_option maxRecDepth 100000 in
theorem persist_dev {w : World} {f : Fp} {σ : St} (h : Dev w f σ) : Calls Tryz.prog 61 #[f.ptr] w fun e w' => e = .returned (.tuple #[]) ∧ Goes w f σ.persist w' := by
  have hp : f.ptr = .pointer (some ⟨f.p, 0, none⟩) := rfl
  rw [hp]
  clear hp
  have c2 := h.reads.c2
  have hout := h.out (Nat.le_refl _)
  have HOUT := Lib.hid hout
  have hl := h.lt
  have g0 := h.good
  have hmm := @run_makeMap Tryz.prog
  clear hout
  go_enter Tryz.func61, Tryz.ntmps61
  go_wp2_with (first
    | (at_range; refine wp_range _ rfl _ 55 rfl keyedInt Tryz.underlying55 rfl h.2.2.2.1 ?_; intro w0 cnt0 hrg0 hg0 hs0)
    | fail)
  go_frame
  go_loopw [] (fun wr => PerRel w f σ wr) (fun wr => wr.rangeLeft f.bn w.heap.size)
  case atStart =>
    refine ⟨_, _, hrg0, ?_, Turn.none hg0⟩
    rw [per_start]
    exact h.below (below_of_grown hg0)
  case round =>
    obtain ⟨left, cnt, hrg, hd, ht⟩ := hrel
    have HRG := Lib.hid hrg
    have HD := Lib.hid hd
    have HT := Lib.hid ht
    clear hrg hd ht hg0 hs0 hrg0 c2
    go_wp2_with (first
      | (at_next; refine wp_next _ rfl _ rfl keyedInt Tryz.underlying3 Tryz.underlying31 rfl HRG.out ?_ ?_)
      | fail)
    · intro _ hl0
      have hd := HD.out
      rw [per_end hl0] at hd
      have dn := hd.newN
      have z2 := (hd.alloc (.map #[] 0)).free 2
      have c2 := (hd.alloc (.map #[] 0)).reads.c2
      have HDN := Lib.hid dn
      have HL := Lib.hid hl0
      clear hd dn hl0
      go_wp2
      go_end0
      refine ⟨rfl, _, HDN.out, rfl, fun k hk => ?_, ?_⟩
      · have hs := HT.out.size
        simp [Fp.blocks] at hk ⊢
        omega
      · exact (HT.out.trans (Turn.ofBelow (S := []) ((Below.refl _ _).alloc (Nat.le_refl _) _)) (fun x hx => by cases hx)).trans (Turn.set _ (p := ⟨f.p, 2, none⟩) (memP f) _) (fun x hx => .inl hx)
    · intro x c w1 cnt1 hlx hsx hrg1 hlt hg1 hs1 hen
      have hd1 := HD.out.grownOut hg1 HOUT.out
      obtain ⟨x0, xn, xc⟩ := g0.sn x c hsx
      obtain ⟨j, rfl⟩ := Int.eq_ofNat_of_zero_le x0
      have hj : j < σ.n := by omega
      have nle := g0.nle
      have hw := wf_i (x := (j : Int)) (by omega) (by omega)
      have r0 := hd1.reads.c0
      have cw := hd1.word j hj
      have zw := hd1.2.1.free j
      have r1 : (w1.setCell ⟨f.bs, j, none⟩ (.int .u64 c)).cell? ⟨f.p, 1, none⟩ = some (.map (some f.bh)) := (hd1.setW j hj c xc).reads.c1
      have hd2 := hd1.setW j hj c xc
      have e1 : (fun y => if y = (j : Int) then c else perSt σ left y) = perSt σ (strike left j) := per_st hlx hsx
      have hd2' : Dev (w1.setCell ⟨f.bs, j, none⟩ (.int .u64 c)) f { σ with st := perSt σ (strike left j), hd := perHd σ left } := by rw [← e1]; exact hd2
      have hr2 : Rg Tryz.prog 3 31 (w1.setCell ⟨f.bs, j, none⟩ (.int .u64 c)) f.bn w.heap.size σ.n σ.sn (strike left j) cnt1 :=
        hrg1.kept (grown_set (World.grownBy.refl w1 (some f.bs)) j (.int .u64 c)) (by have := h.ne; simpa using this.2.2.2.2.1) (by simp; omega)
      obtain ⟨v, hv⟩ : ∃ v, (σ.hd (j : Int)).getD 0 = v := ⟨_, rfl⟩
      have hv' : (perHd σ left (j : Int)).getD 0 = v := by
        have : perHd σ left (j : Int) = σ.hd j := by unfold perHd; rw [if_neg (by rw [hlx]; simp)]
        rw [this]; exact hv
      have T1 : Turn w (w1.setCell ⟨f.bs, j, none⟩ (.int .u64 c)) f.blocks := (HT.out.trans (Turn.grown (S := [w.heap.size]) hg1 (by simp)) (fun x hx => by simp at hx; right; omega)).trans (Turn.set _ (p := ⟨f.bs, j, none⟩) (memS f) _) (fun x hx => .inl hx)
      have HD2 := Lib.hid hd2'
      have HR2 := Lib.hid hr2
      have HT1 := Lib.hid T1
      have HLX := Lib.hid hlx
      have HSX := Lib.hid hsx
      have HV := Lib.hid hv'
      have HV0 := Lib.hid hv
      have HRG1 := Lib.hid hrg1
      have HLT := Lib.hid hlt
      clear hd1 hd2 hd2' hr2 T1 hlx hsx hv' hv hrg1 hlt hg1 hs1 e1
      by_cases hq : v = c
      · have hqb : (v == c) = true := by simpa using hq
        have HQ := Lib.hid hq
        clear hq
        go_wp2_with (first
          | (at_lookup; refine wp_look_val _ rfl _ _ 55 rfl keyedInt Tryz.underlying55 Tryz.underlying31 Tryz.underlying3 (zeroU _) rfl HD2.out.2.2.1 _ rfl hw v HV.out ?_)
          | (at_delete; refine wp_drop _ rfl _ _ 55 rfl keyedInt Tryz.underlying55 Tryz.underlying3 rfl HD2.out.2.2.1 _ rfl hw ?_; intro w2 hM hT)
          | fail)
        refine ⟨⟨strike left j, cnt1, HR2.out.kept hT.grown (by have := h.ne; simp; omega) (by simp; omega), ?_, HT1.out.trans (Turn.grown hT.grown (memH f)) (fun x hx => .inl hx)⟩, ?_⟩
        · have e2 := per_hd_yes HLX.out HSX.out (HV0.out.trans HQ.out)
          have hM' := hM.congr (fun x => congrFun e2 x)
          exact HD2.out.turnH hT hM' (in_per g0 _)
        · rw [(HR2.out.kept hT.grown (by have := h.ne; simp; omega) (by simp; omega)).left_eq, HRG.out.left_eq]
          exact HLT.out
      · have hqb : (v == c) = false := by simpa using hq
        have HQ := Lib.hid hq
        clear hq
        go_wp2_with (first
          | (at_lookup; refine wp_look_val _ rfl _ _ 55 rfl keyedInt Tryz.underlying55 Tryz.underlying31 Tryz.underlying3 (zeroU _) rfl HD2.out.2.2.1 _ rfl hw v HV.out ?_)
          | fail)
        refine ⟨⟨strike left j, cnt1, HR2.out, ?_, HT1.out⟩, ?_⟩
        · have e2 := per_hd_no HLX.out HSX.out (by rw [HV0.out]; exact HQ.out)
          have hd3 := HD2.out
          rw [e2] at hd3
          exact hd3
        · rw [HR2.out.left_eq, HRG.out.left_eq]
          exact HLT.out
end Go.Proofs.YtnjikgcigobcdaaGreat

namespace Go.Proofs.YtnjikgcigobcdaaGreat
open Wd Pm Go.Maps Go.RowKit
set_option linter.unusedVariables false

theorem flush_dev {w : World} {f : Fp} {σ : St} (h : Dev w f σ) (hev : σ.ev < 4611686018427387904) (i : Int) : Calls Tryz.prog 23 #[f.ptr, .int .i64 i] w fun e w' =>
    e = .returned (.int .i64 (σ.tried (hasL σ.n i) (·.send i)).2) ∧ Goes w f (σ.tried (hasL σ.n i) (·.send i)).1 w' := by
  have hp : f.ptr = .pointer (some ⟨f.p, 0, none⟩) := rfl
  have nle := h.good.nle
  have h3 := (h.alloc (.cells #[.pointer (some ⟨f.p, 0, none⟩)] 27)).alloc (.cells #[.int .i64 i] 3)
  have B3 : Below w.heap.size w ((w.alloc (.cells #[.pointer (some ⟨f.p, 0, none⟩)] 27)).alloc (.cells #[.int .i64 i] 3)) := ((Below.refl _ _).alloc (Nat.le_refl _) _).alloc (by simp) _
  have BH := Lib.hid B3
  clear B3
  unfold St.tried
  rw [hp]
  by_cases he : refErr σ.dead (hasL σ.n i) = 0
  · rw [if_pos he]
    obtain ⟨ed, eh⟩ := refErr_ok he
    have hi := hasL_iff.1 eh
    have hq : (refErr σ.dead (hasL σ.n i) != 0) = false := by simpa using he
    have k1 := (Cells.new w 27 #[.pointer (some ⟨f.p, 0, none⟩)]).alloc (.cells #[.int .i64 i] 3)
    have k2 := Cells.new (w.alloc (.cells #[.pointer (some ⟨f.p, 0, none⟩)] 27)) 3 #[.int .i64 i]
    simp only [World.size_alloc] at k2
    have K1 := Lib.hid k1
    have K2 := Lib.hid k2
    have O1 := Lib.hid (h.out (Nat.le_refl _))
    have O2 := Lib.hid (h.out (k := w.heap.size + 1) (by omega))
    clear he ed eh k1 k2
    by_cases ha : σ.ar = 1
    · rw [if_pos ha]
      clear hp
      have HA := Lib.hid ha
      clear ha
      go_enter Tryz.func23, Tryz.ntmps23
      go_wp2
      go_quiet ((first | (go_at_call 55; exact quiet_eq (hasLine_dev (h3.drewN _) i)) | (go_at_call 54; exact quiet_eq (refusal_dev (h3.drewN _) _))))
      go_wp2_with (go_at_call 56; refine (event_fail (h3.drewN _) HA.out _).mono ?_; rintro e w' ⟨rfl, hG⟩)
      go_ret
      exact ⟨rfl, hG.from (below_drewN BH.out _)⟩
    · rw [if_neg ha]
      have HA := Lib.hid ha
      clear ha
      go_enter Tryz.func23, Tryz.ntmps23
      go_wp2
      go_quiet ((first | (go_at_call 55; exact quiet_eq (hasLine_dev (h3.drewN _) i)) | (go_at_call 54; exact quiet_eq (refusal_dev (h3.drewN _) _))))
      go_wp2_with fail
      refine (event_flush (h3.drewN _) HA.out hev w.heap.size (w.heap.size + 1) (σ2 := σ.drained.send i) rfl (fun w1 t1 d1 => flush1_dev d1 _ _ i (by omega) ?_ ?_ O1.out O2.out)).mono ?_
      · exact (K1.out.drewN _).turn' O1.out t1
      · exact (K2.out.drewN _).turn' O2.out t1
      rintro e w' ⟨rfl, hG⟩
      go_wp2
      go_ret
      exact ⟨rfl, hG.from (below_drewN BH.out _)⟩
  · rw [if_neg he]
    have hq := refErr_no he
    clear he hp
    go_enter Tryz.func23, Tryz.ntmps23
    go_wp2
    go_quiet ((first | (go_at_call 55; exact quiet_eq (hasLine_dev (h3.drewN _) i)) | (go_at_call 54; exact quiet_eq (refusal_dev (h3.drewN _) _))))
    go_wp2
    go_ret
    exact ⟨rfl, f, h3.drewN _, rfl, fun k hk => .inl hk, grown_turn BH.out _⟩

theorem fence_dev {w : World} {f : Fp} {σ : St} (h : Dev w f σ) (hev : σ.ev < 4611686018427387904) : Calls Tryz.prog 25 #[f.ptr] w fun e w' =>
    e = .returned (.int .i64 (σ.tried true St.persist).2) ∧ Goes w f (σ.tried true St.persist).1 w' := by
  have hmf : ∀ (fn : Fn) (first cap : Array Value) (w : World), (Instr.makeFunc fn first cap).run Tryz.prog w = .ok (.func fn first cap) w := fun _ _ _ _ => rfl
  have hp : f.ptr = .pointer (some ⟨f.p, 0, none⟩) := rfl
  unfold St.tried
  rw [hp]
  by_cases he : refErr σ.dead true = 0
  · rw [if_pos he]
    have hq : (refErr σ.dead true != 0) = false := by simpa using he
    clear he
    by_cases ha : σ.ar = 1
    · rw [if_pos ha]
      clear hp
      have HA := Lib.hid ha
      clear ha
      go_enter Tryz.func25, Tryz.ntmps25
      go_wp2_with (first | (go_at_call 54; refine (refusal_dev h _).mono ?_; rintro e w' ⟨rfl, rfl⟩) | (go_at_call 56; refine (event_fail h HA.out _).mono ?_; rintro e w' ⟨rfl, hG⟩))
      go_ret
      exact ⟨rfl, hG⟩
    · rw [if_neg ha]
      have HA := Lib.hid ha
      clear ha hp
      go_enter Tryz.func25, Tryz.ntmps25
      go_wp2_with (first | (go_at_call 54; refine (refusal_dev h _).mono ?_; rintro e w' ⟨rfl, rfl⟩) | fail)
      refine (event_fence h HA.out hev (σ2 := σ.drained.persist) rfl (fun w1 t1 d1 => persist_dev d1)).mono ?_
      rintro e w' ⟨rfl, hG⟩
      go_wp2
      go_ret
      exact ⟨rfl, hG⟩
  · rw [if_neg he]
    have hq := refErr_no he
    clear he hp
    go_enter Tryz.func25, Tryz.ntmps25
    go_wp2_with (first | (go_at_call 54; refine (refusal_dev h _).mono ?_; rintro e w' ⟨rfl, rfl⟩) | fail)
    go_ret
    exact ⟨rfl, Goes.refl h⟩

/-- a new device of n words -/
def St.fresh (n : Nat) : St := ⟨n, fun _ => 0, fun _ => none, fun _ => none, 0, 0, false⟩
def clampN (n : Int) : Nat := (min (max n 0) 33554432).toNat
/-- a device has been made, of blocks that are new -/
def MadeDev (w : World) (σ : St) (e : Ending) (w' : World) : Prop := ∃ f, e = .returned f.ptr ∧ Dev w' f σ ∧ (∀ k ∈ f.blocks, w.heap.size ≤ k) ∧ Below w.heap.size w w'
theorem infoU : (Tryz.prog.info? 31).map (fun i => (i.zero, i.size, i.bytes)) = some (some (.int .u64 0), 1, 8) := by kernel_rfl
theorem new_dev (n : Int) (w : World) : Calls Tryz.prog 7 #[.int .i64 n] w (MadeDev w (.fresh (clampN n))) := by
  have hmm := @run_makeMap Tryz.prog
  have hc : (clampN n : Int) = min (max n 0) 33554432 := by unfold clampN; omega
  have hle : clampN n ≤ 33554432 := by omega
  have hmk := fun (w : World) => make_row (P := Tryz.prog) 23 31 (.int .u64 0) 8 Tryz.underlying23 infoU rfl (clampN n) (by omega) (by omega) w
  rw [hc] at hmk
  go_enter Tryz.func7, Tryz.ntmps7
  go_wp2
  go_ret
  have e0 : (St.fresh (clampN n)).row = Array.replicate (clampN n) (.int .u64 0) := by
    apply Array.ext_getElem?
    intro j
    by_cases hj : j < clampN n
    · rw [St.row_at (St.fresh (clampN n)) j hj]
      simp [hj, St.fresh]
    · simp [St.row, St.fresh, hj]
  have k0 := Cells.new (((w.alloc (.cells (Array.replicate (clampN n) (.int .u64 0)) 31)).alloc (.map #[] 0)).alloc (.map #[] 0)) 57 #[.slice (some ⟨w.heap.size, 0, none⟩) (clampN n) (clampN n), .map (some (w.heap.size + 1)), .map (some (w.heap.size + 1 + 1)), .int .i64 0, .int .i64 0, .bool false]
  have k1 := (((Cells.new w 31 (Array.replicate (clampN n) (.int .u64 0))).alloc (.map #[] 0)).alloc (.map #[] 0)).alloc (.cells #[.slice (some ⟨w.heap.size, 0, none⟩) (clampN n) (clampN n), .map (some (w.heap.size + 1)), .map (some (w.heap.size + 1 + 1)), .int .i64 0, .int .i64 0, .bool false] 57)
  have m1 := ((Mp.made (w.alloc (.cells (Array.replicate (clampN n) (.int .u64 0)) 31)) Tryz.prog 3 31).kept (World.grownBy_alloc _ (.map #[] 0) none) (by simp)).kept (World.grownBy_alloc _ (.cells #[.slice (some ⟨w.heap.size, 0, none⟩) (clampN n) (clampN n), .map (some (w.heap.size + 1)), .map (some (w.heap.size + 1 + 1)), .int .i64 0, .int .i64 0, .bool false] 57) none) (by simp)
  have m2 := (Mp.made ((w.alloc (.cells (Array.replicate (clampN n) (.int .u64 0)) 31)).alloc (.map #[] 0)) Tryz.prog 3 31).kept (World.grownBy_alloc _ (.cells #[.slice (some ⟨w.heap.size, 0, none⟩) (clampN n) (clampN n), .map (some (w.heap.size + 1)), .map (some (w.heap.size + 1 + 1)), .int .i64 0, .int .i64 0, .bool false] 57) none) (by simp)
  simp only [World.size_alloc] at k0 m1 m2
  rw [← e0] at k1
  refine ⟨⟨w.heap.size + 1 + 1 + 1, w.heap.size, w.heap.size + 1, w.heap.size + 1 + 1, clampN n, #[]⟩, rfl, ⟨k0, ?_, m1.mono (Nat.zero_le _), m2.mono (Nat.zero_le _), by simp, ?_⟩, ?_, ?_⟩
  · rw [← e0, Array.append_empty]; exact k1
  · exact ⟨hle, fun x _ _ => (by decide : (Lit.int .u64 0).wf = true), (fun x c h => by cases h), (fun x c h => by cases h), ⟨by simp [St.fresh], by simp [St.fresh]⟩, ⟨by simp [St.fresh], by simp [St.fresh]⟩⟩
  · intro k hk; simp [Fp.blocks] at hk; omega
  · exact ((((Below.refl _ _).alloc (Nat.le_refl _) _).alloc (by simp) _).alloc (by simp; omega) _).alloc (by simp; omega) _
end Go.Proofs.YtnjikgcigobcdaaGreat

namespace Go.Proofs.YtnjikgcigobcdaaGreat
open Wd Pm Go.Maps Go.RowKit Go.Sort Go.Shelf
set_option linter.unusedVariables false

theorem sortsA (m : Nat) : AnyZI.SortsIn Tryz.prog Tryz.sortedA_ren Fence.wide m :=
  ⟨fun blk off cap ss W hH hblk hsz => callsIn_wide.2 (AnyM.slices_Sort_int Tryz.sortA blk off cap ss W hH hblk hsz),
   fun p cap W => callsIn_wide.2 (AnyM.slices_Sort_int_none Tryz.sortA p cap W)⟩

/-- ints, rising, each once: just those where something is there -/
structure KeysOf (F : IFn) (l : List Int) : Prop where
  rise : l.Pairwise (· < ·)
  mem : ∀ x, x ∈ l ↔ (F x).isSome = true

theorem rise_sort {ss : List Int} (h : ss.Nodup) : (ss.mergeSort leI).Pairwise (· < ·) := by
  have tr : ∀ a b c : Int, leI a b = true → leI b c = true → leI a c = true := fun a b c h1 h2 => by simp only [leI, decide_eq_true_eq] at *; exact Int.le_trans h1 h2
  have to : ∀ a b : Int, (leI a b || leI b a) = true := fun a b => by simp only [leI, Bool.or_eq_true, decide_eq_true_eq]; exact Int.le_total a b
  have h1 := List.pairwise_mergeSort tr to ss
  have h2 : (ss.mergeSort leI).Nodup := (List.mergeSort_perm ss leI).nodup_iff.2 h
  refine (h1.and h2).imp fun {a b} ⟨h3, h4⟩ => ?_
  simp only [leI, decide_eq_true_eq] at h3
  have : a ≠ b := h4
  omega
theorem keys_of {w : World} {b n : Nat} {F : IFn} (h : Mp Tryz.prog 3 31 w b n F) : ∃ D : DataW Unit, w.ownsMap Tryz.prog 3 (plainElem Tryz.prog 31) b n D ∧ ∀ ss : List Int, ss.Perm (intKeys D) → KeysOf F (ss.mergeSort leI) := by
  obtain ⟨D, h, v⟩ := h
  refine ⟨D, h, fun ss hp => ?_⟩
  have h' := h
  obtain ⟨es, clock, h1, F1, h2, rfl⟩ := h
  have ap := Maps.fit_apart keyedInt F1
  have each : ∀ p ∈ es.toList.map (WideElems.rg (H := Unit) Tryz.prog 3 (plainElem Tryz.prog 31)), ∃ x, p.1 = .int .i64 x := by
    intro p hp
    obtain ⟨m, hm, rfl⟩ := List.mem_map.1 hp
    obtain ⟨y, hy⟩ := F1.reads m hm
    obtain ⟨x, _, ex, _⟩ := Maps.keyOf_int_inv Tryz.underlying3 (WideElems.rd_key hy)
    exact ⟨x, by rw [WideElems.rg_of hy, ex]⟩
  obtain ⟨es', e1, pw, hk⟩ := h'.entries keyedInt
  injection e1 with e1
  rw [e1] at hp v
  have each' : ∀ p ∈ es', ∃ x, p.1 = .int .i64 x := fun p hp => by rw [← e1] at hp; exact each p (mem_sorted.1 hp)
  have hnd : (es'.map fun p => Go.intOf p.1).Nodup := by
    refine List.pairwise_map.2 (pw.imp_of_mem fun {p q} hp' hq' hne e => hne ?_)
    obtain ⟨a, ha⟩ := each' p hp'
    obtain ⟨b, hb⟩ := each' q hq'
    rw [ha, hb] at e ⊢
    exact congrArg _ e
  refine ⟨rise_sort (hp.nodup_iff.2 hnd), fun x => ?_⟩
  rw [List.mem_mergeSort, hp.mem_iff, ← (v x).1, has_eq, List.any_eq_true]
  show x ∈ es'.map (fun p => Go.intOf p.1) ↔ _
  rw [List.mem_map]
  constructor
  · rintro ⟨p, hp', rfl⟩
    obtain ⟨a, ha⟩ := each' p hp'
    exact ⟨p, hp', by rw [ha]; simp [Lit.sameKey, Go.intOf]⟩
  · rintro ⟨p, hp', hs⟩
    obtain ⟨a, ha⟩ := each' p hp'
    rw [ha] at hs
    exact ⟨p, hp', by rw [ha]; simpa [Lit.sameKey, Go.intOf] using hs⟩

/-- the dirty words, rising -/
def Dirties (w : World) (F : IFn) (e : Ending) (w' : World) : Prop := ∃ l, KeysOf F l ∧ MadeRow w l e w'

set_option maxHeartbeats 1000000 in
theorem dirty_dev {w : World} {f : Fp} {σ : St} (h : Dev w f σ) : Calls Tryz.prog 16 #[f.ptr] w (Dirties w σ.hd) := by
  have hp : f.ptr = .pointer (some ⟨f.p, 0, none⟩) := rfl
  have c1 := h.reads.c1
  have nle := h.good.nle
  obtain ⟨D0, hown, hkeys⟩ := keys_of h.2.2.1
  have hmade := (callsIn_wide (n := 5)).2 (made_dev h)
  rw [hp] at hmade ⊢
  clear hp
  refine (callsIn_wide (n := 6)).1 ?_
  have hbl := hown.lt
  have hsz := hown.size_le
  have hseq : SeqGives Fence.wide 2 Tryz.prog 70 #[.pointer (some ⟨w.heap.size, 0, none⟩)] encZ (fun ss => ss.Perm (intKeys D0)) (Maps.size D0) (w.alloc (.cells #[.map (some f.bh)] 55)) :=
    AnyZI.keys_gives (ρ := Tryz.keysA_ren) { Tryz.keysA with } Fence.wide _ trivial rfl (by omega) w.heap.size f.bh σ.n D0 _ (by simp) (by simp) (by
      obtain ⟨es, clock, hb, Ft, hs, hD⟩ := hown
      exact ⟨es, clock, (Below.heap_alloc _ _ f.bh hbl).trans hb, Ft, hs, hD⟩)
  have cK : ∀ mb W, CallsIn Fence.wide 5 Tryz.prog 39 #[.map mb] W fun e w' => e = .returned (.func (.func 70) #[] #[.pointer (some ⟨W.heap.size, 0, none⟩)]) ∧ w' = W.alloc (.cells #[.map mb] 55) := fun mb W => AnyZI.keys_in Tryz.keysA Fence.wide 5 trivial rfl mb W
  have cS := AnyZI.sorted_in Tryz.sortedA Fence.wide 5 trivial trivial trivial trivial rfl (by omega) (sortsA _) (enters_of Tryz.func69 (by kernel_rfl) rfl) 70 #[.pointer (some ⟨w.heap.size, 0, none⟩)] trivial (enters_of Tryz.func70 (by kernel_rfl) rfl) _ _ (by unfold maxLen; omega) (by omega) _ hseq
  change CallsIn _ _ Tryz.prog 38 _ _ _ at cS
  have hfM : Fence.wide.fn 33 := trivial
  have hfK : Fence.wide.fn 39 := trivial
  have hfS : Fence.wide.fn 38 := trivial
  have HK := Lib.hid hkeys
  clear hkeys hseq hown
  refine callsIn_of_wp Tryz.func16 rfl trivial ?_ rfl
  simp only [Tryz.ntmps16, List.size_toArray, List.length_cons, List.length_nil, Nat.reduceAdd, Nat.reduceSub, Array.replicate_succ, Array.replicate_zero, List.push_toArray, List.append_toArray, List.nil_append, List.cons_append]
  gi_wp2_with (first
    | (gi_at_call 33; refine hmade.mono ?_; rintro e w' ⟨rfl, rfl⟩)
    | (gi_at_call 39; refine (cK _ _).mono ?_; rintro e w' ⟨rfl, rfl⟩)
    | (gi_at_call 38; refine cS.mono ?_; rintro e w' ⟨v, ss, rfl, hS, hrow, hnil, hb⟩))
  go_ret
  refine ⟨ss.mergeSort leI, HK.out ss hS, v, rfl, ?_, ((Below.refl _ w).alloc (Nat.le_refl _) _).trans (hb.mono (by simp))⟩
  have hrow' := ownsRow_base_a hrow (by simp : w.heap.size ≤ _)
  rw [List.length_mergeSort]
  exact hrow'
end Go.Proofs.YtnjikgcigobcdaaGreat

namespace Go.Proofs.YtnjikgcigobcdaaGreat
open Wd Pm Go.Maps Go.RowKit
set_option linter.unusedVariables false

/-! what a crash makes of a device -/
def evSt (σ : St) (ks : List Int) : Int → Int := fun x => if x ∈ ks then (σ.hd x).getD 0 else σ.st x
def keptL : List Int → List Bool → List Int
  | [], _ => []
  | _ :: _, [] => []
  | x :: l, b :: keep => (if b = true then [x] else []) ++ keptL l keep
def St.crash (σ : St) (l : List Int) (keep : List Bool) : St := { σ with st := evSt σ (keptL l keep), hd := fun _ => none, sn := fun _ => none, ar := 0, dead := false }
theorem evSt_nil (σ : St) : evSt σ [] = σ.st := by funext x; simp [evSt]
theorem evSt_snoc (σ : St) (ks : List Int) (y c : Int) (h : σ.hd y = some c) : (fun x => if x = y then c else evSt σ ks x) = evSt σ (ks ++ [y]) := by
  funext x
  unfold evSt
  by_cases e : x = y
  · subst e; simp [h]
  · simp [e]
theorem kept_step : ∀ {l : List Int} {keep : List Bool} {k : Nat} {y : Int}, l[k]? = some y → keptL (l.take (k + 1)) keep = keptL (l.take k) keep ++ (if keep[k]? = some true then [y] else [])
  | [], _, _, _, h => by simp at h
  | x :: l, [], 0, y, _ => by simp [keptL]
  | x :: l, [], k + 1, y, _ => by simp [keptL]
  | x :: l, b :: keep, 0, y, h => by
    simp at h; subst h
    simp [keptL]
  | x :: l, b :: keep, k + 1, y, h => by
    simp at h
    have := kept_step (keep := keep) h
    simp only [List.take_succ_cons, keptL, this, List.getElem?_cons_succ, List.append_assoc]
theorem mem_kept : ∀ {l : List Int} {keep : List Bool} {x : Int}, x ∈ keptL l keep → x ∈ l
  | [], _, _, h => by simp [keptL] at h
  | _ :: _, [], _, h => by simp [keptL] at h
  | y :: l, b :: keep, x, h => by
    simp only [keptL, List.mem_append] at h
    rcases h with h | h
    · split at h
      · simp at h; simp [h]
      · cases h
    · exact List.mem_cons_of_mem _ (mem_kept h)

/-- two new maps -/
theorem Dev.newHN {w : World} {f : Fp} {σ : St} (h : Dev w f σ) : Dev ((((w.alloc (.map #[] 0)).alloc (.map #[] 0)).setCell ⟨f.p, 1, none⟩ (.map (some w.heap.size))).setCell ⟨f.p, 2, none⟩ (.map (some (w.heap.size + 1)))) { f with bh := w.heap.size, bn := w.heap.size + 1 } { σ with hd := fun _ => none, sn := fun _ => none } := by
  have n := h.ne
  have l := h.lt
  have h' := (h.alloc (.map #[] 0)).alloc (.map #[] 0)
  obtain ⟨h1, h2, h3, h4, h5, h6⟩ := h'
  have m1 := (Mp.made w Tryz.prog 3 31).kept (World.grownBy_alloc _ (.map #[] 0) none) (by simp)
  have m2 := Mp.made (w.alloc (.map #[] 0)) Tryz.prog 3 31
  rw [World.size_alloc] at m2
  refine ⟨(h1.set 1 _).set 2 _, (h2.far (by exact n.1.symm) _).far (by exact n.1.symm) _, ?_, ?_, by simp, ?_⟩
  · exact ((m1.mono (Nat.zero_le _)).same (Below.heap_setCell _ ⟨f.p, 1, none⟩ (.map (some w.heap.size)) _ (by simp; omega))).same (Below.heap_setCell _ _ _ _ (by simp; omega))
  · exact ((m2.mono (Nat.zero_le _)).same (Below.heap_setCell _ ⟨f.p, 1, none⟩ (.map (some w.heap.size)) _ (by simp; omega))).same (Below.heap_setCell _ _ _ _ (by simp; omega))
  · exact ⟨h6.nle, h6.st, (fun x c hc => by cases hc), (fun x c hc => by cases hc), h6.ev, h6.ar⟩

def CrashRel (w1 : World) (f : Fp) (σ : St) (l : List Int) (keep : List Bool) (i : Value) (wr : World) : Prop := ∃ k : Nat, k ≤ l.length ∧ i = .int .i64 k ∧ Dev wr f { σ with st := evSt σ (keptL (l.take k) keep) } ∧ w1.grownBy wr (some f.bs)
/-- a device has crashed -/
def Crashed (w : World) (f : Fp) (σ : St) (keep : List Bool) (e : Ending) (w' : World) : Prop := e = .returned (.tuple #[]) ∧ ∃ l, KeysOf σ.hd l ∧ Goes w f (σ.crash l keep) w'

set_option maxRecDepth 100000 in
set_option maxHeartbeats 1000000 in
theorem crash_dev {w : World} {f : Fp} {σ : St} (h : Dev w f σ) (B : Nat) (hB : ∀ k ∈ f.blocks, B ≤ k) (hBw : B ≤ w.heap.size) (A : Option Addr) (cp : Nat) (keep : List Bool) (hrow : Row w B A keep.length (keep.map Value.bool)) (hkm : keep.length ≤ maxLen) :
    Calls Tryz.prog 29 #[f.ptr, .slice A keep.length cp] w (Crashed w f σ keep) := by
  have hp : f.ptr = .pointer (some ⟨f.p, 0, none⟩) := rfl
  have hmm := @run_makeMap Tryz.prog
  have hge := h.lt
  have hne := h.ne
  have g0 := h.good
  have nle := g0.nle
  have HR := Lib.hid hrow
  have HB := Lib.hid hB
  unfold maxLen at hkm
  rw [hp]
  clear hp hrow hB
  go_enter Tryz.func29, Tryz.ntmps29
  go_wp2_with (first
    | (go_at_call 33; refine (made_dev h).mono ?_; rintro e w' ⟨rfl, rfl⟩)
    | (go_at_call 16; refine (dirty_dev h).mono ?_; rintro e w1 ⟨l, hk, v, rfl, hown, hb⟩; obtain ⟨Al, cl, rfl, -⟩ := Row.of_own hown))
  have hlen : l.length ≤ 33554432 := by
    have : l.Pairwise (· ≠ ·) := hk.rise.imp fun h => by omega
    have h2 := pigeon σ.n l this (fun x hx => few_of g0.hd x ((hk.mem x).1 hx))
    omega
  have h1 := h.below hb
  have HO := Lib.hid hown
  have HBL := Lib.hid hb
  have HK := Lib.hid hk
  have hbs := hb.size
  clear hown hb hk
  go_loopw [12] (fun i wr => CrashRel w1 f σ l keep i wr) (fun i _ => l.length - (intOf i).toNat)
  case atStart =>
    refine ⟨0, Nat.zero_le _, rfl, ?_, World.grownBy.refl w1 _⟩
    have e : evSt σ (keptL (l.take 0) keep) = σ.st := evSt_nil σ
    rw [e]
    exact h1
  case round =>
    obtain ⟨k, hk, rfl, hd, hg⟩ := hrel
    by_cases hlt : k < l.length
    · obtain ⟨y, hy⟩ : ∃ y, l[k]? = some y := ⟨_, List.getElem?_eq_getElem hlt⟩
      have hown' := HO.out.kept hg (.inr fun e => by have := own_base HO.out _ e; omega)
      obtain ⟨g, cap, e, hgb, hc1, hc2, hgl⟩ := own_open hown' (by omega)
      injection e with e1 e2 e3
      subst e1 e3
      have cy := (own_cell hown' (k := k) (u := .int .i64 y) (by rw [List.getElem?_map, hy]; rfl)).1
      obtain ⟨c, hc⟩ := Option.isSome_iff_exists.1 ((HK.out.mem y).1 (List.mem_of_getElem? hy))
      obtain ⟨y0, yn, yc⟩ := g0.hd y c hc
      obtain ⟨j, rfl⟩ := Int.eq_ofNat_of_zero_le y0
      have hj : j < σ.n := by omega
      have hw := wf_i (x := (j : Int)) (by omega) (by omega)
      have r0 := hd.reads.c0
      have r1 := hd.reads.c1
      have cw := hd.word j hj
      have zw := hd.2.1.free j
      have hlook : (Instr.lookup 55 (.map (some f.bh)) (.int .i64 (j : Int)) false).run Tryz.prog wr.drew = .ok (.int .u64 c) wr.drew := by
        have := Mp.look (t := 55) (w := wr.drew) (hd.drewN 1).2.2.1 keyedInt Tryz.underlying55 Tryz.underlying31 Tryz.underlying3 (zeroU _) (j : Int) hw
        rw [this]
        simp [hc]
      have hrk : Row wr B A keep.length (keep.map Value.bool) := HR.out.below ((HBL.out.mono hBw).trans ⟨hg.os, hg.tape, hg.output, hg.size, fun k hk => hg.block k (by omega) (fun e => by have h1 := HB.out f.bs (memS f); have h2 := Option.some.inj e; omega)⟩)
      have HY := Lib.hid hy
      have HC := Lib.hid hc
      have HD := Lib.hid hd
      have HG := Lib.hid hg
      clear hy hc hd hg hown'
      have HRK := Lib.hid hrk
      clear hrk
      by_cases hkl : k < keep.length
      · obtain ⟨b, off, x, rfl, hbB, hx, cx⟩ := HRK.out.get hkl
        have HX := Lib.hid hx
        clear hx
        cases x with
        | false =>
          go_wp2
          go_roundw
          case rel =>
            refine ⟨k + 1, by omega, by go_num, ?_, HG.out⟩
            rw [kept_step HY.out, HX.out, if_neg (by simp), List.append_nil]
            exact HD.out
          case measure => simp [intOf]; omega
        | true =>
          go_wp2
          refine wp_region_still_tail 12 (by kernel_rfl) (by kernel_rfl) ?_
          simp only [List.take_succ_cons, List.take_zero, List.drop_succ_cons, List.drop_zero]
          repeat still_step
          try refine wpStill_nil ?_
          go_wp2
          go_roundw
          case rel =>
            refine ⟨k + 1, by omega, by go_num, ?_, grown_set (grown_drew HG.out) _ _⟩
            have h2 := (HD.out.drewN 1).setW j hj c yc
            rw [kept_step HY.out, HX.out, if_pos rfl, ← evSt_snoc σ _ _ _ HC.out]
            exact h2
          case measure => simp [intOf]; omega
      · have hkl' : decide (k < keep.length) = false := by simpa using hkl
        go_wp2
        go_roundw
        case rel =>
          refine ⟨k + 1, by omega, by go_num, ?_, HG.out⟩
          rw [kept_step HY.out, List.getElem?_eq_none (by omega), if_neg (by simp), List.append_nil]
          exact HD.out
        case measure => simp [intOf]; omega
    · obtain rfl : k = l.length := by omega
      have hd := hd
      have dn := ((hd.newHN.setAr 0 (by omega)).setDead false)
      rw [List.take_of_length_le (Nat.le_refl _)] at dn
      have HDN := Lib.hid dn
      have HG := Lib.hid hg
      have r1 := ((hd.alloc (.map #[] 0)).alloc (.map #[] 0)).reads
      have cx1 := r1.c1
      have cx2 := r1.c2
      have cx4 := r1.c4
      have cx5 := r1.c5
      have cz := ((hd.alloc (.map #[] 0)).alloc (.map #[] 0)).1.free
      have z1 := cz 1
      have z2 := cz 2
      have z4 := cz 4
      have z5 := cz 5
      clear hd hg dn cz r1
      go_wp2
      go_end0
      refine ⟨rfl, l, HK.out, _, HDN.out, rfl, fun k hk => ?_, ?_⟩
      · have hs := HG.out.size
        simp [Fp.blocks] at hk ⊢
        omega
      · have t1 : Turn w wr f.blocks := (Turn.ofBelow HBL.out).trans (Turn.grown HG.out (memS f)) (fun x hx => .inl hx)
        have t2 := t1.trans (Turn.ofBelow (S := f.blocks) (((Below.refl wr.heap.size wr).alloc (Nat.le_refl _) (.map #[] 0)).alloc (by simp) (.map #[] 0))) (fun x hx => .inl hx)
        exact (((t2.trans (Turn.set _ (p := ⟨f.p, 1, none⟩) (memP f) _) (fun x hx => .inl hx)).trans (Turn.set _ (p := ⟨f.p, 2, none⟩) (memP f) _) (fun x hx => .inl hx)).trans (Turn.set _ (p := ⟨f.p, 4, none⟩) (memP f) _) (fun x hx => .inl hx)).trans (Turn.set _ (p := ⟨f.p, 5, none⟩) (memP f) _) (fun x hx => .inl hx)
end Go.Proofs.YtnjikgcigobcdaaGreat
