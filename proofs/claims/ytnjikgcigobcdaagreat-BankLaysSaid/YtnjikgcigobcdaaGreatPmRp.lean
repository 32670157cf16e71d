import Derived.Test.YtnjikgcigobcdaaGreatPmRv
import Derived.Deep.RegionLaw
import Derived.Deep.RegionLawGrows
import Derived.Maps.AppendAt
namespace Go.Proofs.YtnjikgcigobcdaaGreat
open Wd Pm Go.Maps Go.RowKit
set_option linter.unusedVariables false

/-- append(a row of the call's own, cells that lie somewhere), at elements of any size -/
theorem wp_append_at {P : Program} (w : World) {o : Oper} {a : Act} {K : Act → World → Prop} {Q : Exit → Act → World → Prop} (s x : Operand) (t : TypeId)
    (ho : o.op = .call { callee := .builtin .append, args := #[s, x], argTypes := #[t, t] })
    (base : Nat) (e : TypeId) (z : Value) (size bytes : Nat) (ht : P.underlying t = some (.slice e)) (hi : (P.info? e).map (fun i => (i.zero, i.size, i.bytes)) = some (some z, size, bytes)) (hz : z.cells.size = size) (hs0 : 0 < size)
    (v : Value) (n : Nat) (xs : List Value) (hs : a.eval s = v) (hown : w.ownsRow base e size v n xs)
    (ad : Addr) (m c : Nat) (news : List Value) (hx : a.eval x = .slice (some ad) m c) (hn : news.length = m * size) (hc : ∀ (j : Nat) (u : Value), news[j]? = some u → w.cell? (ad.add j) = some u) (h1 : ∀ u ∈ news, u.oneCell' = true)
    (h63 : n + m ≤ maxLen) (hbytes : (n + m) * bytes ≤ 140737488355328) (hbase : base ≤ w.heap.size)
    (h : ∀ v' w', w'.ownsRow base e size v' (n + m) (xs ++ news) → w.grownBy w' v.ownBlock → (v'.ownBlock = v.ownBlock ∨ v'.ownBlock = some w.heap.size) → K (a.put o.dst v') w') : o.wp P a w K Q := by
  obtain ⟨i, i1, i2, i3, i4⟩ := info_parts hi
  obtain ⟨v', w', hrun, h2, h3, _, h4⟩ := run_append_own_at (P := P) w base t o.type e i z size bytes ht i1 i2 i3 i4 hz hs0 v n xs hown ad m c news hn hc h1 h63 hbytes hbase
  unfold Oper.wp execOp
  simp only [ho, resolve, invoke, builtin, Sem.run_bind, Sem.run_pure, Result.andThen_ok, List.map_toArray, List.map_cons, List.map_nil, hs, hx, hrun]
  exact h v' w' h2 h3 h4
/-- append(a row of the call's own, nil) -/
theorem wp_append_nil {P : Program} (w : World) {o : Oper} {a : Act} {K : Act → World → Prop} {Q : Exit → Act → World → Prop} (s x : Operand) (t : TypeId)
    (ho : o.op = .call { callee := .builtin .append, args := #[s, x], argTypes := #[t, t] })
    (base : Nat) (e : TypeId) (z : Value) (size bytes : Nat) (ht : P.underlying t = some (.slice e)) (hi : (P.info? e).map (fun i => (i.zero, i.size, i.bytes)) = some (some z, size, bytes))
    (ad : Addr) (n c : Nat) (hs : a.eval s = .slice (some ad) n c) (hnc : n ≤ c) (hx : a.eval x = .slice none 0 0)
    (h : K (a.put o.dst (.slice (some ad) n c)) w) : o.wp P a w K Q := by
  obtain ⟨i, i1, i2, i3, i4⟩ := info_parts hi
  have hrun : (Builtin.append_ #[t, t] o.type #[.slice (some ad) n c, .slice none 0 0]).run P w = .ok (.slice (some ad) n c) w := by
    simp [Builtin.append_, run_underlying ht, Go.sizeOf, typeInfo, i1, Builtin.lenOf, Builtin.firstCells, hnc, storeCells]
  unfold Oper.wp execOp
  simp only [ho, resolve, invoke, builtin, Sem.run_bind, Sem.run_pure, Result.andThen_ok, List.map_toArray, List.map_cons, List.map_nil, hs, hx, hrun]
  exact h
theorem infoW : (Tryz.prog.info? 74).map (fun i => (i.zero, i.size, i.bytes)) = some (some (.agg #[.int .i64 0, .int .u64 0, .int .u64 0, .bool false, .bool false, .int .u64 0]), 6, 40) := by kernel_rfl
theorem one6 (l : List RW) : ∀ u ∈ rvals l, u.oneCell' = true := by
  intro u hu
  unfold rvals at hu
  obtain ⟨r, _, hr⟩ := List.mem_flatMap.1 hu
  simp [RW.vals] at hr
  rcases hr with rfl | rfl | rfl | rfl | rfl | rfl <;> rfl

/-! a word's place -/
def belowN (i : Int) : List RW → Nat
  | [] => 0
  | r :: l => if r.at_ < i then belowN i l + 1 else 0
theorem belowN_le (i : Int) : ∀ l, belowN i l ≤ l.length
  | [] => Nat.le_refl _
  | r :: l => by unfold belowN; split; have := belowN_le i l; simp; omega; simp
theorem belowN_lt {i : Int} : ∀ {l : List RW} {k : Nat} {r : RW}, k < belowN i l → l[k]? = some r → r.at_ < i
  | [], k, r, h, _ => by simp [belowN] at h
  | x :: l, 0, r, h, hr => by simp at hr; subst hr; unfold belowN at h; split at h; assumption; omega
  | x :: l, k + 1, r, h, hr => by
    unfold belowN at h
    split at h
    · exact belowN_lt (l := l) (k := k) (by omega) (by simpa using hr)
    · omega
theorem belowN_at {i : Int} : ∀ {l : List RW} {r : RW}, l[belowN i l]? = some r → ¬ r.at_ < i
  | [], r, h => by simp at h
  | x :: l, r, h => by
    unfold belowN at h
    split at h
    · exact belowN_at (l := l) (by simpa using h)
    · simp at h; subst h; assumption
theorem belowN_more {i : Int} {l : List RW} {k : Nat} {r : RW} (hk : k ≤ belowN i l) (hr : l[k]? = some r) (h : r.at_ < i) : k + 1 ≤ belowN i l := by
  rcases Nat.lt_or_eq_of_le hk with h1 | rfl
  · exact h1
  · exact absurd h (belowN_at hr)
def RW.fresh (i : Int) : RW := ⟨i, 0, 0, false, false, 0⟩
def placeL (i : Int) (l : List RW) : List RW := match l[belowN i l]? with
  | some r => if r.at_ = i then l else l.take (belowN i l) ++ RW.fresh i :: l.drop (belowN i l)
  | none => l.take (belowN i l) ++ RW.fresh i :: l.drop (belowN i l)
def RSt.place (i : Int) (ρ : RSt) : RSt := { ρ with l := placeL i ρ.l }
/-- the list with a new word -/
def ins (i : Int) (k : Nat) (l : List RW) : List RW := l.take k ++ RW.fresh i :: l.drop k
theorem ins_len {i : Int} {k : Nat} {l : List RW} (h : k ≤ l.length) : (ins i k l).length = l.length + 1 := by unfold ins; simp; omega
theorem ins_ok {i n : Int} {k : Nat} {l : List RW} (hi : 0 ≤ i ∧ i < n) (h : ∀ r ∈ l, r.Ok n) : ∀ r ∈ ins i k l, r.Ok n := by
  intro r hr
  unfold ins at hr
  rcases List.mem_append.1 hr with h1 | h1
  · exact h r (List.mem_of_mem_take h1)
  · rcases List.mem_cons.1 h1 with rfl | h2
    · exact ⟨hi, (show U64 0 by unfold U64; decide), (show U64 0 by unfold U64; decide), (show U64 0 by unfold U64; decide)⟩
    · exact h r (List.mem_of_mem_drop h2)
theorem rvals_take_cells {w w' : World} {B n : Nat} {g cap k : Nat} {l : List RW} (h : w.ownsRow B 74 6 (.slice (some ⟨g, 0, none⟩) n cap) n (rvals l)) (hb : ∀ i, w'.cell? ⟨g, i, none⟩ = w.cell? ⟨g, i, none⟩) :
    ∀ (j : Nat) (u : Value), (rvals (l.take k))[j]? = some u → w'.cell? ((⟨g, 0, none⟩ : Addr).add j) = some u := by
  intro j u hu
  rw [add_at rfl, Nat.zero_add, hb]
  have hj := (List.getElem?_eq_some_iff.1 hu).1
  rw [rvals_length] at hj
  have h1 : j / 6 < (l.take k).length := by omega
  obtain ⟨r, hr⟩ : ∃ r, (l.take k)[j / 6]? = some r := ⟨_, List.getElem?_eq_getElem h1⟩
  have h2 := rvals_at hr (j % 6) (Nat.mod_lt _ (by omega))
  rw [show j / 6 * 6 + j % 6 = j by omega] at h2
  have hr' : l[j / 6]? = some r := by rw [List.getElem?_take_of_lt (by simp at h1; omega)] at hr; exact hr
  have h3 := rvals_at hr' (j % 6) (Nat.mod_lt _ (by omega))
  rw [show j / 6 * 6 + j % 6 = j by omega] at h3
  rcases h.2 with ⟨e, _⟩ | ⟨g', cap', cur, hv, _, hh, _, _, _, ht⟩
  · cases e
  · injection hv with hv _ _
    injection hv with hv
    injection hv with hv
    subst hv
    have hc : Cells w g 74 cur := hh
    have hl := h.1
    rw [rvals_length] at hl
    have hl2 := (List.getElem?_eq_some_iff.1 hr').1
    rw [hc.cell]
    rw [h2] at hu
    rw [← hu, ← h3, ← ht, List.getElem?_take_of_lt (by omega)]
    simp
theorem rvals_drop_cells {w w' : World} {B n : Nat} {g cap k : Nat} {l : List RW} (h : w.ownsRow B 74 6 (.slice (some ⟨g, 0, none⟩) n cap) n (rvals l)) (hb : ∀ i, w'.cell? ⟨g, i, none⟩ = w.cell? ⟨g, i, none⟩) :
    ∀ (j : Nat) (u : Value), (rvals (l.drop k))[j]? = some u → w'.cell? ((⟨g, k * 6, none⟩ : Addr).add j) = some u := by
  intro j u hu
  by_cases hkl : k ≤ l.length
  · have e : rvals l = rvals (l.take k) ++ rvals (l.drop k) := by rw [← rvals_append, List.take_append_drop]
    have h1 : (rvals l)[k * 6 + j]? = some u := by
      rw [e, List.getElem?_append_right (by rw [rvals_length]; simp; omega), rvals_length, List.length_take, Nat.min_eq_left hkl, show k * 6 + j - k * 6 = j by omega]
      exact hu
    have h2 := rvals_take_cells (k := l.length) h hb (k * 6 + j) u (by rw [List.take_of_length_le (Nat.le_refl _)]; exact h1)
    rw [add_at rfl, Nat.zero_add] at h2
    rw [add_at rfl]
    exact h2
  · rw [List.drop_of_length_le (by omega)] at hu
    simp [rvals] at hu

theorem own6_at {w : World} {B n m : Nat} {g c : Nat} {xs : List Value} (h : w.ownsRow B 74 6 (.slice (some ⟨g, 0, none⟩) n c) m xs) : ∀ (j : Nat) (u : Value), xs[j]? = some u → w.cell? ((⟨g, 0, none⟩ : Addr).add j) = some u := by
  intro j u hu
  rw [add_at rfl, Nat.zero_add]
  rcases h.2 with ⟨e, _⟩ | ⟨g', cap', cur, hv, _, hh, _, _, _, ht⟩
  · cases e
  · injection hv with hv _ _
    injection hv with hv
    injection hv with hv
    subst hv
    have hc : Cells w g 74 cur := hh
    have hl := h.1
    have hj := (List.getElem?_eq_some_iff.1 hu).1
    rw [hc.cell]
    rw [← ht, List.getElem?_take_of_lt (by omega)] at hu
    simpa using hu
theorem own6_cap {w : World} {B n : Nat} {A : Option Addr} {m c : Nat} {xs : List Value} (h : w.ownsRow B 74 6 (.slice A m c) n xs) : n ≤ c := by
  rcases h.2 with ⟨e, h0⟩ | ⟨g, cap, cur, e, _, _, h1, _⟩
  · injection e with _ e1 e2; omega
  · injection e with _ e1 e2; omega
theorem own6_form {w : World} {B n : Nat} {v : Value} {xs : List Value} (h : w.ownsRow B 74 6 v n xs) (hn : 0 < n) : ∃ g c, v = .slice (some ⟨g, 0, none⟩) n c := by
  rcases h.2 with ⟨_, h0⟩ | ⟨g, cap, cur, rfl, _⟩
  · omega
  · exact ⟨g, cap, rfl⟩
theorem fresh_own (i : Int) (w : World) : (w.alloc (.cells #[.int .i64 i, .int .u64 0, .int .u64 0, .bool false, .bool false, .int .u64 0] 74)).drew.ownsRow 0 74 6 (.slice (some ⟨w.heap.size, 0, none⟩) 1 1) 1 (RW.fresh i).vals :=
  ⟨rfl, .inr ⟨w.heap.size, 1, #[.int .i64 i, .int .u64 0, .int .u64 0, .bool false, .bool false, .int .u64 0], rfl, Nat.zero_le _, Cells.new w _ _, Nat.le_refl _, by decide, rfl, rfl⟩⟩
/-- the list's new value has been laid -/
theorem place_end {w w4 w5 : World} {B q : Nat} {ρ : RSt} {i : Int} {k : Nat} {v v5 : Value} (h : RDevV w B q ρ v) (hfew : ρ.l.length < 1000000) (hi : 0 ≤ i ∧ i < ρ.n) (hk : k ≤ ρ.l.length) (hp : ρ.place i = { ρ with l := ins i k ρ.l })
    (hgr4 : (w.alloc (.cells #[.int .i64 i, .int .u64 0, .int .u64 0, .bool false, .bool false, .int .u64 0] 74)).drew.grownBy w4 (some w.heap.size)) (hown5 : w5.ownsRow w4.heap.size 74 6 v5 (k + (1 + (ρ.l.length - k))) (rvals (ρ.l.take k) ++ ((RW.fresh i).vals ++ rvals (ρ.l.drop k)))) (hgr5 : w4.grownBy w5 none) :
    RGoes w B q (ρ.place i) (w5.setCell ⟨q, 1, none⟩ v5) := by
  obtain ⟨hB, hg, h1, h2⟩ := h
  have hql := h1.lt
  have s4 := hgr4.size
  have s5 := hgr5.size
  have s0 : (w.alloc (.cells #[.int .i64 i, .int .u64 0, .int .u64 0, .bool false, .bool false, .int .u64 0] 74)).drew.heap.size = w.heap.size + 1 := by simp
  have hb4 : Below w.heap.size w w4 := ((Below.refl w.heap.size w).alloc (Nat.le_refl _) (.cells #[.int .i64 i, .int .u64 0, .int .u64 0, .bool false, .bool false, .int .u64 0] 74)).drew.grown hgr4 (by simp) (fun q hq => by have := Option.some.inj hq; omega)
  have hb5 : Below w.heap.size w w5 := hb4.grown hgr5 hb4.size (fun q hq => by cases hq)
  have h15 := h1.below' hb5
  have hcell : Cells (w5.setCell ⟨q, 1, none⟩ v5) q 42 #[.int .i64 ρ.n, v5, .int .i64 ρ.ar, .bool ρ.dead, .int .i64 ρ.ev] := h15.set 1 v5
  rw [hp]
  refine ⟨⟨hB, ⟨hg.n, ins_ok hi hg.ok, hg.ar, hg.ev, by show (ins i k ρ.l).length ≤ _; rw [ins_len hk]; omega⟩, v5, hcell, ?_⟩, ?_⟩
  · show (w5.setCell ⟨q, 1, none⟩ v5).ownsRow B 74 6 v5 (ins i k ρ.l).length (rvals (ins i k ρ.l))
    have e1 : (ins i k ρ.l).length = k + (1 + (ρ.l.length - k)) := by rw [ins_len hk]; omega
    have e2 : rvals (ins i k ρ.l) = rvals (ρ.l.take k) ++ ((RW.fresh i).vals ++ rvals (ρ.l.drop k)) := by unfold ins; rw [rvals_append, rvals_cons]
    rw [e1, e2]
    refine own_keep (ownsRow_base_a hown5 (Nat.le_trans hB (by omega))) fun g cs hgv hc => Below.heap_setCell w5 _ v5 g (by simp; exact hc.ne h15 (by decide))
  · refine (RTurn.below hb5).trans ?_
    exact RTurn.set h15 (.inl rfl) hB v5
theorem place_ins {ρ : RSt} {i : Int} {k : Nat} (hk : k = belowN i ρ.l) (h : ∀ r, ρ.l[k]? = some r → r.at_ ≠ i) : ρ.place i = { ρ with l := ins i k ρ.l } := by
  subst hk
  unfold RSt.place placeL ins
  cases hr : ρ.l[belowN i ρ.l]? with
  | none => rfl
  | some r => simp only [if_neg (h r hr)]

set_option maxRecDepth 100000 in
set_option maxHeartbeats 2000000 in
theorem place_dev {w : World} {B q : Nat} {ρ : RSt} (h : RDev w B q ρ) (hfew : ρ.l.length < 1000000) (i : Int) (hi : 0 ≤ i ∧ i < ρ.n) :
    Calls Tryz.prog 65 #[.pointer (some ⟨q, 0, none⟩), .int .i64 i] w fun e w' => e = .returned (.int .i64 (belowN i ρ.l)) ∧ RGoes w B q (ρ.place i) w' := by
  obtain ⟨v, hv⟩ := h.v
  have k1 := hv.reads.c1
  have z1 := hv.reads.z 1
  obtain ⟨A, c, rfl⟩ := hv.form
  have HV := Lib.hid hv
  go_enter Tryz.func65, Tryz.ntmps65
  go_wp2
  clear hv
  go_loop [5] (fun kv => ∃ k : Nat, k ≤ ρ.l.length ∧ kv = .int .i64 k ∧ k ≤ belowN i ρ.l) (fun kv => ρ.l.length - (intOf kv).toNat)
  case atStart => exact ⟨0, Nat.zero_le _, rfl, Nat.zero_le _⟩
  case round =>
    obtain ⟨k, hk, rfl, hkb⟩ := hrel
    by_cases hlt : k < ρ.l.length
    · obtain ⟨r, hr⟩ : ∃ r, ρ.l[k]? = some r := ⟨_, List.getElem?_eq_getElem hlt⟩
      obtain ⟨g, rfl, w6, hneq, hgl, hql, a0, a1, ok, rk1⟩ := HV.out.at rfl hr
      have x0 := w6.x0
      have HR := Lib.hid hr
      clear hr w6
      by_cases hat : r.at_ < i
      · have p1 : decide (r.at_ < i) = true := by simpa using hat
        have HAT := Lib.hid hat
        clear hat
        go_wp2
        go_round
        case rel => exact ⟨k + 1, by omega, by go_num, belowN_more hkb HR.out HAT.out⟩
        case measure => simp [intOf]; omega
      · have p1 : decide (r.at_ < i) = false := by simpa using hat
        have hkeq : k = belowN i ρ.l := by
          rcases Nat.lt_or_eq_of_le hkb with h1 | h1
          · exact absurd (belowN_lt h1 HR.out) hat
          · exact h1
        have HK := Lib.hid hkeq
        clear hat hkeq hkb
        by_cases heq : r.at_ = i
        · have p2 : (r.at_ != i) = false := by simpa using heq
          have HEQ := Lib.hid heq
          clear heq
          go_wp2
          go_ret
          refine ⟨by rw [← HK.out]; rfl, ?_, RTurn.refl _ _⟩
          have e : ρ.place i = ρ := by unfold RSt.place placeL; rw [← HK.out, HR.out]; simp only [if_pos HEQ.out]
          rw [e]
          exact h
        · have p2 : (r.at_ != i) = true := by simpa using heq
          have HEQ := Lib.hid heq
          clear heq
          have hcap : ρ.l.length ≤ c := own6_cap HV.out.2.2.2
          have hcells : ∀ w4, (w.alloc (.cells #[.int .i64 i, .int .u64 0, .int .u64 0, .bool false, .bool false, .int .u64 0] 74)).drew.grownBy w4 (some w.heap.size) → ∀ p o, p < w.heap.size → w4.cell? ⟨p, o, none⟩ = w.cell? ⟨p, o, none⟩ := fun w4 h4 p o hp =>
            ((((Below.refl w.heap.size w).alloc (Nat.le_refl _) (.cells #[.int .i64 i, .int .u64 0, .int .u64 0, .bool false, .bool false, .int .u64 0] 74)).drew.grown h4 (by simp) (fun q hq => by have := Option.some.inj hq; omega)).cell (p := ⟨p, o, none⟩) hp)
          have hbel : ∀ w4 w5, (w.alloc (.cells #[.int .i64 i, .int .u64 0, .int .u64 0, .bool false, .bool false, .int .u64 0] 74)).drew.grownBy w4 (some w.heap.size) → w4.grownBy w5 none → Below w.heap.size w w5 := fun w4 w5 h4 h5 => by
            have b4 := ((Below.refl w.heap.size w).alloc (Nat.le_refl _) (.cells #[.int .i64 i, .int .u64 0, .int .u64 0, .bool false, .bool false, .int .u64 0] 74)).drew.grown h4 (by simp) (fun q hq => by have := Option.some.inj hq; omega)
            exact b4.grown h5 b4.size (fun q hq => by cases hq)
          have CQ4 := Lib.hid (fun w4 h4 => (hcells w4 h4 q 1 hql).trans k1)
          have CQ := Lib.hid (fun w4 w5 h4 h5 => ((hbel w4 w5 h4 h5).cell (p := ⟨q, 1, none⟩) hql).trans k1)
          have ZQ := Lib.hid (fun w4 w5 h4 h5 => ((hbel w4 w5 h4 h5).frozen (p := ⟨q, 1, none⟩) hql).trans z1)
          obtain ⟨i0, hi0, hz0, hz1, hz2⟩ := info_parts infoW
          have HI := Lib.hid hi0; have HZ0 := Lib.hid hz0; have HZ1 := Lib.hid hz1; have HZ2 := Lib.hid hz2
          have LEND := Lib.hid (show (rvals (ρ.l.drop k)).length = (ρ.l.length - k) * 6 by rw [rvals_length, List.length_drop])
          have LENT := Lib.hid (show (rvals (ρ.l.take k)).length = k * 6 by rw [rvals_length, List.length_take, Nat.min_eq_left hk])
          have TAKEC := Lib.hid (fun w4 h4 => rvals_take_cells (k := k) HV.out.2.2.2 (fun o => hcells w4 h4 g o hgl))
          have DROPC := Lib.hid (rvals_drop_cells (w' := (w.alloc (.cells #[.int .i64 i, .int .u64 0, .int .u64 0, .bool false, .bool false, .int .u64 0] 74)).drew) (k := k) HV.out.2.2.2 (fun o => ((Below.refl w.heap.size w).alloc (Nat.le_refl _) _).cell (p := ⟨g, o, none⟩) hgl))
          have i1 : (0 : Int) ≤ (k : Int) := by omega
          have i2 : (k : Int) ≤ (ρ.l.length : Int) := by omega
          have i3 : (ρ.l.length : Int) ≤ (c : Int) := by omega
          have i4 : (k : Int) ≤ (c : Int) := by omega
          have i5 : ¬ c = k := by omega
          clear hi0 hz0 hz1 hz2 hbel hcells
          go_wp2
          go_region_law (first
            | ((with_reducible refine step_shape (by rfl) ?_); refine wp_append_at _ (.tmp 56) (.tmp 62) 40 (by rfl) 0 74 (.agg #[.int .i64 0, .int .u64 0, .int .u64 0, .bool false, .bool false, .int .u64 0]) 6 40 Tryz.underlying40 infoW (by rfl) (by decide) (.slice (some ⟨w.heap.size, 0, none⟩) 1 1) 1 (RW.fresh i).vals (by rfl) (fresh_own i w) ⟨g, k * 6, none⟩ (ρ.l.length - k) (c - k) (rvals (ρ.l.drop k)) (by rfl) LEND.out DROPC.out (one6 _) (by unfold maxLen; omega) (by omega) (Nat.zero_le _) ?_; intro v4 w4 hown4 hgr4 hat4; obtain ⟨g4, c4, rfl⟩ := own6_form hown4 (by omega); have rq4 := CQ4.out w4 hgr4)
            | (refine step_append_grows (by rfl) (.tmp 53) (.tmp 63) 40 (by rfl) 74 i0 (.agg #[.int .i64 0, .int .u64 0, .int .u64 0, .bool false, .bool false, .int .u64 0]) 6 40 Tryz.underlying40 HI.out HZ0.out HZ1.out HZ2.out (by rfl) (by decide) (some ⟨g, 0, none⟩) k k (rvals (ρ.l.take k)) (by rfl) (fun h => by cases h) LENT.out (fun b h => by injection h with h; subst h; exact TAKEC.out w4 hgr4) ⟨g4, 0, none⟩ (1 + (ρ.l.length - k)) c4 ((RW.fresh i).vals ++ rvals (ρ.l.drop k)) (by rfl) (hown4.1) (own6_at hown4) (one6 (RW.fresh i :: ρ.l.drop k)) (by omega) (by unfold maxLen; omega) (by omega) ?_; intro v5 w5 hown5 hgr5; obtain ⟨g5, c5, rfl⟩ := own6_form hown5 (by omega); have rq := CQ.out w4 w5 hgr4 hgr5; have zq := ZQ.out w4 w5 hgr4 hgr5))
          all_goals
            have HF := Lib.hid (place_end HV.out hfew hi hk (place_ins HK.out (fun r' hr' => by have := HR.out; rw [this] at hr'; cases hr'; exact HEQ.out)) hgr4 hown5 hgr5)
            have HKK := HK.out
            clear hgr4 hown5 hgr5 hown4 hat4
            go_wp2
            go_ret
            exact ⟨by rw [← HKK]; rfl, HF.out⟩
    · have hkn : k = ρ.l.length := by omega
      have hkeq : k = belowN i ρ.l := by have := belowN_le i ρ.l; omega
      have HK := Lib.hid hkeq
      have t0 : decide (k < ρ.l.length) = false := by simp; omega
      have t1 : ((k : Int) == (ρ.l.length : Int)) = true := by simp; omega
      have hql : q < w.heap.size := HV.out.2.2.1.lt
      have HKN := Lib.hid hkn
      clear hkeq hkb hkn
      cases A with
      | none =>
        have hn0 : ρ.l.length = 0 ∧ c = 0 := by
          rcases HV.out.2.2.2.2 with ⟨e, h0⟩ | ⟨g, cap, cur, e, _⟩
          · injection e with _ _ e2; exact ⟨h0, e2⟩
          · cases e
        obtain ⟨hn0, rfl⟩ := hn0
        have hl0 : ρ.l = [] := List.eq_nil_of_length_eq_zero hn0
        have hk0 : k = 0 := by omega
        subst hk0
        have HL0 := Lib.hid hl0
        have hcells : ∀ w4, (w.alloc (.cells #[.int .i64 i, .int .u64 0, .int .u64 0, .bool false, .bool false, .int .u64 0] 74)).drew.grownBy w4 (some w.heap.size) → ∀ p o, p < w.heap.size → w4.cell? ⟨p, o, none⟩ = w.cell? ⟨p, o, none⟩ := fun w4 h4 p o hp =>
          ((((Below.refl w.heap.size w).alloc (Nat.le_refl _) (.cells #[.int .i64 i, .int .u64 0, .int .u64 0, .bool false, .bool false, .int .u64 0] 74)).drew.grown h4 (by simp) (fun q hq => by have := Option.some.inj hq; omega)).cell (p := ⟨p, o, none⟩) hp)
        have hbel : ∀ w4 w5, (w.alloc (.cells #[.int .i64 i, .int .u64 0, .int .u64 0, .bool false, .bool false, .int .u64 0] 74)).drew.grownBy w4 (some w.heap.size) → w4.grownBy w5 none → Below w.heap.size w w5 := fun w4 w5 h4 h5 => by
          have b4 := ((Below.refl w.heap.size w).alloc (Nat.le_refl _) (.cells #[.int .i64 i, .int .u64 0, .int .u64 0, .bool false, .bool false, .int .u64 0] 74)).drew.grown h4 (by simp) (fun q hq => by have := Option.some.inj hq; omega)
          exact b4.grown h5 b4.size (fun q hq => by cases hq)
        have CQ4 := Lib.hid (fun w4 h4 => (hcells w4 h4 q 1 hql).trans k1)
        have CQ := Lib.hid (fun w4 w5 h4 h5 => ((hbel w4 w5 h4 h5).cell (p := ⟨q, 1, none⟩) hql).trans k1)
        have ZQ := Lib.hid (fun w4 w5 h4 h5 => ((hbel w4 w5 h4 h5).frozen (p := ⟨q, 1, none⟩) hql).trans z1)
        obtain ⟨i0, hi0, hz0, hz1, hz2⟩ := info_parts infoW
        have HI := Lib.hid hi0; have HZ0 := Lib.hid hz0; have HZ1 := Lib.hid hz1; have HZ2 := Lib.hid hz2
        have LEND := Lib.hid (show (rvals (ρ.l.drop 0)).length = (ρ.l.length - 0) * 6 by rw [rvals_length, List.length_drop])
        have LENT := Lib.hid (show (rvals (ρ.l.take 0)).length = 0 * 6 by rw [rvals_length, List.length_take, Nat.min_eq_left hk])
        have HOLD0 := Lib.hid (show (rvals (ρ.l.take 0)).length = 0 * 6 by simp [rvals])
        rw [hn0] at k1
        clear hi0 hz0 hz1 hz2 hbel hcells hl0 LEND LENT
        go_wp2
        go_region_law (first
          | ((with_reducible refine step_shape (by rfl) ?_); refine wp_append_nil _ (.tmp 56) (.tmp 62) 40 (by rfl) 0 74 (.agg #[.int .i64 0, .int .u64 0, .int .u64 0, .bool false, .bool false, .int .u64 0]) 6 40 Tryz.underlying40 infoW ⟨w.heap.size, 0, none⟩ 1 1 (by rfl) (by omega) (by rfl) ?_)
          | (refine step_append_grows (by rfl) (.tmp 53) (.tmp 63) 40 (by rfl) 74 i0 (.agg #[.int .i64 0, .int .u64 0, .int .u64 0, .bool false, .bool false, .int .u64 0]) 6 40 Tryz.underlying40 HI.out HZ0.out HZ1.out HZ2.out (by rfl) (by decide) none 0 0 [] (by rfl) (fun _ => ⟨rfl, rfl⟩) rfl (fun b h => by cases h) ⟨w.heap.size, 0, none⟩ 1 1 (RW.fresh i).vals (by rfl) rfl (own6_at (fresh_own i w)) (one6 [RW.fresh i]) (by omega) (by decide) (by omega) ?_; intro v5 w5 hown5 hgr5; obtain ⟨g5, c5, rfl⟩ := own6_form hown5 (by omega); have rq := CQ.out _ w5 (World.grownBy.refl _ _) hgr5; have zq := ZQ.out _ w5 (World.grownBy.refl _ _) hgr5))
        all_goals
          have HF := Lib.hid (place_end (k := 0) HV.out hfew hi hk (place_ins HK.out (fun r' hr' => by rw [HL0.out] at hr'; simp at hr')) (World.grownBy.refl _ _) (by rw [HL0.out]; exact hown5) hgr5)
          have HKK := HK.out
          clear hgr5 hown5
          go_wp2
          go_ret
          exact ⟨by rw [← HKK]; rfl, HF.out⟩
      | some ad =>
        obtain ⟨g, rfl⟩ : ∃ g, ad = ⟨g, 0, none⟩ := by
          rcases HV.out.2.2.2.2 with ⟨e, h0⟩ | ⟨g, cap, cur, e, _⟩
          · cases e
          · injection e with e; injection e with e; exact ⟨g, e⟩
        have hgl : g < w.heap.size := by
          rcases HV.out.2.2.2.2 with ⟨e, h0⟩ | ⟨g, cap, cur, e, _, hh, _⟩
          · cases e
          · injection e with e; injection e with e; injection e with e; subst e; exact lt_of_block hh
        have hcap : ρ.l.length ≤ c := own6_cap HV.out.2.2.2
        have hcells : ∀ w4, (w.alloc (.cells #[.int .i64 i, .int .u64 0, .int .u64 0, .bool false, .bool false, .int .u64 0] 74)).drew.grownBy w4 (some w.heap.size) → ∀ p o, p < w.heap.size → w4.cell? ⟨p, o, none⟩ = w.cell? ⟨p, o, none⟩ := fun w4 h4 p o hp =>
          ((((Below.refl w.heap.size w).alloc (Nat.le_refl _) (.cells #[.int .i64 i, .int .u64 0, .int .u64 0, .bool false, .bool false, .int .u64 0] 74)).drew.grown h4 (by simp) (fun q hq => by have := Option.some.inj hq; omega)).cell (p := ⟨p, o, none⟩) hp)
        have hbel : ∀ w4 w5, (w.alloc (.cells #[.int .i64 i, .int .u64 0, .int .u64 0, .bool false, .bool false, .int .u64 0] 74)).drew.grownBy w4 (some w.heap.size) → w4.grownBy w5 none → Below w.heap.size w w5 := fun w4 w5 h4 h5 => by
          have b4 := ((Below.refl w.heap.size w).alloc (Nat.le_refl _) (.cells #[.int .i64 i, .int .u64 0, .int .u64 0, .bool false, .bool false, .int .u64 0] 74)).drew.grown h4 (by simp) (fun q hq => by have := Option.some.inj hq; omega)
          exact b4.grown h5 b4.size (fun q hq => by cases hq)
        have CQ4 := Lib.hid (fun w4 h4 => (hcells w4 h4 q 1 hql).trans k1)
        have CQ := Lib.hid (fun w4 w5 h4 h5 => ((hbel w4 w5 h4 h5).cell (p := ⟨q, 1, none⟩) hql).trans k1)
        have ZQ := Lib.hid (fun w4 w5 h4 h5 => ((hbel w4 w5 h4 h5).frozen (p := ⟨q, 1, none⟩) hql).trans z1)
        obtain ⟨i0, hi0, hz0, hz1, hz2⟩ := info_parts infoW
        have HI := Lib.hid hi0; have HZ0 := Lib.hid hz0; have HZ1 := Lib.hid hz1; have HZ2 := Lib.hid hz2
        have LEND := Lib.hid (show (rvals (ρ.l.drop k)).length = (ρ.l.length - k) * 6 by rw [rvals_length, List.length_drop])
        have LENT := Lib.hid (show (rvals (ρ.l.take k)).length = k * 6 by rw [rvals_length, List.length_take, Nat.min_eq_left hk])
        have TAKEC := Lib.hid (fun w4 h4 => rvals_take_cells (k := k) HV.out.2.2.2 (fun o => hcells w4 h4 g o hgl))
        have hdrop : ρ.l.drop k = [] := List.drop_of_length_le (by rw [HKN.out]; exact Nat.le_refl _)
        have HDR := Lib.hid hdrop
        have i1 : (0 : Int) ≤ (k : Int) := by omega
        have i2 : (k : Int) ≤ (ρ.l.length : Int) := by omega
        have i3 : (ρ.l.length : Int) ≤ (c : Int) := by omega
        have i4 : (k : Int) ≤ (c : Int) := by omega
        clear hi0 hz0 hz1 hz2 hbel hcells hdrop
        by_cases hck : c = k
        · subst hck
          clear hcap i3
          have DROPC := Lib.hid (fun (j : Nat) (u : Value) (h : (rvals (ρ.l.drop c))[j]? = some u) => (by rw [HDR.out] at h; simp [rvals] at h : (w.alloc (.cells #[.int .i64 i, .int .u64 0, .int .u64 0, .bool false, .bool false, .int .u64 0] 74)).drew.cell? ((⟨g, 0, none⟩ : Addr).add j) = some u))
          go_wp2
          go_region_law (first
            | ((with_reducible refine step_shape (by rfl) ?_); refine wp_append_at _ (.tmp 56) (.tmp 62) 40 (by rfl) 0 74 (.agg #[.int .i64 0, .int .u64 0, .int .u64 0, .bool false, .bool false, .int .u64 0]) 6 40 Tryz.underlying40 infoW (by rfl) (by decide) (.slice (some ⟨w.heap.size, 0, none⟩) 1 1) 1 (RW.fresh i).vals (by rfl) (fresh_own i w) ⟨g, 0, none⟩ (ρ.l.length - c) 0 (rvals (ρ.l.drop c)) (by rfl) LEND.out DROPC.out (one6 _) (by unfold maxLen; omega) (by omega) (Nat.zero_le _) ?_; intro v4 w4 hown4 hgr4 hat4; obtain ⟨g4, c4, rfl⟩ := own6_form hown4 (by omega); have rq4 := CQ4.out w4 hgr4)
            | (refine step_append_grows (by rfl) (.tmp 53) (.tmp 63) 40 (by rfl) 74 i0 (.agg #[.int .i64 0, .int .u64 0, .int .u64 0, .bool false, .bool false, .int .u64 0]) 6 40 Tryz.underlying40 HI.out HZ0.out HZ1.out HZ2.out (by rfl) (by decide) (some ⟨g, 0, none⟩) c c (rvals (ρ.l.take c)) (by rfl) (fun h => by cases h) LENT.out (fun b h => by injection h with h; subst h; exact TAKEC.out w4 hgr4) ⟨g4, 0, none⟩ (1 + (ρ.l.length - c)) c4 ((RW.fresh i).vals ++ rvals (ρ.l.drop c)) (by rfl) (hown4.1) (own6_at hown4) (one6 (RW.fresh i :: ρ.l.drop c)) (by omega) (by unfold maxLen; omega) (by omega) ?_; intro v5 w5 hown5 hgr5; obtain ⟨g5, c5, rfl⟩ := own6_form hown5 (by omega); have rq := CQ.out w4 w5 hgr4 hgr5; have zq := ZQ.out w4 w5 hgr4 hgr5))
          all_goals
            have HF := Lib.hid (place_end HV.out hfew hi hk (place_ins HK.out (fun r' hr' => by rw [HKN.out] at hr'; rw [List.getElem?_eq_none (Nat.le_refl _)] at hr'; cases hr')) hgr4 hown5 hgr5)
            have HKK := HK.out
            clear hgr4 hown5 hgr5 hown4 hat4
            go_wp2
            go_ret
            exact ⟨by rw [← HKK]; rfl, HF.out⟩
        · have DROPC := Lib.hid (fun (j : Nat) (u : Value) (h : (rvals (ρ.l.drop k))[j]? = some u) => (by rw [HDR.out] at h; simp [rvals] at h : (w.alloc (.cells #[.int .i64 i, .int .u64 0, .int .u64 0, .bool false, .bool false, .int .u64 0] 74)).drew.cell? ((⟨g, k * 6, none⟩ : Addr).add j) = some u))
          go_wp2
          go_region_law (first
            | ((with_reducible refine step_shape (by rfl) ?_); refine wp_append_at _ (.tmp 56) (.tmp 62) 40 (by rfl) 0 74 (.agg #[.int .i64 0, .int .u64 0, .int .u64 0, .bool false, .bool false, .int .u64 0]) 6 40 Tryz.underlying40 infoW (by rfl) (by decide) (.slice (some ⟨w.heap.size, 0, none⟩) 1 1) 1 (RW.fresh i).vals (by rfl) (fresh_own i w) ⟨g, k * 6, none⟩ (ρ.l.length - k) (c - k) (rvals (ρ.l.drop k)) (by rfl) LEND.out DROPC.out (one6 _) (by unfold maxLen; omega) (by omega) (Nat.zero_le _) ?_; intro v4 w4 hown4 hgr4 hat4; obtain ⟨g4, c4, rfl⟩ := own6_form hown4 (by omega); have rq4 := CQ4.out w4 hgr4)
            | (refine step_append_grows (by rfl) (.tmp 53) (.tmp 63) 40 (by rfl) 74 i0 (.agg #[.int .i64 0, .int .u64 0, .int .u64 0, .bool false, .bool false, .int .u64 0]) 6 40 Tryz.underlying40 HI.out HZ0.out HZ1.out HZ2.out (by rfl) (by decide) (some ⟨g, 0, none⟩) k k (rvals (ρ.l.take k)) (by rfl) (fun h => by cases h) LENT.out (fun b h => by injection h with h; subst h; exact TAKEC.out w4 hgr4) ⟨g4, 0, none⟩ (1 + (ρ.l.length - k)) c4 ((RW.fresh i).vals ++ rvals (ρ.l.drop k)) (by rfl) (hown4.1) (own6_at hown4) (one6 (RW.fresh i :: ρ.l.drop k)) (by omega) (by unfold maxLen; omega) (by omega) ?_; intro v5 w5 hown5 hgr5; obtain ⟨g5, c5, rfl⟩ := own6_form hown5 (by omega); have rq := CQ.out w4 w5 hgr4 hgr5; have zq := ZQ.out w4 w5 hgr4 hgr5))
          all_goals
            have HF := Lib.hid (place_end HV.out hfew hi hk (place_ins HK.out (fun r' hr' => by rw [HKN.out] at hr'; rw [List.getElem?_eq_none (Nat.le_refl _)] at hr'; cases hr')) hgr4 hown5 hgr5)
            have HKK := HK.out
            clear hgr4 hown5 hgr5 hown4 hat4
            go_wp2
            go_ret
            exact ⟨by rw [← HKK]; rfl, HF.out⟩
end Go.Proofs.YtnjikgcigobcdaaGreat
