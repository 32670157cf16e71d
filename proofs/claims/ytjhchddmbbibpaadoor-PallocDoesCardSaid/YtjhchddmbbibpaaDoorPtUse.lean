import Derived.Test.YtjhchddmbbibpaaDoorPtHas
import Derived.Deep.RegionLawGrows
import Derived.Deep.RegionLaw
import Derived.OwnWalk
namespace Go.Proofs.YtjhchddmbbibpaaDoor
open Wd Pa Go.ChangeShapes Go.WideShapes Go.RowKit Go.Sort
set_option linter.unusedVariables false
theorem infoI : (Tryd.prog.info? 3).map (fun i => (i.zero, i.size, i.bytes)) = some (some (.int .i64 0), 1, 8) := by kernel_rfl
theorem ivs_one (l : List Nat) : ∀ u ∈ l.map iv, u.oneCell' = true := by
  intro u hu
  obtain ⟨x, _, rfl⟩ := List.mem_map.1 hu
  rfl
theorem iown_mono {w : World} {base base' : Nat} {e : TypeId} {size n : Nat} {v : Value} {xs : List Value} (h : w.ownsRow base e size v n xs) (hb : base' ≤ base) : w.ownsRow base' e size v n xs := by
  refine ⟨h.1, ?_⟩
  rcases h.2 with h2 | ⟨g, cap, cur, hv, hg, r⟩
  · exact .inl h2
  · exact .inr ⟨g, cap, cur, hv, by omega, r⟩
theorem iown_form {w : World} {base n : Nat} {e : TypeId} {v : Value} {xs : List Value} (h : w.ownsRow base e 1 v n xs) (hn : 0 < n) : ∃ g c, v = .slice (some ⟨g, 0, none⟩) n c ∧ base ≤ g := by
  rcases h.2 with ⟨rfl, h0⟩ | ⟨g, cap, cur, rfl, hb, _⟩
  · omega
  · exact ⟨g, cap, rfl, hb⟩
theorem iown_cells {w : World} {base : Nat} {e : TypeId} {g n c : Nat} {xs : List Value} (h : w.ownsRow base e 1 (.slice (some ⟨g, 0, none⟩) n c) n xs) : ∀ (j : Nat) (u : Value), xs[j]? = some u → w.cell? ((⟨g, 0, none⟩ : Addr).add j) = some u := by
  intro j u hu
  have hj := (List.getElem?_eq_some_iff.1 hu).1
  have e : (⟨g, 0, none⟩ : Addr).add j = ⟨g, j, none⟩ := by unfold Addr.add; split <;> simp_all
  rw [e, h.cellAt j (by have := h.1; omega), hu]
/-- what lies at a row's place, in any world that has its block as it was -/
theorem irow_tail {w w' : World} {q c k : Nat} {cs : Array Value} {l : List Nat} {B : Nat} (hh : Cells w q 3 cs) (hx : ∀ (j x : Nat), l[j]? = some x → cs[j]? = some (iv x)) (hk : k ≤ l.length) (hc : l.length ≤ c) (hb : w'.heap[q]? = w.heap[q]?) (hB : q < B) :
    Row w' B (if c = k then some ⟨q, 0, none⟩ else some ⟨q, k, none⟩) (l.length - k) ((l.drop k).map iv) := by
  refine ⟨by rw [List.length_map, List.length_drop], fun hp => ?_⟩
  rw [if_neg (by omega)]
  refine ⟨q, k, rfl, hB, fun j hj => ?_⟩
  have hj2 : k + j < l.length := by rw [List.length_map, List.length_drop] at hj; omega
  have h2 : Cells w' q 3 cs := hb.trans hh
  rw [h2.cell, hx (k + j) l[k + j] (List.getElem?_eq_getElem hj2)]
  simp
theorem irow_head {w w' : World} {q k : Nat} {cs : Array Value} {l : List Nat} (hh : Cells w q 3 cs) (hx : ∀ (j x : Nat), l[j]? = some x → cs[j]? = some (iv x)) (hb : w'.heap[q]? = w.heap[q]?) :
    ∀ (j : Nat) (u : Value), ((l.take k).map iv)[j]? = some u → w'.cell? ((⟨q, 0, none⟩ : Addr).add j) = some u := by
  intro j u hu
  have e : (⟨q, 0, none⟩ : Addr).add j = ⟨q, j, none⟩ := by unfold Addr.add; split <;> simp_all
  have h2 : Cells w' q 3 cs := hb.trans hh
  rw [List.getElem?_map, Option.map_eq_some_iff] at hu
  obtain ⟨x, hx1, rfl⟩ := hu
  rw [List.getElem?_take] at hx1
  split at hx1
  · rw [e, h2.cell, hx j x hx1]
  · cases hx1
section
variable {w w' w4 w5 : World} {B g n : Nat} {l : List Nat} {v v5 : Value}
theorem laid_below {i : Nat} (h4 : (w.alloc (.cells #[.int .i64 i] 3)).drew.grownBy w4 (some w.heap.size)) : Below w.heap.size w w4 :=
  ((Below.refl w.heap.size w).alloc (Nat.le_refl _) (.cells #[.int .i64 i] 3)).drew.grown h4 (by simp) (fun q hq => by have := Option.some.inj hq; omega)
theorem laid_below5 {i : Nat} (h4 : (w.alloc (.cells #[.int .i64 i] 3)).drew.grownBy w4 (some w.heap.size)) (h5 : w4.grownBy w5 none) : Below w.heap.size w w5 :=
  (laid_below h4).grown h5 (laid_below h4).size (fun q hq => by cases hq)
/-- the list's new value has been laid -/
theorem use_end {i k : Nat} (h : TkV w B g n l v) (hk : k ≤ l.length) (hgr4 : (w.alloc (.cells #[.int .i64 i] 3)).drew.grownBy w4 (some w.heap.size)) (hown5 : w5.ownsRow w4.heap.size 3 1 v5 (k + (1 + (l.length - k))) ((l.take k).map iv ++ ([.int .i64 (i : Nat)] ++ (l.drop k).map iv))) (hgr5 : w4.grownBy w5 none) :
    TkV (w5.setCell ⟨g, 1, none⟩ v5) B g n (l.take k ++ i :: l.drop k) v5 ∧ w.grownBy (w5.setCell ⟨g, 1, none⟩ v5) (some g) := by
  have hb4 := laid_below hgr4
  have hb5 := laid_below5 hgr4 hgr5
  have hc := h.c.below' hb5
  have hlt := h.c.lt
  refine ⟨⟨hc.set 1 v5, ?_, h.gB⟩, grown_set (grown_of_below hb5 _) 1 v5⟩
  have ho : w5.ownsRow B 3 1 v5 (k + (1 + (l.length - k))) ((l.take k ++ i :: l.drop k).map iv) := by
    rw [List.map_append, List.map_cons]
    exact iown_mono hown5 (by have := hb4.size; have := h.gB; omega)
  have hr := IRow.of_own (by rw [List.length_append, List.length_take, List.length_cons, List.length_drop]; omega) ho
  exact hr.keep fun q cs hq => Below.heap_setCell w5 ⟨g, 1, none⟩ v5 q (fun e => absurd e (hq.ne hc (by decide)))
set_option maxRecDepth 100000 in
set_option maxHeartbeats 400000 in
theorem use_no (h : TkV w B g n l v) (hl : l.length ≤ 1048576) (i : Int) (hi : i < 1 ∨ (n : Int) < i ∨ hasB l i = true) : Calls Tryd.prog 24 #[.pointer (some ⟨g, 0, none⟩), .int .i64 i] w fun e w' => e = .returned (.tuple #[]) ∧ w = w' := by
  have c0 := h.c0
  have KH := Lib.hid (thas_is h hl i)
  clear h
  by_cases h1 : i < 1
  · have t1 : decide (i < 1) = true := decide_eq_true h1
    go_enter Tryd.func24, Tryd.ntmps24
    go_wp2
    exact bodyPost_ret (v := .tuple #[]) (results_none rfl _ _ _) rfl ⟨rfl, rfl⟩
  · have t1 : decide (i < 1) = false := decide_eq_false h1
    by_cases h2 : (n : Int) < i
    · have t2 : decide ((n : Int) < i) = true := decide_eq_true h2
      go_enter Tryd.func24, Tryd.ntmps24
      go_wp2
      exact bodyPost_ret (v := .tuple #[]) (results_none rfl _ _ _) rfl ⟨rfl, rfl⟩
    · have t2 : decide ((n : Int) < i) = false := decide_eq_false h2
      have h3 : hasB l i = true := by rcases hi with h | h | h; exact absurd h h1; exact absurd h h2; exact h
      rw [h3] at KH
      clear h3 hi
      go_enter Tryd.func24, Tryd.ntmps24
      go_wp2_with (go_at_call 15; refine KH.out.mono ?_; rintro e w1 ⟨rfl, rfl⟩)
      exact bodyPost_ret (v := .tuple #[]) (results_none rfl _ _ _) rfl ⟨rfl, rfl⟩
def UseR (B g n : Nat) (l : List Nat) (i : Nat) (w : World) (e : Ending) (w' : World) : Prop := e = .returned (.tuple #[]) ∧ ∃ k v', k ≤ l.length ∧ (∀ t (y : Nat), t < k → l[t]? = some y → y < i) ∧ (∀ y : Nat, l[k]? = some y → i ≤ y) ∧ TkV w' B g n (l.take k ++ i :: l.drop k) v' ∧ w.grownBy w' (some g)
set_option maxRecDepth 100000 in
set_option maxHeartbeats 2000000 in
theorem use_yes (h : TkV w B g n l v) (hl : l.length ≤ 1048576) (i : Nat) (h1 : 1 ≤ i) (h2 : i ≤ n) (hn : hasB l i = false) (hi : i ≤ 1048576) : Calls Tryd.prog 24 #[.pointer (some ⟨g, 0, none⟩), .int .i64 i] w (UseR B g n l i w) := by
  have c0 := h.c0
  have c1 := h.c1
  have fz := h.c.free 1
  have KH := Lib.hid (thas_is h hl i)
  have H := Lib.hid h
  rw [hn] at KH
  have t1 : decide ((i : Int) < 1) = false := decide_eq_false (by omega)
  have t2 : decide ((n : Int) < (i : Int)) = false := decide_eq_false (by omega)
  have t7 : decide (n < i) = false := decide_eq_false (by omega)
  have t8 : ¬ n < i := by omega
  have hgl := h.c.lt
  obtain ⟨i0, hi0, hz0, hz1, hz2⟩ := info_parts infoI
  have HI := Lib.hid hi0; have HZ0 := Lib.hid hz0; have HZ1 := Lib.hid hz1; have HZ2 := Lib.hid hz2
  clear hi0 hz0 hz1 hz2
  rcases h.r with ⟨rfl, hl0⟩ | ⟨q, c, cs, rfl, hc, hm, hB, hh, hx⟩
  · subst hl0
    have i1 : (0 : Int) ≤ ((0 : Nat) : Int) := by omega
    have hq4 : ∀ w4, (w.alloc (.cells #[.int .i64 i] 3)).drew.grownBy w4 (some w.heap.size) → w4.cell? ⟨g, 1, none⟩ = some (.slice none 0 0) := fun w4 hgr4 => ((laid_below hgr4).cell (p := ⟨g, 1, none⟩) hgl).trans c1
    have CQ4 := Lib.hid hq4
    have CQ := Lib.hid (fun w4 w5 (hgr4 : (w.alloc (.cells #[.int .i64 i] 3)).drew.grownBy w4 (some w.heap.size)) (hgr5 : w4.grownBy w5 none) => ((laid_below5 hgr4 hgr5).cell (p := ⟨g, 1, none⟩) hgl).trans c1)
    have ZQ := Lib.hid (fun w4 w5 (hgr4 : (w.alloc (.cells #[.int .i64 i] 3)).drew.grownBy w4 (some w.heap.size)) (hgr5 : w4.grownBy w5 none) => ((laid_below5 hgr4 hgr5).frozen (p := ⟨g, 1, none⟩) hgl).trans fz)
    clear h hn hq4
    go_enter Tryd.func24, Tryd.ntmps24
    go_wp2_with (go_at_call 15; refine KH.out.mono ?_; rintro e w1 ⟨rfl, rfl⟩)
    go_loop [4] (fun kv => kv = .int .i64 0) (fun kv => 0)
    case atStart => rfl
    case round =>
      obtain rfl := hrel
      go_wp2
      go_region_law (first
        | ((with_reducible refine step_shape (by rfl) ?_); refine wp_append_row _ (.tmp 49) (.tmp 55) 22 (by rfl) 0 3 (.int .i64 0) 8 Tryd.underlying22 infoI (by rfl) (.slice (some ⟨w.heap.size, 0, none⟩) 1 1) 1 [.int .i64 i] (by rfl) (World.ownsRow_lit w #[.int .i64 i] 1 (Nat.zero_le _) (by decide) rfl) w.heap.size none 0 0 ([]) (by rfl) Row.nil (by simp) (by unfold maxLen; omega) (by omega) (Nat.zero_le _) ?_; intro v4 w4 hown4 hgr4 hat4; obtain ⟨g4, c4, rfl, hb4⟩ := iown_form hown4 (by omega); have rq4 := CQ4.out w4 hgr4)
        | (refine step_append_grows (by rfl) (.tmp 47) (.tmp 56) 22 (by rfl) 3 i0 (.int .i64 0) 1 8 Tryd.underlying22 HI.out HZ0.out HZ1.out HZ2.out (by rfl) (by decide) none 0 0 ([]) (by rfl) (fun _ => ⟨rfl, rfl⟩) rfl (fun b h => by cases h) ⟨g4, 0, none⟩ (1 + 0) c4 ([.int .i64 i] ++ []) (by rfl) rfl (iown_cells hown4) (ivs_one [i]) (by omega) (by unfold maxLen; omega) (by omega) ?_; intro v5 w5 hown5 hgr5; obtain ⟨g5, c5, rfl, hb5⟩ := iown_form hown5 (by omega); have rq := CQ.out w4 w5 hgr4 hgr5; have zq := ZQ.out w4 w5 hgr4 hgr5))
      all_goals
        have HE := Lib.hid (use_end (k := 0) H.out (Nat.zero_le _) hgr4 hown5 hgr5)
        clear hgr4 hown5 hgr5 hown4 hat4
        go_wp2
        all_goals go_end0
        all_goals exact ⟨rfl, 0, _, Nat.zero_le _, fun t y h => by omega, fun y h => by simp at h, HE.out.1, HE.out.2⟩
  · have HCS := Lib.hid hh; have HX := Lib.hid hx
    clear h hn hx
    go_enter Tryd.func24, Tryd.ntmps24
    go_wp2_with (go_at_call 15; refine KH.out.mono ?_; rintro e w1 ⟨rfl, rfl⟩)
    go_loop [4] (fun kv => ∃ k : Nat, k ≤ l.length ∧ kv = .int .i64 k ∧ (∀ t (y : Nat), t < k → l[t]? = some y → y < i)) (fun kv => l.length - (intOf kv).toNat)
    case atStart => exact ⟨0, Nat.zero_le _, rfl, fun t y h => by omega⟩
    case round =>
      obtain ⟨k, hk, rfl, hlow⟩ := hrel
      have HLOW := Lib.hid hlow
      clear hlow
      by_cases hlt : k < l.length
      · obtain ⟨x, gx⟩ : ∃ x, l[k]? = some x := ⟨_, List.getElem?_eq_getElem hlt⟩
        have cx : w.cell? ⟨q, k, none⟩ = some (.int .i64 x) := by rw [HCS.out.cell, HX.out k x gx]; rfl
        have hlt2 : (k : Int) < (l.length : Int) := Int.ofNat_lt.2 hlt
        have t3 : decide ((k : Int) < (l.length : Int)) = true := decide_eq_true hlt2
        have GX := Lib.hid gx
        clear gx
        by_cases hxi : x < i
        · have t4 : decide ((x : Int) < (i : Int)) = true := decide_eq_true (by omega)
          have HXI := Lib.hid hxi
          clear hxi
          go_wp2
          go_round
          case rel =>
            refine ⟨k + 1, by omega, by go_num, fun t y ht hy => ?_⟩
            by_cases e : t = k
            · subst e
              rw [GX.out] at hy
              cases hy
              exact HXI.out
            · exact HLOW.out t y (by omega) hy
          case measure => simp [intOf]; omega
        · have t4 : decide ((x : Int) < (i : Int)) = false := decide_eq_false (by omega)
          have t5 : decide (x < i) = false := decide_eq_false hxi
          have t6 : ¬ (x : Int) < (i : Int) := by omega
          have HGE := Lib.hid (show ∀ y : Nat, l[k]? = some y → i ≤ y from fun y hy => by rw [GX.out] at hy; cases hy; omega)
          have ROWS := Lib.hid (irow_tail (w' := (w.alloc (.cells #[.int .i64 i] 3)).drew) (B := w.heap.size) HCS.out HX.out hk hc (((Below.refl w.heap.size w).alloc (Nat.le_refl _) _).block q HCS.out.lt) HCS.out.lt)
          have HOLDS := Lib.hid (fun w4 (hgr4 : (w.alloc (.cells #[.int .i64 i] 3)).drew.grownBy w4 (some w.heap.size)) => irow_head (k := k) HCS.out HX.out ((laid_below hgr4).block q HCS.out.lt))
          have LENT := Lib.hid (show ((l.take k).map iv).length = k * 1 by rw [List.length_map, List.length_take, Nat.mul_one]; omega)
          have CQ4 := Lib.hid (fun w4 (hgr4 : (w.alloc (.cells #[.int .i64 i] 3)).drew.grownBy w4 (some w.heap.size)) => ((laid_below hgr4).cell (p := ⟨g, 1, none⟩) hgl).trans c1)
          have CQ := Lib.hid (fun w4 w5 (hgr4 : (w.alloc (.cells #[.int .i64 i] 3)).drew.grownBy w4 (some w.heap.size)) (hgr5 : w4.grownBy w5 none) => ((laid_below5 hgr4 hgr5).cell (p := ⟨g, 1, none⟩) hgl).trans c1)
          have ZQ := Lib.hid (fun w4 w5 (hgr4 : (w.alloc (.cells #[.int .i64 i] 3)).drew.grownBy w4 (some w.heap.size)) (hgr5 : w4.grownBy w5 none) => ((laid_below5 hgr4 hgr5).frozen (p := ⟨g, 1, none⟩) hgl).trans fz)
          have i1 : (0 : Int) ≤ (k : Int) := by omega
          have i2 : (k : Int) ≤ (l.length : Int) := by omega
          have i3 : (l.length : Int) ≤ (c : Int) := by omega
          have i4 : (k : Int) ≤ (c : Int) := by omega
          have hm2 : c ≤ 9223372036854775807 := by unfold maxLen at hm; omega
          go_wp2
          go_region_law (first
            | ((with_reducible refine step_shape (by rfl) ?_); refine wp_append_row _ (.tmp 49) (.tmp 55) 22 (by rfl) 0 3 (.int .i64 0) 8 Tryd.underlying22 infoI (by rfl) (.slice (some ⟨w.heap.size, 0, none⟩) 1 1) 1 [.int .i64 i] (by rfl) (World.ownsRow_lit w #[.int .i64 i] 1 (Nat.zero_le _) (by decide) rfl) w.heap.size (if c = k then some ⟨q, 0, none⟩ else some ⟨q, k, none⟩) (l.length - k) (c - k) ((l.drop k).map iv) (by rfl) ROWS.out (ivs_one _) (by unfold maxLen; omega) (by omega) (Nat.zero_le _) ?_; intro v4 w4 hown4 hgr4 hat4; obtain ⟨g4, c4, rfl, hb4⟩ := iown_form hown4 (by omega); have rq4 := CQ4.out w4 hgr4)
            | (refine step_append_grows (by rfl) (.tmp 47) (.tmp 56) 22 (by rfl) 3 i0 (.int .i64 0) 1 8 Tryd.underlying22 HI.out HZ0.out HZ1.out HZ2.out (by rfl) (by decide) (some ⟨q, 0, none⟩) k k ((l.take k).map iv) (by rfl) (fun h => by cases h) LENT.out (fun b h => by injection h with h; subst h; exact HOLDS.out w4 hgr4) ⟨g4, 0, none⟩ (1 + (l.length - k)) c4 ([.int .i64 i] ++ (l.drop k).map iv) (by rfl) (hown4.1) (iown_cells hown4) (ivs_one (i :: l.drop k)) (by omega) (by unfold maxLen; omega) (by omega) ?_; intro v5 w5 hown5 hgr5; obtain ⟨g5, c5, rfl, hb5⟩ := iown_form hown5 (by omega); have rq := CQ.out w4 w5 hgr4 hgr5; have zq := ZQ.out w4 w5 hgr4 hgr5))
          all_goals
            have HE := Lib.hid (use_end H.out hk hgr4 hown5 hgr5)
            clear hgr4 hown5 hgr5 hown4 hat4
            go_wp2
            all_goals go_end0
            all_goals exact ⟨rfl, k, _, hk, HLOW.out, HGE.out, HE.out.1, HE.out.2⟩
      · have t3 : decide ((k : Int) < (l.length : Int)) = false := decide_eq_false (by omega)
        have HGE := Lib.hid (show ∀ y : Nat, l[k]? = some y → i ≤ y from fun y hy => by rw [List.getElem?_eq_none (by omega)] at hy; cases hy)
        have ROWS := Lib.hid (irow_tail (w' := (w.alloc (.cells #[.int .i64 i] 3)).drew) (B := w.heap.size) HCS.out HX.out hk hc (((Below.refl w.heap.size w).alloc (Nat.le_refl _) _).block q HCS.out.lt) HCS.out.lt)
        have HOLDS := Lib.hid (fun w4 (hgr4 : (w.alloc (.cells #[.int .i64 i] 3)).drew.grownBy w4 (some w.heap.size)) => irow_head (k := k) HCS.out HX.out ((laid_below hgr4).block q HCS.out.lt))
        have LENT := Lib.hid (show ((l.take k).map iv).length = k * 1 by rw [List.length_map, List.length_take, Nat.mul_one]; omega)
        have CQ4 := Lib.hid (fun w4 (hgr4 : (w.alloc (.cells #[.int .i64 i] 3)).drew.grownBy w4 (some w.heap.size)) => ((laid_below hgr4).cell (p := ⟨g, 1, none⟩) hgl).trans c1)
        have CQ := Lib.hid (fun w4 w5 (hgr4 : (w.alloc (.cells #[.int .i64 i] 3)).drew.grownBy w4 (some w.heap.size)) (hgr5 : w4.grownBy w5 none) => ((laid_below5 hgr4 hgr5).cell (p := ⟨g, 1, none⟩) hgl).trans c1)
        have ZQ := Lib.hid (fun w4 w5 (hgr4 : (w.alloc (.cells #[.int .i64 i] 3)).drew.grownBy w4 (some w.heap.size)) (hgr5 : w4.grownBy w5 none) => ((laid_below5 hgr4 hgr5).frozen (p := ⟨g, 1, none⟩) hgl).trans fz)
        have i1 : (0 : Int) ≤ (k : Int) := by omega
        have i2 : (k : Int) ≤ (l.length : Int) := by omega
        have i3 : (l.length : Int) ≤ (c : Int) := by omega
        have i4 : (k : Int) ≤ (c : Int) := by omega
        have hm2 : c ≤ 9223372036854775807 := by unfold maxLen at hm; omega
        go_wp2
        go_region_law (first
          | ((with_reducible refine step_shape (by rfl) ?_); refine wp_append_row _ (.tmp 49) (.tmp 55) 22 (by rfl) 0 3 (.int .i64 0) 8 Tryd.underlying22 infoI (by rfl) (.slice (some ⟨w.heap.size, 0, none⟩) 1 1) 1 [.int .i64 i] (by rfl) (World.ownsRow_lit w #[.int .i64 i] 1 (Nat.zero_le _) (by decide) rfl) w.heap.size (if c = k then some ⟨q, 0, none⟩ else some ⟨q, k, none⟩) (l.length - k) (c - k) ((l.drop k).map iv) (by rfl) ROWS.out (ivs_one _) (by unfold maxLen; omega) (by omega) (Nat.zero_le _) ?_; intro v4 w4 hown4 hgr4 hat4; obtain ⟨g4, c4, rfl, hb4⟩ := iown_form hown4 (by omega); have rq4 := CQ4.out w4 hgr4)
          | (refine step_append_grows (by rfl) (.tmp 47) (.tmp 56) 22 (by rfl) 3 i0 (.int .i64 0) 1 8 Tryd.underlying22 HI.out HZ0.out HZ1.out HZ2.out (by rfl) (by decide) (some ⟨q, 0, none⟩) k k ((l.take k).map iv) (by rfl) (fun h => by cases h) LENT.out (fun b h => by injection h with h; subst h; exact HOLDS.out w4 hgr4) ⟨g4, 0, none⟩ (1 + (l.length - k)) c4 ([.int .i64 i] ++ (l.drop k).map iv) (by rfl) (hown4.1) (iown_cells hown4) (ivs_one (i :: l.drop k)) (by omega) (by unfold maxLen; omega) (by omega) ?_; intro v5 w5 hown5 hgr5; obtain ⟨g5, c5, rfl, hb5⟩ := iown_form hown5 (by omega); have rq := CQ.out w4 w5 hgr4 hgr5; have zq := ZQ.out w4 w5 hgr4 hgr5))
        all_goals
          have HE := Lib.hid (use_end H.out hk hgr4 hown5 hgr5)
          clear hgr4 hown5 hgr5 hown4 hat4
          go_wp2
          all_goals go_end0
          all_goals exact ⟨rfl, k, _, hk, HLOW.out, HGE.out, HE.out.1, HE.out.2⟩
end
end Go.Proofs.YtjhchddmbbibpaaDoor
