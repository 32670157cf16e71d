import Derived.Maps.OwnOps
import Derived.Maps.OwnSet
import Derived.Maps.RangeWalk
import Derived.Test.YtnjikgcigobcdaaWd
/-! A map from int to uint64 as a function: what its block holds, and what each operation makes of it. -/
namespace Pm
open Go Go.RowKit Go.Maps

abbrev KI (x : Int) : Lit := .int .i64 x
abbrev VU (c : Int) : DataW Unit := .lit (.int .u64 c)
abbrev IFn := Int → Option Int

theorem key_lit (x : Int) : WideAt.IsKeyLit (KI x) := trivial
/-- the datum reads as the function -/
def Views (D : DataW Unit) (F : IFn) : Prop := ∀ x, Maps.has D (KI x) = (F x).isSome ∧ ∀ c, F x = some c → ∀ z, D.atKey (KI x) z = VU c

theorem views_empty : Views (.map []) (fun _ => none) := fun x => ⟨rfl, fun c h => by cases h⟩
theorem Views.put {D : DataW Unit} {F : IFn} (h : Views D F) (hm : IsMap D) (x c : Int) : Views (D.put (KI x) (VU c)) (fun y => if y = x then some c else F y) := by
  intro y
  by_cases e : y = x
  · subst e
    simp only [if_true]
    exact ⟨by rw [has_put_same hm (key_lit y)]; rfl, fun c' hc z => by rw [atKey_put_same hm (key_lit y)]; cases hc; rfl⟩
  · simp only [if_neg e]
    have hne : KI y ≠ KI x := fun h => e (by injection h)
    exact ⟨by rw [has_put_other hne]; exact (h y).1, fun c' hc z => by rw [atKey_put_other hne]; exact (h y).2 c' hc z⟩
theorem Views.del {D : DataW Unit} {F : IFn} (h : Views D F) (x : Int) : Views (D.del (KI x)) (fun y => if y = x then none else F y) := by
  intro y
  by_cases e : y = x
  · subst e
    simp only [if_true]
    exact ⟨by rw [has_del_same]; rfl, fun c' hc z => by cases hc⟩
  · simp only [if_neg e]
    have hne : KI y ≠ KI x := fun h => e (by injection h)
    exact ⟨by rw [has_del_other hne]; exact (h y).1, fun c' hc z => by rw [atKey_del_other hne]; exact (h y).2 c' hc z⟩

/-- block b is a map from int to uint64, of at most n entries, that holds what F says -/
def Mp (P : Program) (k e : TypeId) (w : World) (b n : Nat) (F : IFn) : Prop := ∃ D : DataW Unit, w.ownsMap P k (plainElem P e) b n D ∧ Views D F

section
variable {P : Program} {k e t : TypeId} {w w' : World} {b n : Nat} {F : IFn}
theorem Mp.lt (h : Mp P k e w b n F) : b < w.heap.size := let ⟨_, h, _⟩ := h; h.lt
theorem Mp.kept {row : Option Nat} (h : Mp P k e w b n F) (hg : w.grownBy w' row) (hne : some b ≠ row) : Mp P k e w' b n F := let ⟨D, h, v⟩ := h; ⟨D, h.kept hg hne, v⟩
theorem Mp.same (h : Mp P k e w b n F) (hb : w'.heap[b]? = w.heap[b]?) : Mp P k e w' b n F := by
  obtain ⟨D, ⟨es, clock, h1, F1, h2, h3⟩, v⟩ := h
  exact ⟨D, ⟨es, clock, hb.trans h1, F1, h2, h3⟩, v⟩
theorem Mp.mono (h : Mp P k e w b n F) {m : Nat} (hn : n ≤ m) : Mp P k e w b m F := let ⟨D, h, v⟩ := h; ⟨D, h.mono hn, v⟩
theorem Mp.congr {G : IFn} (h : Mp P k e w b n F) (hg : ∀ x, F x = G x) : Mp P k e w b n G := by rw [← (funext hg : F = G)]; exact h
theorem Mp.made (w : World) (P : Program) (k e : TypeId) : Mp P k e (w.alloc (.map #[] 0)) w.heap.size 0 (fun _ => none) := ⟨_, World.ownsMap_made w P k _, views_empty⟩
theorem Mp.cells {c : Array Value} {T : TypeId} {g : Nat} (h : Mp P k e w b n F) (hc : Wd.Cells w g T c) : b ≠ g := by
  rintro rfl
  obtain ⟨D, ⟨es, clock, h1, _⟩, _⟩ := h
  unfold Wd.Cells at hc
  rw [hc] at h1
  cases h1

/-- what a lookup reads -/
theorem Views.at {D : DataW Unit} {F : IFn} (v : Views D F) (x : Int) : D.atKey (KI x) (VU 0) = VU ((F x).getD 0) := by
  cases hx : F x with
  | none => exact atKey_of_not_has (by rw [(v x).1, hx]; rfl) _
  | some c => exact (v x).2 c hx _

theorem Mp.look (h : Mp P k e w b n F) (K : Keyed P k) (ht : P.underlying t = some (.map k e)) (he : P.underlying e = some (.int .u64)) (hk : P.underlying k = some (.int .i64)) (hz : (zeroValue e).run P w = .ok (.int .u64 0) w) (x : Int) (hx : (Lit.int .i64 x).wf = true) :
    (Instr.lookup t (.map (some b)) (.int .i64 x) false).run P w = .ok (.int .u64 ((F x).getD 0)) w := by
  obtain ⟨D, h, v⟩ := h
  obtain ⟨c, h1, h2, _⟩ := h.lookup_int K ht he hz (keyOf_int_mk hk hx)
  rw [v.at x] at h2
  injection h2 with h2
  injection h2 with _ h2
  rw [h1, h2]

theorem Mp.look_ok (h : Mp P k e w b n F) (K : Keyed P k) (ht : P.underlying t = some (.map k e)) (he : P.underlying e = some (.int .u64)) (hk : P.underlying k = some (.int .i64)) (hz : (zeroValue e).run P w = .ok (.int .u64 0) w) (x : Int) (hx : (Lit.int .i64 x).wf = true) :
    (Instr.lookup t (.map (some b)) (.int .i64 x) true).run P w = .ok (.tuple #[.int .u64 ((F x).getD 0), .bool (F x).isSome]) w := by
  obtain ⟨D, h, v⟩ := h
  obtain ⟨c, ps, h1, h2⟩ := h.look_ok K ht hz (plainElem_int (H := Unit) he (by decide)) (keyOf_int_mk hk hx)
  obtain ⟨a, rfl, h3, _⟩ := plainElem_int_inv he h2
  rw [Prod.mk.injEq] at h3
  have h4 := h3.1
  rw [v.at x] at h4
  injection h4 with h4
  injection h4 with _ h4
  rw [h1, (v x).1, h4]

theorem Mp.store (h : Mp P k e w b n F) (K : Keyed P k) (ht : P.underlying t = some (.map k e)) (he : P.underlying e = some (.int .u64)) (hk : P.underlying k = some (.int .i64)) (hn : n < maxLen) (x c : Int) (hx : (Lit.int .i64 x).wf = true) (hc : (Lit.int .u64 c).wf = true) :
    ∃ w', (Instr.mapUpdate t (.map (some b)) (.int .i64 x) (.int .u64 c)).run P w = .ok () w' ∧ Mp P k e w' b (n + 1) (fun y => if y = x then some c else F y) ∧ w.mapTurned w' b := by
  obtain ⟨D, h, v⟩ := h
  obtain ⟨w', h1, h2, h3⟩ := h.store K ht hn (keyOf_int_mk hk hx) (plainElem_int (H := Unit) he hc)
  exact ⟨w', h1, ⟨_, h2, v.put h.isMap x c⟩, h3⟩

theorem Mp.drop (h : Mp P k e w b n F) (K : Keyed P k) (ht : P.underlying t = some (.map k e)) (hk : P.underlying k = some (.int .i64)) (x : Int) (hx : (Lit.int .i64 x).wf = true) (ty : TypeId) :
    ∃ w', (Builtin.delete_ #[t, k] ty #[.map (some b), .int .i64 x]).run P w = .ok (.tuple #[]) w' ∧ Mp P k e w' b n (fun y => if y = x then none else F y) ∧ w.mapTurned w' b := by
  obtain ⟨D, h, v⟩ := h
  obtain ⟨w', h1, h2, h3⟩ := h.drop K ht (keyOf_int_mk hk hx) ty
  exact ⟨w', h1, ⟨_, h2, v.del x⟩, h3⟩
end

/-! at the operations -/
section
variable {P : Program} (w : World) {ops : Array Oper} {rest : List Oper} {o : Oper} {a : Act} {Q : Exit → Act → World → Prop} {k e : TypeId} {b n : Nat} {F : IFn}
theorem wp_look (hg : o.guard = none) (m x : Operand) (t : TypeId) (hop : o.op = Op.lookup t m x false) (K : Keyed P k) (ht : P.underlying t = some (.map k e)) (he : P.underlying e = some (.int .u64)) (hk : P.underlying k = some (.int .i64)) (hz : (zeroValue e).run P w = .ok (.int .u64 0) w)
    (hm : a.eval m = .map (some b)) (hown : Mp P k e w b n F) (i : Int) (hx : a.eval x = .int .i64 i) (hw : (Lit.int .i64 i).wf = true)
    (hK : wpList P ops Q rest (a.put o.dst (.int .u64 ((F i).getD 0))) w) : wpList P ops Q (o :: rest) a w := by
  refine wpList_plain hg fun K' hK' => ?_
  have hrun := hown.look (t := t) K ht he hk hz i hw
  unfold Oper.wp
  simp [execOp, hop, hm, hx, hrun, Result.andThen]
  exact hK' _ _ hK
theorem wp_look_ok (hg : o.guard = none) (m x : Operand) (t : TypeId) (hop : o.op = Op.lookup t m x true) (K : Keyed P k) (ht : P.underlying t = some (.map k e)) (he : P.underlying e = some (.int .u64)) (hk : P.underlying k = some (.int .i64)) (hz : (zeroValue e).run P w = .ok (.int .u64 0) w)
    (hm : a.eval m = .map (some b)) (hown : Mp P k e w b n F) (i : Int) (hx : a.eval x = .int .i64 i) (hw : (Lit.int .i64 i).wf = true)
    (hK : wpList P ops Q rest (a.put o.dst (.tuple #[.int .u64 ((F i).getD 0), .bool (F i).isSome])) w) : wpList P ops Q (o :: rest) a w := by
  refine wpList_plain hg fun K' hK' => ?_
  have hrun := hown.look_ok (t := t) K ht he hk hz i hw
  unfold Oper.wp
  simp [execOp, hop, hm, hx, hrun, Result.andThen]
  exact hK' _ _ hK
theorem wp_store (hg : o.guard = none) (m x v : Operand) (t : TypeId) (hop : o.op = Op.mapUpdate t m x v) (K : Keyed P k) (ht : P.underlying t = some (.map k e)) (he : P.underlying e = some (.int .u64)) (hk : P.underlying k = some (.int .i64))
    (hm : a.eval m = .map (some b)) (hown : Mp P k e w b n F) (hn : n < maxLen) (i c : Int) (hx : a.eval x = .int .i64 i) (hv : a.eval v = .int .u64 c) (hw : (Lit.int .i64 i).wf = true) (hc : (Lit.int .u64 c).wf = true)
    (hK : ∀ w', Mp P k e w' b (n + 1) (fun y => if y = i then some c else F y) → w.mapTurned w' b → wpList P ops Q rest (a.put o.dst undef) w') : wpList P ops Q (o :: rest) a w := by
  refine wpList_plain hg fun K' hK' => ?_
  obtain ⟨w', hrun, r1, r2⟩ := hown.store K ht he hk hn i c hw hc
  unfold Oper.wp
  simp [execOp, hop, hm, hx, hv, hrun, Result.andThen]
  exact hK' _ _ (hK w' r1 r2)
theorem wp_drop (hg : o.guard = none) (m x : Operand) (t : TypeId) (hop : o.op = Op.call { callee := Callee.builtin Builtin.delete, args := #[m, x], argTypes := #[t, k] }) (K : Keyed P k) (ht : P.underlying t = some (.map k e)) (hk : P.underlying k = some (.int .i64))
    (hm : a.eval m = .map (some b)) (hown : Mp P k e w b n F) (i : Int) (hx : a.eval x = .int .i64 i) (hw : (Lit.int .i64 i).wf = true)
    (hK : ∀ w', Mp P k e w' b n (fun y => if y = i then none else F y) → w.mapTurned w' b → wpList P ops Q rest (a.put o.dst (.tuple #[])) w') : wpList P ops Q (o :: rest) a w := by
  refine wpList_plain hg fun K' hK' => ?_
  obtain ⟨w', hrun, r1, r2⟩ := hown.drop K ht hk i hw o.type
  unfold Oper.wp
  simp [execOp, hop, resolve, invoke, builtin, hm, hx, hrun, Result.andThen]
  exact hK' _ _ (hK w' r1 r2)
end

/-! the same, where it is known whether something is there -/
section
variable {P : Program} (w : World) {ops : Array Oper} {rest : List Oper} {o : Oper} {a : Act} {Q : Exit → Act → World → Prop} {k e : TypeId} {b n : Nat} {F : IFn}
theorem wp_look_yes (hg : o.guard = none) (m x : Operand) (t : TypeId) (hop : o.op = Op.lookup t m x true) (K : Keyed P k) (ht : P.underlying t = some (.map k e)) (he : P.underlying e = some (.int .u64)) (hk : P.underlying k = some (.int .i64)) (hz : (zeroValue e).run P w = .ok (.int .u64 0) w)
    (hm : a.eval m = .map (some b)) (hown : Mp P k e w b n F) (i : Int) (hx : a.eval x = .int .i64 i) (hw : (Lit.int .i64 i).wf = true) (c : Int) (hc : F i = some c)
    (hK : wpList P ops Q rest (a.put o.dst (.tuple #[.int .u64 c, .bool true])) w) : wpList P ops Q (o :: rest) a w :=
  wp_look_ok w hg m x t hop K ht he hk hz hm hown i hx hw (by rw [hc]; exact hK)
theorem wp_look_not (hg : o.guard = none) (m x : Operand) (t : TypeId) (hop : o.op = Op.lookup t m x true) (K : Keyed P k) (ht : P.underlying t = some (.map k e)) (he : P.underlying e = some (.int .u64)) (hk : P.underlying k = some (.int .i64)) (hz : (zeroValue e).run P w = .ok (.int .u64 0) w)
    (hm : a.eval m = .map (some b)) (hown : Mp P k e w b n F) (i : Int) (hx : a.eval x = .int .i64 i) (hw : (Lit.int .i64 i).wf = true) (hc : F i = none)
    (hK : wpList P ops Q rest (a.put o.dst (.tuple #[.int .u64 0, .bool false])) w) : wpList P ops Q (o :: rest) a w :=
  wp_look_ok w hg m x t hop K ht he hk hz hm hown i hx hw (by rw [hc]; exact hK)
theorem wp_look_val (hg : o.guard = none) (m x : Operand) (t : TypeId) (hop : o.op = Op.lookup t m x false) (K : Keyed P k) (ht : P.underlying t = some (.map k e)) (he : P.underlying e = some (.int .u64)) (hk : P.underlying k = some (.int .i64)) (hz : (zeroValue e).run P w = .ok (.int .u64 0) w)
    (hm : a.eval m = .map (some b)) (hown : Mp P k e w b n F) (i : Int) (hx : a.eval x = .int .i64 i) (hw : (Lit.int .i64 i).wf = true) (c : Int) (hc : (F i).getD 0 = c)
    (hK : wpList P ops Q rest (a.put o.dst (.int .u64 c)) w) : wpList P ops Q (o :: rest) a w :=
  wp_look w hg m x t hop K ht he hk hz hm hown i hx hw (by rw [hc]; exact hK)
end

/-! ranging -/
/-- one key less -/
def strike (left : Int → Bool) (x : Int) : Int → Bool := fun z => left z && decide (z ≠ x)
/-- a range over the map is under way; left: which keys are still to come -/
def Rg (P : Program) (k e : TypeId) (w : World) (b r n : Nat) (F : IFn) (left : Int → Bool) (cnt : Nat) : Prop := ∃ (D : DataW Unit) (lf : Lit → Bool), w.ranges P k (plainElem P e) b r n D lf cnt ∧ Views D F ∧ ∀ x, left x = lf (KI x)
section
variable {P : Program} {w : World} {ops : Array Oper} {rest : List Oper} {o : Oper} {a : Act} {Q : Exit → Act → World → Prop} {k e : TypeId} {b n r cnt : Nat} {F : IFn} {left : Int → Bool} {w' : World}
theorem Rg.owns (h : Rg P k e w b r n F left cnt) : Mp P k e w b n F := let ⟨D, _, h, v, _⟩ := h; ⟨D, h.owns, v⟩
theorem Rg.left_eq (h : Rg P k e w b r n F left cnt) : w.rangeLeft b r = cnt := let ⟨_, _, h, _, _⟩ := h; h.left_eq
theorem Rg.lt (h : Rg P k e w b r n F left cnt) : r < w.heap.size := let ⟨_, _, h, _, _⟩ := h; h.lt
theorem Rg.kept {row : Option Nat} (h : Rg P k e w b r n F left cnt) (hg : w.grownBy w' row) (hb : some b ≠ row) (hr : some r ≠ row) : Rg P k e w' b r n F left cnt := let ⟨D, lf, h, v, l⟩ := h; ⟨D, lf, h.kept hg hb hr, v, l⟩
theorem Rg.cells {c : Array Value} {T : TypeId} {g : Nat} (h : Rg P k e w b r n F left cnt) (hc : Wd.Cells w g T c) : r ≠ g := by
  rintro rfl
  obtain ⟨D, lf, ⟨es, clock, since, seen, c0, _, _, _, _, h1, _⟩, _⟩ := h
  unfold Wd.Cells at hc
  rw [hc] at h1
  cases h1
theorem Rg.map {b' n' : Nat} {F' : IFn} (h : Rg P k e w b r n F left cnt) (hc : Mp P k e w b' n' F') : r ≠ b' := by
  rintro rfl
  obtain ⟨D, lf, ⟨es, clock, since, seen, c0, _, _, _, _, h1, _⟩, _⟩ := h
  obtain ⟨D', ⟨es', clock', h2, _⟩, _⟩ := hc
  rw [h2] at h1
  cases h1
variable (w) in
theorem wp_range (hg : o.guard = none) (m : Operand) (t : TypeId) (hop : o.op = Op.range t m) (K : Keyed P k) (ht : P.underlying t = some (.map k e))
    (hm : a.eval m = .map (some b)) (hown : Mp P k e w b n F)
    (hK : ∀ w' cnt, Rg P k e w' b w.heap.size n F (fun x => (F x).isSome) cnt → w.grownBy w' none → w'.heap.size = w.heap.size + 1 → wpList P ops Q rest (a.put o.dst (.pointer (some ⟨w.heap.size, 0, none⟩))) w') :
    wpList P ops Q (o :: rest) a w := by
  obtain ⟨D, hown, v⟩ := hown
  exact wpList_range_own w hg m t hop k e K ht _ b n D hm hown fun w' h1 h2 h3 => hK w' _ ⟨D, _, h1, v, fun x => (v x).1.symm⟩ h2 h3
variable (w) in
theorem wp_next (hg : o.guard = none) (it : Operand) (hop : o.op = Op.next it false) (K : Keyed P k) (hk : P.underlying k = some (.int .i64)) (he : P.underlying e = some (.int .u64))
    (hit : a.eval it = .pointer (some ⟨r, 0, none⟩)) (h : Rg P k e w b r n F left cnt)
    (hDone : cnt = 0 → (∀ x, left x = false) → wpList P ops Q rest (a.put o.dst (.tuple #[.bool false])) w)
    (hMore : ∀ (x c : Int) (w' : World) (cnt' : Nat), left x = true → F x = some c → Rg P k e w' b r n F (strike left x) cnt' → cnt' < cnt →
      w.grownBy w' (some r) → w'.heap.size = w.heap.size → (Instr.entry (.pointer (some ⟨r, 0, none⟩))).run P w' = .ok (.tuple #[.int .i64 x, .int .u64 c]) w' → wpList P ops Q rest (a.put o.dst (.tuple #[.bool true, .int .i64 x, .int .u64 c])) w') :
    wpList P ops Q (o :: rest) a w := by
  obtain ⟨D, lf, h, v, l⟩ := h
  refine wpList_next_ranges_ii w hg it hop k e .i64 .u64 K hk he b r n D lf cnt hit h (fun h1 h2 => hDone h1 fun x => (l x).trans (h2 _)) fun x c w' cnt' hx hc hl hat hrg hlt hgr hsz hen => ?_
  have hF : F x = some c := by
    have h1 := Maps.has_true_of_atKey hat
    rw [(v x).1] at h1
    obtain ⟨c', hc'⟩ := Option.isSome_iff_exists.1 h1
    have h2 := (v x).2 c' hc' (VU 0)
    rw [hat] at h2
    injection h2 with h2
    injection h2 with _ h2
    rw [hc', h2]
  refine hMore x c w' cnt' ((l x).trans hl) hF ⟨D, _, hrg, v, fun z => ?_⟩ hlt hgr hsz hen
  show (left z && decide (z ≠ x)) = (lf (KI z) && !(KI z).sameKey (KI x))
  rw [l z]
  by_cases e : z = x
  · subst e; rw [WideAt.sameKey_self (key_lit z)]; simp
  · rw [Maps.sameKey_ne (fun h => e (by injection h))]; simp [e]
end

/-! how many entries there may be: keys from 0 to N -/
theorem pigeon : ∀ (N : Nat) (l : List Int), l.Pairwise (· ≠ ·) → (∀ x ∈ l, 0 ≤ x ∧ x < N) → l.length ≤ N
  | 0, [], _, _ => Nat.le_refl _
  | 0, x :: _, _, h => by have := h x (by simp); omega
  | N + 1, l, hp, h => by
    have h1 := pigeon N (l.filter (· ≠ (N : Int))) (hp.filter _) (fun x hx => by
      have h2 := List.mem_filter.1 hx
      have h3 := h x h2.1
      have h4 : x ≠ N := by simpa using h2.2
      omega)
    have h5 : ∀ (l : List Int), l.Pairwise (· ≠ ·) → l.length ≤ (l.filter (· ≠ (N : Int))).length + 1 := by
      intro l
      induction l with
      | nil => intro _; simp
      | cons x l ih =>
        intro hp
        obtain ⟨hx, hp⟩ := List.pairwise_cons.1 hp
        by_cases e : x = N
        · subst e
          have : l.filter (· ≠ (N : Int)) = l := List.filter_eq_self.2 fun y hy => by have := hx y hy; simp; exact fun h => this h.symm
          rw [List.filter_cons_of_neg (by simp), this]; simp
        · have := ih hp
          rw [List.filter_cons_of_pos (by simpa using e)]; simpa using this
    have := h5 l hp
    omega
theorem Mp.few {P : Program} {k e : TypeId} {w : World} {b n N : Nat} {F : IFn} (h : Mp P k e w b n F) (K : Keyed P k) (hk : P.underlying k = some (.int .i64)) (hF : ∀ x, (F x).isSome = true → 0 ≤ x ∧ x < N) : Mp P k e w b N F := by
  obtain ⟨D, h, v⟩ := h
  have h' := h
  obtain ⟨es, clock, h1, F1, h2, rfl⟩ := h
  have ap := Maps.fit_apart K F1
  have each : ∀ p ∈ es.toList.map (WideElems.rg (H := Unit) P k (plainElem P e)), ∃ x, p.1 = KI x ∧ 0 ≤ x ∧ x < N := by
    intro p hp
    obtain ⟨m, hm, rfl⟩ := List.mem_map.1 hp
    obtain ⟨y, hy⟩ := F1.reads m hm
    obtain ⟨x, _, ex, _⟩ := Maps.keyOf_int_inv hk (WideElems.rd_key hy)
    have e1 : (WideElems.rg (H := Unit) P k (plainElem P e) m).1 = KI x := by rw [WideElems.rg_of hy, ex]
    refine ⟨x, e1, hF x ?_⟩
    rw [← (v x).1]
    exact List.any_eq_true.2 ⟨_, mem_sorted.2 hp, by rw [e1]; exact WideAt.sameKey_self (key_lit x)⟩
  refine ⟨_, ⟨es, clock, h1, F1, ?_, rfl⟩, v⟩
  have hl := pigeon N ((es.toList.map (WideElems.rg (H := Unit) P k (plainElem P e))).map fun p => match p.1 with | .int _ x => x | _ => 0) ?_ ?_
  · simpa using hl
  · rw [List.pairwise_map]
    refine (List.Pairwise.and_mem.1 ap).imp fun {p q} ⟨hp, hq, hne⟩ => ?_
    obtain ⟨x, ex, _⟩ := each p hp
    obtain ⟨y, ey, _⟩ := each q hq
    rw [ex, ey] at hne ⊢
    exact fun h => hne (by rw [show x = y from h])
  · intro x hx
    obtain ⟨p, hp, rfl⟩ := List.mem_map.1 hx
    obtain ⟨y, ey, h1, h2⟩ := each p hp
    rw [ey]
    exact ⟨h1, h2⟩
end Pm
