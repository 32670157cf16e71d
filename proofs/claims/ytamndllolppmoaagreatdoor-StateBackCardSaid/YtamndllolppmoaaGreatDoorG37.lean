import Derived.Test.YtamndllolppmoaaGreatDoorG24
import Derived.Test.YtamndllolppmoaaGreatDoorG16
import Derived.Test.YtamndllolppmoaaGreatDoorG28

/-! A link that is taken away again, and a name that comes back to its place, plainly. -/
namespace Go.Proofs.YtamndllolppmoaaGreatDoor
open Wd Ino
set_option linter.unusedVariables false
theorem mod_mod {l : List Nod} {d : Int} {f g : Nod → Nod} (hf : ∀ n, (f n).ino = n.ino) : modS (modS l d f) d g = modS l d (fun n => g (f n)) := by
  unfold modS
  rw [List.map_map]
  refine List.map_congr_left fun n _ => ?_
  show (if (if n.ino = d then f n else n).ino = d then g (if n.ino = d then f n else n) else (if n.ino = d then f n else n)) = _
  by_cases h : n.ino = d
  · rw [if_pos h, if_pos (by rw [hf]; exact h), if_pos h]
  · rw [if_neg h, if_neg h, if_neg h]
theorem mod_id {l : List Nod} (ha : AscS l) {d : Int} {f : Nod → Nod} (h : ∀ n, atS l d = some n → f n = n) : modS l d f = l := by
  unfold modS
  conv => rhs; rw [← List.map_id l]
  refine List.map_congr_left fun n hn => ?_
  show (if n.ino = d then f n else n) = n
  split
  · rename_i hd
    have := atS_of_mem ha hn
    rw [hd] at this
    exact h n this
  · rfl
theorem ino_put (s : ByteArray) (i : Int) : ∀ n : Nod, (putNm s i n).ino = n.ino := fun _ => rfl
theorem ino_more : ∀ n : Nod, (moreLk n).ino = n.ino := fun _ => rfl
theorem ino_up (u : Int) : ∀ n : Nod, (Go.Proofs.YtamndllolppmoaaGreatDoor.setUp u n).ino = n.ino := fun _ => rfl
theorem ino_cut (s : ByteArray) : ∀ n : Nod, (cutNm s n).ino = n.ino := fun _ => rfl
theorem leave_enter {l : List Nod} (ha : AscS l) {d i : Int} {s : ByteArray} (h : hasN s (namesS l d) = false) : leaveS (enterS l d s i) d s = l := by
  unfold leaveS enterS
  rw [mod_mod (ino_put s i)]
  refine mod_id ha fun n hn => ?_
  have hn' : hasN s n.names = false := by unfold namesS at h; rw [getS_some hn] at h; exact h
  show ({ (putNm s i n) with names := dropN s (putNm s i n).names } : Nod) = n
  have e : (putNm s i n).names = putN s i n.names := by
    show (if hasN s n.names then n.names else putN s i n.names) = _
    rw [hn']; rfl
  rw [e, dropN_putN hn']
  rfl
theorem enter_leave {l : List Nod} (ha : AscS l) {d i : Int} {s : ByteArray} (hr : ∀ n ∈ l, RightN n.names) (h : hasS l d s i = true) : enterS (leaveS l d s) d s i = l := by
  obtain ⟨n0, a, b, c⟩ := has_at h
  unfold leaveS enterS
  rw [mod_mod (ino_cut s)]
  refine mod_id ha fun n hn => ?_
  have : n = n0 := Option.some.inj (hn.symm.trans a)
  subst this
  show ({ (cutNm s n) with names := (if hasN s (dropN s n.names) then dropN s n.names else putN s i (dropN s n.names)) } : Nod) = n
  rw [has_dropN, ← c]
  show ({ (cutNm s n) with names := putN s (inoN s n.names) (dropN s n.names) } : Nod) = n
  rw [putN_dropN (hr n (atS_mem hn)) b]
  rfl
theorem names_mod_ne {l : List Nod} {d j : Int} {f : Nod → Nod} (hf : ∀ n, (f n).ino = n.ino) (h : j ≠ d) : namesS (modS l d f) j = namesS l j := by
  unfold namesS
  rw [get_mod hf, if_neg (fun x => h x.1)]
theorem names_mod_eq {l : List Nod} {d : Int} {f : Nod → Nod} (hf : ∀ n, (f n).ino = n.ino) {n : Nod} (h : atS l d = some n) : namesS (modS l d f) d = (f n).names := by
  unfold namesS
  rw [get_mod hf, if_pos ⟨rfl, by rw [h]; rfl⟩, getS_some h]
theorem names_soft {l : List Nod} {i : Int} {f : Nod → Nod} (hf : ∀ n, (f n).ino = n.ino) (hn : ∀ n, (f n).names = n.names) (j : Int) : namesS (modS l i f) j = namesS l j := by
  unfold namesS
  rw [get_mod hf]
  split
  · exact hn _
  · rfl
/-- a name that was put is there -/
theorem has_enter {l : List Nod} {d i : Int} {s : ByteArray} {n : Nod} (h : atS l d = some n) (hn : hasN s n.names = false) : hasS (enterS l d s i) d s i = true := by
  have e : namesS (enterS l d s i) d = putN s i n.names := by
    unfold enterS
    rw [names_mod_eq (ino_put s i) h]
    show (if hasN s n.names then n.names else putN s i n.names) = _
    rw [hn]; rfl
  have hi : inoN s (putN s i n.names) = i := by
    have h1 : hasN s n.names = false := hn
    clear e h hn
    unfold putN
    generalize hk : n.names.findIdx (foreE s) = k
    have h2 : ∀ x ∈ n.names.take k, nameIs s x = false := fun x hx => has_false.1 h1 x (List.mem_of_mem_take hx)
    generalize n.names.take k = t at h2
    clear hk
    induction t with
    | nil => show (if nameIs s ⟨s, i⟩ then i else _) = i; rw [if_pos ((nameIs_iff (s := s) (e := ⟨s, i⟩)).2 rfl)]
    | cons x t ih =>
      show (if nameIs s x then x.n else inoN s (t ++ _)) = i
      rw [h2 x List.mem_cons_self]
      exact ih fun y hy => h2 y (List.mem_cons_of_mem _ hy)
  unfold hasS
  rw [e, has_putN, hi, decide_eq_true rfl]; rfl
theorem more_less {l : List Nod} (ha : AscS l) (i : Int) : modS (modS l i moreLk) i lessLk = l := by
  rw [mod_mod ino_more]
  refine mod_id ha fun n _ => ?_
  show ({ n with links := n.links + 1 - 1 } : Nod) = n
  rw [Int.add_sub_cancel]
theorem Inv.link_back {S S' : Stt} (h : Inv S) {e e2 : Eff} (hs : linkS S e = some S') (h1 : e2.dir = e.dir) (h2 : e2.name = e.name) (h3 : e2.ino = e.ino) : removeS S' e2 1 = some S := by
  unfold linkS at hs
  split at hs
  case isFalse => cases hs
  rename_i hc
  rw [Bool.and_eq_true, Bool.and_eq_true, decide_eq_true_eq] at hc
  obtain ⟨hf, hk, _⟩ := hc
  obtain rfl := (Option.some.inj hs).symm
  obtain ⟨n0, a0, k0, f0⟩ := free_at hf
  obtain ⟨m, m1, m2, m3⟩ := h.some_kind (i := e.ino) (by rw [hk]; decide)
  have hmk : m.kind = 1 := by rw [← m2]; exact hk
  have hne : e.ino ≠ e.dir := fun x => by
    rw [x, a0] at m1
    have := Option.some.inj m1
    rw [this] at k0
    omega
  have hnm : m.names = [] := (right_file (h.right m (atS_mem m1)) hmk).2.1
  have hi1 : ¬ e.ino = 1 := fun x => by
    obtain ⟨r, r1, r2⟩ := h.root
    rw [x, r1] at m1
    have := Option.some.inj m1
    rw [this] at r2
    omega
  obtain ⟨n1, b1⟩ := some_mod (d := e.ino) (f := moreLk) (fun _ => rfl) a0
  have b1' : n1 = n0 := by
    rw [atS_mod ino_more, a0] at b1
    have := Option.some.inj b1
    dsimp only at this
    rw [if_neg (fun x => hne x.symm)] at this
    exact this.symm
  subst b1'
  have hm : AscS (modS S.l e.ino moreLk) := asc_mod h.asc (fun _ => rfl)
  have hh := has_enter (i := e.ino) b1 f0
  have hnames : hasN e.name (namesS (modS S.l e.ino moreLk) e.dir) = false := by
    rw [names_soft ino_more (fun _ => rfl)]
    unfold namesS
    rw [getS_some a0]
    exact f0
  have hkk : kindS (enterS (modS S.l e.ino moreLk) e.dir e.name e.ino) e.ino = 1 := by
    unfold enterS
    rw [kind_mod (ino_put _ _) (fun _ => rfl), kind_mod ino_more (fun _ => rfl)]
    exact hk
  have hl : looseS (enterS (modS S.l e.ino moreLk) e.dir e.name e.ino) e.ino 1 = true := by
    unfold looseS
    have e1 : namesS (enterS (modS S.l e.ino moreLk) e.dir e.name e.ino) e.ino = [] := by
      unfold enterS
      rw [names_mod_ne (ino_put _ _) hne, names_soft ino_more (fun _ => rfl)]
      unfold namesS
      rw [getS_some m1]
      exact hnm
    rw [hkk, e1, decide_eq_true rfl, decide_eq_true rfl, decide_eq_false hi1]; rfl
  unfold removeS
  rw [h1, h2, h3]
  show (if (hasS (enterS (modS S.l e.ino moreLk) e.dir e.name e.ino) e.dir e.name e.ino && looseS (enterS (modS S.l e.ino moreLk) e.dir e.name e.ino) e.ino 1) = true then _ else none) = _
  rw [hh, hl, if_pos (show (true && true) = true from rfl)]
  unfold forgetS
  dsimp only
  rw [leave_enter hm hnames, if_neg (by rw [kind_mod ino_more (fun _ => rfl), hk]; decide), more_less h.asc]
/-- the way up from a node nearer to the root doesn't come to one that is farther, whatever this one's Up is -/
theorem way_far {l l' : List Nod} {i : Int} {m : Nat} (hi : Rch l m i) (hk : ∀ x, kindS l' x = kindS l x) (hu : ∀ x, x ≠ i → upS l' x = upS l x) : ∀ (N k : Nat) (x : Int), Rch l k x → k < m → wayB l' N x i = false
  | 0, k, x, h, hkm => decide_eq_false fun e => by
    subst e
    have := Rch.uniq h hi
    omega
  | N + 1, k, x, h, hkm => by
    have hx : x ≠ i := fun e => by
      subst e
      have := Rch.uniq h hi
      omega
    show (if x = i then true else if x = 1 ∨ kindS l' x ≠ 2 then false else wayB l' N (upS l' x) i) = false
    rw [if_neg hx]
    split
    · rfl
    · rename_i hc
      rw [hu x hx]
      cases k with
      | zero => exact absurd (.inl h) hc
      | succ k => exact way_far hi hk hu N k _ h.2.2 (by omega)
theorem Inv.move_back {S S' : Stt} (h : Inv S) {e b : Eff} (hs : renameS S e = some S') (hn : hasN e.other (namesS S.l e.dst) = false)
    (h1 : b.dir = e.dst) (h2 : b.name = e.other) (h3 : b.dst = e.dir) (h4 : b.other = e.name) (h5 : b.ino = e.ino) : renameS S' b = some S := by
  unfold renameS at hs
  split at hs
  case isFalse => cases hs
  rename_i hc
  rw [Bool.and_eq_true, Bool.and_eq_true, decide_eq_true_eq] at hc
  obtain ⟨hh, hd, hw⟩ := hc
  rw [if_neg (by rw [hn]; decide)] at hs
  obtain rfl := (Option.some.inj hs).symm
  obtain ⟨hdk, _, hik⟩ := h.has_kind hh
  obtain ⟨n0, a0, b0, c0⟩ := has_at hh
  obtain ⟨nd, d0, d1, _⟩ := h.some_kind (i := e.dst) (by rw [hd]; decide)
  obtain ⟨m, m1, m2, m3⟩ := h.some_kind hik
  -- where nothing has the new name
  have hnL : hasN e.other (namesS (leaveS S.l e.dir e.name) e.dst) = false := by
    cases hx : hasN e.other (namesS (leaveS S.l e.dir e.name) e.dst) with
    | false => rfl
    | true =>
      refine absurd hx ?_
      rw [Bool.not_eq_true]
      unfold leaveS
      by_cases hde : e.dst = e.dir
      · rw [hde] at hn ⊢
        rw [names_mod_eq (ino_cut _) a0]
        rw [has_false]
        intro y hy
        have hn' : hasN e.other n0.names = false := by unfold namesS at hn; rw [getS_some a0] at hn; exact hn
        exact has_false.1 hn' y (mem_dropN hy)
      · rw [names_mod_ne (ino_cut _) hde]; exact hn
  have haL : AscS (leaveS S.l e.dir e.name) := asc_mod h.asc (ino_cut _)
  obtain ⟨nL, aL⟩ := some_mod (d := e.dir) (f := cutNm e.name) (ino_cut _) d0
  have hnL' : hasN e.other nL.names = false := by
    have := hnL
    unfold namesS leaveS at this
    rw [getS_some aL] at this
    exact this
  have hE := has_enter (l := leaveS S.l e.dir e.name) (i := e.ino) aL hnL'
  have hkE : ∀ x, kindS (enterS (leaveS S.l e.dir e.name) e.dst e.other e.ino) x = kindS S.l x := fun x => by
    unfold enterS leaveS
    rw [kind_mod (ino_put _ _) (fun _ => rfl), kind_mod (ino_cut _) (fun _ => rfl)]
  have huE : ∀ x, upS (enterS (leaveS S.l e.dir e.name) e.dst e.other e.ino) x = upS S.l x := fun x => by
    unfold enterS leaveS
    rw [up_mod (ino_put _ _) (fun _ => rfl), up_mod (ino_cut _) (fun _ => rfl)]
  have hkM : ∀ x, kindS (moveS S.l e) x = kindS S.l x := fun x => by
    unfold moveS
    dsimp only
    split
    · rw [kind_mod (ino_up _) (fun _ => rfl), hkE]
    · exact hkE x
  have hnM : ∀ x, namesS (moveS S.l e) x = namesS (enterS (leaveS S.l e.dir e.name) e.dst e.other e.ino) x := fun x => by
    unfold moveS
    dsimp only
    split
    · rw [names_soft (ino_up _) (fun _ => rfl)]
    · rfl
  -- the old name is no more
  have hold : hasN e.name (namesS (moveS S.l e) e.dir) = false := by
    rw [hnM]
    unfold enterS
    by_cases hde : e.dir = e.dst
    · have hne : e.other ≠ e.name := fun x => by
        rw [← hde, x] at hn
        unfold namesS at hn
        rw [getS_some a0, b0] at hn
        cases hn
      have aL' : atS (leaveS S.l e.dst e.name) e.dst = some nL := by have := aL; rw [hde] at this; exact this
      rw [hde, names_mod_eq (ino_put _ _) aL']
      show hasN e.name (if hasN e.other nL.names then nL.names else putN e.other e.ino nL.names) = false
      rw [hnL']
      show hasN e.name (putN e.other e.ino nL.names) = false
      rw [has_false]
      intro y hy
      rcases mem_putN hy with rfl | hy
      · cases hx : nameIs e.name ⟨e.other, e.ino⟩ with
        | false => rfl
        | true => exact absurd (nameIs_iff.1 hx) hne
      · have e1 : nL = cutNm e.name n0 := by
          have := aL
          rw [atS_mod (ino_cut _), ← hde, a0] at this
          have := Option.some.inj this
          dsimp only at this
          rw [if_pos rfl] at this
          exact this.symm
        rw [e1] at hy
        exact has_false.1 (has_dropN e.name n0.names) y hy
    · rw [names_mod_ne (ino_put _ _) hde]
      unfold leaveS
      rw [names_mod_eq (ino_cut _) a0]
      exact has_dropN e.name n0.names
  have hback : enterS (leaveS (enterS (leaveS S.l e.dir e.name) e.dst e.other e.ino) e.dst e.other) e.dir e.name e.ino = S.l := by
    rw [leave_enter haL hnL, enter_leave h.asc h.names hh]
  have hw' : kindS S.l e.ino = 2 → withinS (moveS S.l e) e.dir e.ino = false := fun hk => by
    obtain ⟨x, x1, x2⟩ := h.there n0 (atS_mem a0) ⟨e.name, e.ino⟩ (by
      obtain ⟨y, y1, y2, y3⟩ := has_mem b0
      have : y = ⟨e.name, e.ino⟩ := by
        obtain ⟨ys, yn⟩ := y
        dsimp only at y2 y3
        rw [y2, y3, c0]
      rw [← this]; exact y1)
    have hxm : x = m := Option.some.inj (x1.symm.trans m1)
    subst hxm
    obtain ⟨hi1, hup⟩ := x2 (by rw [← m2]; exact hk)
    dsimp only at hi1
    rw [atS_ino a0] at hup
    obtain ⟨k, hr⟩ := h.reach e.ino hk
    cases k with
    | zero => exact absurd hr hi1
    | succ k =>
      have hr2 := hr.2.2
      have hue : upS S.l e.ino = e.dir := by unfold upS; rw [getS_some m1]; exact hup
      rw [hue] at hr2
      refine way_far hr hkM (fun y hy => ?_) _ k e.dir hr2 (Nat.lt_succ_self k)
      show upS (moveS S.l e) y = _
      unfold moveS
      dsimp only
      rw [if_pos hk]
      unfold upS
      rw [get_mod (f := setUp e.dst) (fun _ => rfl), if_neg (fun z => hy z.1)]
      exact huE y
  unfold renameS
  rw [h1, h2, h3, h4, h5]
  have hhM : hasS (moveS S.l e) e.dst e.other e.ino = true := by
    unfold hasS at hE ⊢
    rw [hnM]
    exact hE
  have hcw : (decide (kindS (moveS S.l e) e.ino = 2) && withinS (moveS S.l e) e.dir e.ino) = false := by
    rw [hkM]
    by_cases hk : kindS S.l e.ino = 2
    · rw [hw' hk, Bool.and_false]
    · rw [decide_eq_false hk, Bool.false_and]
  dsimp only
  rw [hhM, hcw, hkM, hdk, decide_eq_true rfl, if_pos (by decide), hold, if_neg (by decide)]
  congr 1
  have hm : moveS (moveS S.l e) b = S.l := by
    have hkb : kindS (moveS S.l e) b.ino = kindS S.l e.ino := by rw [h5]; exact hkM _
    unfold moveS at hkb ⊢
    dsimp only at hkb ⊢
    rw [hkb, h1, h2, h3, h4, h5]
    by_cases hk : kindS S.l e.ino = 2
    · rw [if_pos hk, if_pos hk]
      have e1 : ∀ X : List Nod, leaveS (modS X e.ino (setUp e.dst)) e.dst e.other = modS (leaveS X e.dst e.other) e.ino (setUp e.dst) := fun X => mod_comm (fun _ => rfl) (fun _ => rfl) (fun _ => rfl)
      have e2 : ∀ X : List Nod, enterS (modS X e.ino (setUp e.dst)) e.dir e.name e.ino = modS (enterS X e.dir e.name e.ino) e.ino (setUp e.dst) := fun X => mod_comm (fun _ => rfl) (fun _ => rfl) (fun _ => rfl)
      rw [e1, e2, hback, mod_mod (ino_up _)]
      refine mod_id h.asc fun x hx => ?_
      have hxm : x = m := Option.some.inj (hx.symm.trans m1)
      subst hxm
      obtain ⟨y, y1, y2⟩ := h.there n0 (atS_mem a0) ⟨e.name, e.ino⟩ (by
        obtain ⟨y, y1, y2, y3⟩ := has_mem b0
        have : y = ⟨e.name, e.ino⟩ := by
          obtain ⟨ys, yn⟩ := y
          dsimp only at y2 y3
          rw [y2, y3, c0]
        rw [← this]; exact y1)
      have hyx : y = x := Option.some.inj (y1.symm.trans m1)
      subst hyx
      obtain ⟨_, hup⟩ := y2 (by rw [← m2]; exact hk)
      rw [atS_ino a0] at hup
      show ({ y with up := e.dir } : Nod) = y
      rw [← hup]
    · rw [if_neg hk, if_neg hk]
      exact hback
  show (⟨moveS (moveS S.l e) b, S.last⟩ : Stt) = S
  rw [hm]
/-! whole effects -/
theorem check_link {e : Eff} (h : ({ e with kind := 2 } : Eff).check = true) : ({ e with kind := 3 } : Eff).check = true := by
  unfold Eff.check Eff.mayBe at h ⊢
  exact h
theorem check_ren {e : Eff} (h : ({ e with kind := 5 } : Eff).check = true) : ({ e with kind := 5, dir := e.dst, name := e.other, dst := e.dir, other := e.name } : Eff).check = true := by
  unfold Eff.check Eff.mayBe Eff.place at h ⊢
  dsimp only at h ⊢
  rw [if_neg (by decide), if_neg (by decide), if_pos rfl] at h ⊢
  simp only [Bool.and_eq_true] at h ⊢
  unfold Eff.noData at h ⊢
  dsimp only at h ⊢
  obtain ⟨⟨⟨⟨⟨⟨⟨h1, h2⟩, h3⟩, h4⟩, h5⟩, h6⟩, h7⟩, h8⟩ := h
  exact ⟨⟨⟨⟨⟨⟨⟨h3, h4⟩, h1⟩, h2⟩, h5⟩, h6⟩, h7⟩, h8⟩
theorem err_ok {S : Stt} {e : Eff} {ref : Int} (h : errS S e ref = 0) : e.check = true ∧ ∃ x, stepS S e ref = some x ∧ nextS S e ref = x.1 := by
  unfold errS at h
  by_cases hc : e.check = true
  · rw [if_pos hc] at h
    cases hx : stepS S e ref with
    | none => rw [hx] at h; exact absurd h (by decide)
    | some x =>
      refine ⟨hc, x, rfl, ?_⟩
      unfold nextS
      rw [if_pos hc, hx]
  · rw [if_neg hc] at h
    exact absurd h (by decide)
theorem err_no {S : Stt} {e : Eff} {ref : Int} (h : errS S e ref ≠ 0) : nextS S e ref = S := by
  unfold errS at h
  unfold nextS
  by_cases hc : e.check = true
  · rw [if_pos hc] at h ⊢
    cases hx : stepS S e ref with
    | none => rfl
    | some x => rw [hx] at h; exact absurd rfl h
  · rw [if_neg hc]
theorem step_ok {S S' : Stt} {e : Eff} {ref : Int} {r : List Int} (hc : e.check = true) (h : stepS S e ref = some (S', r)) : errS S e ref = 0 ∧ nextS S e ref = S' := by
  unfold errS nextS
  rw [if_pos hc, if_pos hc, h]
  exact ⟨rfl, rfl⟩
theorem Inv.link_unlink {S : Stt} (h : Inv S) {e : Eff} (ho : errS S { e with kind := 2 } 0 = 0) : errS (nextS S { e with kind := 2 } 0) { e with kind := 3 } 0 = 0 ∧ nextS (nextS S { e with kind := 2 } 0) { e with kind := 3 } 0 = S := by
  obtain ⟨hc, x, hx, hn⟩ := err_ok ho
  rw [hn]
  have hl : linkS S { e with kind := 2 } = some x.1 := bare_some (by
    have := hx
    unfold stepS at this
    exact this)
  have hb := h.link_back (e2 := { e with kind := 3 }) hl rfl rfl rfl
  refine step_ok (r := []) (check_link hc) ?_
  show bareS (removeS x.1 { e with kind := 3 } 1) = _
  rw [hb]
  rfl
theorem Inv.there_back {S : Stt} (h : Inv S) {e : Eff} (hn : hasN e.other (namesS S.l e.dst) = false) (ho : errS S { e with kind := 5 } 0 = 0) :
    errS (nextS S { e with kind := 5 } 0) { e with kind := 5, dir := e.dst, name := e.other, dst := e.dir, other := e.name } 0 = 0 ∧ nextS (nextS S { e with kind := 5 } 0) { e with kind := 5, dir := e.dst, name := e.other, dst := e.dir, other := e.name } 0 = S := by
  obtain ⟨hc, x, hx, hnx⟩ := err_ok ho
  rw [hnx]
  have hl : renameS S { e with kind := 5 } = some x.1 := bare_some (by
    have := hx
    unfold stepS at this
    exact this)
  have hb := h.move_back (b := { e with kind := 5, dir := e.dst, name := e.other, dst := e.dir, other := e.name }) hl hn rfl rfl rfl rfl rfl
  refine step_ok (r := []) (check_ren hc) ?_
  show bareS (renameS x.1 { e with kind := 5, dir := e.dst, name := e.other, dst := e.dir, other := e.name }) = _
  rw [hb]
  rfl
end Go.Proofs.YtamndllolppmoaaGreatDoor

/-! The law's names: those of a directory of the document's State. -/
namespace Go.Proofs.YtamndllolppmoaaGreatDoor
open Wd Ino Sm Go.RowKit Go.ChangeShapes Go.WideShapes Go.Sort
set_option linter.unusedVariables false
set_option maxRecDepth 100000
def NmGo (l : List Ent) (w : World) (e : Ending) (w' : World) : Prop := ∃ A c, e = .returned (.slice A l.length c) ∧ l.length ≤ c ∧ Ens w' w'.heap.size A l ∧ ∃ q os, w' = grow (w.drewN q) os
section
variable {w : World} {base g : Nat} {Ls : List Nd} {v : Value} {S : Stt}
set_option maxHeartbeats 4000000 in
theorem lNames (h : DSx w base g Ls v S) (hlen : Ls.length ≤ 1000) (i : Int) : Calls Tryz.prog 30 #[SPtr g, .int .i64 i] w (NmGo (namesS S.l i) w) := by
  have KA := Lib.hid (rAt h hlen i)
  have H := Lib.hid h
  cases hi : atS S.l i with
  | none =>
    rw [atI_none hi] at KA
    have hn : namesS S.l i = [] := by unfold namesS getS; rw [hi]; rfl
    rw [hn]
    clear h hi hn
    go_enter Tryz.func30, Tryz.ntmps30
    unfold SPtr at *
    go_wp2_with fail
    refine (KA.out).mono ?_
    rintro e w1 ⟨rfl, hw1⟩
    have HG := Lib.hid hw1
    clear hw1 KA
    go_wp2
    go_ret
    exact ⟨none, 0, rfl, Nat.le_refl _, Ens.nil _ _ _, HG.out⟩
  | some n0 =>
    obtain ⟨n, k, gL, c, h1, h2, h3, rfl, hc, hb, hk, ho, hx⟩ := h.at_ hi
    rw [h3] at KA
    have hn : namesS S.l i = n.names := by unfold namesS; rw [getS_some hi, ← h2]; rfl
    rw [hn]
    have HO := Lib.hid ho
    have H1 := Lib.hid h1
    have hk2 : (k : Int) < (Ls.length : Int) := Int.ofNat_lt.2 hk
    have q1 : decide ((k : Int) ≥ 0) = true := decide_eq_true (by omega)
    have q2 : decide (0 ≤ (k : Int)) = true := decide_eq_true (by omega)
    clear h hi hn h1 h2 h3 hc hb hk ho hx
    go_enter Tryz.func30, Tryz.ntmps30
    unfold SPtr at *
    go_wp2_with fail
    refine (KA.out).mono ?_
    rintro e w1 ⟨rfl, hw1⟩
    have HG := Lib.hid hw1
    have hX := H.out.below (grown_b hw1)
    have c0 := hX.c0
    have x6 := (hX.row_cells H1.out 6 _ rfl).1
    have hen := (HO.out.below (grown_b hw1)).ens
    have HEN := Lib.hid hen
    clear hw1 KA hX hen
    go_wp2
    go_ret
    exact ⟨n.B, n.bc, rfl, HEN.out.1, HEN.out.2, HG.out⟩
end
end Go.Proofs.YtamndllolppmoaaGreatDoor

/-! The state behind deeds, each with the ref of its place. -/
namespace Go.Proofs.YtamndllolppmoaaGreatDoor
open Wd Ino Sm
set_option linter.unusedVariables false
/-- the state behind the first k deeds, the n-th with the ref n -/
def runI (l : List Dd) : Nat → Stt
  | 0 => newStt
  | k + 1 => match l[k]? with
    | some d => nextS (runI l k) d.e ((k : Int) + 1)
    | none => runI l k
theorem runI_at {l : List Dd} {k : Nat} {d : Dd} (h : l[k]? = some d) : runI l (k + 1) = nextS (runI l k) d.e ((k : Int) + 1) := by
  show (match l[k]? with | some d => nextS (runI l k) d.e ((k : Int) + 1) | none => runI l k) = _
  rw [h]
theorem Inv.runI (l : List Dd) : ∀ k, Inv (runI l k)
  | 0 => Inv.new
  | k + 1 => by
    cases h : l[k]? with
    | none => show Inv (match l[k]? with | some d => nextS (Go.Proofs.YtamndllolppmoaaGreatDoor.runI l k) d.e ((k : Int) + 1) | none => Go.Proofs.YtamndllolppmoaaGreatDoor.runI l k); rw [h]; exact Inv.runI l k
    | some d => rw [runI_at h]; exact (Inv.runI l k).next _ _
theorem Num.runI {l : List Dd} : ∀ k, k ≤ l.length → k ≤ 1000 → Num k (runI l k)
  | 0, _, _ => Num.new
  | k + 1, hk, h1 => by
    obtain ⟨d, hd⟩ : ∃ d, l[k]? = some d := ⟨_, List.getElem?_eq_getElem (by omega)⟩
    rw [runI_at hd]
    exact (Num.runI (l := l) k (by omega) (by omega)).next _ (by unfold i64R; omega)
end Go.Proofs.YtamndllolppmoaaGreatDoor
