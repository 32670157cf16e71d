import Derived.Test.YtbejbiogabpmfaaGreatG24

/-! From what all states have: what the walks ask for. -/
namespace Go.Proofs.YtbejbiogabpmfaaGreat
open Wd Ino
set_option linter.unusedVariables false
theorem name_size {s : ByteArray} (h : nameN s.toList = 0) : s.size ≤ 1000 := by
  unfold nameN at h
  split at h
  · cases h
  · unfold plainN at h
    split at h
    · cases h
    · split at h
      · cases h
      · rename_i h3
        rw [← size_list]
        omega
theorem needP_64 {n : Int} (h0 : 0 ≤ n) (h1 : n ≤ 16384) : needP n ≤ 64 := by
  unfold needP
  split <;> omega
theorem Inv.smN {S : Stt} {k : Nat} (h : Inv S) (hn : Num k S) (hk : k ≤ 900) : SmS S.l := fun n hm => by
  have hr := h.right n hm
  obtain ⟨a1, a2, a3, a4, a5⟩ := right_ino hr
  have hi : i64R n.ino := by unfold i64R; omega
  have hl : i64R n.links := by unfold i64R; omega
  have hk2 : i64R n.kind := by unfold i64R; omega
  have hnm := (h.names n hm).1
  have hsz : ∀ e ∈ n.names, e.s.size ≤ 1000 := fun e he => name_size (okE_parts (hnm e he)).1
  have hin : ∀ e ∈ n.names, i64R e.n := fun e he => by have := okE_parts (hnm e he); unfold i64R; omega
  rcases a5 with k1 | k2
  · obtain ⟨b1, b2, b3, b4, b5⟩ := right_file hr k1
    have := needP_64 b3 b4
    exact ⟨by omega, Nat.le_trans (hn.nm n hm) hk, hsz, hi, hk2, hl, by unfold i64R; omega, by unfold i64R; omega, hn.pg n hm, hin⟩
  · obtain ⟨b1, b2, b3, b4, b5, b6⟩ := right_dir hr k2
    exact ⟨by rw [b2]; simp, Nat.le_trans (hn.nm n hm) hk, hsz, hi, hk2, hl, by unfold i64R; omega, by unfold i64R; omega, hn.pg n hm, hin⟩
theorem Inv.bas {S : Stt} {k : Nat} (h : Inv S) (hn : Num k S) (hk : k ≤ 900) : Bas S := by
  obtain ⟨r, hr, _⟩ := h.root
  refine ⟨h.smN hn hk, h.last, ?_, fun n hm => ?_, h.way, List.length_pos_of_mem (atS_mem hr)⟩
  · have h1 := h.last r (atS_mem hr)
    have h2 := (right_ino (h.right r (atS_mem hr))).1
    have := h.most
    unfold i64R; omega
  · have := right_ino (h.right n hm)
    omega
theorem Inv.fit {S : Stt} {k : Nat} (h : Inv S) (hn : Num k S) (hk : k ≤ 900) : Fit S := by
  refine ⟨h.bas hn hk, fun d s i hs => ?_, fun n hm => ?_⟩
  · obtain ⟨nd, a, b, c⟩ := has_at hs
    obtain ⟨e, he, _, h3⟩ := has_mem b
    obtain ⟨x, hx, _⟩ := h.there nd (atS_mem a) e he
    rw [h3, c] at hx
    exact ⟨x, hx⟩
  · have := (right_ino (h.right n hm)).2.2.2.2
    omega
theorem Inv.top {S : Stt} (h : Inv S) : upS S.l 1 = 1 := by
  obtain ⟨r, hr, hk⟩ := h.root
  unfold upS
  rw [getS_some hr]
  exact (right_dir (h.right r (atS_mem hr)) hk).2.2.2.1 (atS_ino hr)
theorem Inv.bad {S : Stt} {k : Nat} (h : Inv S) (hn : Num k S) (hk : k ≤ 900) : Bad S :=
  ⟨h.bas hn hk, h.asc, h.top, fun n hm => (right_ino (h.right n hm)).2.2.2.2, h.names⟩
/-! a fresh state -/
def newStt : Stt := ⟨[⟨1, 2, 1, 0, 1, [], []⟩], 1⟩
theorem Inv.new : Inv newStt := by
  have hat : atS newStt.l 1 = some ⟨1, 2, 1, 0, 1, [], []⟩ := rfl
  refine ⟨List.pairwise_singleton _ _, fun n hn => ?_, fun n hn => ?_, fun n hn => ?_, by decide, ⟨_, hat, rfl⟩, fun d hd e he => ?_, fun n hn h1 => ?_, fun i hi => ⟨0, ?_⟩⟩
  · rw [List.mem_singleton.1 hn]; decide
  · rw [List.mem_singleton.1 hn]; exact RightN.nil
  · rw [List.mem_singleton.1 hn]; decide
  · rw [List.mem_singleton.1 hd] at he; cases he
  · rw [List.mem_singleton.1 hn] at h1; exact absurd rfl h1
  · show i = 1
    have h2 : kindS newStt.l i = 2 := hi
    unfold kindS getS newStt at h2
    rw [atS_cons] at h2
    by_cases e : (1 : Int) = i
    · exact e.symm
    · rw [if_neg e] at h2; exact absurd h2 (show ¬ (0 : Int) = 2 by decide)
theorem Num.new : Num 0 newStt := by
  refine ⟨by decide, fun n hn => ?_, fun n hn x hx => ?_⟩
  · rw [List.mem_singleton.1 hn]; decide
  · rw [List.mem_singleton.1 hn] at hx; cases hx
end Go.Proofs.YtbejbiogabpmfaaGreat

/-! What all states have is kept: where a node's numbers change, and where a file goes. -/
namespace Go.Proofs.YtbejbiogabpmfaaGreat
open Wd Ino
set_option linter.unusedVariables false
theorem mem_mod {l : List Nod} {i : Int} {f : Nod → Nod} {a : Nod} (h : a ∈ modS l i f) : ∃ n ∈ l, a = if n.ino = i then f n else n := by
  unfold modS at h
  obtain ⟨n, hn, rfl⟩ := List.mem_map.1 h
  exact ⟨n, hn, rfl⟩
theorem Rch.mono {l l' : List Nod} (h : ∀ i, kindS l i = 2 → kindS l' i = 2 ∧ upS l' i = upS l i) : ∀ {k : Nat} {i : Int}, Rch l k i → Rch l' k i
  | 0, _, hr => hr
  | k + 1, i, hr => ⟨hr.1, (h i hr.2.1).1, by rw [(h i hr.2.1).2]; exact Rch.mono h hr.2.2⟩
/-- a change that leaves kind, up, links and names -/
structure Soft (f : Nod → Nod) : Prop where
  ino : ∀ n, (f n).ino = n.ino
  kind : ∀ n, (f n).kind = n.kind
  links : ∀ n, (f n).links = n.links
  up : ∀ n, (f n).up = n.up
  names : ∀ n, (f n).names = n.names
theorem cnt_soft {l : List Nod} {i : Int} {f : Nod → Nod} (hf : ∀ n, (f n).names = n.names) (j : Int) : cntS (modS l i f) j = cntS l j := by
  unfold cntS modS
  rw [List.map_map]
  congr 1
  refine List.map_congr_left fun n _ => ?_
  show countN j (if n.ino = i then f n else n).names = countN j n.names
  split
  · rw [hf]
  · rfl
theorem kind_mod {l : List Nod} {i : Int} {f : Nod → Nod} (hi : ∀ n, (f n).ino = n.ino) (hk : ∀ n, (f n).kind = n.kind) (j : Int) : kindS (modS l i f) j = kindS l j := by
  unfold kindS
  rw [get_mod hi]
  split
  · rw [hk]
  · rfl
theorem up_mod {l : List Nod} {i : Int} {f : Nod → Nod} (hi : ∀ n, (f n).ino = n.ino) (hu : ∀ n, (f n).up = n.up) (j : Int) : upS (modS l i f) j = upS l j := by
  unfold upS
  rw [get_mod hi]
  split
  · rw [hu]
  · rfl
theorem Inv.soft {S : Stt} (h : Inv S) {i : Int} {f : Nod → Nod} (hf : Soft f) (hr : ∀ n, atS S.l i = some n → rightNd (f n) = true) : Inv ⟨modS S.l i f, S.last⟩ := by
  have hat : ∀ n ∈ S.l, n.ino = i → atS S.l i = some n := fun n hn hi => by rw [← hi]; exact atS_of_mem h.asc hn
  refine ⟨asc_mod h.asc hf.ino, fun a ha => ?_, fun a ha => ?_, fun a ha => ?_, h.most, ?_, fun d hd e he => ?_, fun a ha h1 => ?_, fun j hj => ?_⟩
  · obtain ⟨n, hn, rfl⟩ := mem_mod ha
    split
    · rename_i hi; exact hr n (hat n hn hi)
    · exact h.right n hn
  · obtain ⟨n, hn, rfl⟩ := mem_mod ha
    split
    · rw [hf.names]; exact h.names n hn
    · exact h.names n hn
  · obtain ⟨n, hn, rfl⟩ := mem_mod ha
    split
    · rw [hf.ino]; exact h.last n hn
    · exact h.last n hn
  · obtain ⟨r, h1, h2⟩ := h.root
    refine ⟨if (1 : Int) = i then f r else r, by show atS (modS S.l i f) 1 = _; rw [atS_mod hf.ino, h1]; rfl, ?_⟩
    split
    · rw [hf.kind]; exact h2
    · exact h2
  · obtain ⟨n, hn, rfl⟩ := mem_mod hd
    have he' : e ∈ n.names := by
      split at he
      · rw [hf.names] at he; exact he
      · exact he
    obtain ⟨m, h1, h2⟩ := h.there n hn e he'
    refine ⟨if e.n = i then f m else m, by show atS (modS S.l i f) e.n = _; rw [atS_mod hf.ino, h1]; rfl, fun hk => ?_⟩
    have hk' : m.kind = 2 := by
      split at hk
      · rw [hf.kind] at hk; exact hk
      · exact hk
    obtain ⟨h3, h4⟩ := h2 hk'
    refine ⟨h3, ?_⟩
    have e1 : (if n.ino = i then f n else n).ino = n.ino := by split <;> simp [hf.ino]
    rw [e1, ← h4]
    split
    · rw [hf.up]
    · rfl
  · obtain ⟨n, hn, rfl⟩ := mem_mod ha
    have e1 : (if n.ino = i then f n else n).ino = n.ino := by split <;> simp [hf.ino]
    have e2 : (if n.ino = i then f n else n).links = n.links := by split <;> simp [hf.links]
    rw [e1] at h1 ⊢
    rw [e2]
    show (cntS (modS S.l i f) n.ino : Int) = n.links
    rw [cnt_soft hf.names]
    exact h.cnt n hn h1
  · have hj' : kindS S.l j = 2 := by rw [← kind_mod hf.ino hf.kind]; exact hj
    obtain ⟨k, hk⟩ := h.reach j hj'
    exact ⟨k, Rch.mono (fun x hx => ⟨by rw [kind_mod hf.ino hf.kind]; exact hx, up_mod hf.ino hf.up x⟩) hk⟩
theorem fit_need {n : Int} (h0 : 0 ≤ n) (l : List Int) : ((fitP l (needP n).toNat).length : Int) = needP n := by
  rw [fit_len]
  have : 0 ≤ needP n := by unfold needP; split <;> omega
  omega
theorem soft_res (size : Int) : Soft (resNod size) := ⟨fun _ => rfl, fun _ => rfl, fun _ => rfl, fun _ => rfl, fun _ => rfl⟩
theorem soft_put (page ref size : Int) : Soft (putNod page ref size) := ⟨fun _ => rfl, fun _ => rfl, fun _ => rfl, fun _ => rfl, fun _ => rfl⟩
/-- a right file with other pages, as many as its size needs -/
theorem right_size {n : Nod} (h : rightNd n = true) (hk : n.kind = 1) {size : Int} {P : List Int} (h0 : 0 ≤ size) (h1 : size ≤ 16384) (hP : (P.length : Int) = needP size) : rightNd { n with size := size, pages := P } = true := by
  obtain ⟨b1, b2, b3, b4, b5⟩ := right_file h hk
  obtain ⟨a1, a2, a3, a4, _⟩ := right_ino h
  unfold rightNd rightB
  dsimp only
  have g1 : (inB n.ino 1 1048576 && inB n.links 0 16) = true := by
    unfold inB
    rw [decide_eq_true a1, decide_eq_true a2, decide_eq_true a3, decide_eq_true a4]; rfl
  rw [if_pos g1, if_pos hk]
  unfold fileB inB
  rw [b1, b2, hP, decide_eq_true h0, decide_eq_true h1]
  simp
theorem Inv.trunc {S S' : Stt} {e : Eff} {r : List Int} (h : Inv S) (hs : truncS S e = some (S', r)) (hz : inB e.size 0 16384 = true) : Inv S' := by
  unfold truncS at hs
  split at hs
  · rename_i hk
    obtain ⟨rfl, _⟩ := Prod.mk.inj (Option.some.inj hs)
    simp only [inB, Bool.and_eq_true, decide_eq_true_eq] at hz
    refine h.soft (soft_res e.size) fun n hn => ?_
    have hk1 : n.kind = 1 := by rw [← kind_some hn]; exact hk
    exact right_size (h.right n (atS_mem hn)) hk1 hz.1 hz.2 (fit_need hz.1 n.pages)
  · cases hs
theorem Inv.write {S S' : Stt} {e : Eff} {ref : Int} {r : List Int} (h : Inv S) (hs : writeS S e ref = some (S', r)) (hp : putOk e.page e.size = true) : Inv S' := by
  unfold writeS at hs
  split at hs
  · rename_i hk
    obtain ⟨rfl, _⟩ := Prod.mk.inj (Option.some.inj hs)
    refine h.soft (soft_put e.page ref e.size) fun n hn => ?_
    have hk1 : n.kind = 1 := by rw [← kind_some hn]; exact hk.1
    have hsz := hk.2
    rw [getS_some hn] at hsz
    have hr := h.right n (atS_mem hn)
    obtain ⟨_, _, b3, _, _⟩ := right_file hr hk1
    have h1 : e.size ≤ 16384 := by
      unfold putOk at hp
      simp only [Bool.and_eq_true, decide_eq_true_eq] at hp
      exact hp.1
    refine right_size hr hk1 (by omega) h1 ?_
    unfold putP
    rw [List.length_set]
    exact fit_need (by omega) n.pages
  · cases hs
end Go.Proofs.YtbejbiogabpmfaaGreat

/-! What all states have but for how often nodes are named (δ): kept where a name goes, a name comes, links change, a node goes, a directory moves. -/
namespace Go.Proofs.YtbejbiogabpmfaaGreat
open Wd Ino
set_option linter.unusedVariables false
structure InvD (S : Stt) (δ : Int → Int) : Prop where
  asc : AscS S.l
  rnm : ∀ n ∈ S.l, RightN n.names
  last : ∀ n ∈ S.l, n.ino ≤ S.last
  root : ∃ r, atS S.l 1 = some r ∧ r.kind = 2
  there : ∀ d ∈ S.l, ∀ e ∈ d.names, ∃ n, atS S.l e.n = some n ∧ (n.kind = 2 → e.n ≠ 1 ∧ n.up = d.ino)
  dirs : ∀ n ∈ S.l, n.names ≠ [] → n.kind = 2
  cnt : ∀ n ∈ S.l, n.ino ≠ 1 → (cntS S.l n.ino : Int) + δ n.ino = n.links
  reach : ∀ i, kindS S.l i = 2 → ∃ k, Rch S.l k i
theorem Inv.toD {S : Stt} (h : Inv S) : InvD S (fun _ => 0) :=
  ⟨h.asc, h.names, h.last, h.root, h.there, fun n hn hne => by
    have hr := h.right n hn
    rcases (right_ino hr).2.2.2.2 with k | k
    · exact absurd (right_file hr k).2.1 hne
    · exact k, fun n hn h1 => by rw [Int.add_zero]; exact h.cnt n hn h1, h.reach⟩
theorem InvD.toInv {S : Stt} (h : InvD S (fun _ => 0)) (hr : ∀ n ∈ S.l, rightNd n = true) (hm : S.last ≤ 1048576) : Inv S :=
  ⟨h.asc, hr, h.rnm, h.last, hm, h.root, h.there, fun n hn h1 => by have := h.cnt n hn h1; rw [Int.add_zero] at this; exact this, h.reach⟩
def one (i : Int) (x : Int) (j : Int) : Int := if j = i then x else 0
/-- names of one directory change -/
structure NameF (f : Nod → Nod) : Prop where
  ino : ∀ n, (f n).ino = n.ino
  kind : ∀ n, (f n).kind = n.kind
  links : ∀ n, (f n).links = n.links
  up : ∀ n, (f n).up = n.up
theorem InvD.names_ {S : Stt} {δ : Int → Int} (h : InvD S δ) {d : Int} {f : Nod → Nod} (hf : NameF f) {n0 : Nod} (h0 : atS S.l d = some n0) (δ' : Int → Int)
    (h1 : RightN (f n0).names) (h2 : ∀ e ∈ (f n0).names, ∃ n, atS S.l e.n = some n ∧ (n.kind = 2 → e.n ≠ 1 ∧ n.up = d)) (h3 : (f n0).names ≠ [] → n0.kind = 2)
    (h4 : ∀ j, (countN j (f n0).names : Int) + δ' j = (countN j n0.names : Int) + δ j) : InvD ⟨modS S.l d f, S.last⟩ δ' := by
  have hat : ∀ n ∈ S.l, n.ino = d → n = n0 := fun n hn hi => by
    have := atS_of_mem h.asc hn
    rw [hi, h0] at this
    exact (Option.some.inj this).symm
  refine ⟨asc_mod h.asc hf.ino, fun a ha => ?_, fun a ha => ?_, ?_, fun b hb e he => ?_, fun a ha hne => ?_, fun a ha hn1 => ?_, fun j hj => ?_⟩
  · obtain ⟨n, hn, rfl⟩ := mem_mod ha
    split
    · rename_i hi; rw [hat n hn hi]; exact h1
    · exact h.rnm n hn
  · obtain ⟨n, hn, rfl⟩ := mem_mod ha
    split
    · rw [hf.ino]; exact h.last n hn
    · exact h.last n hn
  · obtain ⟨r, r1, r2⟩ := h.root
    refine ⟨if (1 : Int) = d then f r else r, by show atS (modS S.l d f) 1 = _; rw [atS_mod hf.ino, r1]; rfl, ?_⟩
    split
    · rw [hf.kind]; exact r2
    · exact r2
  · obtain ⟨n, hn, rfl⟩ := mem_mod hb
    have key : ∃ m, atS S.l e.n = some m ∧ (m.kind = 2 → e.n ≠ 1 ∧ m.up = n.ino) := by
      split at he
      · rename_i hi
        rw [hat n hn hi] at he ⊢
        obtain ⟨m, m1, m2⟩ := h2 e he
        exact ⟨m, m1, fun hk => by rw [atS_ino h0]; exact m2 hk⟩
      · exact h.there n hn e he
    obtain ⟨m, m1, m2⟩ := key
    refine ⟨if e.n = d then f m else m, by show atS (modS S.l d f) e.n = _; rw [atS_mod hf.ino, m1]; rfl, fun hk => ?_⟩
    have hk' : m.kind = 2 := by
      split at hk
      · rw [hf.kind] at hk; exact hk
      · exact hk
    obtain ⟨m3, m4⟩ := m2 hk'
    refine ⟨m3, ?_⟩
    have e1 : (if n.ino = d then f n else n).ino = n.ino := by split <;> simp [hf.ino]
    rw [e1, ← m4]
    split
    · rw [hf.up]
    · rfl
  · obtain ⟨n, hn, rfl⟩ := mem_mod ha
    split at hne
    · rename_i hi
      rw [if_pos hi, hf.kind, hat n hn hi]
      rw [hat n hn hi] at hne
      exact h3 hne
    · rename_i hi
      rw [if_neg hi]
      exact h.dirs n hn hne
  · obtain ⟨n, hn, rfl⟩ := mem_mod ha
    have e1 : (if n.ino = d then f n else n).ino = n.ino := by split <;> simp [hf.ino]
    have e2 : (if n.ino = d then f n else n).links = n.links := by split <;> simp [hf.links]
    rw [e1] at hn1 ⊢
    rw [e2]
    have c1 := cnt_mod h.asc (f := f) h0 n.ino
    have c2 := h.cnt n hn hn1
    have c3 := h4 n.ino
    show (cntS (modS S.l d f) n.ino : Int) + δ' n.ino = n.links
    omega
  · have hj' : kindS S.l j = 2 := by rw [← kind_mod hf.ino hf.kind]; exact hj
    obtain ⟨k, hk⟩ := h.reach j hj'
    exact ⟨k, Rch.mono (fun x hx => ⟨by rw [kind_mod hf.ino hf.kind]; exact hx, up_mod hf.ino hf.up x⟩) hk⟩
theorem InvD.leave {S : Stt} {δ : Int → Int} (h : InvD S δ) {d : Int} {s : ByteArray} {n0 : Nod} (h0 : atS S.l d = some n0) (hs : hasN s n0.names = true) :
    InvD ⟨leaveS S.l d s, S.last⟩ (fun j => δ j + one (inoN s n0.names) 1 j) := by
  have hd := atS_mem h0
  refine h.names_ (f := cutNm s) ⟨fun _ => rfl, fun _ => rfl, fun _ => rfl, fun _ => rfl⟩ h0 _ ((h.rnm n0 hd).dropN s) (fun e he => ?_) (fun hne => h.dirs n0 hd (fun hh => ?_)) (fun j => ?_)
  · have := h.there n0 hd e (mem_dropN he)
    rwa [atS_ino h0] at this
  · apply hne
    show dropN s n0.names = []
    rw [hh]; rfl
  · have := countN_drop (h.rnm n0 hd) hs j
    show (countN j (dropN s n0.names) : Int) + (δ j + one (inoN s n0.names) 1 j) = (countN j n0.names : Int) + δ j
    unfold one
    by_cases hj : inoN s n0.names = j
    · rw [if_pos hj] at this; rw [if_pos hj.symm]; omega
    · rw [if_neg hj] at this; rw [if_neg (fun hh => hj hh.symm)]; omega
theorem InvD.enter {S : Stt} {δ : Int → Int} (h : InvD S δ) {d : Int} {s : ByteArray} {i : Int} {n0 n1 : Nod} (h0 : atS S.l d = some n0) (hk : n0.kind = 2) (hs : hasN s n0.names = false) (ho : okE ⟨s, i⟩ = true) (h1 : atS S.l i = some n1) (h2 : n1.kind = 2 → i ≠ 1 ∧ n1.up = d) :
    InvD ⟨enterS S.l d s i, S.last⟩ (fun j => δ j + one i (-1) j) := by
  have hd := atS_mem h0
  have hnm : (putNm s i n0).names = putN s i n0.names := by
    show putNm.putR' s i n0.names = _
    unfold putNm.putR'
    rw [if_neg (by rw [hs]; decide)]
  refine h.names_ (f := putNm s i) ⟨fun _ => rfl, fun _ => rfl, fun _ => rfl, fun _ => rfl⟩ h0 _ (by rw [hnm]; exact (h.rnm n0 hd).putN hs ho) (fun e he => ?_) (fun _ => hk) (fun j => ?_)
  · rw [hnm] at he
    rcases mem_putN he with rfl | he
    · exact ⟨n1, h1, h2⟩
    · have := h.there n0 hd e he
      rwa [atS_ino h0] at this
  · rw [hnm]
    have := countN_put s i j n0.names
    unfold one
    by_cases hj : i = j
    · rw [if_pos hj] at this; rw [if_pos hj.symm]; omega
    · rw [if_neg hj] at this; rw [if_neg (fun hh => hj hh.symm)]; omega
end Go.Proofs.YtbejbiogabpmfaaGreat

/-! What all states have: links change, a node goes, a node comes, a directory moves. -/
namespace Go.Proofs.YtbejbiogabpmfaaGreat
open Wd Ino
set_option linter.unusedVariables false
theorem InvD.links_ {S : Stt} {δ : Int → Int} (h : InvD S δ) (i x : Int) {f : Nod → Nod} (hi : ∀ n, (f n).ino = n.ino) (hk : ∀ n, (f n).kind = n.kind) (hu : ∀ n, (f n).up = n.up) (hn : ∀ n, (f n).names = n.names) (hl : ∀ n, (f n).links = n.links + x) :
    InvD ⟨modS S.l i f, S.last⟩ (fun j => δ j + one i x j) := by
  refine ⟨asc_mod h.asc hi, fun a ha => ?_, fun a ha => ?_, ?_, fun b hb e he => ?_, fun a ha hne => ?_, fun a ha hn1 => ?_, fun j hj => ?_⟩
  · obtain ⟨n, hm, rfl⟩ := mem_mod ha
    split
    · rw [hn]; exact h.rnm n hm
    · exact h.rnm n hm
  · obtain ⟨n, hm, rfl⟩ := mem_mod ha
    split
    · rw [hi]; exact h.last n hm
    · exact h.last n hm
  · obtain ⟨r, r1, r2⟩ := h.root
    refine ⟨if (1 : Int) = i then f r else r, by show atS (modS S.l i f) 1 = _; rw [atS_mod hi, r1]; rfl, ?_⟩
    split
    · rw [hk]; exact r2
    · exact r2
  · obtain ⟨n, hm, rfl⟩ := mem_mod hb
    have he' : e ∈ n.names := by
      split at he
      · rw [hn] at he; exact he
      · exact he
    obtain ⟨m, m1, m2⟩ := h.there n hm e he'
    refine ⟨if e.n = i then f m else m, by show atS (modS S.l i f) e.n = _; rw [atS_mod hi, m1]; rfl, fun hkk => ?_⟩
    have hk' : m.kind = 2 := by
      split at hkk
      · rw [hk] at hkk; exact hkk
      · exact hkk
    obtain ⟨m3, m4⟩ := m2 hk'
    refine ⟨m3, ?_⟩
    have e1 : (if n.ino = i then f n else n).ino = n.ino := by split <;> simp [hi]
    rw [e1, ← m4]
    split
    · rw [hu]
    · rfl
  · obtain ⟨n, hm, rfl⟩ := mem_mod ha
    split at hne
    · rename_i hx
      rw [if_pos hx, hk]
      rw [hn] at hne
      exact h.dirs n hm hne
    · rename_i hx
      rw [if_neg hx]
      exact h.dirs n hm hne
  · obtain ⟨n, hm, rfl⟩ := mem_mod ha
    have e1 : (if n.ino = i then f n else n).ino = n.ino := by split <;> simp [hi]
    rw [e1] at hn1 ⊢
    have c2 := h.cnt n hm hn1
    show (cntS (modS S.l i f) n.ino : Int) + (δ n.ino + one i x n.ino) = _
    rw [cnt_soft hn]
    unfold one
    by_cases hx : n.ino = i
    · rw [if_pos hx, if_pos hx, hl]; omega
    · rw [if_neg hx, if_neg hx]; omega
  · have hj' : kindS S.l j = 2 := by rw [← kind_mod hi hk]; exact hj
    obtain ⟨k, hk2⟩ := h.reach j hj'
    exact ⟨k, Rch.mono (fun x hx => ⟨by rw [kind_mod hi hk]; exact hx, up_mod hi hu x⟩) hk2⟩
theorem get_rm {l : List Nod} {i j : Int} (h : j ≠ i) : getS (rmS l i) j = getS l j := by unfold getS; rw [atS_rm, if_neg h]
theorem InvD.rm {S : Stt} {δ : Int → Int} (h : InvD S δ) {i : Int} {n : Nod} (hn : atS S.l i = some n) (hi : i ≠ 1) (hnm : n.names = []) (hc : cntS S.l i = 0)
    (hup : ∀ x m, atS S.l x = some m → m.kind = 2 → x ≠ 1 → m.up ≠ i) : InvD ⟨rmS S.l i, S.last⟩ δ := by
  have hsub : ∀ a ∈ rmS S.l i, a ∈ S.l ∧ a.ino ≠ i := fun a ha => by
    unfold rmS at ha
    have := List.mem_filter.1 ha
    exact ⟨this.1, by simpa using this.2⟩
  refine ⟨asc_rm h.asc i, fun a ha => h.rnm a (hsub a ha).1, fun a ha => h.last a (hsub a ha).1, ?_, fun b hb e he => ?_, fun a ha hne => h.dirs a (hsub a ha).1 hne, fun a ha hn1 => ?_, fun j hj => ?_⟩
  · obtain ⟨r, r1, r2⟩ := h.root
    exact ⟨r, by show atS (rmS S.l i) 1 = _; rw [atS_rm, if_neg (fun e => hi e.symm), r1], r2⟩
  · obtain ⟨m, m1, m2⟩ := h.there b (hsub b hb).1 e he
    have hne : e.n ≠ i := cnt_zero hc b (hsub b hb).1 e he
    exact ⟨m, by show atS (rmS S.l i) e.n = _; rw [atS_rm, if_neg hne, m1], m2⟩
  · have c1 := cnt_rm h.asc hn a.ino
    have c2 := h.cnt a (hsub a ha).1 hn1
    rw [hnm, show countN a.ino [] = 0 from rfl] at c1
    show (cntS (rmS S.l i) a.ino : Int) + δ a.ino = a.links
    omega
  · have hji : j ≠ i := fun e => by
      have h2 : kindS (rmS S.l i) j = 2 := hj
      unfold kindS getS at h2
      rw [atS_rm, if_pos e] at h2
      exact absurd h2 (show ¬ (0 : Int) = 2 by decide)
    have hj' : kindS S.l j = 2 := by
      have h2 : kindS (rmS S.l i) j = 2 := hj
      unfold kindS at h2 ⊢
      rw [get_rm hji] at h2; exact h2
    obtain ⟨k, hk⟩ := h.reach j hj'
    refine ⟨k, ?_⟩
    have key : ∀ (k : Nat) (x : Int), x ≠ i → Rch S.l k x → Rch (rmS S.l i) k x := by
      intro k
      induction k with
      | zero => intro x _ hr; exact hr
      | succ k ih =>
        intro x hx hr
        obtain ⟨m, m1, m2⟩ := at_of_kind (l := S.l) (i := x) (by rw [hr.2.1]; decide)
        have hu : upS S.l x = m.up := by unfold upS; rw [m2]
        have hk2 : m.kind = 2 := by rw [← kind_some m1]; exact hr.2.1
        have hne : upS S.l x ≠ i := by rw [hu]; exact hup x m m1 hk2 hr.1
        refine ⟨hr.1, by unfold kindS; rw [get_rm hx]; exact hr.2.1, ?_⟩
        have e : upS (rmS S.l i) x = upS S.l x := by unfold upS; rw [get_rm hx]
        rw [e]
        exact ih _ hne hr.2.2
    exact key k j hji hk
/-- a directory that nobody names moves to another place, from which one doesn't come to it -/
theorem InvD.setUp {S : Stt} {δ : Int → Int} (h : InvD S δ) {i d : Int} {n0 : Nod} (h0 : atS S.l i = some n0) (hi : i ≠ 1) (hk0 : n0.kind = 2) (hc : cntS S.l i = 0) (hd : kindS S.l d = 2) {N : Nat} (hw : wayB S.l N d i = false) (hN : ∃ k, k ≤ N ∧ Rch S.l k d) : InvD ⟨modS S.l i (setUp d), S.last⟩ δ := by
  have fi : ∀ n, (Go.Proofs.YtbejbiogabpmfaaGreat.setUp d n).ino = n.ino := fun _ => rfl
  have fk : ∀ n, (Go.Proofs.YtbejbiogabpmfaaGreat.setUp d n).kind = n.kind := fun _ => rfl
  have fn : ∀ n, (Go.Proofs.YtbejbiogabpmfaaGreat.setUp d n).names = n.names := fun _ => rfl
  have hup : ∀ x, x ≠ i → upS (modS S.l i (Go.Proofs.YtbejbiogabpmfaaGreat.setUp d)) x = upS S.l x := fun x hx => by
    unfold upS
    rw [get_mod fi, if_neg (fun hh => hx hh.1)]
  have hki : kindS S.l i = 2 := by rw [kind_some h0]; exact hk0
  refine ⟨asc_mod h.asc fi, fun a ha => ?_, fun a ha => ?_, ?_, fun b hb e he => ?_, fun a ha hne => ?_, fun a ha hn1 => ?_, fun j hj => ?_⟩
  · obtain ⟨n, hm, rfl⟩ := mem_mod ha
    split
    · exact h.rnm n hm
    · exact h.rnm n hm
  · obtain ⟨n, hm, rfl⟩ := mem_mod ha
    split
    · exact h.last n hm
    · exact h.last n hm
  · obtain ⟨r, r1, r2⟩ := h.root
    exact ⟨r, by show atS (modS S.l i _) 1 = _; rw [atS_mod fi, r1]; simp [show ¬ (1 : Int) = i from fun e => hi e.symm], r2⟩
  · obtain ⟨n, hm, rfl⟩ := mem_mod hb
    have he' : e ∈ n.names := by split at he <;> exact he
    obtain ⟨m, m1, m2⟩ := h.there n hm e he'
    have hne : e.n ≠ i := cnt_zero hc n hm e he'
    have e1 : (if n.ino = i then Go.Proofs.YtbejbiogabpmfaaGreat.setUp d n else n).ino = n.ino := by split <;> rfl
    rw [e1]
    exact ⟨m, by show atS (modS S.l i _) e.n = _; rw [atS_mod fi, m1]; simp [hne], m2⟩
  · obtain ⟨n, hm, rfl⟩ := mem_mod ha
    split at hne
    · rename_i hx; rw [if_pos hx]; exact h.dirs n hm hne
    · rename_i hx; rw [if_neg hx]; exact h.dirs n hm hne
  · obtain ⟨n, hm, rfl⟩ := mem_mod ha
    have e1 : (if n.ino = i then Go.Proofs.YtbejbiogabpmfaaGreat.setUp d n else n).ino = n.ino := by split <;> rfl
    have e2 : (if n.ino = i then Go.Proofs.YtbejbiogabpmfaaGreat.setUp d n else n).links = n.links := by split <;> rfl
    rw [e1] at hn1 ⊢
    rw [e2]
    show (cntS (modS S.l i _) n.ino : Int) + δ n.ino = n.links
    rw [cnt_soft fn]
    exact h.cnt n hm hn1
  · have clear_ : ∀ (k n : Nat) (x : Int), k ≤ n → wayB S.l n x i = false → Rch S.l k x → Rch (modS S.l i (Go.Proofs.YtbejbiogabpmfaaGreat.setUp d)) k x := by
      intro k
      induction k with
      | zero => intro n x _ _ hr; exact hr
      | succ k ih =>
        intro n x hkn hwx hr
        cases n with
        | zero => omega
        | succ n =>
          unfold wayB at hwx
          by_cases hx : x = i
          · rw [if_pos hx] at hwx; cases hwx
          · rw [if_neg hx, if_neg (fun hh => hh.elim hr.1 (fun h2 => h2 hr.2.1))] at hwx
            refine ⟨hr.1, by rw [kind_mod fi fk]; exact hr.2.1, ?_⟩
            rw [hup x hx]
            exact ih n _ (by omega) hwx hr.2.2
    obtain ⟨kd, hkd, hrd⟩ := hN
    have hrd' := clear_ kd N d hkd hw hrd
    have hri : Rch (modS S.l i (Go.Proofs.YtbejbiogabpmfaaGreat.setUp d)) (kd + 1) i := by
      refine ⟨hi, by rw [kind_mod fi fk]; exact hki, ?_⟩
      have : upS (modS S.l i (Go.Proofs.YtbejbiogabpmfaaGreat.setUp d)) i = d := by
        unfold upS
        rw [get_mod fi, if_pos ⟨rfl, by rw [h0]; rfl⟩]; rfl
      rw [this]; exact hrd'
    have all : ∀ (k : Nat) (x : Int), Rch S.l k x → ∃ k', Rch (modS S.l i (Go.Proofs.YtbejbiogabpmfaaGreat.setUp d)) k' x := by
      intro k
      induction k with
      | zero => intro x hr; exact ⟨0, hr⟩
      | succ k ih =>
        intro x hr
        by_cases hx : x = i
        · rw [hx]; exact ⟨_, hri⟩
        · obtain ⟨k', hk'⟩ := ih _ hr.2.2
          exact ⟨k' + 1, hr.1, by rw [kind_mod fi fk]; exact hr.2.1, by rw [hup x hx]; exact hk'⟩
    have hj' : kindS S.l j = 2 := by rw [← kind_mod fi fk]; exact hj
    obtain ⟨k, hk⟩ := h.reach j hj'
    exact all k j hk
end Go.Proofs.YtbejbiogabpmfaaGreat

/-! What all states have: a node comes, and gets its name. -/
namespace Go.Proofs.YtbejbiogabpmfaaGreat
open Wd Ino
set_option linter.unusedVariables false
theorem none_cnt {l : List Nod} {j : Int} (h : ∀ d ∈ l, ∀ e ∈ d.names, e.n ≠ j) : cntS l j = 0 := by
  induction l with
  | nil => rfl
  | cons a l ih =>
    have e2 : cntS (a :: l) j = countN j a.names + cntS l j := by unfold cntS; simp
    have e3 : countN j a.names = 0 := by
      unfold countN
      exact List.countP_eq_zero.2 fun e he => by simpa using h a List.mem_cons_self e he
    rw [e2, e3, ih fun d hd => h d (List.mem_cons_of_mem _ hd)]
theorem InvD.app {S : Stt} (h : InvD S (fun _ => 0)) {n : Nod} (hi : S.last < n.ino) (hn : n.names = []) (hu : n.kind = 2 → kindS S.l n.up = 2) : InvD ⟨S.l ++ [n], n.ino⟩ (one n.ino n.links) := by
  have hlt : ∀ a ∈ S.l, a.ino < n.ino := fun a ha => by have := h.last a ha; omega
  have hold : ∀ x m, atS S.l x = some m → atS (S.l ++ [n]) x = some m := by intro x m hm; rw [atS_app, hm]; rfl
  have h1n : 1 < n.ino := by
    obtain ⟨r, r1, _⟩ := h.root
    have := hlt r (atS_mem r1)
    rw [atS_ino r1] at this
    exact this
  have hno : atS S.l n.ino = none := by
    cases hx : atS S.l n.ino with
    | none => rfl
    | some m =>
      have := hlt m (atS_mem hx)
      rw [atS_ino hx] at this
      omega
  have hat : atS (S.l ++ [n]) n.ino = some n := by rw [atS_app, hno, if_pos rfl]; rfl
  have hkind : ∀ x, kindS S.l x = 2 → kindS (S.l ++ [n]) x = 2 ∧ upS (S.l ++ [n]) x = upS S.l x := fun x hx => by
    obtain ⟨m, m1, m2⟩ := at_of_kind (l := S.l) (i := x) (by rw [hx]; decide)
    refine ⟨?_, ?_⟩
    · unfold kindS getS at hx ⊢
      rw [hold x m m1]; rw [m1] at hx; exact hx
    · unfold upS getS
      rw [hold x m m1, m1]
  refine ⟨asc_app h.asc hlt, fun a ha => ?_, fun a ha => ?_, ?_, fun b hb e he => ?_, fun a ha hne => ?_, fun a ha hn1 => ?_, fun j hj => ?_⟩
  · rcases List.mem_append.1 ha with ha | ha
    · exact h.rnm a ha
    · rw [List.mem_singleton.1 ha, hn]; exact RightN.nil
  · rcases List.mem_append.1 ha with ha | ha
    · exact Int.le_of_lt (hlt a ha)
    · rw [List.mem_singleton.1 ha]; exact Int.le_refl _
  · obtain ⟨r, r1, r2⟩ := h.root
    exact ⟨r, hold 1 r r1, r2⟩
  · rcases List.mem_append.1 hb with hb | hb
    · obtain ⟨m, m1, m2⟩ := h.there b hb e he
      exact ⟨m, hold _ m m1, m2⟩
    · rw [List.mem_singleton.1 hb, hn] at he; cases he
  · rcases List.mem_append.1 ha with ha | ha
    · exact h.dirs a ha hne
    · rw [List.mem_singleton.1 ha, hn] at hne; exact absurd rfl hne
  · show (cntS (S.l ++ [n]) a.ino : Int) + one n.ino n.links a.ino = a.links
    rw [cnt_app, hn, show countN a.ino [] = 0 from rfl]
    unfold one
    rcases List.mem_append.1 ha with ha | ha
    · have c := h.cnt a ha hn1
      have := hlt a ha
      rw [if_neg (by omega)]
      omega
    · rw [List.mem_singleton.1 ha, if_pos rfl, none_cnt (j := n.ino) fun d hd e he hh => by
        obtain ⟨m, m1, _⟩ := h.there d hd e he
        have := hlt m (atS_mem m1)
        rw [atS_ino m1] at this
        omega]
      omega
  · by_cases hx : j = n.ino
    · have hk : n.kind = 2 := by
        have h2 : kindS (S.l ++ [n]) j = 2 := hj
        unfold kindS getS at h2
        rw [hx, hat] at h2
        exact h2
      obtain ⟨k, hk2⟩ := h.reach n.up (hu hk)
      refine ⟨k + 1, by omega, hj, ?_⟩
      have : upS (S.l ++ [n]) j = n.up := by unfold upS getS; rw [hx, hat]; rfl
      show Rch (S.l ++ [n]) k (upS (S.l ++ [n]) j)
      rw [this]
      exact Rch.mono hkind hk2
    · have hj' : kindS S.l j = 2 := by
        have h2 : kindS (S.l ++ [n]) j = 2 := hj
        unfold kindS getS at h2 ⊢
        rw [atS_app, if_neg (fun e => hx e.symm), Option.or_none] at h2
        exact h2
      obtain ⟨k, hk⟩ := h.reach j hj'
      exact ⟨k, Rch.mono hkind hk⟩
theorem right_names {n : Nod} (hk : n.kind = 2) (N : List Ent) : rightNd { n with names := N } = rightNd n := by
  unfold rightNd rightB
  show (if _ then (if n.kind = 1 then _ else _) else _) = _
  rw [if_neg (c := n.kind = 1) (by omega), if_neg (c := n.kind = 1) (by omega)]
theorem right_putNm {n : Nod} (hk : n.kind = 2) (s : ByteArray) (i : Int) : rightNd (putNm s i n) = rightNd n := right_names hk _
theorem right_cutNm {n : Nod} (hk : n.kind = 2) (s : ByteArray) : rightNd (cutNm s n) = rightNd n := right_names hk _
theorem right_new {i k d : Int} (h1 : 1 < i) (h2 : i ≤ 1048576) (hk : k = 1 ∨ k = 2) (hd : 1 ≤ d ∧ d ≤ 1048576) : rightNd (newNod i k d) = true := by
  unfold rightNd rightB newNod
  show (if (inB i 1 1048576 && inB 1 0 16) = true then (if k = 1 then fileB 0 (newUp k d) 0 0 else if k = 2 then dirB i 1 0 (newUp k d) 0 else false) else false) = true
  rw [if_pos (by simp only [inB, Bool.and_eq_true, decide_eq_true_eq]; omega)]
  rcases hk with rfl | rfl
  · rfl
  · rw [if_neg (by decide), if_pos rfl]
    unfold dirB upB newUp
    rw [if_neg (by omega), if_pos rfl]
    simp only [inB, Bool.and_eq_true, decide_eq_true_eq]
    exact ⟨by decide, hd⟩
theorem one_zero (i : Int) (x : Int) : (fun j => one i x j + one i (-x) j) = fun _ => 0 := by
  funext j; unfold one; split <;> omega
theorem one_zero' (i : Int) (x : Int) : (fun j => (0 + one i x j) + one i (-x) j) = fun _ => 0 := by
  funext j; unfold one; split <;> omega
theorem right_enter {l : List Nod} {d i : Int} {s : ByteArray} {n0 : Nod} (ha : AscS l) (h : ∀ n ∈ l, rightNd n = true) (h0 : atS l d = some n0) (hk : n0.kind = 2) : ∀ n ∈ enterS l d s i, rightNd n = true := fun a ha' => by
  obtain ⟨n, hm, rfl⟩ := mem_mod ha'
  split
  · rename_i hx
    have : n = n0 := by
      have := atS_of_mem ha hm
      rw [hx, h0] at this
      exact (Option.some.inj this).symm
    rw [right_putNm (by rw [this]; exact hk)]
    exact h n hm
  · exact h n hm
theorem right_leave {l : List Nod} {d : Int} {s : ByteArray} {n0 : Nod} (ha : AscS l) (h : ∀ n ∈ l, rightNd n = true) (h0 : atS l d = some n0) (hk : n0.kind = 2) : ∀ n ∈ leaveS l d s, rightNd n = true := fun a ha' => by
  obtain ⟨n, hm, rfl⟩ := mem_mod ha'
  split
  · rename_i hx
    have : n = n0 := by
      have := atS_of_mem ha hm
      rw [hx, h0] at this
      exact (Option.some.inj this).symm
    rw [right_cutNm (by rw [this]; exact hk)]
    exact h n hm
  · exact h n hm
theorem Inv.make {S S' : Stt} {e : Eff} (h : Inv S) (hs : makeS S e = some S') (hp : e.page = 1 ∨ e.page = 2) (ho : okE ⟨e.name, e.ino⟩ = true) : Inv S' := by
  unfold makeS at hs
  split at hs
  · rename_i hc
    rw [Bool.and_eq_true, decide_eq_true_eq] at hc
    obtain ⟨hf, hl⟩ := hc
    obtain ⟨n0, a0, k0, f0⟩ := free_at hf
    have hS := Option.some.inj hs
    subst hS
    obtain ⟨_, o2, o3⟩ := okE_parts ho
    have o3' : e.ino ≤ 1048576 := o3
    have hD := h.toD
    have hlast : 1 ≤ S.last := by
      obtain ⟨r, r1, _⟩ := h.root
      have := h.last r (atS_mem r1)
      rw [atS_ino r1] at this
      exact this
    have hd : 1 ≤ e.dir ∧ e.dir ≤ 1048576 := by
      have := right_ino (h.right n0 (atS_mem a0))
      rw [atS_ino a0] at this
      exact ⟨this.1, this.2.1⟩
    have hA := hD.app (n := newNod e.ino e.page e.dir) (by show S.last < e.ino; omega) rfl (fun hk => by
      have hk' : e.page = 2 := hk
      show kindS S.l (newUp e.page e.dir) = 2
      unfold newUp
      rw [if_pos hk', kind_some a0]; exact k0)
    have hat0 : atS (S.l ++ [newNod e.ino e.page e.dir]) e.dir = some n0 := by rw [atS_app, a0]; rfl
    have hno : atS S.l e.ino = none := by
      cases hx : atS S.l e.ino with
      | none => rfl
      | some m =>
        have := h.last m (atS_mem hx)
        rw [atS_ino hx] at this
        omega
    have hat1 : atS (S.l ++ [newNod e.ino e.page e.dir]) e.ino = some (newNod e.ino e.page e.dir) := by rw [atS_app, hno]; show (if e.ino = e.ino then _ else _) = _; rw [if_pos rfl]
    have hE := hA.enter (d := e.dir) (s := e.name) (i := e.ino) hat0 k0 f0 ho hat1 (fun hk => by
      have hk' : e.page = 2 := hk
      refine ⟨by omega, ?_⟩
      show newUp e.page e.dir = e.dir
      unfold newUp; rw [if_pos hk'])
    have e0 := one_zero e.ino 1
    have hE' : InvD ⟨enterS (S.l ++ [newNod e.ino e.page e.dir]) e.dir e.name e.ino, e.ino⟩ (fun _ => 0) := by
      rw [← e0]; exact hE
    refine hE'.toInv (right_enter hA.asc (fun n hn => ?_) hat0 k0) o3'
    rcases List.mem_append.1 hn with hn | hn
    · exact h.right n hn
    · rw [List.mem_singleton.1 hn]
      exact right_new (by omega) o3' hp hd
  · cases hs
end Go.Proofs.YtbejbiogabpmfaaGreat
