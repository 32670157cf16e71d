import Derived.Test.YtbejbiogabpmfaaGreatG25

/-! What all states have: kept where a file gets one name more, where a name and what it names go, where a file is dropped. -/
namespace Go.Proofs.YtbejbiogabpmfaaGreat
open Wd Ino
set_option linter.unusedVariables false
theorem InvD.congr {S : Stt} {δ δ' : Int → Int} (h : InvD S δ) (hd : ∀ n ∈ S.l, δ n.ino = δ' n.ino) : InvD S δ' :=
  ⟨h.asc, h.rnm, h.last, h.root, h.there, h.dirs, fun n hn h1 => by rw [← hd n hn]; exact h.cnt n hn h1, h.reach⟩
theorem right_links {n : Nod} (h : rightNd n = true) (hk : n.kind = 1) {x : Int} (h0 : 0 ≤ x) (h1 : x ≤ 16) : rightNd { n with links := x } = true := by
  have hr := right_ino h
  unfold rightNd rightB at h ⊢
  have c1 : (inB n.ino 1 1048576 && inB n.links 0 16) = true := by
    simp only [inB, Bool.and_eq_true, decide_eq_true_eq]; omega
  have c2 : (inB n.ino 1 1048576 && inB x 0 16) = true := by
    simp only [inB, Bool.and_eq_true, decide_eq_true_eq]; omega
  rw [if_pos c1, if_pos hk] at h
  show (if (inB n.ino 1 1048576 && inB x 0 16) = true then _ else _) = true
  rw [if_pos c2]
  show (if n.kind = 1 then _ else _) = true
  rw [if_pos hk]
  exact h
theorem right_modS {l : List Nod} {i : Int} {f : Nod → Nod} {n0 : Nod} (ha : AscS l) (h : ∀ n ∈ l, rightNd n = true) (h0 : atS l i = some n0) (hf : rightNd (f n0) = true) : ∀ n ∈ modS l i f, rightNd n = true := fun a ha' => by
  obtain ⟨n, hm, rfl⟩ := mem_mod ha'
  split
  · rename_i hx
    have : n = n0 := by
      have := atS_of_mem ha hm
      rw [hx, h0] at this
      exact (Option.some.inj this).symm
    rw [this]; exact hf
  · exact h n hm
/-- the directory above has names -/
theorem Inv.above {S : Stt} (h : Inv S) {x : Int} {m : Nod} (hm : atS S.l x = some m) (hk : m.kind = 2) (hx : x ≠ 1) : ∃ d, atS S.l m.up = some d ∧ d.names ≠ [] ∧ d.kind = 2 := by
  have hmm := atS_mem hm
  have hc := h.cnt m hmm (by rw [atS_ino hm]; exact hx)
  rw [(right_dir (h.right m hmm) hk).2.2.1, atS_ino hm] at hc
  have hex : ∃ d, d ∈ S.l ∧ ∃ e, e ∈ d.names ∧ e.n = x := Classical.byContradiction fun hno => by
    have := none_cnt (l := S.l) (j := x) fun d hd e he hh => hno ⟨d, hd, e, he, hh⟩
    rw [this] at hc
    omega
  obtain ⟨d, hd, e, he, hn⟩ := hex
  obtain ⟨n, n1, n2⟩ := h.there d hd e he
  rw [hn, hm] at n1
  have hnm := Option.some.inj n1
  subst hnm
  have hu := (n2 hk).2
  have hne : d.names ≠ [] := fun h0 => by rw [h0] at he; cases he
  refine ⟨d, by rw [hu]; exact atS_of_mem h.asc hd, hne, h.toD.dirs d hd hne⟩
theorem Inv.link {S S' : Stt} {e : Eff} (h : Inv S) (hs : linkS S e = some S') (ho : okE ⟨e.name, e.ino⟩ = true) : Inv S' := by
  unfold linkS at hs
  split at hs
  · rename_i hc
    rw [Bool.and_eq_true, Bool.and_eq_true, Bool.and_eq_true, decide_eq_true_eq, decide_eq_true_eq, decide_eq_true_eq] at hc
    obtain ⟨hf, hk, hl1, hl2⟩ := hc
    obtain ⟨n0, a0, k0, f0⟩ := free_at hf
    obtain ⟨m, m1, m2⟩ := at_of_kind (l := S.l) (i := e.ino) (by rw [hk]; decide)
    rw [kind_some m1] at hk
    rw [m2] at hl1 hl2
    have hS := Option.some.inj hs
    subst hS
    have hne : e.dir ≠ e.ino := fun hh => by
      rw [hh, m1] at a0
      have := Option.some.inj a0
      rw [← this] at k0
      omega
    have fi : ∀ n : Nod, (moreLk n).ino = n.ino := fun _ => rfl
    have hA := h.toD.links_ e.ino 1 (f := moreLk) (fun _ => rfl) (fun _ => rfl) (fun _ => rfl) (fun _ => rfl) (fun _ => rfl)
    have hat0 : atS (modS S.l e.ino moreLk) e.dir = some n0 := by rw [atS_mod fi, a0]; simp [hne]
    have hat1 : atS (modS S.l e.ino moreLk) e.ino = some (moreLk m) := by rw [atS_mod fi, m1]; simp
    have hE := hA.enter (d := e.dir) (s := e.name) (i := e.ino) hat0 k0 f0 ho hat1 (fun hk2 => by
      have : m.kind = 2 := hk2
      omega)
    have hE' : InvD ⟨enterS (modS S.l e.ino moreLk) e.dir e.name e.ino, S.last⟩ (fun _ => 0) := by
      rw [← one_zero' e.ino 1]; exact hE
    refine hE'.toInv (right_enter hA.asc (right_modS h.asc h.right m1 (right_links (h.right m (atS_mem m1)) hk (by omega) (by omega))) hat0 k0) h.most
  · cases hs
theorem Inv.forget {S : Stt} (h : Inv S) {d i : Int} {s : ByteArray} {n0 m : Nod} (a0 : atS S.l d = some n0) (hs : hasN s n0.names = true) (hi : inoN s n0.names = i) (m1 : atS S.l i = some m) (hm : m.names = []) (hi1 : i ≠ 1) : Inv ⟨forgetS S.l d s i, S.last⟩ := by
  have hne : i ≠ d := fun hh => by
    rw [hh, a0] at m1
    have := Option.some.inj m1
    rw [← this] at hm
    rw [hm] at hs
    exact absurd hs (show ¬ (false = true) from Bool.false_ne_true)
  have k0 : n0.kind = 2 := h.toD.dirs n0 (atS_mem a0) (fun hh => by rw [hh] at hs; exact absurd hs (show ¬ (false = true) from Bool.false_ne_true))
  have fi : ∀ n : Nod, (cutNm s n).ino = n.ino := fun _ => rfl
  have hL := h.toD.leave a0 hs
  rw [hi] at hL
  have hatm : atS (leaveS S.l d s) i = some m := by
    show atS (modS S.l d (cutNm s)) i = _
    rw [atS_mod fi, m1]; simp [hne]
  have hrL := right_leave (s := s) h.asc h.right a0 k0
  have hmm := atS_mem m1
  have hcm := hL.cnt m (atS_mem hatm) (by rw [atS_ino m1]; exact hi1)
  have hcm' : (cntS (leaveS S.l d s) i : Int) + (0 + one i 1 i) = m.links := by rw [atS_ino m1] at hcm; exact hcm
  have h1 : one i 1 i = 1 := by unfold one; rw [if_pos rfl]
  rw [h1] at hcm'
  unfold forgetS
  rw [kind_some hatm]
  split
  · rename_i hk
    rw [(right_dir (h.right m hmm) hk).2.2.1] at hcm'
    have hR := hL.rm hatm hi1 hm (by show cntS (leaveS S.l d s) i = 0; omega) (fun x m2 hx hk2 hx1 hu => by
      have hx' : atS (modS S.l d (cutNm s)) x = some m2 := hx
      rw [atS_mod fi] at hx'
      cases hy : atS S.l x with
      | none => rw [hy] at hx'; cases hx'
      | some m3 =>
        rw [hy] at hx'
        have e3 : (if x = d then cutNm s m3 else m3) = m2 := Option.some.inj hx'
        have ek : m3.kind = 2 := by rw [← hk2, ← e3]; split <;> rfl
        have eu : m3.up = i := by rw [← hu, ← e3]; split <;> rfl
        obtain ⟨d', d1, d2, _⟩ := h.above hy ek hx1
        rw [eu, m1] at d1
        have := Option.some.inj d1
        rw [← this] at d2
        exact d2 hm)
    refine (hR.congr (δ' := fun _ => 0) (fun n hn => ?_)).toInv (fun n hn => ?_) h.most
    · have hn' : n ∈ rmS (leaveS S.l d s) i := hn
      unfold rmS at hn'
      have hni : n.ino ≠ i := by simpa using (List.mem_filter.1 hn').2
      show 0 + one i 1 n.ino = 0
      unfold one; rw [if_neg hni]; rfl
    · have hn' : n ∈ rmS (leaveS S.l d s) i := hn
      unfold rmS at hn'
      exact hrL n (List.mem_filter.1 hn').1
  · rename_i hk
    have hk1 : m.kind = 1 := by
      rcases (right_ino (h.right m hmm)).2.2.2.2 with k | k
      · exact k
      · exact absurd k hk
    have hR := hL.links_ i (-1) (f := lessLk) (fun _ => rfl) (fun _ => rfl) (fun _ => rfl) (fun _ => rfl) (fun _ => rfl)
    have hR' : InvD ⟨modS (leaveS S.l d s) i lessLk, S.last⟩ (fun _ => 0) := by
      rw [← one_zero' i 1]; exact hR
    have hlk := right_ino (h.right m hmm)
    exact hR'.toInv (right_modS hL.asc hrL hatm (right_links (h.right m hmm) hk1 (by omega) (by omega))) h.most
theorem Inv.remove {S S' : Stt} {e : Eff} {k : Int} (h : Inv S) (hs : removeS S e k = some S') (hk : k ≠ 0) : Inv S' := by
  unfold removeS at hs
  split at hs
  · rename_i hc
    rw [Bool.and_eq_true] at hc
    obtain ⟨n0, a, b, c⟩ := has_at hc.1
    obtain ⟨m, m1, _, m3, m4⟩ := loose_at hk hc.2
    have hS := Option.some.inj hs
    subst hS
    exact h.forget a b c m1 m3 m4
  · cases hs
theorem Inv.drop {S S' : Stt} {e : Eff} {r : List Int} (h : Inv S) (hs : dropS S e = some (S', r)) : Inv S' := by
  unfold dropS at hs
  split at hs
  · rename_i hc
    obtain ⟨hk, hl⟩ := hc
    obtain ⟨m, m1, m2⟩ := at_of_kind (l := S.l) (i := e.ino) (by rw [hk]; decide)
    rw [kind_some m1] at hk
    rw [m2] at hl
    have hS := (Prod.mk.inj (Option.some.inj hs)).1
    subst hS
    have hi1 : e.ino ≠ 1 := fun hh => by
      obtain ⟨r0, r1, r2⟩ := h.root
      rw [hh, r1] at m1
      have := Option.some.inj m1
      rw [← this] at hk
      omega
    have hmm := atS_mem m1
    have hc := h.cnt m hmm (by rw [atS_ino m1]; exact hi1)
    rw [atS_ino m1, hl] at hc
    have hR := h.toD.rm m1 hi1 (right_file (h.right m hmm) hk).2.1 (by omega) (fun x m3 hx hk3 hx1 hu => by
      obtain ⟨d, d1, _, d3⟩ := h.above hx hk3 hx1
      rw [hu, m1] at d1
      have := Option.some.inj d1
      rw [← this] at d3
      omega)
    refine hR.toInv (fun n hn => ?_) h.most
    have hn' : n ∈ rmS S.l e.ino := hn
    unfold rmS at hn'
    exact h.right n (List.mem_filter.1 hn').1
  · cases hs
end Go.Proofs.YtbejbiogabpmfaaGreat

/-! What all states have: kept where a name moves to a place where nothing has it. -/
namespace Go.Proofs.YtbejbiogabpmfaaGreat
open Wd Ino
set_option linter.unusedVariables false
theorem mod_comm {l : List Nod} {i d : Int} {f g : Nod → Nod} (hf : ∀ n, (f n).ino = n.ino) (hg : ∀ n, (g n).ino = n.ino) (hfg : ∀ n, f (g n) = g (f n)) : modS (modS l d f) i g = modS (modS l i g) d f := by
  have e1 : ∀ n : Nod, (if n.ino = d then f n else n).ino = n.ino := by intro n; split; exact hf n; rfl
  have e2 : ∀ n : Nod, (if n.ino = i then g n else n).ino = n.ino := by intro n; split; exact hg n; rfl
  unfold modS
  rw [List.map_map, List.map_map]
  apply List.map_congr_left
  intro n _
  show (if (if n.ino = d then f n else n).ino = i then g (if n.ino = d then f n else n) else (if n.ino = d then f n else n)) = (if (if n.ino = i then g n else n).ino = d then f (if n.ino = i then g n else n) else (if n.ino = i then g n else n))
  rw [e1, e2]
  by_cases h1 : n.ino = d
  · by_cases h2 : n.ino = i
    · simp only [if_pos h1, if_pos h2, hfg]
    · simp only [if_pos h1, if_neg h2]
  · by_cases h2 : n.ino = i
    · simp only [if_neg h1, if_pos h2]
    · simp only [if_neg h1, if_neg h2]
theorem way_same {l l' : List Nod} (hk : ∀ x, kindS l' x = kindS l x) (hu : ∀ x, upS l' x = upS l x) : ∀ (n : Nat) (x i : Int), wayB l' n x i = wayB l n x i
  | 0, _, _ => rfl
  | n + 1, x, i => by unfold wayB; rw [hk, hu, way_same hk hu n]
theorem right_setUp {n : Nod} (h : rightNd n = true) (hk : n.kind = 2) (h1 : n.ino ≠ 1) {u : Int} (hu : 1 ≤ u ∧ u ≤ 1048576) : rightNd (Go.Proofs.YtbejbiogabpmfaaGreat.setUp u n) = true := by
  have hd := right_dir h hk
  have hr := right_ino h
  unfold rightNd rightB
  show (if (inB n.ino 1 1048576 && inB n.links 0 16) = true then (if n.kind = 1 then _ else if n.kind = 2 then dirB n.ino n.links n.size u n.pages.length else false) else false) = true
  rw [if_pos (by simp only [inB, Bool.and_eq_true, decide_eq_true_eq]; omega), if_neg (by omega), if_pos hk]
  unfold dirB upB
  rw [if_neg h1, hd.1, hd.2.1, hd.2.2.1]
  simp only [inB, Bool.and_eq_true, decide_eq_true_eq]
  exact ⟨by decide, hu⟩
theorem Inv.move {S : Stt} {e : Eff} (h : Inv S) (hh : hasS S.l e.dir e.name e.ino = true) (hd : kindS S.l e.dst = 2) {N : Nat} (hw : kindS S.l e.ino = 2 → wayB S.l N e.dst e.ino = false) (hN : S.l.length ≤ N)
    (hn : hasN e.other (namesS S.l e.dst) = false) (ho : okE ⟨e.other, e.ino⟩ = true) : Inv ⟨moveS S.l e, S.last⟩ := by
  obtain ⟨n0, a0, b0, c0⟩ := has_at hh
  obtain ⟨nd, d1, d2⟩ := at_of_kind (l := S.l) (i := e.dst) (by rw [hd]; decide)
  have hkd : nd.kind = 2 := by rw [← kind_some d1]; exact hd
  have hnd : hasN e.other nd.names = false := by unfold namesS at hn; rwa [d2] at hn
  have k0 : n0.kind = 2 := h.toD.dirs n0 (atS_mem a0) (fun hx => by rw [hx] at b0; exact absurd b0 (show ¬ (false = true) from Bool.false_ne_true))
  obtain ⟨en, en1, _, en3⟩ := has_mem b0
  rw [c0] at en3
  obtain ⟨m, m1, m2⟩ := h.there n0 (atS_mem a0) en en1
  rw [en3] at m1 m2
  have fi : ∀ n : Nod, (cutNm e.name n).ino = n.ino := fun _ => rfl
  have fk : ∀ n : Nod, (cutNm e.name n).kind = n.kind := fun _ => rfl
  have fu : ∀ n : Nod, (cutNm e.name n).up = n.up := fun _ => rfl
  have hL := h.toD.leave a0 b0
  rw [c0] at hL
  have hrL := right_leave (s := e.name) h.asc h.right a0 k0
  have hatm : ∃ m', atS (leaveS S.l e.dir e.name) e.ino = some m' ∧ m'.kind = m.kind ∧ m'.links = m.links := by
    refine ⟨if e.ino = e.dir then cutNm e.name m else m, by show atS (modS S.l e.dir (cutNm e.name)) e.ino = _; rw [atS_mod fi, m1]; rfl, ?_, ?_⟩ <;> split <;> rfl
  have hatd : ∃ n', atS (leaveS S.l e.dir e.name) e.dst = some n' ∧ n'.kind = 2 ∧ hasN e.other n'.names = false := by
    refine ⟨if e.dst = e.dir then cutNm e.name nd else nd, by show atS (modS S.l e.dir (cutNm e.name)) e.dst = _; rw [atS_mod fi, d1]; rfl, ?_, ?_⟩
    · split <;> exact hkd
    · split
      · exact has_drop hnd
      · exact hnd
  obtain ⟨m', p1, p2, p3⟩ := hatm
  obtain ⟨n', q1, q2, q3⟩ := hatd
  unfold moveS
  show Inv ⟨if kindS S.l e.ino = 2 then modS (enterS (leaveS S.l e.dir e.name) e.dst e.other e.ino) e.ino (Go.Proofs.YtbejbiogabpmfaaGreat.setUp e.dst) else enterS (leaveS S.l e.dir e.name) e.dst e.other e.ino, S.last⟩
  rw [kind_some m1]
  split
  · rename_i hk
    have hmk := m2 hk
    have hmm := atS_mem m1
    have hcm := hL.cnt m' (atS_mem p1) (by rw [atS_ino p1]; exact hmk.1)
    have hcm' : (cntS (leaveS S.l e.dir e.name) e.ino : Int) + (0 + one e.ino 1 e.ino) = m'.links := by rw [atS_ino p1] at hcm; exact hcm
    have h1 : one e.ino 1 e.ino = 1 := by unfold one; rw [if_pos rfl]
    rw [h1, p3, (right_dir (h.right m hmm) hk).2.2.1] at hcm'
    obtain ⟨k, k1, k2⟩ := h.way e.dst hd
    have hU := hL.setUp (d := e.dst) (N := N) p1 hmk.1 (by rw [p2]; exact hk) (by show cntS (leaveS S.l e.dir e.name) e.ino = 0; omega)
      (by show kindS (modS S.l e.dir (cutNm e.name)) e.dst = 2; rw [kind_mod fi fk]; exact hd)
      (by
        show wayB (modS S.l e.dir (cutNm e.name)) N e.dst e.ino = false
        rw [way_same (kind_mod fi fk) (up_mod fi fu)]
        exact hw (by rw [kind_some m1]; exact hk))
      ⟨k, by omega, Rch.mono (fun x hx => ⟨by show kindS (modS S.l e.dir (cutNm e.name)) x = 2; rw [kind_mod fi fk]; exact hx, up_mod fi fu x⟩) k2⟩
    have gi : ∀ n : Nod, (Go.Proofs.YtbejbiogabpmfaaGreat.setUp e.dst n).ino = n.ino := fun _ => rfl
    have hE := hU.enter (d := e.dst) (s := e.other) (i := e.ino) (n0 := if e.dst = e.ino then Go.Proofs.YtbejbiogabpmfaaGreat.setUp e.dst n' else n') (n1 := Go.Proofs.YtbejbiogabpmfaaGreat.setUp e.dst m')
      (by show atS (modS (leaveS S.l e.dir e.name) e.ino _) e.dst = _; rw [atS_mod gi, q1]; rfl) (by split <;> exact q2) (by split <;> exact q3) ho
      (by show atS (modS (leaveS S.l e.dir e.name) e.ino _) e.ino = _; rw [atS_mod gi, p1]; simp) (fun _ => ⟨hmk.1, rfl⟩)
    have hcomm : modS (enterS (leaveS S.l e.dir e.name) e.dst e.other e.ino) e.ino (Go.Proofs.YtbejbiogabpmfaaGreat.setUp e.dst) = enterS (modS (leaveS S.l e.dir e.name) e.ino (Go.Proofs.YtbejbiogabpmfaaGreat.setUp e.dst)) e.dst e.other e.ino :=
      mod_comm (fun _ => rfl) (fun _ => rfl) (fun _ => rfl)
    rw [hcomm]
    have hE' : InvD ⟨enterS (modS (leaveS S.l e.dir e.name) e.ino (Go.Proofs.YtbejbiogabpmfaaGreat.setUp e.dst)) e.dst e.other e.ino, S.last⟩ (fun _ => 0) := by
      rw [← one_zero' e.ino 1]; exact hE
    have hdr := right_ino (h.right nd (atS_mem d1))
    rw [atS_ino d1] at hdr
    have hrU := right_modS hL.asc hrL p1 (f := Go.Proofs.YtbejbiogabpmfaaGreat.setUp e.dst) (right_setUp (hrL m' (atS_mem p1)) (by rw [p2]; exact hk) (by rw [atS_ino p1]; exact hmk.1) ⟨hdr.1, hdr.2.1⟩)
    exact hE'.toInv (right_enter (d := e.dst) (n0 := if e.dst = e.ino then Go.Proofs.YtbejbiogabpmfaaGreat.setUp e.dst n' else n') hU.asc hrU (by show atS (modS (leaveS S.l e.dir e.name) e.ino _) e.dst = _; rw [atS_mod gi, q1]; rfl) (by split <;> exact q2)) h.most
  · rename_i hk
    have hE := hL.enter (d := e.dst) (s := e.other) (i := e.ino) q1 q2 q3 ho p1 (fun hk2 => absurd (p2.symm.trans hk2) hk)
    have hE' : InvD ⟨enterS (leaveS S.l e.dir e.name) e.dst e.other e.ino, S.last⟩ (fun _ => 0) := by
      rw [← one_zero' e.ino 1]; exact hE
    exact hE'.toInv (right_enter hL.asc hrL q1 q2) h.most
end Go.Proofs.YtbejbiogabpmfaaGreat

/-! What all states have: kept by a rename. -/
namespace Go.Proofs.YtbejbiogabpmfaaGreat
open Wd Ino
set_option linter.unusedVariables false
theorem drop_other {s u : ByteArray} {l : List Ent} (hr : RightN l) (h : hasN s l = true) (hne : inoN s l ≠ inoN u l) : hasN s (dropN u l) = true ∧ inoN s (dropN u l) = inoN s l := by
  obtain ⟨e, e1, e2, e3⟩ := has_mem h
  have hn : nameIs u e = false := by
    cases hc : nameIs u e with
    | false => rfl
    | true =>
      have hu := nameIs_iff.1 hc
      have := (hr.ino e1).2
      rw [hu, e3] at this
      exact absurd this.symm hne
  have hm : e ∈ dropN u l := List.mem_filter.2 ⟨e1, by rw [hn]; rfl⟩
  have := (hr.dropN u).ino hm
  rw [e2, e3] at this
  exact this
theorem forget_map {l : List Nod} {d y x : Int} {s : ByteArray} (hx : x ≠ y) : atS (forgetS l d s y) x = (atS l x).map (fun n => if x = d then cutNm s n else n) := by
  have fi : ∀ n : Nod, (cutNm s n).ino = n.ino := fun _ => rfl
  have gi : ∀ n : Nod, (lessLk n).ino = n.ino := fun _ => rfl
  unfold forgetS
  split
  · rw [atS_rm, if_neg hx]
    exact atS_mod fi x
  · rw [atS_mod gi]
    show (atS (modS l d (cutNm s)) x).map _ = _
    rw [atS_mod fi]
    cases atS l x with
    | none => rfl
    | some n => show some (if x = y then _ else _) = some _; rw [if_neg hx]
theorem forget_kind {l : List Nod} {d y x : Int} {s : ByteArray} (hx : x ≠ y) : kindS (forgetS l d s y) x = kindS l x := by
  unfold kindS getS
  rw [forget_map hx]
  cases atS l x with
  | none => rfl
  | some n => show (if x = d then cutNm s n else n).kind = n.kind; split <;> rfl
theorem forget_up {l : List Nod} {d y x : Int} {s : ByteArray} (hx : x ≠ y) : upS (forgetS l d s y) x = upS l x := by
  unfold upS getS
  rw [forget_map hx]
  cases atS l x with
  | none => rfl
  | some n => show (if x = d then cutNm s n else n).up = n.up; split <;> rfl
theorem Inv.way_forget {S : Stt} (h : Inv S) {d y : Int} {s : ByteArray} {m : Nod} (hm : atS S.l y = some m) (hn : m.names = []) : ∀ (n : Nat) (x i : Int), x ≠ y → wayB (forgetS S.l d s y) n x i = wayB S.l n x i
  | 0, _, _, _ => rfl
  | n + 1, x, i, hx => by
    unfold wayB
    rw [forget_kind hx]
    by_cases hi : x = i
    · rw [if_pos hi, if_pos hi]
    · rw [if_neg hi, if_neg hi]
      by_cases hc : x = 1 ∨ kindS S.l x ≠ 2
      · rw [if_pos hc, if_pos hc]
      · rw [if_neg hc, if_neg hc, forget_up hx]
        have hx1 : x ≠ 1 := fun e => hc (.inl e)
        have hk : kindS S.l x = 2 := Classical.byContradiction fun e => hc (.inr e)
        obtain ⟨mx, x1, x2⟩ := at_of_kind (l := S.l) (i := x) (by rw [hk]; decide)
        rw [kind_some x1] at hk
        have hu : upS S.l x = mx.up := by unfold upS; rw [x2]
        refine Inv.way_forget h hm hn n _ i (fun e => ?_)
        rw [hu] at e
        obtain ⟨d', d1, d2, _⟩ := h.above x1 hk hx1
        rw [e, hm] at d1
        have := Option.some.inj d1
        rw [← this] at d2
        exact d2 hn
theorem forget_len (l : List Nod) (d y : Int) (s : ByteArray) : (forgetS l d s y).length ≤ l.length := by
  have e1 : (leaveS l d s).length = l.length := List.length_map ..
  unfold forgetS
  split
  · exact Nat.le_trans (List.length_filter_le _ _) (Nat.le_of_eq e1)
  · show (List.map _ _).length ≤ _
    rw [List.length_map, e1]
    exact Nat.le_refl _
theorem Inv.rename {S S' : Stt} {e : Eff} (h : Inv S) (hs : renameS S e = some S') (ho : okE ⟨e.other, e.ino⟩ = true) : Inv S' := by
  unfold renameS at hs
  split at hs
  · rename_i hc
    rw [Bool.and_eq_true, Bool.and_eq_true, decide_eq_true_eq, Bool.not_eq_true'] at hc
    obtain ⟨hh, hd, hw⟩ := hc
    have hw' : kindS S.l e.ino = 2 → wayB S.l S.l.length e.dst e.ino = false := fun hk => by
      rw [show decide (kindS S.l e.ino = 2) = true from decide_eq_true hk, Bool.true_and] at hw
      exact hw
    obtain ⟨nd, d1, d2⟩ := at_of_kind (l := S.l) (i := e.dst) (by rw [hd]; decide)
    have hns : namesS S.l e.dst = nd.names := by unfold namesS; rw [d2]
    split at hs
    · rename_i hn
      split at hs
      · rename_i hy
        rw [Bool.and_eq_true, Bool.not_eq_true', decide_eq_false_iff_not] at hy
        rw [hns] at hn hy hs
        obtain ⟨n0, a0, b0, c0⟩ := has_at hh
        obtain ⟨en, en1, _, en3⟩ := has_mem b0
        rw [c0] at en3
        obtain ⟨m, m1, _⟩ := h.there n0 (atS_mem a0) en en1
        rw [en3] at m1
        have hmk := (right_ino (h.right m (atS_mem m1))).2.2.2.2
        obtain ⟨my, y1, _, y3, y4⟩ := loose_at (by rw [kind_some m1]; omega) hy.2
        have hS := Option.some.inj hs
        subst hS
        have hF := h.forget d1 hn rfl y1 y3 y4
        have hempty : ∀ (u : ByteArray) {x : Int} {nx : Nod}, atS S.l x = some nx → hasN u nx.names = true → x ≠ inoN e.other nd.names := fun u x nx hx hu e => by
          rw [e, y1] at hx
          have := Option.some.inj hx
          rw [← this, y3] at hu
          exact absurd hu (show ¬ (false = true) from Bool.false_ne_true)
        have hdy := hempty _ a0 b0
        have hsty := hempty _ d1 hn
        refine hF.move (e := e) (N := S.l.length) ?_ ?_ (fun hk => ?_) (forget_len _ _ _ _) ?_ ho
        · show hasS (forgetS S.l e.dst e.other (inoN e.other nd.names)) e.dir e.name e.ino = true
          have key : namesS (forgetS S.l e.dst e.other (inoN e.other nd.names)) e.dir = if e.dir = e.dst then dropN e.other n0.names else n0.names := by
            unfold namesS getS
            rw [forget_map hdy, a0]
            show (if e.dir = e.dst then cutNm e.other n0 else n0).names = _
            split <;> rfl
          unfold hasS
          rw [key, Bool.and_eq_true, decide_eq_true_eq]
          split
          · rename_i hx
            rw [hx, d1] at a0
            have hnn := Option.some.inj a0
            subst hnn
            have := drop_other (u := e.other) (h.names nd (atS_mem d1)) b0 (by rw [c0]; exact fun e => hy.1 e.symm)
            exact ⟨this.1, this.2.trans c0⟩
          · exact ⟨b0, c0⟩
        · exact (forget_kind hsty).trans hd
        · have hk' : kindS S.l e.ino = 2 := (forget_kind (fun e => hy.1 e.symm)).symm.trans hk
          exact (h.way_forget y1 y3 _ _ _ hsty).trans (hw' hk')
        · show hasN e.other (namesS (forgetS S.l e.dst e.other (inoN e.other nd.names)) e.dst) = false
          have key : namesS (forgetS S.l e.dst e.other (inoN e.other nd.names)) e.dst = dropN e.other nd.names := by
            unfold namesS getS
            rw [forget_map hsty, d1]
            show (if e.dst = e.dst then cutNm e.other nd else nd).names = _
            rw [if_pos rfl]; rfl
          rw [key]
          exact has_dropN _ _
      · cases hs
    · rename_i hn
      have hS := Option.some.inj hs
      subst hS
      exact h.move hh hd hw' (Nat.le_refl _) (by cases hx : hasN e.other (namesS S.l e.dst) with
        | false => rfl
        | true => exact absurd hx hn) ho
  · cases hs
end Go.Proofs.YtbejbiogabpmfaaGreat

/-! What all states have is kept by every effect. -/
namespace Go.Proofs.YtbejbiogabpmfaaGreat
open Wd Ino
set_option linter.unusedVariables false
theorem ok_of {s : ByteArray} {i : Int} (hs : nmB s = true) (hi : ndB i = true) : okE ⟨s, i⟩ = true := by
  unfold nmB at hs
  unfold ndB at hi
  unfold okE
  rw [Bool.and_eq_true, Bool.and_eq_true]
  have h1 := of_decide_eq_true hi
  exact ⟨hs, decide_eq_true h1.1, decide_eq_true h1.2⟩
theorem bare_some {o : Option Stt} {x : Stt × List Int} (h : bareS o = some x) : o = some x.1 := by
  cases o with
  | none => cases h
  | some S => rw [← Option.some.inj h]
theorem Inv.step {S : Stt} (h : Inv S) {e : Eff} {ref : Int} {x : Stt × List Int} (hc : e.check = true) (hs : stepS S e ref = some x) : Inv x.1 := by
  unfold Eff.check at hc
  rw [Bool.and_eq_true] at hc
  obtain ⟨hm, hi⟩ := hc
  unfold Eff.mayBe at hm
  unfold stepS at hs
  by_cases k1 : e.kind = 1
  · rw [if_pos k1] at hs hm
    unfold Eff.place at hm
    simp only [Bool.and_eq_true, Bool.or_eq_true, decide_eq_true_eq] at hm
    exact h.make (bare_some hs) hm.1.2 (ok_of hm.1.1.1.1.2 hi)
  · rw [if_neg k1] at hs hm
    by_cases k234 : e.kind = 2 ∨ e.kind = 3 ∨ e.kind = 4
    · rw [if_pos k234] at hm
      unfold Eff.place at hm
      simp only [Bool.and_eq_true, decide_eq_true_eq] at hm
      have ho := ok_of hm.1.1.1.1.2 hi
      by_cases k2 : e.kind = 2
      · rw [if_pos k2] at hs
        exact h.link (bare_some hs) ho
      · rw [if_neg k2] at hs
        by_cases k3 : e.kind = 3
        · rw [if_pos k3] at hs
          exact h.remove (bare_some hs) (by decide)
        · rw [if_neg k3, if_pos (by omega)] at hs
          exact h.remove (bare_some hs) (by decide)
    · rw [if_neg k234] at hm
      rw [if_neg (fun k => k234 (.inl k)), if_neg (fun k => k234 (.inr (.inl k))), if_neg (fun k => k234 (.inr (.inr k)))] at hs
      by_cases k5 : e.kind = 5
      · rw [if_pos k5] at hs hm
        simp only [Bool.and_eq_true, decide_eq_true_eq] at hm
        exact h.rename (bare_some hs) (ok_of hm.1.1.1.2 hi)
      · rw [if_neg k5] at hs hm
        by_cases k6 : e.kind = 6
        · rw [if_pos k6] at hs hm
          simp only [Bool.and_eq_true, decide_eq_true_eq] at hm
          exact h.trunc (S' := x.1) (r := x.2) hs (by simp only [inB, Bool.and_eq_true, decide_eq_true_eq]; exact ⟨hm.1.2, hm.2⟩)
        · rw [if_neg k6] at hs hm
          by_cases k7 : e.kind = 7
          · rw [if_pos k7] at hs hm
            simp only [Bool.and_eq_true, decide_eq_true_eq] at hm
            refine h.write (S' := x.1) (r := x.2) hs ?_
            unfold putOk
            simp only [inB, Bool.and_eq_true, decide_eq_true_eq]
            have h1 := hm.1.1.1.2
            have h2 := hm.1.1.2
            have h3 := hm.1.2
            have h4 := hm.2
            refine ⟨h3, h1, ?_⟩
            unfold needP
            try split
            all_goals omega
          · rw [if_neg k7] at hs hm
            by_cases k8 : e.kind = 8
            · rw [if_pos k8] at hs
              exact h.drop (S' := x.1) (r := x.2) hs
            · rw [if_neg k8] at hs; cases hs
theorem Inv.next {S : Stt} (h : Inv S) (e : Eff) (ref : Int) : Inv (nextS S e ref) := by
  unfold nextS
  split
  · rename_i hc
    cases hs : stepS S e ref with
    | none => exact h
    | some x => exact h.step hc hs
  · exact h
end Go.Proofs.YtbejbiogabpmfaaGreat

/-! How much an effect adds: a node at most, and a name in each. -/
namespace Go.Proofs.YtbejbiogabpmfaaGreat
open Wd Ino
set_option linter.unusedVariables false
structure Nm (m k : Nat) (l : List Nod) : Prop where
  len : l.length ≤ m
  nm : ∀ n ∈ l, n.names.length ≤ k
  pg : ∀ n ∈ l, ∀ x ∈ n.pages, i64R x
theorem Nm.mono {m k m' k' : Nat} {l : List Nod} (h : Nm m k l) (hm : m ≤ m') (hk : k ≤ k') : Nm m' k' l :=
  ⟨Nat.le_trans h.len hm, fun n hn => Nat.le_trans (h.nm n hn) hk, h.pg⟩
theorem Nm.mod {m k k' : Nat} {l : List Nod} (h : Nm m k l) (hk : k ≤ k') (i : Int) {f : Nod → Nod} (h1 : ∀ n ∈ l, (f n).names.length ≤ k') (h2 : ∀ n ∈ l, ∀ x ∈ (f n).pages, i64R x) : Nm m k' (modS l i f) := by
  refine ⟨by unfold modS; rw [List.length_map]; exact h.len, fun a ha => ?_, fun a ha => ?_⟩
  · obtain ⟨n, hn, rfl⟩ := mem_mod ha
    split
    · exact h1 n hn
    · exact Nat.le_trans (h.nm n hn) hk
  · obtain ⟨n, hn, rfl⟩ := mem_mod ha
    split
    · exact h2 n hn
    · exact h.pg n hn
theorem Nm.rm {m k : Nat} {l : List Nod} (h : Nm m k l) (i : Int) : Nm m k (rmS l i) := by
  unfold rmS
  exact ⟨Nat.le_trans (List.length_filter_le _ _) h.len, fun n hn => h.nm n (List.mem_filter.1 hn).1, fun n hn => h.pg n (List.mem_filter.1 hn).1⟩
theorem Nm.enter {m k : Nat} {l : List Nod} (h : Nm m k l) (d i : Int) (s : ByteArray) : Nm m (k + 1) (enterS l d s i) :=
  h.mod (Nat.le_succ k) d (f := putNm s i) (fun n hn => by
    show (putNm.putR' s i n.names).length ≤ k + 1
    have := h.nm n hn
    unfold putNm.putR'
    split
    · omega
    · rw [putN_len]; omega) (fun n hn => h.pg n hn)
theorem Nm.leave {m k : Nat} {l : List Nod} (h : Nm m k l) (d : Int) (s : ByteArray) : Nm m k (leaveS l d s) :=
  h.mod (Nat.le_refl k) d (f := cutNm s) (fun n hn => Nat.le_trans (dropN_len s n.names) (h.nm n hn)) (fun n hn => h.pg n hn)
theorem Nm.soft {m k : Nat} {l : List Nod} (h : Nm m k l) (i : Int) {f : Nod → Nod} (h1 : ∀ n, (f n).names = n.names) (h2 : ∀ n, (f n).pages = n.pages) : Nm m k (modS l i f) :=
  h.mod (Nat.le_refl k) i (fun n hn => by rw [h1]; exact h.nm n hn) (fun n hn => by rw [h2]; exact h.pg n hn)
theorem Nm.forget {m k : Nat} {l : List Nod} (h : Nm m k l) (d i : Int) (s : ByteArray) : Nm m k (forgetS l d s i) := by
  unfold forgetS
  split
  · exact (h.leave d s).rm i
  · exact (h.leave d s).soft i (fun _ => rfl) (fun _ => rfl)
theorem Nm.move {m k : Nat} {l : List Nod} (h : Nm m k l) (e : Eff) : Nm m (k + 1) (moveS l e) := by
  have h1 := (h.leave e.dir e.name).enter e.dst e.ino e.other
  unfold moveS
  show Nm m (k + 1) (if kindS l e.ino = 2 then _ else _)
  split
  · exact h1.soft e.ino (fun _ => rfl) (fun _ => rfl)
  · exact h1
theorem zero_R : i64R 0 := by unfold i64R; omega
theorem fit_R {l : List Int} (h : ∀ x ∈ l, i64R x) (K : Nat) : ∀ x ∈ fitP l K, i64R x := fun x hx => by
  unfold fitP at hx
  rcases List.mem_append.1 hx with hx | hx
  · exact h x (List.mem_of_mem_take hx)
  · rw [(List.mem_replicate.1 hx).2]; exact zero_R
theorem put_R {l : List Int} (h : ∀ x ∈ l, i64R x) {ref : Int} (hr : i64R ref) (i size : Int) : ∀ x ∈ putP l i ref size, i64R x := fun x hx => by
  unfold putP at hx
  rcases List.mem_or_eq_of_mem_set hx with hx | rfl
  · exact fit_R h _ x hx
  · exact hr
theorem Num.toNm {k : Nat} {S : Stt} (h : Num k S) : Nm (k + 1) k S.l := ⟨h.len, h.nm, h.pg⟩
theorem Nm.toNum {k : Nat} {S : Stt} (h : Nm (k + 1) k S.l) : Num k S := ⟨h.len, h.nm, h.pg⟩
theorem Num.step {k : Nat} {S : Stt} (h : Num k S) {e : Eff} {ref : Int} (hr : i64R ref) {x : Stt × List Int} (hs : stepS S e ref = some x) : Num (k + 1) x.1 := by
  have hn := h.toNm
  refine Nm.toNum ?_
  unfold stepS at hs
  split at hs
  · have h1 := bare_some hs
    unfold makeS at h1
    split at h1
    · rw [← Option.some.inj h1]
      refine Nm.enter (k := k) ⟨by rw [List.length_append]; have := hn.len; show S.l.length + 1 ≤ _; omega, fun n hm => ?_, fun n hm => ?_⟩ _ _ _
      · rcases List.mem_append.1 hm with hm | hm
        · exact hn.nm n hm
        · rw [List.mem_singleton.1 hm]; exact Nat.zero_le _
      · rcases List.mem_append.1 hm with hm | hm
        · exact hn.pg n hm
        · rw [List.mem_singleton.1 hm]; intro x hx; cases hx
    · cases h1
  · split at hs
    · have h1 := bare_some hs
      unfold linkS at h1
      split at h1
      · rw [← Option.some.inj h1]
        exact ((hn.soft e.ino (f := moreLk) (fun _ => rfl) (fun _ => rfl)).enter _ _ _).mono (by omega) (by omega)
      · cases h1
    · have rmv : ∀ j, removeS S e j = some x.1 → Nm (k + 1 + 1) (k + 1) x.1.l := fun j h1 => by
        unfold removeS at h1
        split at h1
        · rw [← Option.some.inj h1]
          exact (hn.forget _ _ _).mono (by omega) (by omega)
        · cases h1
      split at hs
      · exact rmv _ (bare_some hs)
      · split at hs
        · exact rmv _ (bare_some hs)
        · split at hs
          · have h1 := bare_some hs
            unfold renameS at h1
            split at h1
            · split at h1
              · split at h1
                · rw [← Option.some.inj h1]
                  exact ((hn.forget _ _ _).move e).mono (by omega) (by omega)
                · cases h1
              · rw [← Option.some.inj h1]
                exact (hn.move e).mono (by omega) (by omega)
            · cases h1
          · split at hs
            · unfold truncS at hs
              split at hs
              · rw [← Option.some.inj hs]
                exact (hn.mod (Nat.le_succ k) e.ino (f := resNod e.size) (fun n hm => Nat.le_succ_of_le (hn.nm n hm)) (fun n hm => fit_R (hn.pg n hm) _)).mono (by omega) (by omega)
              · cases hs
            · split at hs
              · unfold writeS at hs
                split at hs
                · rw [← Option.some.inj hs]
                  exact (hn.mod (Nat.le_succ k) e.ino (f := putNod e.page ref e.size) (fun n hm => Nat.le_succ_of_le (hn.nm n hm)) (fun n hm => put_R (hn.pg n hm) hr _ _)).mono (by omega) (by omega)
                · cases hs
              · split at hs
                · unfold dropS at hs
                  split at hs
                  · rw [← Option.some.inj hs]
                    exact (hn.rm e.ino).mono (by omega) (by omega)
                  · cases hs
                · cases hs
theorem Num.next {k : Nat} {S : Stt} (h : Num k S) (e : Eff) {ref : Int} (hr : i64R ref) : Num (k + 1) (nextS S e ref) := by
  have hm : Num (k + 1) S := Nm.toNum (h.toNm.mono (by omega) (by omega))
  unfold nextS
  split
  · cases hs : stepS S e ref with
    | none => exact hm
    | some x => exact h.step hr hs
  · exact hm
end Go.Proofs.YtbejbiogabpmfaaGreat

/-! The document's words for a rename and for a name that goes are the project's, in all states that effects come to. -/
namespace Go.Proofs.YtbejbiogabpmfaaGreat
open Wd Ino
set_option linter.unusedVariables false
theorem Inv.some_kind {S : Stt} (h : Inv S) {i : Int} (hk : kindS S.l i ≠ 0) : ∃ n, atS S.l i = some n ∧ kindS S.l i = n.kind ∧ 1 ≤ i := by
  obtain ⟨n, a, b⟩ := at_of_kind hk
  have := right_ino (h.right n (atS_mem a))
  rw [atS_ino a] at this
  exact ⟨n, a, kind_some a, this.1⟩
theorem Inv.has_kind {S : Stt} (h : Inv S) {d i : Int} {s : ByteArray} (hs : hasS S.l d s i = true) : kindS S.l d = 2 ∧ namedS S.l d s = i ∧ kindS S.l i ≠ 0 := by
  obtain ⟨n, a, b, c⟩ := has_at hs
  have hk : n.kind = 2 := h.toD.dirs n (atS_mem a) (fun hx => by rw [hx] at b; exact absurd b (show ¬ (false = true) from Bool.false_ne_true))
  have hd : kindS S.l d = 2 := by rw [kind_some a]; exact hk
  obtain ⟨e, e1, _, e3⟩ := has_mem b
  obtain ⟨m, m1, _⟩ := h.there n (atS_mem a) e e1
  rw [e3, c] at m1
  refine ⟨hd, ?_, ?_⟩
  · unfold namedS namesS
    rw [if_pos hd, getS_some a]; exact c
  · rw [kind_some m1]
    have := (right_ino (h.right m (atS_mem m1))).2.2.2.2
    omega
theorem Inv.named_eq {S : Stt} (h : Inv S) {d i : Int} {s : ByteArray} (hi : i ≠ 0) : decide (namedS S.l d s = i) = hasS S.l d s i := by
  rw [Bool.eq_iff_iff, decide_eq_true_eq]
  constructor
  · intro hn
    obtain ⟨hk, n, a, b, c⟩ := named_has (l := S.l) (d := d) (s := s) (by rw [hn]; exact hi)
    unfold hasS namesS
    rw [getS_some a, b, c, hn, decide_eq_true rfl]; rfl
  · intro hs
    exact (h.has_kind hs).2.1
theorem Inv.off_eq {S : Stt} (h : Inv S) (d i : Int) (s : ByteArray) {k : Int} (hk : k = 1 ∨ k = 2) : offB S.l d s i k = (hasS S.l d s i && looseS S.l i k) := by
  unfold offB looseS
  by_cases hki : kindS S.l i = k
  · obtain ⟨n, a, b, c⟩ := h.some_kind (i := i) (by omega)
    rw [h.named_eq (by omega), decide_eq_true hki, decide_eq_false (show ¬ i = 0 by omega)]
    congr 1
    rw [Bool.true_and, Bool.true_and, Bool.not_false, Bool.true_and]
    rcases hk with rfl | rfl
    · have hn : namesS S.l i = [] := by
        unfold namesS
        rw [getS_some a]
        exact (right_file (h.right n (atS_mem a)) (by omega)).2.1
      have hi1 : ¬ i = 1 := fun e => by
        obtain ⟨r, r1, r2⟩ := h.root
        rw [e, r1] at a
        have := Option.some.inj a
        rw [this] at r2
        omega
      rw [decide_eq_true hn, decide_eq_false hi1]; rfl
    · rw [decide_eq_true (rfl : (2 : Int) = 2), Bool.not_true, Bool.false_or, Bool.and_comm]
  · rw [decide_eq_false hki, Bool.false_and, Bool.false_and, Bool.and_false, Bool.and_false]
theorem off_forget {l : List Nod} {d i k : Int} {s : ByteArray} (hk : kindS l i = k) : offS l d s i k = forgetS l d s i := by
  have e : kindS (leaveS l d s) i = k := by
    rw [← hk]; exact kind_mod (f := cutNm s) (fun _ => rfl) (fun _ => rfl) i
  unfold offS forgetS
  rw [e]
theorem Inv.ren_eq {S : Stt} (h : Inv S) (e : Eff) : renD S e = renameS S e := by
  unfold renD renameS
  have hcond : (!decide (kindS S.l e.ino = 0) && (decide (namedS S.l e.dir e.name = e.ino) && (decide (kindS S.l e.dst = 2) && !(decide (kindS S.l e.ino = 2) && withinS S.l e.dst e.ino)))) = (hasS S.l e.dir e.name e.ino && (decide (kindS S.l e.dst = 2) && !(decide (kindS S.l e.ino = 2) && withinS S.l e.dst e.ino))) := by
    by_cases hk : kindS S.l e.ino = 0
    · have hf : hasS S.l e.dir e.name e.ino = false := by
        cases hx : hasS S.l e.dir e.name e.ino with
        | false => rfl
        | true => exact absurd hk (h.has_kind hx).2.2
      rw [decide_eq_true hk, hf, Bool.not_true, Bool.false_and, Bool.false_and]
    · obtain ⟨n, a, b, c⟩ := h.some_kind hk
      rw [decide_eq_false hk, h.named_eq (by omega), Bool.not_false, Bool.true_and]
  rw [hcond]
  split
  · rename_i hc
    rw [Bool.and_eq_true, Bool.and_eq_true, decide_eq_true_eq] at hc
    obtain ⟨hh, hd, _⟩ := hc
    have hkk := (h.has_kind hh).2.2
    obtain ⟨m, m1, m2, _⟩ := h.some_kind hkk
    have hk12 : kindS S.l e.ino = 1 ∨ kindS S.l e.ino = 2 := by rw [m2]; exact (right_ino (h.right m (atS_mem m1))).2.2.2.2
    have hnam : namedS S.l e.dst e.other = inoN e.other (namesS S.l e.dst) := by unfold namedS; rw [if_pos hd]
    obtain ⟨nd, d1, d2⟩ := at_of_kind (l := S.l) (i := e.dst) (by rw [hd]; decide)
    cases hn : hasN e.other (namesS S.l e.dst) with
    | false =>
      rw [hnam, inoN_none hn, if_pos rfl]
      rw [if_neg (by decide)]
    | true =>
      have hy : hasS S.l e.dst e.other (inoN e.other (namesS S.l e.dst)) = true := by unfold hasS; rw [hn, decide_eq_true rfl]; rfl
      have hyk := (h.has_kind hy).2.2
      obtain ⟨my, y1, y2, y3⟩ := h.some_kind hyk
      rw [hnam, if_neg (by omega), h.off_eq _ _ _ hk12, hy, Bool.true_and, if_pos rfl]
      split
      · rename_i hc
        rw [Bool.and_eq_true] at hc
        have hl := hc.2
        unfold looseS at hl
        rw [Bool.and_eq_true, decide_eq_true_eq] at hl
        rw [off_forget hl.1]
      · rfl
  · rfl
end Go.Proofs.YtbejbiogabpmfaaGreat

/-! A node that comes and a name that comes: in either order. -/
namespace Go.Proofs.YtbejbiogabpmfaaGreat
open Wd Ino
set_option linter.unusedVariables false
theorem mod_app {l : List Nod} {n : Nod} {d : Int} {f : Nod → Nod} (h : n.ino ≠ d) : modS (l ++ [n]) d f = modS l d f ++ [n] := by
  unfold modS
  rw [List.map_append]
  show _ ++ [if n.ino = d then f n else n] = _
  rw [if_neg h]
theorem enter_app {l : List Nod} {n : Nod} {d i : Int} {s : ByteArray} (h : n.ino ≠ d) : enterS (l ++ [n]) d s i = enterS l d s i ++ [n] := mod_app h
theorem Inv.make_order {S : Stt} (h : Inv S) {e : Eff} (hf : freeS S.l e.dir e.name = true) (hl : e.ino - 1 = S.last) : enterS (S.l ++ [newNod e.ino e.page e.dir]) e.dir e.name e.ino = enterS S.l e.dir e.name e.ino ++ [newNod e.ino e.page e.dir] := by
  obtain ⟨n0, a0, _, _⟩ := free_at hf
  have := h.last n0 (atS_mem a0)
  rw [atS_ino a0] at this
  exact enter_app (by show e.ino ≠ e.dir; omega)
/-- the nodes of a state are no more than its last number -/
theorem Inv.last_one {S : Stt} (h : Inv S) : 1 ≤ S.last := by
  obtain ⟨r, r1, _⟩ := h.root
  have := h.last r (atS_mem r1)
  rw [atS_ino r1] at this
  exact this
end Go.Proofs.YtbejbiogabpmfaaGreat
