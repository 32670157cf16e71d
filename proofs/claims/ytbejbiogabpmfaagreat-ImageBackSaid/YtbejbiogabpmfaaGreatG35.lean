import Derived.Test.YtbejbiogabpmfaaGreatG34
import Derived.Test.YtbejbiogabpmfaaGreatG17
import Derived.Test.YtbejbiogabpmfaaGreatG01
import Derived.Test.YtbejbiogabpmfaaGreatG22
import Derived.Test.YtbejbiogabpmfaaGreatG08
import Derived.Test.YtbejbiogabpmfaaGreatG25
import Derived.Test.YtbejbiogabpmfaaGreatG30
import Derived.Laws.EntriesVeiled

/-! The project's State: Of, of nodes that are right. -/
namespace Go.Proofs.YtbejbiogabpmfaaGreat
open Wd Ino Sm Go.RowKit Go.ChangeShapes Go.WideShapes Go.Sort
set_option linter.unusedVariables false
set_option maxRecDepth 100000
theorem of_w1 {k j : Nat} (h : k = j + 1) (hk : k ≤ 1000) : wrap64 ((k : Int) - 1) = (j : Int) := by subst h; unfold wrap64; omega
theorem of_w2 {k j : Nat} (h : k = j + 1) (hk : k ≤ 1000) : IntKind.i64.wrap ((k : Int) - 1) = (j : Int) := by subst h; rw [IntKind.wrap_i64]; omega
theorem of_lt {q hi a b c : Nat} (h1 : q < hi) (h2 : hi ≤ a) (h3 : a ≤ b) (h4 : b ≤ c) : q < c := by omega
def OfRel (w : World) (S : Stt) (n : Nat) (i : Value) (wr : World) : Prop := ∃ k : Nat, k ≤ n ∧ i = .int .i64 k ∧ PSt wr w.heap.size k (w.heap.size + 1) w.heap.size ⟨S.l.take k, S.last⟩ ∧ Below w.heap.size w wr
def OfGo (w : World) (S : Stt) (e : Ending) (w' : World) : Prop := ∃ g b, e = .returned (.tuple #[SPtr g, .bool true]) ∧ PSt w' w.heap.size S.l.length g b S ∧ Below w.heap.size w w'
theorem asc_at {l : List Nod} (h : AscS l) {k : Nat} {x : Nod} (hk : l[k]? = some x) : ∀ i, atS (l.take (k + 1)) i = if i = x.ino then some x else atS (l.take k) i := by
  rw [take_two hk]
  refine at_app fun a ha => ?_
  obtain ⟨j, hj⟩ := List.getElem?_of_mem ha
  rw [List.getElem?_take] at hj
  split at hj
  · rename_i hjk
    have := List.pairwise_iff_getElem.1 h j k (List.getElem?_eq_some_iff.1 hj).1 (List.getElem?_eq_some_iff.1 hk).1 hjk
    rw [(List.getElem?_eq_some_iff.1 hj).2, (List.getElem?_eq_some_iff.1 hk).2] at this
    exact this
  · cases hj
theorem asc_lt {l : List Nod} (h : AscS l) {j : Nat} {x y : Nod} (hj : l[j]? = some x) (hk : l[j + 1]? = some y) : x.ino < y.ino := by
  have := List.pairwise_iff_getElem.1 h j (j + 1) (List.getElem?_eq_some_iff.1 hj).1 (List.getElem?_eq_some_iff.1 hk).1 (by omega)
  rw [(List.getElem?_eq_some_iff.1 hj).2, (List.getElem?_eq_some_iff.1 hk).2] at this
  exact this
set_option maxHeartbeats 8000000 in
theorem pOf {w : World} {A : Option Addr} {c hi : Nat} {ds : List Nd} {S : Stt} (hx : Nds w hi A ds) (hhi : hi ≤ w.heap.size) (hin : ∀ d ∈ ds, ∃ base, OwnNd w base d) (hpl : ds.map Nd.plain = S.l) (iv : Inv S) {k0 : Nat} (nm : Num k0 S) (hk0 : k0 ≤ 900) (hap : (refsS S.l).Nodup) (hlast : i64R S.last) :
    Calls Tryz.prog 48 #[.slice A ds.length c, .int .i64 S.last] w (OfGo w S) := by
  have hmm := @run_makeMap Tryz.prog
  have hs := iv.smN nm hk0
  have hl : S.l.length ≤ 1000 := by have := nm.len; omega
  have hdl : ds.length = S.l.length := by rw [← hpl, List.length_map]
  obtain ⟨n, hn⟩ : ∃ n, ds.length = n := ⟨_, rfl⟩
  have hb2 : Below w.heap.size w ((w.alloc (.map #[] 0)).alloc (.cells #[.map (some w.heap.size), .int .i64 S.last] 108)) := ((Below.refl _ w).alloc (Nat.le_refl _) _).alloc (by simp) _
  have hP2 : PSt ((w.alloc (.map #[] 0)).alloc (.cells #[.map (some w.heap.size), .int .i64 S.last] 108)) w.heap.size 0 (w.heap.size + 1) w.heap.size ⟨S.l.take 0, S.last⟩ := by
    have hM := Mv.made w Tryz.prog 3
    refine ⟨by omega, Nat.le_refl _, ?_, fun _ => none, (hM.same ?_).congr fun y => rfl, fun i => rfl, fun i n hi => by cases hi⟩
    · have := Cells.new (w.alloc (.map #[] 0)) 108 #[.map (some w.heap.size), .int .i64 S.last]
      rw [show (w.alloc (.map #[] 0)).heap.size = w.heap.size + 1 by simp] at this
      exact this
    · exact (below_of_grown (World.grownBy_alloc (w.alloc (.map #[] 0)) (.cells #[.map (some w.heap.size), .int .i64 S.last] 108) none)).block w.heap.size (by simp)
  have HP2 := Lib.hid hP2; have HB2 := Lib.hid hb2; have HX := Lib.hid hx; have HIN := Lib.hid hin; have HPL := Lib.hid hpl; have IV := Lib.hid iv; have NM := Lib.hid nm; have HS := Lib.hid hs; have HDL := Lib.hid hdl; have HN := Lib.hid hn; have HL := Lib.hid hl; have HHI := Lib.hid hhi
  have KR := Lib.hid (fun wx (x : PSt wx w.heap.size S.l.length (w.heap.size + 1) w.heap.size S) => pRight x iv nm hk0 (by omega) hap)
  unfold SPtr at *
  rw [hn]
  clear hx hhi hin hpl iv nm hap hs hl hdl hn hP2 hb2
  go_enter Tryz.func48, Tryz.ntmps48
  go_wp2
  go_loopw [15] (fun i wr => OfRel w S n i wr) (fun i _ => n - (intOf i).toNat)
  case atStart => exact ⟨0, Nat.zero_le _, rfl, HP2.out, HB2.out⟩
  case round =>
    obtain ⟨k, hk, rfl, P, hB⟩ := hrel
    by_cases hlt : k < n
    · have hlt2 : (k : Int) < (n : Int) := Int.ofNat_lt.2 hlt
      obtain ⟨nd, hnd⟩ : ∃ x, ds[k]? = some x := ⟨_, List.getElem?_eq_getElem (by rw [HN.out]; exact hlt)⟩
      have hsn : S.l[k]? = some nd.plain := by rw [← HPL.out, List.getElem?_map, hnd]; rfl
      have hsm := HS.out nd.plain (List.mem_of_getElem? hsn)
      have hio := hsm.ino
      have hnds := (HX.out.below (hB.mono HHI.out))
      obtain ⟨q, off, hA, hq, x0, x1, x2, x3, x4, x5, x6⟩ := nds_cells hnds hnd
      obtain ⟨bs, hbs⟩ := HIN.out nd (List.mem_of_getElem? hnd)
      have hown := hbs.below hB
      have hpr : k = 0 ∨ ∃ j pi, k = j + 1 ∧ wr.cell? ⟨q, off + j * 7, none⟩ = some (.int .i64 pi) ∧ pi < nd.ino := by
        match k, hlt, hnd, hsn with
        | 0, _, _, _ => exact .inl rfl
        | j + 1, hlt, hnd, hsn =>
          obtain ⟨pd, hpd⟩ : ∃ x, ds[j]? = some x := ⟨_, List.getElem?_eq_getElem (by rw [HN.out]; omega)⟩
          obtain ⟨q', off', hA', _, y0, _⟩ := nds_cells hnds hpd
          rw [hA] at hA'
          injection hA' with hA'
          injection hA' with h1 h2
          subst h1 h2
          have hsp : S.l[j]? = some pd.plain := by rw [← HPL.out, List.getElem?_map, hpd]; rfl
          exact .inr ⟨j, pd.ino, rfl, y0, asc_lt IV.out.asc hsp hsn⟩
      have hst := asc_at IV.out.asc hsn
      have hp := hsm.p
      have hqq := Nat.le_trans hsm.q (show _ ≤ 1000 by decide)
      have hsz := hsm.sz
      obtain ⟨ino, kind, links, size, up, A0, ac, P0, B0, bc, N0⟩ := nd
      dsimp only [Nd.plain] at x0 x1 x2 x3 x4 x5 x6 hst hio hp hqq hsz hpr
      subst hA
      obtain ⟨w2, hw2⟩ : ∃ w2, wr.alloc (.cells #[.int .i64 ino, .int .i64 kind, .int .i64 links, .int .i64 size, .int .i64 up, .slice A0 P0.length ac, .slice B0 N0.length bc] 51) = w2 := ⟨_, rfl⟩
      have hb2 : Below wr.heap.size wr w2 := by rw [← hw2]; exact below_of_grown (World.grownBy_alloc wr _ none)
      have hc2 : Cells w2 wr.heap.size 51 (ncells ino kind links size up (.slice A0 P0.length ac) (.slice B0 N0.length bc)) := by rw [← hw2]; exact Cells.new _ _ _
      have P2 := P.below hb2
      have hsz0 := hB.size
      have KC := Lib.hid (fun W (hb : Below w2.heap.size w2 W) => iCopy ⟨ino, kind, links, size, up, A0, ac, P0, B0, bc, N0⟩ W (((hown.below hb2).below hb).in_) hp hqq hsz)
      unfold Nd.val at KC
      dsimp only at KC
      obtain ⟨y0, y1, y2, y3, y4, y5, y6⟩ := cells7 hc2
      have HC2 := Lib.hid hc2; have PP2 := Lib.hid P2; have HB3 := Lib.hid (hB.trans (hb2.mono hB.size)); have HST := Lib.hid hst; have HIO := Lib.hid hio; have HLT := Lib.hid hlt; have HPR := Lib.hid hpr; have HBB := Lib.hid hb2
      clear P hb2 hc2 P2 hst hio hp hqq hsz hown hbs hsm hsn hnd hnds hlt hpr hB
      go_upto_region 5 with fail
      rcases HPR.out with h0 | ⟨j, pi, hj, pj, hlt3⟩
      · have hlt4 := HLT.out
        have hn1 : n ≤ 1000 := by rw [← HN.out, HDL.out]; exact HL.out
        have q2 : decide ((k : Int) > 0) = false := decide_eq_false (by rw [h0]; exact Int.lt_irrefl _)
        have q2n : decide (0 < k) = false := decide_eq_false (by rw [h0]; exact Nat.lt_irrefl _)
        have hfol : Tryz.prog.follows .mixedOrders = true := by kernel_rfl
        clear h0 hlt4 hsz0 y0 y1 y2 y3 y4 y5 y6 x0 x1 x2 x3 x4 x5 x6 hk hq hlt2
        refine wp_region_quiet_grown hfol (by kernel_rfl) ?_
        repeat (go_big_quiet_step (fail))
        refine wpQuiet_nil ?_
        intro _ hw'
        obtain ⟨⟨nr, osr⟩, hw''⟩ := hw'
        subst hw''
        go_upto_region 7 with fail
        have b24 := below_grow' w2 nr osr
        obtain ⟨w4, hw4⟩ : ∃ w4, grow (w2.drewN nr) osr = w4 := ⟨_, rfl⟩
        rw [hw4] at b24 ⊢
        have P4 := PP2.out.below b24
        have hc4 := HC2.out.below' b24
        obtain ⟨y0, y1, y2, y3, y4, y5, y6⟩ := cells7 hc4
        have c0 := P4.c0
        have b0 : Below w4.heap.size w4 w4.drew := below_drewN (Below.refl _ _) 1
        have hb4 : Below w.heap.size w w4 := HB3.out.trans (b24.mono HB3.out.size)
        have KC2 := Lib.hid (KC.out _ (b24.trans (b0.mono b24.size)))
        have P4H := Lib.hid P4; have HC4 := Lib.hid hc4; have HB4 := Lib.hid hb4
        have hm2 : k < 1000000 := Nat.lt_of_lt_of_le HLT.out (Nat.le_trans hn1 (by decide))
        clear b24 P4 hc4 hb4 hw4 HPR
        go_region_with (first
          | (go_at_call 72; (with_reducible refine (KC2.out).mono ?_); rintro e' w6 ⟨V, A5, ac5, B5, bc5, rfl, ho6, hb6⟩
             obtain ⟨rfl, ow6⟩ := ho6.nd
             have b6 : Below w4.heap.size w4 w6 := b0.trans (hb6.mono b0.size)
             have d0 := (P4H.out.below b6).c0
             have v0 := (cells7 (HC4.out.below' b6)).1
             obtain ⟨w7, hrun, hP7, hT7⟩ := (P4H.out.below b6).store hm2 HIO.out (x := ino) (n := ⟨ino, kind, links, size, up, A5, ac5, P0, B5, bc5, N0⟩) (ow6.mono HB4.out.size) (l' := S.l.take (k + 1)) HST.out
             unfold Nd.val at hrun ⊢
             dsimp only at hrun ⊢))
        all_goals
          have HP7 := Lib.hid hP7
          have HB7 := Lib.hid (turned_below hT7 (HB4.out.trans (b6.mono HB4.out.size)) (Nat.le_refl _))
          clear hP7 hT7 hrun b6 ow6 hb6 ho6
          go_wp2
          go_roundw
          case rel => exact ⟨k + 1, HLT.out, by go_num, HP7.out, HB7.out⟩
          case measure => simp [intOf]; have := HLT.out; omega
      · have hlt4 := HLT.out
        have q2 : decide ((k : Int) > 0) = true := decide_eq_true (by rw [hj]; exact Int.natCast_pos.2 (Nat.succ_pos j))
        have q2n : decide (0 < k) = true := decide_eq_true (by rw [hj]; exact Nat.succ_pos j)
        have hn1 : n ≤ 1000 := by rw [← HN.out, HDL.out]; exact HL.out
        have q3 : wrap64 ((k : Int) - 1) = (j : Int) := of_w1 hj (Nat.le_trans (Nat.le_of_lt HLT.out) hn1)
        have q4 : IntKind.i64.wrap ((k : Int) - 1) = (j : Int) := of_w2 hj (Nat.le_trans (Nat.le_of_lt HLT.out) hn1)
        have q5 : (j : Int) < (n : Int) := Int.ofNat_lt.2 (by rw [hj] at hlt4; exact Nat.lt_of_succ_lt hlt4)
        have q6 : decide (ino ≤ pi) = false := decide_eq_false (Int.not_le.2 hlt3)
        have pj2 : w2.cell? ⟨q, off + j * 7, none⟩ = some (.int .i64 pi) := by
          have hqw : q < wr.heap.size := of_lt hq HHI.out hsz0 (Nat.le_refl _)
          unfold World.cell? at pj ⊢
          rw [HBB.out.block q hqw]
          exact pj
        have HJ := Lib.hid hj
        have HLT3 := Lib.hid hlt3
        have gg0 := cell_grown (a := ⟨wr.heap.size, 0, none⟩) (by have := HC2.out.lt; exact this) y0
        have gg1 := cell_grown (a := ⟨q, off + j * 7, none⟩) (of_lt hq HHI.out hsz0 HBB.out.size) pj2
        have hfol : Tryz.prog.follows .mixedOrders = true := by kernel_rfl
        have q7 : (0 : Int) ≤ (j : Int) := Int.natCast_nonneg j
        have q8 : (j : Int).toNat = j := Int.toNat_natCast j
        clear hj hlt3 hlt4 pj pj2 hsz0 y0 y1 y2 y3 y4 y5 y6 x0 x1 x2 x3 x4 x5 x6 hk hq hlt2
        refine wp_region_quiet_grown hfol (by kernel_rfl) ?_
        repeat (go_big_quiet_step (fail))
        refine wpQuiet_nil ?_
        intro _ hw'
        obtain ⟨⟨nr, osr⟩, hw''⟩ := hw'
        subst hw''
        go_upto_region 7 with fail
        have b24 := below_grow' w2 nr osr
        obtain ⟨w4, hw4⟩ : ∃ w4, grow (w2.drewN nr) osr = w4 := ⟨_, rfl⟩
        rw [hw4] at b24 ⊢
        have P4 := PP2.out.below b24
        have hc4 := HC2.out.below' b24
        obtain ⟨y0, y1, y2, y3, y4, y5, y6⟩ := cells7 hc4
        have c0 := P4.c0
        have b0 : Below w4.heap.size w4 w4.drew := below_drewN (Below.refl _ _) 1
        have hb4 : Below w.heap.size w w4 := HB3.out.trans (b24.mono HB3.out.size)
        have KC2 := Lib.hid (KC.out _ (b24.trans (b0.mono b24.size)))
        have P4H := Lib.hid P4; have HC4 := Lib.hid hc4; have HB4 := Lib.hid hb4
        have hm2 : k < 1000000 := Nat.lt_of_lt_of_le HLT.out (Nat.le_trans hn1 (by decide))
        clear b24 P4 hc4 hb4 hw4 HPR
        go_region_with (first
          | (go_at_call 72; (with_reducible refine (KC2.out).mono ?_); rintro e' w6 ⟨V, A5, ac5, B5, bc5, rfl, ho6, hb6⟩
             obtain ⟨rfl, ow6⟩ := ho6.nd
             have b6 : Below w4.heap.size w4 w6 := b0.trans (hb6.mono b0.size)
             have d0 := (P4H.out.below b6).c0
             have v0 := (cells7 (HC4.out.below' b6)).1
             obtain ⟨w7, hrun, hP7, hT7⟩ := (P4H.out.below b6).store hm2 HIO.out (x := ino) (n := ⟨ino, kind, links, size, up, A5, ac5, P0, B5, bc5, N0⟩) (ow6.mono HB4.out.size) (l' := S.l.take (k + 1)) HST.out
             unfold Nd.val at hrun ⊢
             dsimp only at hrun ⊢))
        all_goals
          have HP7 := Lib.hid hP7
          have HB7 := Lib.hid (turned_below hT7 (HB4.out.trans (b6.mono HB4.out.size)) (Nat.le_refl _))
          clear hP7 hT7 hrun b6 ow6 hb6 ho6
          go_wp2
          go_roundw
          case rel => exact ⟨k + 1, HLT.out, by go_num, HP7.out, HB7.out⟩
          case measure => simp [intOf]; have := HLT.out; omega
    · have hkn : k = n := Nat.le_antisymm hk (Nat.not_lt.1 hlt)
      subst hkn
      have hlt2 : ¬ (k : Int) < (k : Int) := Int.lt_irrefl _
      have hkl : k = S.l.length := by rw [← HDL.out, HN.out]
      rw [show S.l.take k = S.l by rw [hkl]; exact List.take_length] at P
      have PS : PSt wr w.heap.size S.l.length (w.heap.size + 1) w.heap.size S := by rw [← hkl]; exact P
      have KR2 := Lib.hid (KR.out wr PS)
      have PP := Lib.hid PS; have HB2 := Lib.hid hB
      clear P PS hB KR hlt hk hkl
      go_wp2_with fail
      refine (KR2.out).mono ?_
      rintro e w3 ⟨rfl, hb3⟩
      have HB3 := Lib.hid hb3
      clear hb3 KR2
      go_wp2
      go_ret2
      exact ⟨w.heap.size + 1, w.heap.size, rfl, PP.out.below HB3.out, HB2.out.trans (HB3.out.mono HB2.out.size)⟩
end Go.Proofs.YtbejbiogabpmfaaGreat

/-! A Writer's Num and Text, with all that they leave as it was. -/
namespace Go.Proofs.YtbejbiogabpmfaaGreat
open Wd Ino Sm U Go.RowKit Go.ChangeShapes Go.WideShapes Go.ChangeAt Go.Deep Go.Lib
set_option linter.unusedVariables false
set_option maxRecDepth 100000
abbrev wrTs : List TypeId := [95, 59]
theorem keep_put {w w' : World} {g n base : Nat} {v v' : Value} {xs : List Value} (h3 : Cells w g 95 #[v]) (h4 : w.ownsRow base 59 1 v n xs) (k2 : w.grownBy w' v.ownBlock) : KeepC wrTs w (w'.setCell ⟨g, 0, none⟩ v') := by
  intro b t cs ht hc
  have h1 : t ≠ 95 := fun e => ht (by rw [e]; exact List.mem_cons_self)
  have h2 : t ≠ 59 := fun e => ht (by rw [e]; exact List.mem_cons_of_mem _ List.mem_cons_self)
  exact (hc.grown k2 (ne_own hc h4 h2)).far (p := ⟨g, 0, none⟩) (hc.ne h3 h1) _
def WroteK (w0 W : World) (g : Nat) (xs : List Nat) (e : Ending) (w : World) : Prop := e = .returned (.tuple #[]) ∧ WrSt W g xs w ∧ KeepC wrTs w0 w
set_option maxHeartbeats 1000000 in
theorem num_k {W w : World} {g : Nat} {xs : List Nat} (h : WrSt W g xs w) (hl : xs.length ≤ 400000) (k : Int) :
    Calls Tryz.prog 50 #[.pointer (some ⟨g, 0, none⟩), .int .i64 k] w (WroteK w W g (xs ++ [uw k])) := by
  obtain ⟨h1, h2, v, h3, h4⟩ := h
  have c0 : w.cell? ⟨g, 0, none⟩ = some v := h3.cell 0
  have f0 := h3.free 0
  have hsh : v.ownBlock = none ∧ v = .slice none 0 0 ∨ ∃ q c, v = .slice (some ⟨q, 0, none⟩) xs.length c := by
    rcases h4.2 with ⟨rfl, _⟩ | ⟨g', cap, cur, rfl, _⟩
    · exact .inl ⟨rfl, rfl⟩
    · exact .inr ⟨g', cap, rfl⟩
  have hw : IntKind.u64.wrap k = ((uw k : Nat) : Int) := by rw [IntKind.wrap_u64]; unfold uw; omega
  have H1 := Lib.hid h1; have H3 := Lib.hid h3; have H4 := Lib.hid h4
  have hsz := h1.size
  clear h1 h3 h4 hsh
  go_enter Tryz.func50, Tryz.ntmps50
  go_wp2_with (at_builtin; refine wpList_append_row _ rfl (.tmp 10) (.tmp 13) 48 rfl W.heap.size 59 (.int .u64 0) 8 Tryz.underlying48 infoU64' rfl v xs.length (xs.map wd) rfl (own_belowW H4.out ((Below.refl _ _).alloc (Nat.le_refl _) _)) _ (some ⟨w.heap.size, 0, none⟩) 1 1 [.int .u64 (uw k : Nat)] rfl (Row.one _ _ _) (by simp [Value.oneCell']) (by unfold maxLen; omega) (by omega) (by simp; omega) ?_; intro v5 w5 hown5 hgr5 hat5; obtain ⟨q5, k5, rfl, _, _, _, _⟩ := own_open hown5 (by omega); have hgr6 := grow_alloc' hgr5; have HO5 := Lib.hid hown5; have HG5 := Lib.hid hgr6; have hc5 := H3.out.grown hgr6 (WrSt.ne H3.out H4.out); have c5 : w5.cell? ⟨g, 0, none⟩ = some v := hc5.cell 0; have f5 := hc5.free 0; clear hown5 hgr5 hat5 hgr6 hc5)
  refine bodyPost_ret (results_none rfl _ _ _) rfl ?_
  exact ⟨rfl, WrSt.put (ys := [uw k]) H1.out h2 H3.out H4.out HO5.out HG5.out, keep_put H3.out H4.out HG5.out⟩


set_option maxHeartbeats 4000000 in
theorem text_k {W w : World} {g : Nat} {xs : List Nat} (h : WrSt W g xs w) (hl : xs.length ≤ 350000) (s : ByteArray) (hs : s.size ≤ 1000) :
    Calls Tryz.prog 80 #[.pointer (some ⟨g, 0, none⟩), .string s] w (WroteK w W g (xs ++ [s.size] ++ pk (bsOfW s))) := by
  have HW := Lib.hid h
  clear h
  obtain ⟨n, hn⟩ : ∃ n, s.size = n := ⟨_, rfl⟩
  have hcv : ∀ w, (convert 9 62 (.string s)).run Tryz.prog w = .ok (.slice (some ⟨w.heap.size, 0, none⟩) n (grownCap w s.size 0 5))
      (w.drew.alloc (.cells (bytesRow s (grownCap w s.size 0 5)) 5 ((bytesRow s (grownCap w s.size 0 5)).size, (bytesRow s (grownCap w s.size 0 5)).size + 1))) := fun w => by
    rw [run_bytes_of_string (P := Tryz.prog) w 9 62 5 s Tryz.underlying9 Tryz.underlying62 Tryz.underlying5, hn]
  have HN := Lib.hid hn
  have HCV := Lib.hid hcv
  clear hcv
  rw [hn] at hs ⊢
  have hn2 := hn
  clear hn
  go_enter Tryz.func80, Tryz.ntmps80
  go_wp2_with fail
  refine (num_k HW.out (by omega) (n : Int)).mono ?_
  rintro e w1 ⟨rfl, h1, hk1⟩
  have HK1 := Lib.hid hk1
  rw [uw_nat (by omega)] at h1
  clear hk1
  obtain ⟨hb1, hg, v, hc, ho⟩ := h1
  have c0 : w1.cell? ⟨g, 0, none⟩ = some v := hc.cell 0
  have hcv := HCV.out
  have hL : (bsOfW s).length = n := by rw [bsOf_lenW]; exact HN.out
  have HL := Lib.hid hL; have HB1 := Lib.hid hb1; have HC := Lib.hid hc; have HO := Lib.hid ho
  clear hL hb1 hc ho hn2
  go_upto_region 2 with fail
  have hgl := HC.out.lt
  have hsz := HB1.out.size
  have hnd : need n ≤ 200 := by unfold need; omega
  have hpk : (pk (bsOfW s)).length = need n := by rw [pk_len, HL.out]
  have HPK := Lib.hid hpk
  clear hpk
  go_region_law (first
    | (go_simp; go_at_call 123; refine (wPack (bsOfW s) n HL.out (bsOf_bytesW s) _ _ _ (by omega) (bytes_rowW _ s n HN.out _ _ _)).mono ?_; rintro e w2 ⟨A2, c2, rfl, r2, b2⟩; have b1 := below_marked b2; have hc2 := HC.out.below' b1; have c02 : w2.cell? ⟨g, 0, none⟩ = some v := hc2.cell 0; have HO2 := Lib.hid (own_belowW HO.out b1); have HC2 := Lib.hid hc2; have HB2 := Lib.hid (HB1.out.trans (b1.mono HB1.out.size)); have HKB := Lib.hid (KeepC.of (Ts := []) b1); have HR2 := Lib.hid r2; have hsz2 := HB2.out.size; clear r2 b2 b1 hc2)
    | ((with_reducible refine step_shape (by rfl) ?_); refine wp_append_row _ (.tmp 14) (.tmp 17) 48 (by rfl) W.heap.size 59 (.int .u64 0) 8 Tryz.underlying48 infoU64' (by rfl) v _ _ (by rfl) HO2.out _ A2 (pk (bsOfW s)).length c2 ((pk (bsOfW s)).map wd) (by rfl) HR2.out (oneW _) (by rw [HPK.out, List.length_append, List.length_singleton]; unfold maxLen; omega) (by rw [HPK.out, List.length_append, List.length_singleton]; omega) (by omega) ?_; intro v5 w5 hown5 hgr5 hat5; obtain ⟨q5, k5, hq5, _, _, _, _⟩ := own_open hown5 (by rw [List.length_append, List.length_singleton]; omega); have HO5 := Lib.hid hown5; have HG5 := Lib.hid hgr5; have hc5 := HC2.out.grown hgr5 (WrSt.ne HC2.out HO2.out); have c5 : w5.cell? ⟨g, 0, none⟩ = some v := hc5.cell 0; have f5 := hc5.free 0; subst hq5; clear hown5 hgr5 hat5 hc5))
  all_goals
    go_wp2
    refine bodyPost_ret (results_none rfl _ _ _) rfl ?_
    have hput := WrSt.put (ys := pk (bsOfW s)) HB2.out hg HC2.out HO2.out HO5.out HG5.out
    rw [List.length_append, List.length_singleton] at hput
    exact ⟨rfl, hput, HK1.out.trans ((HKB.out.more (by simp)).trans (keep_put HC2.out HO2.out HG5.out))⟩

end Go.Proofs.YtbejbiogabpmfaaGreat

/-! The project's image: the words of one node. -/
namespace Go.Proofs.YtbejbiogabpmfaaGreat
open Wd Ino Sm U Go.RowKit Go.ChangeShapes Go.WideShapes
set_option linter.unusedVariables false
set_option maxRecDepth 100000
theorem take_snocA {α : Type} {l : List α} {k : Nat} {x : α} (h : l[k]? = some x) : l.take (k + 1) = l.take k ++ [x] := by
  obtain ⟨hk, rfl⟩ := List.getElem?_eq_some_iff.1 h
  rw [List.take_add_one, List.getElem?_eq_getElem hk]; rfl
theorem flat_le {l : List Ent} (k : Nat) : ((l.take k).flatMap nameW).length ≤ (l.flatMap nameW).length := by
  conv => rhs; rw [← List.take_append_drop k l]
  rw [List.flatMap_append, List.length_append]; omega
def WkRel (w1 W : World) (g : Nat) (xs ys : List Nat) (n : Nat) (f : Nat → List Nat) (i : Value) (wr : World) : Prop := ∃ k : Nat, k ≤ n ∧ i = .int .i64 k ∧ WrSt W g (xs ++ f k) wr ∧ KeepC wrTs w1 wr
set_option maxHeartbeats 16000000 in
theorem iWrite {W w : World} {g base : Nat} {xs : List Nat} (h : WrSt W g xs w) (n : Nd) (ho : OwnNd w base n) (hp : n.pages.length ≤ 1000) (hq : n.names.length ≤ 1000) (hsz : ∀ e ∈ n.names, e.s.size ≤ 1000) (hl : xs.length + (nodeW n.plain).length ≤ 300000) :
    Calls Tryz.prog 51 #[.pointer (some ⟨g, 0, none⟩), n.val] w (WroteK w W g (xs ++ nodeW n.plain)) := by
  obtain ⟨j0, ki, lk, t, u, A, ac, P, B, bc, N⟩ := n
  dsimp only at hp hq hsz
  obtain ⟨w0, hw0⟩ : ∃ w0, w.alloc (.cells #[.int .i64 j0, .int .i64 ki, .int .i64 lk, .int .i64 t, .int .i64 u, .slice A P.length ac, .slice B N.length bc] 51) = w0 := ⟨_, rfl⟩
  have hb0 : Below w.heap.size w w0 := by rw [← hw0]; exact below_of_grown (World.grownBy_alloc w _ none)
  have hc0 : Cells w0 w.heap.size 51 (ncells j0 ki lk t u (.slice A P.length ac) (.slice B N.length bc)) := by rw [← hw0]; exact Cells.new _ _ _
  have hs0 : w0.heap.size = w.heap.size + 1 := by rw [← hw0]; simp
  obtain ⟨w1, hw1⟩ : ∃ w1, w0.alloc (.cells #[.int .i64 j0, .int .i64 ki, .int .i64 lk, .int .i64 t, .int .i64 u, .int .i64 (P.length : Nat), .int .i64 (N.length : Nat)] 3) = w1 := ⟨_, rfl⟩
  have hb1 : Below w0.heap.size w0 w1 := by rw [← hw1]; exact below_of_grown (World.grownBy_alloc w0 _ none)
  have hc1 : Cells w1 w0.heap.size 3 ((hdrZ (Nd.plain ⟨j0, ki, lk, t, u, A, ac, P, B, bc, N⟩)).map (Value.int .i64)).toArray := by
    have := Cells.new w0 3 #[.int .i64 j0, .int .i64 ki, .int .i64 lk, .int .i64 t, .int .i64 u, .int .i64 (P.length : Nat), .int .i64 (N.length : Nat)]
    rw [hw1] at this
    exact this
  have hb01 : Below w.heap.size w w1 := hb0.trans (hb1.mono hb0.size)
  have HK1 := Lib.hid (show KeepC wrTs w w1 from (KeepC.of (Ts := []) hb01).more (by simp))
  have H1 := Lib.hid (h.below hb01); have HO1 := Lib.hid (ho.below hb01); have HC0 := Lib.hid (hc0.below' hb1); have HC1 := Lib.hid hc1
  have hlen : (nodeW (Nd.plain ⟨j0, ki, lk, t, u, A, ac, P, B, bc, N⟩)).length = 7 + P.length + (N.flatMap nameW).length := by
    unfold nodeW hdrZ; simp [Nd.plain]; omega
  have HL := Lib.hid (show xs.length + (7 + P.length + (N.flatMap nameW).length) ≤ 300000 by rw [← hlen]; exact hl)
  have HP := Lib.hid hp; have HQ := Lib.hid hq; have HSZ := Lib.hid hsz
  obtain ⟨z0, z1, z2, z3, z4, z5, z6⟩ := cells7 hc0
  have HW0 := Lib.hid hw0; have HW1 := Lib.hid hw1
  unfold Nd.val
  clear h ho hp hq hsz hl hb0 hc0 hs0 hb1 hc1 hb01 hlen hw1
  go_enter Tryz.func51, Tryz.ntmps51
  go_wp2
  rw [HW1.out]
  clear hw0 z0 z1 z2 z3 z4 z5 z6
  obtain ⟨H, hH⟩ : ∃ H, hdrZ (Nd.plain ⟨j0, ki, lk, t, u, A, ac, P, B, bc, N⟩) = H := ⟨_, rfl⟩
  have HH := Lib.hid hH
  have HHL := Lib.hid (show H.length = 7 by rw [← hH]; rfl)
  rw [hH] at HC1
  clear hH
  go_loopw [28] (fun i wr => WkRel w1 W g xs [] 7 (fun k => (H.take k).map uw) i wr) (fun i _ => 7 - (intOf i).toNat)
  case atStart => exact ⟨0, Nat.zero_le _, rfl, by simpa using H1.out, fun _ _ _ _ hc => hc⟩
  case round =>
    obtain ⟨k, hk, rfl, hw, hkp⟩ := hrel
    change WrSt W g (xs ++ (H.take k).map uw) wr at hw
    have HWR := Lib.hid hw; have HKP := Lib.hid hkp
    by_cases hlt : k < 7
    · have hlt2 : (k : Int) < 7 := by omega
      obtain ⟨x, hx⟩ : ∃ x, H[k]? = some x := ⟨_, List.getElem?_eq_getElem (by rw [HHL.out]; exact hlt)⟩
      have cx : wr.cell? ⟨w0.heap.size, k, none⟩ = some (.int .i64 x) := by
        rw [(hkp _ _ _ (by decide) HC1.out).cell k, List.getElem?_toArray, List.getElem?_map, hx]; rfl
      have HX := Lib.hid (take_snocA hx)
      have HLT := Lib.hid hlt
      clear hw hkp hx hk hlt
      go_wp2_with (go_at_call 50; refine (num_k HWR.out (by have := HL.out; have := HLT.out; rw [List.length_append, List.length_map, List.length_take, HHL.out]; omega) x).mono ?_; rintro e' wn ⟨rfl, hn, hkn⟩; have HN := Lib.hid hn; have HKN := Lib.hid (HKP.out.trans hkn); clear hn hkn)
      go_roundw
      case rel => exact ⟨k + 1, HLT.out, by go_num, by show WrSt W g (xs ++ (H.take (k + 1)).map uw) wn; rw [HX.out, List.map_append, ← List.append_assoc]; exact HN.out, HKN.out⟩
      case measure => simp [intOf]; have := HLT.out; omega
    · have hlt2 : ¬ (k : Int) < 7 := by omega
      have hfull : H.take k = H := List.take_of_length_le (by rw [HHL.out]; omega)
      rw [hfull] at HWR
      obtain ⟨z0, z1, z2, z3, z4, z5, z6⟩ := cells7 (hkp _ _ _ (by decide) HC0.out)
      clear hw hkp hk hlt hfull
      go_wp2
      clear z0 z1 z2 z3 z4 z5 z6
      go_loopw [39] (fun i wr => WkRel w1 W g xs [] P.length (fun k => H.map uw ++ (P.take k).map uw) i wr) (fun i _ => P.length - (intOf i).toNat)
      case atStart => exact ⟨0, Nat.zero_le _, rfl, by simpa using HWR.out, HKP.out⟩
      case round =>
        obtain ⟨k, hk, rfl, hw, hkp⟩ := hrel
        change WrSt W g (xs ++ (H.map uw ++ (P.take k).map uw)) wr at hw
        have HW2 := Lib.hid hw; have HK2 := Lib.hid hkp
        by_cases hlt : k < P.length
        · have hlt2 : (k : Int) < (P.length : Int) := Int.ofNat_lt.2 hlt
          have hk9 : k ≤ 1000 := by have := HP.out; omega
          obtain ⟨A', c', hv, hr⟩ := (HO1.out.keep hkp (by decide) (by decide)).1.row
          injection hv with hv _ hv3
          subst hv hv3
          obtain ⟨b1, o1, x, hA, hbb, hx, cx⟩ := getI hr hlt
          have HX := Lib.hid (take_snocA hx)
          have HLT := Lib.hid hlt
          dsimp only at hA
          subst hA
          clear hw hkp hx hk hlt hr
          go_wp2_with (go_at_call 50; refine (num_k HW2.out (by have := HL.out; have := HLT.out; rw [List.length_append, List.length_append, List.length_map, List.length_map, List.length_take, HHL.out]; omega) x).mono ?_; rintro e' wn ⟨rfl, hn, hkn⟩; have HN := Lib.hid hn; have HKN := Lib.hid (HK2.out.trans hkn); clear hn hkn)
          go_roundw
          case rel => exact ⟨k + 1, HLT.out, by go_num, by show WrSt W g (xs ++ (H.map uw ++ (P.take (k + 1)).map uw)) wn; rw [HX.out, List.map_append, ← List.append_assoc (H.map uw), ← List.append_assoc xs]; exact HN.out, HKN.out⟩
          case measure => simp [intOf]; have := HLT.out; omega
        · obtain rfl : k = P.length := by omega
          rw [List.take_length] at hw
          obtain ⟨M, hM⟩ : ∃ M, H.map uw ++ P.map uw = M := ⟨_, rfl⟩
          have HM := Lib.hid hM
          have HML := Lib.hid (show M.length = 7 + P.length by rw [← hM, List.length_append, List.length_map, List.length_map, HHL.out])
          rw [hM] at hw
          have HW3 := Lib.hid hw
          obtain ⟨z0, z1, z2, z3, z4, z5, z6⟩ := cells7 (hkp _ _ _ (by decide) HC0.out)
          clear hw hkp hk hlt hM HW2
          go_wp2
          clear z0 z1 z2 z3 z4 z5 z6
          go_loopw [50] (fun i wr => WkRel w1 W g xs [] N.length (fun k => M ++ (N.take k).flatMap nameW) i wr) (fun i _ => N.length - (intOf i).toNat)
          case atStart => exact ⟨0, Nat.zero_le _, rfl, by simpa using HW3.out, HK2.out⟩
          case round =>
            obtain ⟨k, hk, rfl, hw, hkp⟩ := hrel
            change WrSt W g (xs ++ (M ++ (N.take k).flatMap nameW)) wr at hw
            have HK4 := Lib.hid hkp
            by_cases hlt : k < N.length
            · have hlt2 : (k : Int) < (N.length : Int) := Int.ofNat_lt.2 hlt
              have hk9 : k ≤ 1000 := by have := HQ.out; omega
              obtain ⟨e, hek⟩ : ∃ e, N[k]? = some e := ⟨_, List.getElem?_eq_getElem hlt⟩
              obtain ⟨A', c', hv, _, hens⟩ := (HO1.out.keep hkp (by decide) (by decide)).2.form
              injection hv with hv _ hv3
              subst hv hv3
              obtain ⟨b1, o1, hA, hbb, x0, x1⟩ := ens_cells hens hek
              dsimp only at hA
              subst hA
              have hes := HSZ.out e (List.mem_of_getElem? hek)
              have HX := Lib.hid (take_snocA hek)
              have hfl := flat_le (l := N) (k + 1)
              rw [HX.out, List.flatMap_append, List.length_append] at hfl
              have hfn : ([e].flatMap nameW).length = 1 + (pk (bsOfW e.s)).length + 1 := by show (nameW e ++ []).length = _; unfold nameW; simp only [List.append_nil, List.length_append, List.length_singleton]
              rw [hfn] at hfl
              obtain ⟨s, n⟩ := e
              dsimp only at x0 x1 hes hfl
              have hb2 : Below wr.heap.size wr (wr.alloc (.cells #[.string s, .int .i64 n] 103)) := below_of_grown (World.grownBy_alloc wr _ none)
              have hc2 : Cells (wr.alloc (.cells #[.string s, .int .i64 n] 103)) wr.heap.size 103 #[.string s, .int .i64 n] := Cells.new _ _ _
              have hlw : (xs ++ (M ++ (N.take k).flatMap nameW)).length + (1 + (pk (bsOfW s)).length + 1) ≤ 300000 := by
                rw [List.length_append, List.length_append, HML.out]
                have := HL.out
                omega
              have HLW := Lib.hid hlw
              have HW5 := Lib.hid (hw.below hb2)
              have HK5 := Lib.hid (hkp.trans ((KeepC.of (Ts := []) hb2).more (by simp)))
              have HC2 := Lib.hid hc2
              have KT := Lib.hid (text_k HW5.out (by have := HLW.out; omega) s hes)
              have y0 := hc2.cell 0
              simp only [List.getElem?_toArray, List.getElem?_cons_zero] at y0
              have HLT := Lib.hid hlt
              clear hw hkp hk hlt hek hes hfl hfn hlw hb2 hc2 hens
              go_wp2_with fail
              refine (KT.out).mono ?_
              rintro e' w6 ⟨rfl, h6, hk6⟩
              have HW6 := Lib.hid h6; have HK6 := Lib.hid (HK5.out.trans hk6)
              have hc6 := hk6 _ _ _ (by decide) HC2.out
              have y1 := hc6.cell 1
              simp only [List.getElem?_toArray, List.getElem?_cons_succ, List.getElem?_cons_zero] at y1
              clear h6 hk6 hc6 y0 KT
              go_wp2_with (go_at_call 50; refine (num_k HW6.out (by have := HLW.out; rw [List.length_append, List.length_append, List.length_singleton]; omega) n).mono ?_; rintro e' wn ⟨rfl, hn, hkn⟩; have HN := Lib.hid hn; have HKN := Lib.hid (HK6.out.trans hkn); clear hn hkn)
              go_roundw
              case rel => exact ⟨k + 1, HLT.out, by go_num, by
                show WrSt W g (xs ++ (M ++ (N.take (k + 1)).flatMap nameW)) wn
                rw [HX.out, List.flatMap_append]
                have h9 := HN.out
                simp only [List.flatMap_cons, List.flatMap_nil, List.append_nil, nameW, List.append_assoc] at h9 ⊢
                exact h9, HKN.out⟩
              case measure => simp [intOf]; have := HLT.out; omega
            · obtain rfl : k = N.length := by omega
              rw [List.take_length] at hw
              have HW7 := Lib.hid hw
              clear hw hkp hk hlt
              go_wp2
              refine bodyPost_ret (results_none rfl _ _ _) rfl ?_
              exact ⟨rfl, by unfold nodeW; rw [HH.out]; show WrSt W g (xs ++ (H.map uw ++ P.map uw ++ N.flatMap nameW)) wr; rw [HM.out]; exact HW7.out, HK1.out.trans HK4.out⟩
end Go.Proofs.YtbejbiogabpmfaaGreat

/-! The project's Nodes: what it hands back. -/
namespace Go.Proofs.YtbejbiogabpmfaaGreat
open Wd Ino Sm U Go.RowKit Go.ChangeShapes Go.WideShapes Go.Shelf Go.Sort
set_option linter.unusedVariables false
set_option maxRecDepth 100000
/-- a box that holds what inOrder told, and the row that this goes through -/
def NodesGo (l : List Nod) (base : Nat) (w : World) (e : Ending) (w' : World) : Prop := ∃ p q Lk v, e = .returned (.func (.func 71) #[] #[.pointer (some ⟨p, 0, none⟩)]) ∧ w.heap.size ≤ p ∧ p < w'.heap.size ∧ p ≠ q ∧
  w'.cell? ⟨p, 0, none⟩ = some (.func (.func 85) #[] #[.pointer (some ⟨q, 0, none⟩)]) ∧ w.heap.size ≤ q ∧ Cells w' q 73 #[v] ∧ OwnNs w' w.heap.size v Lk ∧ (∀ n ∈ Lk, OwnNd w' base n) ∧ Lk.map Nd.plain = l ∧ Below w.heap.size w w'
section
variable {w : World} {base m g b : Nat} {S : Stt}
theorem pNodes (h : PSt w base m g b S) (ha : AscS S.l) (hs : SmS S.l) (hl : S.l.length ≤ 1000) (hm : m < 999900) : Calls Tryz.prog 40 #[SPtr g] w (NodesGo S.l base w) := by
  have KM := Lib.hid (pMade h)
  have KO := Lib.hid (fun wx (hb : Below w.heap.size w wx) => pInOrder h hb ha hs hl hm)
  have H := Lib.hid h
  clear h ha hs
  unfold SPtr at *
  go_enter Tryz.func40, Tryz.ntmps40
  go_wp2_with fail
  refine (KM.out).mono ?_
  rintro e w1 ⟨rfl, hw1⟩
  have B1 := Lib.hid (grown_b hw1)
  have K1 := Lib.hid (KO.out w1 B1.out)
  clear hw1 KM KO
  go_wp2_with fail
  refine (K1.out).mono ?_
  rintro e w2 ⟨q, Lk, v, rfl, hor, hb2⟩
  have HOR := Lib.hid hor; have HB2 := Lib.hid hb2
  clear hor hb2 K1
  go_wp2
  go_ret
  obtain ⟨h1, h2, h3, h4, h5⟩ := HOR.out
  have hb3 : Below w2.heap.size w2 (w2.alloc (.cells #[.func (.func 85) #[] #[.pointer (some ⟨q, 0, none⟩)]] 80)) := below_of_grown (World.grownBy_alloc w2 _ none)
  have hcz : Cells (w2.alloc (.cells #[.func (.func 85) #[] #[.pointer (some ⟨q, 0, none⟩)]] 80)) w2.heap.size 80 #[.func (.func 85) #[] #[.pointer (some ⟨q, 0, none⟩)]] := Cells.new _ _ _
  have hb12 := HB2.out.size
  have hbw := B1.out.size
  have hBw : Below w.heap.size w w2 := B1.out.trans (HB2.out.mono hbw)
  refine ⟨w2.heap.size, q, Lk, v, rfl, by omega, by simp, ?_, ?_, by omega, h2.below' hb3, ?_, fun n hn => ((h4 n hn).below hBw).below hb3, h5, hBw.trans (hb3.mono (by omega))⟩
  · have := h2.lt; omega
  · exact hcz.cell 0
  · have h9 := own_below h3 hb3
    refine ⟨h9.1, ?_⟩
    rcases h9.2 with h6 | ⟨gg, cap, cur, h6, h7, h8⟩
    · exact .inl h6
    · exact .inr ⟨gg, cap, cur, h6, Nat.le_trans hbw h7, h8⟩
end
end Go.Proofs.YtbejbiogabpmfaaGreat
