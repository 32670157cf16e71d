import Derived.Test.YtnoojhkkojijpaaDoorEfFace
import Derived.Test.YtnoojhkkojijpaaDoorEfCel
import Derived.Deep.RegionHeld3
import Derived.Deep.LoopGhost
import Derived.Deep.DeepCutAuto
namespace Go.Proofs.YtnoojhkkojijpaaDoor
open Wd U Go.RowKit Go.ChangeShapes Go.WideShapes Go.Sort
set_option linter.unusedVariables false

theorem pagesT_snoc {l : List Eff} {k : Nat} {e : Eff} (h : l[k]? = some e) : pagesT (l.take (k + 1)) = pagesT (l.take k) + if e.kind = 7 then 1 else 0 := by
  rw [take_snocE h]
  unfold pagesT
  rw [List.filter_append, List.length_append]
  by_cases h7 : e.kind = 7 <;> simp [h7]
theorem pagesT_le (l : List Eff) : pagesT l ≤ l.length := by unfold pagesT; exact List.length_filter_le _ _
def TouchRel (w : World) (l : List Eff) (n : Int) (k : Nat) (a f p i : Value) (wr : World) : Prop := ∃ j : Nat, j ≤ l.length ∧ k = l.length - j ∧ i = .int .i64 j ∧ a = .int .i64 (lastT n (l.take j)).1 ∧ f = .bool (lastT n (l.take j)).2 ∧ p = .int .i64 (pagesT (l.take j)) ∧ Below w.heap.size w wr
structure S9 (W : World) (g : Nat) (e : Eff) (w : World) : Prop where
  b : Below W.heap.size W w
  c0 : w.cell? ⟨g, 0, none⟩ = some (.int .i64 e.kind)
  c1 : w.cell? ⟨g, 1, none⟩ = some (.int .i64 e.ino)

set_option maxRecDepth 100000 in
set_option maxHeartbeats 4000000 in
theorem touches_any {w : World} {A : Option Addr} {c : Nat} {l : List Eff} (n : Int) (hT : Tabs w) (h : Effs w w.heap.size A l) (hm : l.length ≤ maxLen) : Calls Tryd.prog 4 #[.slice A l.length c, .int .i64 n] w (TrueB w) := by
  have H := Lib.hid h; have HM := Lib.hid hm; have HT := Lib.hid hT
  clear h hm hT
  cases hf : fewE l
  · have HF := Lib.hid hf
    clear hf
    go_enter Tryd.func4, Tryd.ntmps4
    go_wp2_with fail
    refine (effAwake_true HT.out).mono ?_
    rintro e w1 ⟨rfl, b1⟩
    go_wp2_with fail
    refine (few_any ((H.out.below b1).more b1.size) HM.out).mono ?_
    rintro e w2 ⟨rfl, b2⟩
    rw [HF.out]
    have HB := Lib.hid (b1.trans (b2.mono b1.size))
    clear b1 b2
    go_wp2
    go_ret
    exact ⟨rfl, HB.out⟩
  · have HF := Lib.hid hf
    have hl30 : l.length ≤ 30 := (fewE_iff.1 hf).2
    clear hf
    go_enter Tryd.func4, Tryd.ntmps4
    go_wp2_with fail
    refine (effAwake_true HT.out).mono ?_
    rintro e w1 ⟨rfl, b1⟩
    go_wp2_with fail
    refine (few_any ((H.out.below b1).more b1.size) HM.out).mono ?_
    rintro e w2 ⟨rfl, b2⟩
    rw [HF.out]
    have HB := Lib.hid (b1.trans (b2.mono b1.size))
    clear b1 b2
    go_wp2
    go_loopg [5, 6, 7, 19] l.length (fun k a f p i wr => TouchRel w l n k a f p i wr)
    case atStart => exact ⟨0, Nat.zero_le _, rfl, rfl, rfl, rfl, rfl, HB.out⟩
    case round =>
      obtain ⟨j, hj, rfl, rfl, rfl, rfl, rfl, hb⟩ := hrel
      have HBr := Lib.hid hb
      obtain ⟨a, ha⟩ : ∃ a, (lastT n (l.take j)).1 = a := ⟨_, rfl⟩
      obtain ⟨f, hfd⟩ : ∃ f, (lastT n (l.take j)).2 = f := ⟨_, rfl⟩
      obtain ⟨p, hp⟩ : ∃ p, pagesT (l.take j) = p := ⟨_, rfl⟩
      have hp30 : p ≤ 30 := by rw [← hp]; exact Nat.le_trans (pagesT_le _) (by rw [List.length_take]; omega)
      rw [ha, hfd, hp]
      have HA := Lib.hid ha; have HFD := Lib.hid hfd; have HP := Lib.hid hp
      clear ha hfd hp
      by_cases hlt : j < l.length
      · obtain ⟨e, he⟩ : ∃ e, l[j]? = some e := ⟨_, List.getElem?_eq_getElem hlt⟩
        have hD := H.out.below hb
        obtain ⟨b, off, rfl, hbB, x0, x1, x2, x3, x4, x5, x6, x7, x8⟩ := effs_cells hD he
        have HE := Lib.hid he
        have HC := Lib.hid (Cells.new wr 24 (effCells e))
        have hjl : (j : Int) < (l.length : Int) := by omega
        clear hD hb he
        by_cases hi : e.ino = n
        · have qi : (e.ino == n) = true := by simpa using hi
          have HI := Lib.hid hi
          clear hi
          by_cases hk : e.kind = 7
          · have qk : (e.kind == 7) = true := by simpa using hk
            have HK := Lib.hid hk
            clear hk
            go_upto_region 13 with fail
            obtain ⟨w6, hw6⟩ : ∃ w6, wr.alloc (.cells (effCells e) 24) = w6 := ⟨_, rfl⟩
            have hc6 : Cells w6 wr.heap.size 24 (effCells e) := by rw [← hw6]; exact HC.out
            have hb6 : Below w.heap.size w w6 := by rw [← hw6]; exact HBr.out.alloc HBr.out.size _
            unfold effCells at hw6
            rw [hw6]
            have HC6 := Lib.hid hc6; have HB6 := Lib.hid hb6
            clear hw6 hc6 hb6 HC
            go_cut [41] from 34 to 40 (fun t wx => t = .bool false ∧ Below w6.heap.size w6 wx)
            case first =>
              have hb0 : Below w6.heap.size w6 w6.drew := below_drewN (Below.refl _ _) 1
              go_region_held3 (fun w' => Below w6.heap.size w6 w' ∧ w'.cell? ⟨wr.heap.size, 0, none⟩ = some (.int .i64 e.kind) ∧ w'.cell? ⟨wr.heap.size, 1, none⟩ = some (.int .i64 e.ino) ∧ w'.cell? ⟨wr.heap.size, 2, none⟩ = some (.int .i64 e.dir) ∧ w'.cell? ⟨wr.heap.size, 3, none⟩ = some (.int .i64 e.dst) ∧ w'.cell? ⟨wr.heap.size, 4, none⟩ = some (.int .i64 e.page) ∧ w'.cell? ⟨wr.heap.size, 5, none⟩ = some (.int .i64 e.size) ∧ w'.cell? ⟨wr.heap.size, 6, none⟩ = some (.string e.name) ∧ w'.cell? ⟨wr.heap.size, 7, none⟩ = some (.string e.other) ∧ w'.cell? ⟨wr.heap.size, 8, none⟩ = some (.slice e.A e.data.length e.cp))
                (first | exact s9 HC6.out hb0 | exact s9 HC6.out kT)
                (first | (go_at_call 14; refine (eTouches e n _).mono ?_; rintro e' wT hT'; obtain ⟨rfl, bT⟩ := hT'.below; have kT : Below w6.heap.size w6 wT := hb0.trans (bT.mono hb0.size); clear hT' bT))
              all_goals
                go_wp2_with fail
                go_meet
                exact ⟨by simp, kT⟩
            case rest =>
            obtain ⟨rfl, b7⟩ := hcut
            have HBW := Lib.hid (HB6.out.trans (b7.mono HB6.out.size))
            clear b7
            go_wp2_with fail
            go_roundg (l.length - (j + 1))
            case measure => omega
            case rel => exact ⟨j + 1, by omega, rfl, by go_num, by rw [lastT_snoc HE.out, if_pos HI.out], by rw [lastT_snoc HE.out, if_pos HI.out], by rw [pagesT_snoc HE.out, if_pos HK.out, HP.out]; rfl, HBW.out⟩
          · have qk : (e.kind == 7) = false := by simpa using hk
            have HK := Lib.hid hk
            clear hk
            go_upto_region 13 with fail
            obtain ⟨w6, hw6⟩ : ∃ w6, wr.alloc (.cells (effCells e) 24) = w6 := ⟨_, rfl⟩
            have hc6 : Cells w6 wr.heap.size 24 (effCells e) := by rw [← hw6]; exact HC.out
            have hb6 : Below w.heap.size w w6 := by rw [← hw6]; exact HBr.out.alloc HBr.out.size _
            unfold effCells at hw6
            rw [hw6]
            have HC6 := Lib.hid hc6; have HB6 := Lib.hid hb6
            clear hw6 hc6 hb6 HC
            go_cut [41] from 34 to 40 (fun t wx => t = .bool false ∧ Below w6.heap.size w6 wx)
            case first =>
              have hb0 : Below w6.heap.size w6 w6.drew := below_drewN (Below.refl _ _) 1
              go_region_held3 (fun w' => Below w6.heap.size w6 w' ∧ w'.cell? ⟨wr.heap.size, 0, none⟩ = some (.int .i64 e.kind) ∧ w'.cell? ⟨wr.heap.size, 1, none⟩ = some (.int .i64 e.ino) ∧ w'.cell? ⟨wr.heap.size, 2, none⟩ = some (.int .i64 e.dir) ∧ w'.cell? ⟨wr.heap.size, 3, none⟩ = some (.int .i64 e.dst) ∧ w'.cell? ⟨wr.heap.size, 4, none⟩ = some (.int .i64 e.page) ∧ w'.cell? ⟨wr.heap.size, 5, none⟩ = some (.int .i64 e.size) ∧ w'.cell? ⟨wr.heap.size, 6, none⟩ = some (.string e.name) ∧ w'.cell? ⟨wr.heap.size, 7, none⟩ = some (.string e.other) ∧ w'.cell? ⟨wr.heap.size, 8, none⟩ = some (.slice e.A e.data.length e.cp))
                (first | exact s9 HC6.out hb0 | exact s9 HC6.out kT)
                (first | (go_at_call 14; refine (eTouches e n _).mono ?_; rintro e' wT hT'; obtain ⟨rfl, bT⟩ := hT'.below; have kT : Below w6.heap.size w6 wT := hb0.trans (bT.mono hb0.size); clear hT' bT))
              all_goals
                go_wp2_with fail
                go_meet
                exact ⟨by simp, kT⟩
            case rest =>
            obtain ⟨rfl, b7⟩ := hcut
            have HBW := Lib.hid (HB6.out.trans (b7.mono HB6.out.size))
            clear b7
            go_wp2_with fail
            go_roundg (l.length - (j + 1))
            case measure => omega
            case rel => exact ⟨j + 1, by omega, rfl, by go_num, by rw [lastT_snoc HE.out, if_pos HI.out], by rw [lastT_snoc HE.out, if_pos HI.out], by rw [pagesT_snoc HE.out, if_neg HK.out, HP.out]; rfl, HBW.out⟩
        · have qi : (e.ino == n) = false := by simpa using hi
          have HI := Lib.hid hi
          clear hi
          by_cases hk : e.kind = 7
          · have qk : (e.kind == 7) = true := by simpa using hk
            have HK := Lib.hid hk
            clear hk
            go_upto_region 13 with fail
            obtain ⟨w6, hw6⟩ : ∃ w6, wr.alloc (.cells (effCells e) 24) = w6 := ⟨_, rfl⟩
            have hc6 : Cells w6 wr.heap.size 24 (effCells e) := by rw [← hw6]; exact HC.out
            have hb6 : Below w.heap.size w w6 := by rw [← hw6]; exact HBr.out.alloc HBr.out.size _
            unfold effCells at hw6
            rw [hw6]
            have HC6 := Lib.hid hc6; have HB6 := Lib.hid hb6
            clear hw6 hc6 hb6 HC
            go_cut [41] from 34 to 40 (fun t wx => t = .bool false ∧ Below w6.heap.size w6 wx)
            case first =>
              have hb0 : Below w6.heap.size w6 w6.drew := below_drewN (Below.refl _ _) 1
              go_region_held3 (fun w' => Below w6.heap.size w6 w' ∧ w'.cell? ⟨wr.heap.size, 0, none⟩ = some (.int .i64 e.kind) ∧ w'.cell? ⟨wr.heap.size, 1, none⟩ = some (.int .i64 e.ino) ∧ w'.cell? ⟨wr.heap.size, 2, none⟩ = some (.int .i64 e.dir) ∧ w'.cell? ⟨wr.heap.size, 3, none⟩ = some (.int .i64 e.dst) ∧ w'.cell? ⟨wr.heap.size, 4, none⟩ = some (.int .i64 e.page) ∧ w'.cell? ⟨wr.heap.size, 5, none⟩ = some (.int .i64 e.size) ∧ w'.cell? ⟨wr.heap.size, 6, none⟩ = some (.string e.name) ∧ w'.cell? ⟨wr.heap.size, 7, none⟩ = some (.string e.other) ∧ w'.cell? ⟨wr.heap.size, 8, none⟩ = some (.slice e.A e.data.length e.cp))
                (first | exact s9 HC6.out hb0 | exact s9 HC6.out kT)
                (first | (go_at_call 14; refine (eTouches e n _).mono ?_; rintro e' wT hT'; obtain ⟨rfl, bT⟩ := hT'.below; have kT : Below w6.heap.size w6 wT := hb0.trans (bT.mono hb0.size); clear hT' bT))
              all_goals
                go_wp2_with fail
                go_meet
                exact ⟨by simp, kT⟩
            case rest =>
            obtain ⟨rfl, b7⟩ := hcut
            have HBW := Lib.hid (HB6.out.trans (b7.mono HB6.out.size))
            clear b7
            go_wp2_with fail
            go_roundg (l.length - (j + 1))
            case measure => omega
            case rel => exact ⟨j + 1, by omega, rfl, by go_num, by rw [lastT_snoc HE.out, if_neg HI.out, HA.out], by rw [lastT_snoc HE.out, if_neg HI.out, HFD.out], by rw [pagesT_snoc HE.out, if_pos HK.out, HP.out]; rfl, HBW.out⟩
          · have qk : (e.kind == 7) = false := by simpa using hk
            have HK := Lib.hid hk
            clear hk
            go_upto_region 13 with fail
            obtain ⟨w6, hw6⟩ : ∃ w6, wr.alloc (.cells (effCells e) 24) = w6 := ⟨_, rfl⟩
            have hc6 : Cells w6 wr.heap.size 24 (effCells e) := by rw [← hw6]; exact HC.out
            have hb6 : Below w.heap.size w w6 := by rw [← hw6]; exact HBr.out.alloc HBr.out.size _
            unfold effCells at hw6
            rw [hw6]
            have HC6 := Lib.hid hc6; have HB6 := Lib.hid hb6
            clear hw6 hc6 hb6 HC
            go_cut [41] from 34 to 40 (fun t wx => t = .bool false ∧ Below w6.heap.size w6 wx)
            case first =>
              have hb0 : Below w6.heap.size w6 w6.drew := below_drewN (Below.refl _ _) 1
              go_region_held3 (fun w' => Below w6.heap.size w6 w' ∧ w'.cell? ⟨wr.heap.size, 0, none⟩ = some (.int .i64 e.kind) ∧ w'.cell? ⟨wr.heap.size, 1, none⟩ = some (.int .i64 e.ino) ∧ w'.cell? ⟨wr.heap.size, 2, none⟩ = some (.int .i64 e.dir) ∧ w'.cell? ⟨wr.heap.size, 3, none⟩ = some (.int .i64 e.dst) ∧ w'.cell? ⟨wr.heap.size, 4, none⟩ = some (.int .i64 e.page) ∧ w'.cell? ⟨wr.heap.size, 5, none⟩ = some (.int .i64 e.size) ∧ w'.cell? ⟨wr.heap.size, 6, none⟩ = some (.string e.name) ∧ w'.cell? ⟨wr.heap.size, 7, none⟩ = some (.string e.other) ∧ w'.cell? ⟨wr.heap.size, 8, none⟩ = some (.slice e.A e.data.length e.cp))
                (first | exact s9 HC6.out hb0 | exact s9 HC6.out kT)
                (first | (go_at_call 14; refine (eTouches e n _).mono ?_; rintro e' wT hT'; obtain ⟨rfl, bT⟩ := hT'.below; have kT : Below w6.heap.size w6 wT := hb0.trans (bT.mono hb0.size); clear hT' bT))
              all_goals
                go_wp2_with fail
                go_meet
                exact ⟨by simp, kT⟩
            case rest =>
            obtain ⟨rfl, b7⟩ := hcut
            have HBW := Lib.hid (HB6.out.trans (b7.mono HB6.out.size))
            clear b7
            go_wp2_with fail
            go_roundg (l.length - (j + 1))
            case measure => omega
            case rel => exact ⟨j + 1, by omega, rfl, by go_num, by rw [lastT_snoc HE.out, if_neg HI.out, HA.out], by rw [lastT_snoc HE.out, if_neg HI.out, HFD.out], by rw [pagesT_snoc HE.out, if_neg HK.out, HP.out]; rfl, HBW.out⟩
      · obtain rfl : j = l.length := by omega
        have ha := HA.out; have hfd := HFD.out; have hp := HP.out
        rw [List.take_of_length_le (Nat.le_refl _)] at ha hfd hp
        have HA2 := Lib.hid ha; have HFD2 := Lib.hid hfd; have HP2 := Lib.hid hp
        have HE := Lib.hid ((H.out.below hb).more hb.size)
        clear ha hfd hp hb hj hlt HA HFD HP
        have q1 : ((a : Int) == (a : Int)) = true := by simp
        go_wp2_with fail
        refine (eLast n HE.out (by omega)).mono ?_
        rintro e w3 ⟨rfl, b3⟩
        rw [HA2.out, HFD2.out]
        have HE3 := Lib.hid ((HE.out.below b3).more b3.size)
        have HB3 := Lib.hid (HBr.out.trans (b3.mono HBr.out.size))
        clear b3
        go_wp2_with fail
        refine (ePages HE3.out (by omega)).mono ?_
        rintro e w4 ⟨rfl, b4⟩
        rw [HP2.out]
        have HB4 := Lib.hid (HB3.out.trans (b4.mono HB3.out.size))
        clear b4
        go_wp2
        go_ret
        exact ⟨by simp, HB4.out⟩
end Go.Proofs.YtnoojhkkojijpaaDoor
