import Derived.Test.YtcimmfhbffofjaaRcAm
import Derived.Maps.AppendAt
namespace Go.Proofs.Ytcimmfhbffofjaa
open Wd U Go.ChangeShapes Go.WideShapes Go.RowKit Go.Sort
set_option linter.unusedVariables false
set_option linter.unusedSimpArgs false

def AllR (l : List Nat) (W : World) (e : Ending) (w : World) : Prop := Below W.heap.size W w ∧
  ((∃ (ps : List (Eff × Int)) (A D : Option Addr) (c d : Nat), (∀ p ∈ ps, goodP p) ∧ l = allW ps ∧ Effs w w.heap.size A (ps.map (·.1)) ∧ ps.length ≤ c ∧ c ≤ maxLen ∧ Row w w.heap.size D ps.length (ps.map (fun p => Value.int .i64 p.2)) ∧ e = .returned (.tuple #[.slice A ps.length c, .slice D ps.length d, .int .i64 0])) ∨
   ((∀ ps : List (Eff × Int), (∀ p ∈ ps, goodP p) → l ≠ allW ps) ∧ e = .returned (.tuple #[.slice none 0 0, .slice none 0 0, .int .i64 74])))
theorem ofr_yes {l : List Nat} {W w : World} {e : Ending} (h : OfR l W e w) (hy : ∃ (x : Eff) (r : Int) (t : List Nat), recB x r = true ∧ x.data = zer x.kind ∧ l = recW x r ++ t) :
    ∃ (x : Eff) (r : Int) (t : List Nat), recB x r = true ∧ x.data = zer x.kind ∧ l = recW x r ++ t ∧ x.Ok w w.heap.size ∧ x.Ty w ∧ e = .returned (.tuple #[x.val, .int .i64 r, .int .i64 (manyR x), .int .i64 0]) ∧ Below W.heap.size W w := by
  rcases h with ⟨hb, h | ⟨hno, _⟩⟩
  · obtain ⟨x, r, t, h1, h2, h3, h4, h5, h6⟩ := h
    exact ⟨x, r, t, h1, h2, h3, h4, h5, h6, hb⟩
  · obtain ⟨x, r, t, h1, h2, h3⟩ := hy
    exact absurd h3 (hno x r t h1 h2)
theorem ofr_no {l : List Nat} {W w : World} {e : Ending} (h : OfR l W e w) (hy : ∀ (x : Eff) (r : Int) (t : List Nat), recB x r = true → x.data = zer x.kind → l ≠ recW x r ++ t) :
    e = .returned (.tuple #[zE.val, .int .i64 0, .int .i64 0, .int .i64 74]) ∧ Below W.heap.size W w := by
  rcases h with ⟨hb, h | ⟨_, he⟩⟩
  · obtain ⟨x, r, t, h1, h2, h3, _⟩ := h
    exact absurd h3 (hy x r t h1 h2)
  · exact ⟨he, hb⟩
theorem infoEff : (Try.prog.info? 24).map (fun i => (i.zero, i.size, i.bytes)) = some (some zE.val, 9, 104) := by kernel_rfl
theorem infoInt : (Try.prog.info? 3).map (fun i => (i.zero, i.size, i.bytes)) = some (some (.int .i64 0), 1, 8) := by kernel_rfl
def AllLoop (l : List Nat) (w0 : World) (B : Nat) (k : Nat) (v0 v5 v6 : Value) (wr : World) : Prop :=
  ∃ (ps : List (Eff × Int)) (rest : List Nat) (A : Option Addr) (c : Nat), (∀ p ∈ ps, goodP p) ∧ l = allW ps ++ rest ∧ k = rest.length ∧ v0 = .slice A rest.length c ∧ rest.length ≤ c ∧ c ≤ maxLen ∧ Row wr B A rest.length (rest.map wd) ∧
    wr.ownsRow w0.heap.size 24 9 v5 ps.length (effVals ps) ∧ (∀ p ∈ ps, p.1.Ok wr wr.heap.size ∧ p.1.Ty wr) ∧ wr.ownsRow w0.heap.size 3 1 v6 ps.length (ps.map (fun p => Value.int .i64 p.2)) ∧ Below w0.heap.size w0 wr
theorem oneE (x : Eff) : ∀ u ∈ x.vals, u.oneCell' = true := by intro u hu; unfold Eff.vals at hu; simp at hu; rcases hu with rfl | rfl | rfl | rfl | rfl | rfl | rfl | rfl | rfl <;> rfl
theorem cells_of_eff {w : World} {g : Nat} {x : Eff} (h : Cells w g 24 (effCells x)) : ∀ (j : Nat) (u : Value), x.vals[j]? = some u → w.cell? ((⟨g, 0, none⟩ : Addr).add j) = some u := by
  intro j u hu
  have e : (⟨g, 0, none⟩ : Addr).add j = ⟨g, j, none⟩ := by unfold Addr.add; split <;> simp_all
  rw [e, h.cell j, ← Array.getElem?_toList]
  exact hu
theorem row_rest {w : World} {B b off L m : Nat} {xs ys : List Nat} (h : Row w B (some ⟨b, off, none⟩) L ((xs ++ ys).map wd)) (hm : xs.length = m) (hL : m + ys.length = L) : Row w B (some ⟨b, off + m, none⟩) ys.length (ys.map wd) ∧ (ys.length = 0 → Row w B (some ⟨b, off, none⟩) ys.length (ys.map wd)) := by
  have h1 := row_sub (lo := m) (k := ys.length) (X := False) h (by omega) (fun h => h.elim)
  have e : ((xs ++ ys).drop m).take ys.length = ys := by rw [← hm, List.drop_left, List.take_length]
  rw [e, if_neg (fun h => h)] at h1
  refine ⟨h1, fun h0 => ?_⟩
  have h2 := row_sub (lo := m) (k := ys.length) (X := True) h (by omega) (fun _ => h0)
  rw [e, if_pos trivial] at h2
  exact h2
set_option maxRecDepth 100000 in
set_option maxHeartbeats 8000000 in
theorem rAll (l : List Nat) (L : Nat) (hL : l.length = L) (hl : Small l) (hle : L ≤ 1000) (A : Option Addr) (c B : Nat) (hc : L ≤ c) (hcm : c ≤ maxLen) (w : World) (hB : B ≤ w.heap.size) (hr : Row w B A L (l.map wd)) : Calls Try.prog 12 #[.slice A L c] w (AllR l w) := by
  have HR := Lib.hid hr; have HL := Lib.hid hL; have HS := Lib.hid hl; have HCM := Lib.hid hcm
  clear hr hL hl hcm
  go_enter Try.func12, Try.ntmps12
  go_wp2
  go_loopg [0, 5, 6] L (fun k v0 v5 v6 wr => AllLoop l w B k v0 v5 v6 wr)
  case atStart => exact ⟨[], l, A, c, (fun p hp => by cases hp), rfl, HL.out.symm, by rw [HL.out], by rw [HL.out]; exact hc, HCM.out, by rw [HL.out]; exact HR.out, ⟨rfl, .inl ⟨rfl, rfl⟩⟩, (fun p hp => by cases hp), ⟨rfl, .inl ⟨rfl, rfl⟩⟩, Below.refl _ _⟩
  case round =>
    obtain ⟨ps, rest, A1, c1, hps, hlw, rfl, rfl, hc1, hcm1, hr1, ho5, hoks, ho6, hb1⟩ := hrel
    have hrl : rest.length ≤ L ∧ ps.length ≤ L := by
      have h1 := congrArg List.length hlw
      rw [List.length_append, HL.out] at h1
      have := all_len hps
      omega
    have hsr : Small rest := fun y hy => HS.out y (by rw [hlw]; exact List.mem_append_right _ hy)
    have HPS := Lib.hid hps; have HLW := Lib.hid hlw; have HR1 := Lib.hid hr1; have HO5 := Lib.hid ho5; have HOK := Lib.hid hoks; have HO6 := Lib.hid ho6; have HB1 := Lib.hid hb1; have HSR := Lib.hid hsr; have HC1 := Lib.hid hcm1
    have hBr : B ≤ wr.heap.size := Nat.le_trans hB hb1.size
    clear hps hlw hr1 ho5 hoks ho6 hb1 hsr
    obtain ⟨n, hn⟩ : ∃ n, rest.length = n := ⟨_, rfl⟩
    have HN := Lib.hid hn
    rw [hn] at hrl hc1 HR1 ⊢
    obtain ⟨N, hN⟩ : ∃ N, ps.length = N := ⟨_, rfl⟩
    have HNN := Lib.hid hN
    rw [hN] at hrl HO5 HO6
    have hcm2 : c1 ≤ 9223372036854775807 := by unfold maxLen at hcm1; omega
    clear hn hN hcm1
    have KO := Lib.hid (fun w hB hr => rOf rest n HN.out HSR.out (by omega) A1 c1 B hc1 w hB hr)
    by_cases h0 : n = 0
    · subst h0
      have hnil : rest = [] := List.eq_nil_of_length_eq_zero HN.out
      have HNIL := Lib.hid hnil
      clear hnil
      go_wp2
      go_ret3
      refine ⟨HB1.out, .inl ?_⟩
      obtain ⟨A5, c5, rfl, e2, e3, e4⟩ := effs_of_own (HNN.out.symm ▸ HO5.out) (fun p hp => (HOK.out p hp).1)
      obtain ⟨A6, c6, rfl, r6⟩ := Row.of_own (HNN.out.symm ▸ HO6.out)
      refine ⟨ps, A5, A6, c5, c6, HPS.out, by rw [HLW.out, HNIL.out, List.append_nil], e4, e2, e3, r6, ?_⟩
      rfl
    · have hn0 : (0 : Int) < (n : Int) := by omega
      have hd0 : decide ((n : Int) > 0) = true := decide_eq_true (by omega)
      by_cases hy : ∃ (x : Eff) (r : Int) (t : List Nat), recB x r = true ∧ x.data = zer x.kind ∧ rest = recW x r ++ t
      · have HY := Lib.hid hy
        clear hy
        go_upto_region 5 with (first
          | (go_at_call 10; (with_reducible refine (KO.out _ hBr HR1.out).mono ?_); rintro e' w1 h1; obtain ⟨x, r, t, x1, x2, x3, x4, x5, rfl, b1⟩ := ofr_yes h1 HY.out; unfold Eff.val; have X1 := Lib.hid x1; have X2 := Lib.hid x2; have X3 := Lib.hid x3; have X4 := Lib.hid x4; have X5 := Lib.hid x5; have B1 := Lib.hid b1; clear h1 x1 x2 x3 x4 x5 b1))
        obtain ⟨w2, hw2⟩ : ∃ w2, w1.alloc (.cells (effCells x) 24) = w2 := ⟨_, rfl⟩
        have hcx := Cells.new w1 24 (effCells x)
        have hb2 : Below w1.heap.size w1 (w1.alloc (.cells (effCells x) 24)) := (Below.refl _ _).alloc (Nat.le_refl _) _
        rw [hw2] at hcx hb2
        unfold effCells at hw2
        rw [hw2]
        obtain ⟨c0, c1', c2, c3, c4, c5, c6, c7, c8⟩ := cells9 hcx
        have hb12 := B1.out.trans (hb2.mono B1.out.size)
        have OKX := Lib.hid (X4.out.at_ hb2); have TYX := Lib.hid (X5.out.below hb2)
        have HO52 := Lib.hid (own_below HO5.out hb12); have HO62 := Lib.hid (own_below HO6.out hb12)
        have HOK2 := Lib.hid (fun p hp => (⟨(HOK.out p hp).1.at_ hb12, (HOK.out p hp).2.below hb12⟩ : p.1.Ok w2 w2.heap.size ∧ p.1.Ty w2))
        have HB2 := Lib.hid (HB1.out.trans (hb12.mono HB1.out.size))
        have hs2 := HB2.out.size
        clear hw2 hcx hb2 hb12
        have m1 := manyR_le (check_in (recB_parts X1.out).1)
        have hmt : manyR x + t.length = n := by
          have h1 := congrArg List.length X3.out
          rw [List.length_append, recW_len, HN.out] at h1
          exact h1.symm
        obtain ⟨m, hm⟩ : ∃ m, manyR x = m := ⟨_, rfl⟩
        have HM := Lib.hid ((recW_len x r).trans hm)
        rw [hm] at m1 hmt ⊢
        have HMT := Lib.hid hmt
        clear hm
        obtain ⟨ie, i1, i2, i3, i4⟩ := info_parts infoEff
        obtain ⟨b, off, rfl⟩ : ∃ b off, A1 = some ⟨b, off, none⟩ := by
          obtain ⟨b, off, e, _⟩ := HR1.out.2 (by omega)
          exact ⟨b, off, e⟩
        have hmc : m ≤ c1 := by omega
        have hmn : m ≤ n := by omega
        clear hmt
        have I1 := Lib.hid i1; have I2 := Lib.hid i2; have I3 := Lib.hid i3; have I4 := Lib.hid i4
        clear i1 i2 i3 i4
        by_cases hcc : c1 = m
        · go_wp2_with (first
            | (at_builtin; refine wpList_append_own_at _ rfl (.tmp 24) (.tmp 26) 28 rfl w.heap.size 24 ie zE.val 9 104 Try.underlying28 I1.out I2.out I3.out I4.out rfl (by decide) u5 N (effVals ps) rfl (own_below HO52.out ((Below.refl _ _).alloc (Nat.le_refl _) _)) ⟨w2.heap.size, 0, none⟩ 1 1 x.vals rfl rfl (cells_of_eff (Cells.new w2 24 (effCells x))) (oneE x) (by unfold maxLen; omega) (by omega) (by simp; omega) ?_; intro v7 w4 hown4 hgr4 _ hat4; have hk4 := keep_own (own_below HO52.out ((Below.refl _ _).alloc (Nat.le_refl _) (.cells (effCells x) 24))) hgr4; have hb3 : Below w2.heap.size w2 (w2.alloc (.cells (effCells x) 24)) := (Below.refl _ _).alloc (Nat.le_refl _) _; have hs4 := hgr4.size; have HO54 := Lib.hid hown4; have HO64 := Lib.hid (hk4.own (own_below HO62.out hb3) (by decide)); have HOK4 := Lib.hid (fun p hp => (⟨hk4.ok ((HOK2.out p hp).1.at_ hb3) ((HOK2.out p hp).2.below hb3) (by decide) hs4, hk4.ty ((HOK2.out p hp).2.below hb3) (by decide)⟩ : p.1.Ok w4 w4.heap.size ∧ p.1.Ty w4)); have OKX4 := Lib.hid (hk4.ok (OKX.out.at_ hb3) (TYX.out.below hb3) (by decide) hs4); have TYX4 := Lib.hid (hk4.ty (TYX.out.below hb3) (by decide)); have HB4 := Lib.hid ((HB2.out.trans (hb3.mono hs2)).grown hgr4 (Nat.le_trans hs2 hb3.size) (own_base HO52.out)); clear hown4 hgr4 hat4 hk4 hb3 hs4)
            | (at_builtin; refine wpList_append_row _ rfl (.tmp 28) (.tmp 30) 38 rfl w.heap.size 3 (.int .i64 0) 8 Try.underlying38 infoInt rfl u6 N (ps.map (fun p => Value.int .i64 p.2)) rfl (own_below HO64.out ((Below.refl _ _).alloc (Nat.le_refl _) _)) _ (some ⟨w4.heap.size, 0, none⟩) 1 1 [.int .i64 r] rfl (Row.one _ _ _) (by simp [Value.oneCell']) (by unfold maxLen; omega) (by omega) (by have := HB4.out.size; simp; omega) ?_; intro v8 w5 hown5 hgr5 hat5; have hk5 := keep_own (own_below HO64.out ((Below.refl _ _).alloc (Nat.le_refl _) (.cells #[.int .i64 r] 3))) hgr5; have hb5 : Below w4.heap.size w4 (w4.alloc (.cells #[.int .i64 r] 3)) := (Below.refl _ _).alloc (Nat.le_refl _) _; have hs5 := hgr5.size; have HO65 := Lib.hid hown5; have HO55 := Lib.hid (hk5.own (own_below HO54.out hb5) (by decide)); have HOK5 := Lib.hid (fun p hp => (⟨hk5.ok ((HOK4.out p hp).1.at_ hb5) ((HOK4.out p hp).2.below hb5) (by decide) hs5, hk5.ty ((HOK4.out p hp).2.below hb5) (by decide)⟩ : p.1.Ok w5 w5.heap.size ∧ p.1.Ty w5)); have OKX5 := Lib.hid (hk5.ok (OKX4.out.at_ hb5) (TYX4.out.below hb5) (by decide) hs5); have TYX5 := Lib.hid (hk5.ty (TYX4.out.below hb5) (by decide)); have HB5 := Lib.hid ((HB4.out.trans (hb5.mono HB4.out.size)).grown hgr5 (Nat.le_trans HB4.out.size hb5.size) (own_base HO64.out)); clear hown5 hgr5 hat5 hk5 hb5 hs5))
          go_roundg t.length
          case measure => have := HMT.out; have := HN.out; omega
          case rel =>
            have hrow : Row w5 B (some ⟨b, off, none⟩) n (rest.map wd) := HR1.out.keep fun b' o hb' => (HB5.out.cell (p := ⟨b', o, none⟩) (Nat.lt_of_lt_of_le hb' hB)).trans (HB1.out.cell (p := ⟨b', o, none⟩) (Nat.lt_of_lt_of_le hb' hB)).symm
            rw [X3.out] at hrow
            have hrr := row_rest hrow HM.out HMT.out
            have hmt := HMT.out
            have hps' : ∀ p ∈ ps ++ [(x, r)], goodP p := fun p hp => by
              rcases List.mem_append.1 hp with hp | hp
              · exact HPS.out p hp
              · rw [List.mem_singleton] at hp; subst hp; exact ⟨X1.out, X2.out⟩
            have hlw' : l = allW (ps ++ [(x, r)]) ++ t := by rw [allW_snoc, List.append_assoc, ← X3.out]; exact HLW.out
            have ho5' : w5.ownsRow w.heap.size 24 9 v7 (ps ++ [(x, r)]).length (effVals (ps ++ [(x, r)])) := by
              rw [List.length_append, HNN.out, effVals_snoc]; exact HO55.out
            have hok' : ∀ p ∈ ps ++ [(x, r)], p.1.Ok w5 w5.heap.size ∧ p.1.Ty w5 := fun p hp => by
              rcases List.mem_append.1 hp with hp | hp
              · exact HOK5.out p hp
              · rw [List.mem_singleton] at hp; subst hp; exact ⟨OKX5.out, TYX5.out⟩
            have ho6' : w5.ownsRow w.heap.size 3 1 v8 (ps ++ [(x, r)]).length ((ps ++ [(x, r)]).map (fun p => Value.int .i64 p.2)) := by
              rw [List.length_append, HNN.out, List.map_append]; exact HO65.out
            rw [show n - m = t.length by omega]
            exact ⟨ps ++ [(x, r)], t, some ⟨b, off, none⟩, 0, hps', hlw', rfl, rfl, by omega, Nat.zero_le _, hrr.2 (by omega), ho5', hok', ho6', HB5.out⟩

        · go_wp2_with (first
            | (at_builtin; refine wpList_append_own_at _ rfl (.tmp 24) (.tmp 26) 28 rfl w.heap.size 24 ie zE.val 9 104 Try.underlying28 I1.out I2.out I3.out I4.out rfl (by decide) u5 N (effVals ps) rfl (own_below HO52.out ((Below.refl _ _).alloc (Nat.le_refl _) _)) ⟨w2.heap.size, 0, none⟩ 1 1 x.vals rfl rfl (cells_of_eff (Cells.new w2 24 (effCells x))) (oneE x) (by unfold maxLen; omega) (by omega) (by simp; omega) ?_; intro v7 w4 hown4 hgr4 _ hat4; have hk4 := keep_own (own_below HO52.out ((Below.refl _ _).alloc (Nat.le_refl _) (.cells (effCells x) 24))) hgr4; have hb3 : Below w2.heap.size w2 (w2.alloc (.cells (effCells x) 24)) := (Below.refl _ _).alloc (Nat.le_refl _) _; have hs4 := hgr4.size; have HO54 := Lib.hid hown4; have HO64 := Lib.hid (hk4.own (own_below HO62.out hb3) (by decide)); have HOK4 := Lib.hid (fun p hp => (⟨hk4.ok ((HOK2.out p hp).1.at_ hb3) ((HOK2.out p hp).2.below hb3) (by decide) hs4, hk4.ty ((HOK2.out p hp).2.below hb3) (by decide)⟩ : p.1.Ok w4 w4.heap.size ∧ p.1.Ty w4)); have OKX4 := Lib.hid (hk4.ok (OKX.out.at_ hb3) (TYX.out.below hb3) (by decide) hs4); have TYX4 := Lib.hid (hk4.ty (TYX.out.below hb3) (by decide)); have HB4 := Lib.hid ((HB2.out.trans (hb3.mono hs2)).grown hgr4 (Nat.le_trans hs2 hb3.size) (own_base HO52.out)); clear hown4 hgr4 hat4 hk4 hb3 hs4)
            | (at_builtin; refine wpList_append_row _ rfl (.tmp 28) (.tmp 30) 38 rfl w.heap.size 3 (.int .i64 0) 8 Try.underlying38 infoInt rfl u6 N (ps.map (fun p => Value.int .i64 p.2)) rfl (own_below HO64.out ((Below.refl _ _).alloc (Nat.le_refl _) _)) _ (some ⟨w4.heap.size, 0, none⟩) 1 1 [.int .i64 r] rfl (Row.one _ _ _) (by simp [Value.oneCell']) (by unfold maxLen; omega) (by omega) (by have := HB4.out.size; simp; omega) ?_; intro v8 w5 hown5 hgr5 hat5; have hk5 := keep_own (own_below HO64.out ((Below.refl _ _).alloc (Nat.le_refl _) (.cells #[.int .i64 r] 3))) hgr5; have hb5 : Below w4.heap.size w4 (w4.alloc (.cells #[.int .i64 r] 3)) := (Below.refl _ _).alloc (Nat.le_refl _) _; have hs5 := hgr5.size; have HO65 := Lib.hid hown5; have HO55 := Lib.hid (hk5.own (own_below HO54.out hb5) (by decide)); have HOK5 := Lib.hid (fun p hp => (⟨hk5.ok ((HOK4.out p hp).1.at_ hb5) ((HOK4.out p hp).2.below hb5) (by decide) hs5, hk5.ty ((HOK4.out p hp).2.below hb5) (by decide)⟩ : p.1.Ok w5 w5.heap.size ∧ p.1.Ty w5)); have OKX5 := Lib.hid (hk5.ok (OKX4.out.at_ hb5) (TYX4.out.below hb5) (by decide) hs5); have TYX5 := Lib.hid (hk5.ty (TYX4.out.below hb5) (by decide)); have HB5 := Lib.hid ((HB4.out.trans (hb5.mono HB4.out.size)).grown hgr5 (Nat.le_trans HB4.out.size hb5.size) (own_base HO64.out)); clear hown5 hgr5 hat5 hk5 hb5 hs5))
          go_roundg t.length
          case measure => have := HMT.out; have := HN.out; omega
          case rel =>
            have hrow : Row w5 B (some ⟨b, off, none⟩) n (rest.map wd) := HR1.out.keep fun b' o hb' => (HB5.out.cell (p := ⟨b', o, none⟩) (Nat.lt_of_lt_of_le hb' hB)).trans (HB1.out.cell (p := ⟨b', o, none⟩) (Nat.lt_of_lt_of_le hb' hB)).symm
            rw [X3.out] at hrow
            have hrr := row_rest hrow HM.out HMT.out
            have hmt := HMT.out
            have hps' : ∀ p ∈ ps ++ [(x, r)], goodP p := fun p hp => by
              rcases List.mem_append.1 hp with hp | hp
              · exact HPS.out p hp
              · rw [List.mem_singleton] at hp; subst hp; exact ⟨X1.out, X2.out⟩
            have hlw' : l = allW (ps ++ [(x, r)]) ++ t := by rw [allW_snoc, List.append_assoc, ← X3.out]; exact HLW.out
            have ho5' : w5.ownsRow w.heap.size 24 9 v7 (ps ++ [(x, r)]).length (effVals (ps ++ [(x, r)])) := by
              rw [List.length_append, HNN.out, effVals_snoc]; exact HO55.out
            have hok' : ∀ p ∈ ps ++ [(x, r)], p.1.Ok w5 w5.heap.size ∧ p.1.Ty w5 := fun p hp => by
              rcases List.mem_append.1 hp with hp | hp
              · exact HOK5.out p hp
              · rw [List.mem_singleton] at hp; subst hp; exact ⟨OKX5.out, TYX5.out⟩
            have ho6' : w5.ownsRow w.heap.size 3 1 v8 (ps ++ [(x, r)]).length ((ps ++ [(x, r)]).map (fun p => Value.int .i64 p.2)) := by
              rw [List.length_append, HNN.out, List.map_append]; exact HO65.out
            rw [show n - m = t.length by omega]
            exact ⟨ps ++ [(x, r)], t, some ⟨b, off + m, none⟩, c1 - m, hps', hlw', rfl, rfl, by omega, Nat.le_trans (Nat.sub_le _ _) HC1.out, hrr.1, ho5', hok', ho6', HB5.out⟩

      · have HNO := Lib.hid (show ∀ (x : Eff) (r : Int) (t : List Nat), recB x r = true → x.data = zer x.kind → rest ≠ recW x r ++ t from fun x r t h1 h2 h3 => hy ⟨x, r, t, h1, h2, h3⟩)
        have HNA := Lib.hid (all_no HPS.out HLW.out (fun h => by have := HN.out; rw [h] at this; simp at this; omega) HNO.out)
        clear hy
        go_wp2_with (go_at_call 10; (with_reducible refine (KO.out _ hBr HR1.out).mono ?_); rintro e' w1 h1; obtain ⟨rfl, b1⟩ := ofr_no h1 HNO.out; unfold Eff.val zE; have B1 := Lib.hid b1; clear h1 b1)
        go_ret3
        exact ⟨HB1.out.trans ((B1.out.alloc B1.out.size _).mono HB1.out.size), .inr ⟨HNA.out, rfl⟩⟩
end Go.Proofs.Ytcimmfhbffofjaa
