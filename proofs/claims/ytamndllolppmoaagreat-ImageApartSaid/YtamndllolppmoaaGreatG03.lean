import Derived.Test.YtamndllolppmoaaGreatG02
import Derived.Laws.IdiomStrings
import Derived.BigQuiet
import Derived.Laws.Strings
import Derived.WalkMore

namespace Go.Proofs.YtamndllolppmoaaGreat
open Wd U Go.ChangeShapes Go.WideShapes Go.RowKit Go.Sort
set_option linter.unusedVariables false

/-! the document's words of a text; the project's Need -/
def needI (n : Int) : Int := if 0 < n then (n + 7) / 8 else 0
theorem need_is (n : Int) (h0 : -9223372036854775808 ≤ n) (h1 : n ≤ 9223372036854775807) (w : World) : Calls Tryz.prog 102 #[.int .i64 n] w fun e w' => e = .returned (.int .i64 (needI n)) ∧ w = w' := by
  by_cases h : n < 1
  · have e : needI n = 0 := by unfold needI; rw [if_neg (by omega)]
    rw [e]
    clear e
    go_enter Tryz.func102, Tryz.ntmps102
    go_wp2
    go_ret
    exact ⟨rfl, rfl⟩
  · have e : needI n = (n - 1) / 8 + 1 := by unfold needI; rw [if_pos (by omega)]; omega
    rw [e]
    clear e
    go_enter Tryz.func102, Tryz.ntmps102
    go_wp2
    go_ret
    exact ⟨rfl, rfl⟩

theorem needI_nat (n : Nat) : needI (n : Int) = ((need n : Nat) : Int) := by unfold needI need; split <;> omega
def bsOf (s : ByteArray) : List Nat := s.data.toList.map (·.toNat)
theorem bsOf_len (s : ByteArray) : (bsOf s).length = s.size := by unfold bsOf; rw [List.length_map, Array.length_toList]; rfl
theorem bsOf_bytes (s : ByteArray) : Bytes (bsOf s) := by
  intro x hx
  obtain ⟨y, _, rfl⟩ := List.mem_map.1 hx
  exact y.toNat_lt

theorem own_below {w w' : World} {base n sz : Nat} {e : TypeId} {v : Value} {xs : List Value} (h : w.ownsRow base e sz v n xs) (hb : Below w.heap.size w w') : w'.ownsRow base e sz v n xs := by
  rcases h with ⟨hl, h⟩
  refine ⟨hl, ?_⟩
  rcases h with h | ⟨g, cap, cur, hv, hg, hh, h1⟩
  · exact .inl h
  · exact .inr ⟨g, cap, cur, hv, hg, Cells.below' hh hb, h1⟩

/-- the bytes of a text, as a row -/
theorem bytes_row (w : World) (s : ByteArray) (n : Nat) (hn : s.size = n) (e : TypeId) (c : Nat) (fz : Nat × Nat) : Row (w.alloc (.cells (bytesRow s c) e fz)).drew.drew (w.alloc (.cells (bytesRow s c) e fz)).drew.drew.heap.size (some ⟨w.heap.size, 0, none⟩) n ((bsOf s).map bt) := by
  have hL := bsOf_len s
  subst hn
  refine ⟨by rw [List.length_map]; exact hL, fun _ => ⟨w.heap.size, 0, rfl, by simp, fun j hj => ?_⟩⟩
  rw [List.length_map] at hj
  have hh : (w.alloc (.cells (bytesRow s c) e fz)).drew.drew.heap[w.heap.size]? = some (.cells (bytesRow s c) e fz) := heap_alloc_new w _
  rw [Nat.zero_add, cell_of_row _ _ _ _ _ _ hh]
  unfold bytesRow bsOf at *
  have hj2 : j < s.data.size := by simpa using hj
  rw [Array.getElem?_append_left (by simpa using hj2)]
  simp [bt]
  exact ⟨_, Array.getElem?_eq_getElem hj2, rfl⟩

def encT (s : ByteArray) : List Nat := [s.size] ++ pk (bsOf s)

/-! the document's words of a text, and a text at a place of words -/
def TextD (s : ByteArray) (W : World) (e : Ending) (w : World) : Prop := ∃ v, e = .returned v ∧ w.ownsRow W.heap.size 69 1 v (encT s).length ((encT s).map wd) ∧ Below W.heap.size W w
theorem one_own (w : World) (k : Nat) : (w.alloc (.cells #[.int .u64 k] 69)).ownsRow w.heap.size 69 1 (.slice (some ⟨w.heap.size, 0, none⟩) 1 1) 1 [wd k] :=
  ⟨rfl, .inr ⟨w.heap.size, 1, #[.int .u64 k], rfl, Nat.le_refl _, Cells.new w _ _, Nat.le_refl _, by decide, rfl, rfl⟩⟩
theorem bytes_row1 (w : World) (s : ByteArray) (n : Nat) (hn : s.size = n) (e : TypeId) (c : Nat) (fz : Nat × Nat) : Row (w.alloc (.cells (bytesRow s c) e fz)).drew (w.alloc (.cells (bytesRow s c) e fz)).drew.heap.size (some ⟨w.heap.size, 0, none⟩) n ((bsOf s).map bt) := bytes_row w s n hn e c fz
set_option maxRecDepth 100000 in
set_option maxHeartbeats 4000000 in
theorem refText_any (s : ByteArray) (hs : s.size ≤ 1000) (w : World) : Calls Tryz.prog 62 #[.string s] w (TextD s w) := by
  obtain ⟨n, hn⟩ : ∃ n, s.size = n := ⟨_, rfl⟩
  have hcv : ∀ w, (convert 9 48 (.string s)).run Tryz.prog w = .ok (.slice (some ⟨w.heap.size, 0, none⟩) n (grownCap w s.size 0 5))
      (w.drew.alloc (.cells (bytesRow s (grownCap w s.size 0 5)) 5 ((bytesRow s (grownCap w s.size 0 5)).size, (bytesRow s (grownCap w s.size 0 5)).size + 1))) := fun w => by
    rw [run_bytes_of_string (P := Tryz.prog) w 9 48 5 s Tryz.underlying9 Tryz.underlying48 Tryz.underlying5, hn]
  have HN := Lib.hid hn
  have hL : (bsOf s).length = n := by rw [bsOf_len]; exact hn
  have HL := Lib.hid hL
  rw [hn] at hs
  have hpk : (pk (bsOf s)).length = need n := by rw [pk_len, hL]
  have hnd : need n ≤ 200 := by unfold need; omega
  have HPK := Lib.hid hpk
  have he : encT s = [n] ++ pk (bsOf s) := by unfold encT; rw [hn]
  have hel : (encT s).length = 1 + (pk (bsOf s)).length := by rw [he, List.length_append]; rfl
  have HE := Lib.hid he; have HEL := Lib.hid hel
  have hu : IntKind.u64.wrap (s.size : Int) = (n : Int) := by rw [hn, IntKind.wrap_u64]; omega
  have HU := Lib.hid hu
  have H1 := Lib.hid (one_own w n)
  clear hn hL hpk he hel hu
  go_enter Tryz.func62, Tryz.ntmps62
  go_wp2_with fail
  rw [HU.out]
  generalize grownCap (w.alloc (.cells #[.int .u64 (n : Int)] 69)) s.size 0 5 = cp
  have hrow := bytes_row1 (w.alloc (.cells #[.int .u64 (n : Int)] 69)) s n HN.out 5 cp ((bytesRow s cp).size, (bytesRow s cp).size + 1)
  have hs1 : (w.alloc (.cells #[.int .u64 (n : Int)] 69)).heap.size = w.heap.size + 1 := by simp
  have hb2 : Below (w.alloc (.cells #[.int .u64 (n : Int)] 69)).heap.size (w.alloc (.cells #[.int .u64 (n : Int)] 69)) ((w.alloc (.cells #[.int .u64 (n : Int)] 69)).alloc (.cells (bytesRow s cp) 5 ((bytesRow s cp).size, (bytesRow s cp).size + 1))).drew := below_drewN ((Below.refl _ _).alloc (Nat.le_refl _) _) 1
  rw [hs1] at hrow
  obtain ⟨w2, h2⟩ : ∃ w2, ((w.alloc (.cells #[.int .u64 (n : Int)] 69)).alloc (.cells (bytesRow s cp) 5 ((bytesRow s cp).size, (bytesRow s cp).size + 1))).drew = w2 := ⟨_, rfl⟩
  rw [h2] at hrow hb2 ⊢
  have HO2 := Lib.hid (own_below H1.out hb2)
  have HB2 := Lib.hid (((Below.refl w.heap.size w).alloc (Nat.le_refl _) (.cells #[.int .u64 (n : Int)] 69)).trans (hb2.mono (by simp)))
  clear h2 hb2 hs1
  refine (refPack_any (bsOf s) n HL.out (bsOf_bytes s) (some ⟨w.heap.size + 1, 0, none⟩) cp w2 (by omega) hrow).mono ?_
  rintro e' w3 ⟨v3, rfl, ho3, hb3⟩
  obtain ⟨A3, c3, rfl, hr3⟩ := Row.of_own ho3
  have HO3 := Lib.hid (own_below HO2.out hb3)
  have HB3 := Lib.hid (HB2.out.trans (hb3.mono HB2.out.size))
  have HR3 := Lib.hid hr3
  have hsz := HB3.out.size
  clear hrow ho3 hb3 hr3
  go_wp2_with (at_builtin; refine wpList_append_row _ rfl (.tmp 6) (.tmp 9) 61 rfl w.heap.size 69 (.int .u64 0) 8 Tryz.underlying61 infoU64' rfl (.slice (some ⟨w.heap.size, 0, none⟩) 1 1) 1 [wd n] rfl HO3.out _ A3 (pk (bsOf s)).length c3 ((pk (bsOf s)).map wd) rfl HR3.out (oneW _) (by rw [HPK.out]; unfold maxLen; omega) (by rw [HPK.out]; omega) hsz ?_; intro v5 w5 hown5 hgr5 hat5; have HO5 := Lib.hid hown5; have HG5 := Lib.hid hgr5; clear hown5 hgr5 hat5)
  go_ret
  refine ⟨_, rfl, ?_, HB3.out.grown HG5.out HB3.out.size (own_base HO3.out)⟩
  rw [HEL.out, HE.out]
  exact HO5.out
end Go.Proofs.YtamndllolppmoaaGreat

namespace Go.Proofs.YtamndllolppmoaaGreat
open Wd Ino Go.RowKit Go.ChangeShapes Go.WideShapes Go.Sort
set_option linter.unusedVariables false
set_option maxRecDepth 100000

/-! how many pages; whether a number is between -/
def needP (n : Int) : Int := if n < 1 then 0 else (n - 1) / 256 + 1
theorem need_eq (n : Int) (h : i64R n) : wrap64 (wrap64 (n - 1) / 256 + 1) = (n - 1) / 256 + 1 ∨ n < 1 := by unfold i64R at h; unfold wrap64; omega
theorem iNeed_is (n : Int) (h : i64R n) (w : World) : Calls Tryz.prog 170 #[.int .i64 n] w fun e w' => e = .returned (.int .i64 (needP n)) ∧ w = w' := by
  unfold i64R at h
  by_cases hn : n < 1
  · have e : needP n = 0 := by unfold needP; rw [if_pos hn]
    rw [e]
    clear e
    go_enter Tryz.func170, Tryz.ntmps170
    go_wp2
    go_ret
    exact ⟨rfl, rfl⟩
  · have e : needP n = (n - 1) / 256 + 1 := by unfold needP; rw [if_neg hn]
    rw [e]
    clear e
    go_enter Tryz.func170, Tryz.ntmps170
    go_wp2
    go_ret
    exact ⟨rfl, rfl⟩

theorem iNeed (n : Int) (h : i64R n) (w : World) : Calls Tryz.prog 170 #[.int .i64 n] w (Grows (.int .i64 (needP n)) w) := by
  refine (iNeed_is n h w).mono ?_
  rintro e w' ⟨rfl, rfl⟩
  exact ⟨rfl, grow_none _⟩

theorem rNeed_is (n : Int) (h : i64R n) (w : World) : Calls Tryz.prog 152 #[.int .i64 n] w fun e w' => e = .returned (.int .i64 (needP n)) ∧ w = w' := by
  unfold i64R at h
  by_cases hn : n < 1
  · have e : needP n = 0 := by unfold needP; rw [if_pos hn]
    rw [e]
    clear e
    by_cases hm : 0 < n.tmod 256
    · exfalso
      have h1 : n ≤ 0 := by omega
      have h2 : 0 ≤ (-n).tmod 256 := Int.tmod_nonneg 256 (by omega)
      rw [Int.neg_tmod] at h2
      omega
    · go_enter Tryz.func152, Tryz.ntmps152
      go_wp2
      go_ret
      exact ⟨rfl, rfl⟩
  · have hd : n.tdiv 256 = n / 256 := Int.tdiv_eq_ediv_of_nonneg (by omega)
    have hmd : n.tmod 256 = n % 256 := Int.tmod_eq_emod_of_nonneg (by omega)
    by_cases hm : 0 < n % 256
    · have e : needP n = n / 256 + 1 := by unfold needP; rw [if_neg hn]; omega
      rw [e]
      clear e
      go_enter Tryz.func152, Tryz.ntmps152
      go_wp2
      go_ret
      exact ⟨rfl, rfl⟩
    · have e : needP n = n / 256 := by unfold needP; rw [if_neg hn]; omega
      rw [e]
      clear e
      go_enter Tryz.func152, Tryz.ntmps152
      go_wp2
      go_ret
      exact ⟨rfl, rfl⟩

theorem rNeed (n : Int) (h : i64R n) (w : World) : Calls Tryz.prog 152 #[.int .i64 n] w (Grows (.int .i64 (needP n)) w) := by
  refine (rNeed_is n h w).mono ?_
  rintro e w' ⟨rfl, rfl⟩
  exact ⟨rfl, grow_none _⟩

def inB (x a b : Int) : Bool := decide (a ≤ x) && decide (x ≤ b)
theorem iWithin_is (x a b : Int) (w : World) : Calls Tryz.prog 169 #[.int .i64 x, .int .i64 a, .int .i64 b] w fun e w' => e = .returned (.bool (inB x a b)) ∧ w = w' := by
  unfold inB
  by_cases h1 : a ≤ x
  · have q1 : decide (a ≤ x) = true := decide_eq_true h1
    by_cases h2 : x ≤ b
    · have q2 : decide (x ≤ b) = true := decide_eq_true h2
      rw [q1, q2]
      clear h1 h2
      go_enter Tryz.func169, Tryz.ntmps169
      go_wp2
      go_ret
      exact ⟨rfl, rfl⟩
    · have q2 : decide (x ≤ b) = false := decide_eq_false h2
      rw [q1, q2]
      clear h1 h2
      go_enter Tryz.func169, Tryz.ntmps169
      go_wp2
      go_ret
      exact ⟨rfl, rfl⟩
  · have q1 : decide (a ≤ x) = false := decide_eq_false h1
    rw [q1, Bool.false_and]
    clear h1
    go_enter Tryz.func169, Tryz.ntmps169
    go_wp2
    go_ret
    exact ⟨rfl, rfl⟩

theorem iWithin (x a b : Int) (w : World) : Calls Tryz.prog 169 #[.int .i64 x, .int .i64 a, .int .i64 b] w (Grows (.bool (inB x a b)) w) := by
  refine (iWithin_is x a b w).mono ?_
  rintro e w' ⟨rfl, rfl⟩
  exact ⟨rfl, grow_none _⟩

theorem rNumber_is (x : Int) (w : World) : Calls Tryz.prog 103 #[.int .i64 x] w fun e w' => e = .returned (.bool (inB x 1 1048576)) ∧ w = w' := by
  unfold inB
  by_cases h1 : 1 ≤ x
  · have q1 : decide (1 ≤ x) = true := decide_eq_true h1
    by_cases h2 : x ≤ 1048576
    · have q2 : decide (x ≤ 1048576) = true := decide_eq_true h2
      rw [q1, q2]
      clear h1 h2
      go_enter Tryz.func103, Tryz.ntmps103
      go_wp2
      go_ret
      exact ⟨rfl, rfl⟩
    · have q2 : decide (x ≤ 1048576) = false := decide_eq_false h2
      rw [q1, q2]
      clear h1 h2
      go_enter Tryz.func103, Tryz.ntmps103
      go_wp2
      go_ret
      exact ⟨rfl, rfl⟩
  · have q1 : decide (1 ≤ x) = false := decide_eq_false h1
    rw [q1, Bool.false_and]
    clear h1
    go_enter Tryz.func103, Tryz.ntmps103
    go_wp2
    go_ret
    exact ⟨rfl, rfl⟩

theorem rNumber (x : Int) (w : World) : Calls Tryz.prog 103 #[.int .i64 x] w (Grows (.bool (inB x 1 1048576)) w) := by
  refine (rNumber_is x w).mono ?_
  rintro e w' ⟨rfl, rfl⟩
  exact ⟨rfl, grow_none _⟩

/-! a node's cells -/
def ncells (i k l s u : Int) (pv nv : Value) : Array Value := #[.int .i64 i, .int .i64 k, .int .i64 l, .int .i64 s, .int .i64 u, pv, nv]
def nv (i k l s u : Int) (pv mv : Value) : Value := .agg #[.int .i64 i, .int .i64 k, .int .i64 l, .int .i64 s, .int .i64 u, pv, mv]
theorem cells7 {w : World} {g : Nat} {i k l s u : Int} {pv mv : Value} (h : Cells w g 55 (ncells i k l s u pv mv)) : w.cell? ⟨g, 0, none⟩ = some (.int .i64 i) ∧ w.cell? ⟨g, 1, none⟩ = some (.int .i64 k) ∧ w.cell? ⟨g, 2, none⟩ = some (.int .i64 l) ∧ w.cell? ⟨g, 3, none⟩ = some (.int .i64 s) ∧ w.cell? ⟨g, 4, none⟩ = some (.int .i64 u) ∧
    w.cell? ⟨g, 5, none⟩ = some pv ∧ w.cell? ⟨g, 6, none⟩ = some mv := ⟨h.cell 0, h.cell 1, h.cell 2, h.cell 3, h.cell 4, h.cell 5, h.cell 6⟩
/-- a fresh node -/
def newUp (kind up : Int) : Int := if kind = 2 then up else 0
theorem iNew (ino kind up : Int) (w : World) : Calls Tryz.prog 65 #[.int .i64 ino, .int .i64 kind, .int .i64 up] w (Grows (nv ino kind 1 0 (newUp kind up) (.slice none 0 0) (.slice none 0 0)) w) := by
  by_cases h : kind = 2
  · have q : (kind == 2) = true := by simpa using h
    have e : newUp kind up = up := by unfold newUp; rw [if_pos h]
    rw [e]
    clear e h
    go_enter Tryz.func65, Tryz.ntmps65
    go_wp2
    exact bodyPost_ret (results_cell_row rfl _ _ w.heap.size _ _ (0, 0) _ rfl ((heap_alloc_old _ _ (by simp)).trans (heap_alloc_new _ _)) Tryz.underlying55 rfl (by kernel_rfl)) rfl ⟨rfl, grow_alloc (grow_one _ _) _⟩
  · have q : (kind == 2) = false := by simpa using h
    have e : newUp kind up = 0 := by unfold newUp; rw [if_neg h]
    rw [e]
    clear e h
    go_enter Tryz.func65, Tryz.ntmps65
    go_wp2
    exact bodyPost_ret (results_cell_row rfl _ _ w.heap.size _ _ (0, 0) _ rfl ((heap_alloc_old _ _ (by simp)).trans (heap_alloc_new _ _)) Tryz.underlying55 rfl (by kernel_rfl)) rfl ⟨rfl, grow_alloc (grow_one _ _) _⟩

/-- whether a node may be -/
def upB (ino up : Int) : Bool := if ino = 1 then up == 1 else inB up 1 1048576
def dirB (ino links size up : Int) (np : Nat) : Bool := (((size == 0) && ((np : Int) == 0)) && (links == 1)) && upB ino up
def fileB (size up : Int) (np nn : Nat) : Bool := (((up == 0) && ((nn : Int) == 0)) && inB size 0 16384) && ((np : Int) == needP size)
def rightB (ino kind links size up : Int) (np nn : Nat) : Bool :=
  if (inB ino 1 1048576 && inB links 0 16) = true then (if kind = 1 then fileB size up np nn else if kind = 2 then dirB ino links size up np else false) else false

theorem iRightUp (ino kind links size up : Int) (pv mv : Value) (w : World) : Calls Tryz.prog 203 #[nv ino kind links size up pv mv] w (Grows (.bool (upB ino up)) w) := by
  have hc := Cells.new w 55 (ncells ino kind links size up pv mv)
  have HG := Lib.hid (grow_one w (.cells (ncells ino kind links size up pv mv) 55))
  obtain ⟨c0, _, _, _, c4, _, _⟩ := cells7 hc
  unfold nv
  unfold upB
  unfold ncells at c0 c4 HG
  clear hc
  by_cases h : ino = 1
  · have q : (ino == 1) = true := by simpa using h
    rw [if_pos h]
    clear h
    go_enter Tryz.func203, Tryz.ntmps203
    go_wp2
    go_ret
    exact ⟨rfl, HG.out⟩
  · have q : (ino == 1) = false := by simpa using h
    rw [if_neg h]
    clear h
    go_enter Tryz.func203, Tryz.ntmps203
    go_wp2_with fail
    refine (iWithin_is up 1 1048576 _).mono ?_
    rintro e w1 ⟨rfl, rfl⟩
    go_wp2
    go_ret
    exact ⟨rfl, HG.out⟩
theorem iRightDir (ino kind links size up : Int) (A : Option Addr) (np c : Nat) (mv : Value) (w : World) : Calls Tryz.prog 197 #[nv ino kind links size up (.slice A np c) mv] w (Grows (.bool (dirB ino links size up np)) w) := by
  have hc := Cells.new w 55 (ncells ino kind links size up (.slice A np c) mv)
  have HG := Lib.hid (grow_one w (.cells (ncells ino kind links size up (.slice A np c) mv) 55))
  obtain ⟨c0, c1, c2, c3, c4, c5, c6⟩ := cells7 hc
  have KU := Lib.hid (fun w => iRightUp ino kind links size up (.slice A np c) mv w)
  unfold nv at KU ⊢
  unfold dirB
  unfold ncells at c0 c1 c2 c3 c4 c5 c6 HG
  clear hc
  cases q1 : (size == 0)
  · rw [Bool.false_and, Bool.false_and, Bool.false_and]
    go_enter Tryz.func197, Tryz.ntmps197
    go_wp2
    go_ret
    exact ⟨rfl, HG.out⟩
  · cases q2 : ((np : Int) == 0)
    · rw [Bool.true_and, Bool.false_and, Bool.false_and]
      go_enter Tryz.func197, Tryz.ntmps197
      go_wp2
      go_ret
      exact ⟨rfl, HG.out⟩
    · cases q3 : (links == 1)
      · rw [Bool.and_false, Bool.false_and]
        go_enter Tryz.func197, Tryz.ntmps197
        go_wp2
        go_ret
        exact ⟨rfl, HG.out⟩
      · rw [Bool.true_and, Bool.true_and, Bool.true_and]
        go_enter Tryz.func197, Tryz.ntmps197
        go_wp2_with fail
        refine (KU.out _).mono ?_
        rintro e w1 ⟨rfl, hg⟩
        go_wp2
        go_ret
        exact ⟨rfl, grow_trans HG.out hg⟩
end Go.Proofs.YtamndllolppmoaaGreat

namespace Go.Proofs.YtamndllolppmoaaGreat
open Wd Ino Go.RowKit Go.ChangeShapes Go.WideShapes Go.Sort
set_option linter.unusedVariables false
set_option maxRecDepth 100000
theorem take_two {α : Type} {l : List α} {k : Nat} {x : α} (h : l[k]? = some x) : l.take (k + 1) = l.take k ++ [x] := by
  rw [List.take_add_one, h]; rfl

/-! two rows of names -/
def entEq (a b : Ent) : Bool := (a.s.toList == b.s.toList) && decide (a.n = b.n)
theorem entEq_iff {a b : Ent} : entEq a b = true ↔ a = b := by
  unfold entEq
  constructor
  · intro h
    obtain ⟨h1, h2⟩ := Bool.and_eq_true_iff.1 h
    obtain ⟨s, n⟩ := a
    obtain ⟨s', n'⟩ := b
    obtain rfl := of_decide_eq_true h2
    have h3 : s.toList = s'.toList := by simpa using h1
    have h4 : s = s' := by
      rw [ByteArray.toList_eq, ByteArray.toList_eq] at h3
      cases s with | mk x => cases s' with | mk y => exact congrArg ByteArray.mk (Array.toList_inj.1 h3)
    rw [h4]
  · rintro rfl
    simp
def _root_.Ino.Ent.val (e : Ent) : Value := .agg #[.string e.s, .int .i64 e.n]
def one_eq (P : Program) (f : Field) (d : Nat) (w : World) (u v : Value) (b : Bool) : Prop := f.name ≠ "_" ∧ (Op.equalIn d f.type u v).run P w = .ok b w
theorem eqF_cons {P : Program} {f : Field} {fs : List Field} {d : Nat} {w : World} {xs ys : Array Value} {u v : Value} {b B : Bool} (hn : (f.name != "_") = true) (hx : ∀ w, (part f.type xs f.offset).run P w = .ok u w) (hy : ∀ w, (part f.type ys f.offset).run P w = .ok v w)
    (he : (Op.equalIn d f.type u v).run P w = .ok b w) (hr : (Op.eqFields d xs ys fs).run P w = .ok B w) : (Op.eqFields d xs ys (f :: fs)).run P w = .ok (b && B) w := by
  have hn' : f.name ≠ "_" := by simpa using hn
  unfold Op.eqFields
  rw [if_pos hn']
  simp only [Sem.run_bind, hx, hy, he, Result.andThen_ok, Sem.run_ite]
  cases b with
  | true => simp [hr]
  | false => simp [Sem.run_pure]
theorem eqF_nil {P : Program} {d : Nat} {w : World} {xs ys : Array Value} : (Op.eqFields d xs ys []).run P w = .ok true w := by simp [Op.eqFields]

theorem eqE_in (a b : Ent) (w : World) : (Op.equalIn 10000 114 a.val b.val).run Tryz.prog w = .ok (entEq a b) w := by
  have hu : Tryz.prog.underlying 114 = some (.struct (Tryz.prog.fieldsOf 114)) := by kernel_rfl
  obtain ⟨f0, f1, hf, n0, n1, p0, p1⟩ : ∃ f0 f1 : Field, (Tryz.prog.fieldsOf 114).toList = [f0, f1] ∧ (f0.name != "_") = true ∧ (f1.name != "_") = true ∧ (f0.type, f0.offset) = (9, 0) ∧ (f1.type, f1.offset) = (3, 1) :=
    ⟨_, _, rfl, by kernel_rfl, by kernel_rfl, by kernel_rfl, by kernel_rfl⟩
  simp only [Prod.mk.injEq] at p0 p1
  have hI : ∀ x y w, (Op.equalIn 9999 3 (.int .i64 x) (.int .i64 y)).run Tryz.prog w = .ok (decide (x = y)) w := fun x y w => run_equalIn_int w 9998 3 .i64 .i64 x y Tryz.underlying3
  have hS : ∀ x y w, (Op.equalIn 9999 9 (.string x) (.string y)).run Tryz.prog w = .ok (x.toList == y.toList) w := fun x y w => run_equalIn_string w 9998 9 x y Tryz.underlying9
  unfold Ino.Ent.val
  rw [run_equalIn_struct _ 9999 _ _ _ hu (by kernel_rfl), hf]
  rw [eqF_cons (u := .string a.s) (v := .string b.s) n0 (fun w => by rw [p0.1, p0.2]; simp [go_sem]) (fun w => by rw [p0.1, p0.2]; simp [go_sem]) (by rw [p0.1]; exact hS _ _ _)
    (eqF_cons (u := .int .i64 a.n) (v := .int .i64 b.n) n1 (fun w => by rw [p1.1, p1.2]; simp [go_sem]) (fun w => by rw [p1.1, p1.2]; simp [go_sem]) (by rw [p1.1]; exact hI _ _ _) eqF_nil)]
  simp only [Bool.and_true, entEq]
theorem neE_any (a b : Ent) (w : World) : (binOp .neq 114 a.val b.val).run Tryz.prog w = .ok (.bool (!entEq a b)) w := by
  have := eqE_in a b w
  unfold Ino.Ent.val at this ⊢
  rw [run_neq_struct, this]; rfl

def EqualE (xs ys : List Ent) (W : World) (i : Value) (w : World) : Prop := ∃ k d : Nat, k ≤ xs.length ∧ i = .int .i64 k ∧ xs.take k = ys.take k ∧ w = W.drewN d

set_option maxHeartbeats 2000000 in
theorem sameEs_any (xs ys : List Ent) (n m : Nat) (hn : xs.length = n) (hm : ys.length = m) (hle : n ≤ 1000) (A C : Option Addr) (c d B B' : Nat) (w : World) (hx : Ens w B A xs) (hy : Ens w B' C ys)  :
    Calls Tryz.prog 114 #[.slice A n c, .slice C m d] w (Grows (.bool (decide (xs = ys))) w) := by
  subst hn hm
  have HX := Lib.hid hx; have HY := Lib.hid hy
  clear hx hy
  by_cases hl : xs.length = ys.length
  · have HL := Lib.hid hl
    have hb : ((xs.length : Int) != (ys.length : Int)) = false := by simp [hl]
    clear hl
    go_enter Tryz.func114, Tryz.ntmps114
    go_wp2
    go_loopw [13] (fun i wr => EqualE xs ys w i wr) (fun i _ => xs.length - (intOf i).toNat)
    case atStart => exact ⟨0, 0, Nat.zero_le _, rfl, rfl, rfl⟩
    case round =>
      obtain ⟨k, q, hk, rfl, ht, rfl⟩ := hrel
      have HT := Lib.hid ht; clear ht
      by_cases hlt : k < xs.length
      · have hlt2 : k < ys.length := by have := HL.out; omega
        have i1 : (k : Int) < (xs.length : Int) := by omega
        have i2 : (k : Int) < (ys.length : Int) := by omega
        have i0 : (0 : Int) ≤ (k : Int) := by omega
        obtain ⟨x, gx⟩ : ∃ e, xs[k]? = some e := ⟨_, List.getElem?_eq_getElem hlt⟩
        obtain ⟨y, gy⟩ : ∃ e, ys[k]? = some e := ⟨_, List.getElem?_eq_getElem hlt2⟩
        obtain ⟨b1, o1, rfl, _, cx, cx'⟩ := ens_cells HX.out gx
        obtain ⟨b2, o2, rfl, _, cy, cy'⟩ := ens_cells HY.out gy
        have HGX := Lib.hid gx; have HGY := Lib.hid gy
        have hE := fun w => neE_any x y w
        unfold Ino.Ent.val at hE
        clear gx gy
        by_cases hxy : x = y
        · rw [entEq_iff.2 hxy] at hE
          subst hxy
          go_wp2
          go_quiet (fail)
          go_wp2
          go_roundw
          case rel => exact ⟨k + 1, q + nq, by omega, by go_num, by rw [take_two HGX.out, take_two HGY.out, HT.out], rfl⟩
          case measure => simp [intOf]; omega
        · rw [Bool.eq_false_iff.2 (fun h => hxy (entEq_iff.1 h))] at hE
          have hdec : decide (xs = ys) = false := by
            apply decide_eq_false
            intro h
            have h1 := HGX.out
            rw [h, HGY.out] at h1
            exact hxy (Option.some.inj h1).symm
          have HDEC := Lib.hid hdec
          clear hxy hdec
          go_wp2
          go_quiet (fail)
          go_wp2
          go_ret
          exact ⟨by rw [HDEC.out]; rfl, grow_drewN (grow_drewN (grow_none w) _) _⟩
      · obtain rfl : k = xs.length := by omega
        have hdec : decide (xs = ys) = true := by
          apply decide_eq_true
          have h := HT.out
          rw [List.take_length, List.take_of_length_le (by have := HL.out; omega)] at h
          exact h
        have HDEC := Lib.hid hdec
        clear hdec
        go_wp2
        go_ret
        exact ⟨by rw [HDEC.out]; rfl, grow_drewN (grow_none w) _⟩
  · have hb : ((xs.length : Int) != (ys.length : Int)) = true := by rw [bne_iff_ne]; omega
    have hdec : decide (xs = ys) = false := decide_eq_false (fun h => hl (by rw [h]))
    have HDEC := Lib.hid hdec
    clear hl hdec
    go_enter Tryz.func114, Tryz.ntmps114
    go_wp2
    go_ret
    exact ⟨by rw [HDEC.out]; rfl, grow_none w⟩

end Go.Proofs.YtamndllolppmoaaGreat

namespace Go.Proofs.YtamndllolppmoaaGreat
open Wd Ino Go.RowKit Go.ChangeShapes Go.WideShapes Go.Sort
set_option linter.unusedVariables false
set_option maxRecDepth 100000

/-! two rows of ints -/
def EqualI (xs ys : List Int) (W : World) (i : Value) (w : World) : Prop := ∃ k d : Nat, k ≤ xs.length ∧ i = .int .i64 k ∧ xs.take k = ys.take k ∧ w = W.drewN d
set_option maxHeartbeats 2000000 in
theorem sameI_any (xs ys : List Int) (n m : Nat) (hn : xs.length = n) (hm : ys.length = m) (hle : n ≤ 1000) (A C : Option Addr) (c d B B' : Nat) (w : World) (hx : Row w B A n (xs.map iv)) (hy : Row w B' C m (ys.map iv)) :
    Calls Tryz.prog 113 #[.slice A n c, .slice C m d] w (Grows (.bool (decide (xs = ys))) w) := by
  subst hn hm
  have HX := Lib.hid hx; have HY := Lib.hid hy
  clear hx hy
  by_cases hl : xs.length = ys.length
  · have HL := Lib.hid hl
    have hb : ((xs.length : Int) != (ys.length : Int)) = false := by simp [hl]
    clear hl
    go_enter Tryz.func113, Tryz.ntmps113
    go_wp2
    go_loopw [13] (fun i wr => EqualI xs ys w i wr) (fun i _ => xs.length - (intOf i).toNat)
    case atStart => exact ⟨0, 0, Nat.zero_le _, rfl, rfl, rfl⟩
    case round =>
      obtain ⟨k, q, hk, rfl, ht, rfl⟩ := hrel
      have HT := Lib.hid ht; clear ht
      by_cases hlt : k < xs.length
      · have hlt2 : k < ys.length := by have := HL.out; omega
        have i1 : (k : Int) < (xs.length : Int) := by omega
        have i2 : (k : Int) < (ys.length : Int) := by omega
        have i0 : (0 : Int) ≤ (k : Int) := by omega
        obtain ⟨b1, o1, x, rfl, _, gx, cx⟩ := HX.out.get hlt
        obtain ⟨b2, o2, y, rfl, _, gy, cy⟩ := HY.out.get hlt2
        have HGX := Lib.hid gx; have HGY := Lib.hid gy
        clear gx gy
        unfold iv at cx cy
        by_cases hxy : x = y
        · subst hxy
          go_wp2
          go_quiet (fail)
          go_wp2
          go_roundw
          case rel => exact ⟨k + 1, q + nq, by omega, by go_num, by rw [take_two HGX.out, take_two HGY.out, HT.out], rfl⟩
          case measure => simp [intOf]; omega
        · have hne : (x != y) = true := by rw [bne_iff_ne]; omega
          have hdec : decide (xs = ys) = false := by
            apply decide_eq_false
            intro h
            have h1 := HGX.out
            rw [h, HGY.out] at h1
            exact hxy (Option.some.inj h1).symm
          have HDEC := Lib.hid hdec
          clear hxy hdec
          go_wp2
          go_quiet (fail)
          go_wp2
          go_ret
          exact ⟨by rw [HDEC.out]; rfl, grow_drewN (grow_drewN (grow_none w) _) _⟩
      · obtain rfl : k = xs.length := by omega
        have hdec : decide (xs = ys) = true := by
          apply decide_eq_true
          have h := HT.out
          rw [List.take_length, List.take_of_length_le (by have := HL.out; omega)] at h
          exact h
        have HDEC := Lib.hid hdec
        clear hdec
        go_wp2
        go_ret
        exact ⟨by rw [HDEC.out]; rfl, grow_drewN (grow_none w) _⟩
  · have hb : ((xs.length : Int) != (ys.length : Int)) = true := by rw [bne_iff_ne]; omega
    have hdec : decide (xs = ys) = false := decide_eq_false (fun h => hl (by rw [h]))
    have HDEC := Lib.hid hdec
    clear hl hdec
    go_enter Tryz.func113, Tryz.ntmps113
    go_wp2
    go_ret
    exact ⟨by rw [HDEC.out]; rfl, grow_none w⟩

end Go.Proofs.YtamndllolppmoaaGreat

namespace Go.Proofs.YtamndllolppmoaaGreat
open Wd Ino Go.RowKit Go.ChangeShapes Go.WideShapes Go.Sort
set_option linter.unusedVariables false
set_option maxRecDepth 100000

/-- a node's rows lie in the world -/
structure Nd.In (n : Nd) (w : World) : Prop where
  row : Row w w.heap.size n.A n.pages.length (n.pages.map iv)
  ens : Ens w w.heap.size n.B n.names
theorem Nd.In.at_ {n : Nd} {w w' : World} (h : n.In w) (hb : Below w.heap.size w w') : n.In w' := ⟨(h.row.below hb).more hb.size, h.ens.at_ hb⟩
theorem Nd.Ok.in_ {n : Nd} {w : World} (h : n.Ok w w.heap.size) : n.In w := ⟨h.row, h.ens⟩
def nodeEq (n k : Nd) : Bool := ((((((n.ino == k.ino) && (n.kind == k.kind)) && (n.links == k.links)) && (n.size == k.size)) && (n.up == k.up)) && decide (n.pages = k.pages)) && decide (n.names = k.names)
theorem nodeEq_iff {n k : Nd} : nodeEq n k = true ↔ n.ino = k.ino ∧ n.kind = k.kind ∧ n.links = k.links ∧ n.size = k.size ∧ n.up = k.up ∧ n.pages = k.pages ∧ n.names = k.names := by
  unfold nodeEq
  simp only [Bool.and_eq_true, beq_iff_eq, decide_eq_true_eq, and_assoc]
theorem grown_b {w wr : World} (h : ∃ q os, wr = grow (w.drewN q) os) : Below w.heap.size w wr := by
  obtain ⟨q, os, rfl⟩ := h
  exact below_grow' w q os
set_option maxHeartbeats 8000000 in
theorem rSame (n k : Nd) (w : World) (hn : n.In w) (hk : k.In w) (h1 : n.pages.length ≤ 1000) (h2 : n.names.length ≤ 1000) : Calls Tryz.prog 68 #[n.val, k.val] w (Grows (.bool (nodeEq n k)) w) := by
  obtain ⟨i, ki, l, s, u, A, ac, P, B, bc, N⟩ := n
  obtain ⟨i', ki', l', s', u', A', ac', P', B', bc', N'⟩ := k
  dsimp only at h1 h2
  have KP := Lib.hid (fun w1 (b : Below w.heap.size w w1) => sameI_any P P' _ _ rfl rfl h1 A A' ac ac' _ _ w1 (hn.row.below b) (hk.row.below b))
  have KE := Lib.hid (fun w1 (b : Below w.heap.size w w1) => sameEs_any N N' _ _ rfl rfl h2 B B' bc bc' _ _ w1 (hn.ens.below b) (hk.ens.below b))
  have hc := Cells.new w 55 (ncells i ki l s u (.slice A P.length ac) (.slice B N.length bc))
  have hd := Cells.new (w.alloc (.cells (ncells i ki l s u (.slice A P.length ac) (.slice B N.length bc)) 55)) 55 (ncells i' ki' l' s' u' (.slice A' P'.length ac') (.slice B' N'.length bc'))
  have hc2 := hc.alloc (.cells (ncells i' ki' l' s' u' (.slice A' P'.length ac') (.slice B' N'.length bc')) 55)
  have hsz : (w.alloc (.cells (ncells i ki l s u (.slice A P.length ac) (.slice B N.length bc)) 55)).heap.size = w.heap.size + 1 := by simp
  rw [hsz] at hd
  have hg := grow_alloc (grow_one w (.cells (ncells i ki l s u (.slice A P.length ac) (.slice B N.length bc)) 55)) (.cells (ncells i' ki' l' s' u' (.slice A' P'.length ac') (.slice B' N'.length bc')) 55)
  have HG := Lib.hid hg
  have HC := Lib.hid hc2
  have HD := Lib.hid hd
  obtain ⟨c0, c1, c2, c3, c4, c5, c6⟩ := cells7 hc2
  obtain ⟨d0, d1, d2, d3, d4, d5, d6⟩ := cells7 hd
  unfold nodeEq Nd.val
  dsimp only
  obtain ⟨bp, hbp⟩ : ∃ b, decide (P = P') = b := ⟨_, rfl⟩
  obtain ⟨be, hbe⟩ : ∃ b, decide (N = N') = b := ⟨_, rfl⟩
  rw [hbp] at KP ⊢
  rw [hbe] at KE ⊢
  unfold ncells at c0 c1 c2 c3 c4 c5 c6 d0 d1 d2 d3 d4 d5 d6 HG HC HD
  clear hc hd hc2 hsz hg hbp hbe hn hk h1 h2
  cases q0 : (i == i')
  · rw [Bool.false_and, Bool.false_and, Bool.false_and, Bool.false_and, Bool.false_and, Bool.false_and]
    go_enter Tryz.func68, Tryz.ntmps68
    go_wp2
    go_ret
    exact ⟨rfl, HG.out⟩
  cases q1 : (ki == ki')
  · rw [Bool.and_false, Bool.false_and, Bool.false_and, Bool.false_and, Bool.false_and, Bool.false_and]
    go_enter Tryz.func68, Tryz.ntmps68
    go_wp2
    go_ret
    exact ⟨rfl, HG.out⟩
  cases q2 : (l == l')
  · rw [Bool.and_false, Bool.false_and, Bool.false_and, Bool.false_and, Bool.false_and]
    go_enter Tryz.func68, Tryz.ntmps68
    go_wp2
    go_ret
    exact ⟨rfl, HG.out⟩
  cases q3 : (s == s')
  · rw [Bool.and_false, Bool.false_and, Bool.false_and, Bool.false_and]
    go_enter Tryz.func68, Tryz.ntmps68
    go_wp2
    go_ret
    exact ⟨rfl, HG.out⟩
  cases q4 : (u == u')
  · rw [Bool.and_false, Bool.false_and, Bool.false_and]
    go_enter Tryz.func68, Tryz.ntmps68
    go_wp2
    go_ret
    exact ⟨rfl, HG.out⟩
  cases bp
  · rw [Bool.and_false, Bool.false_and]
    go_enter Tryz.func68, Tryz.ntmps68
    go_wp2_with fail
    refine (KP.out _ (grown_b HG.out)).mono ?_
    rintro e w1 ⟨rfl, hg⟩
    go_wp2
    go_ret
    exact ⟨rfl, grow_trans HG.out hg⟩
  · rw [Bool.true_and, Bool.true_and]
    go_enter Tryz.func68, Tryz.ntmps68
    go_wp2_with fail
    refine (KP.out _ (grown_b HG.out)).mono ?_
    rintro e w1 ⟨rfl, hg⟩
    have G1 := Lib.hid (grow_trans HG.out hg)
    have c7 := (HC.out.below' (grown_b hg)).cell 6
    have d7 := (HD.out.below' (grown_b hg)).cell 6
    simp at c7 d7
    clear hg c0 c1 c2 c3 c4 c5 c6 d0 d1 d2 d3 d4 d5 d6
    go_wp2_with fail
    refine (KE.out _ (grown_b G1.out)).mono ?_
    rintro e w2 ⟨rfl, hg⟩
    go_wp2
    go_ret
    exact ⟨by simp, grow_trans G1.out hg⟩

end Go.Proofs.YtamndllolppmoaaGreat
