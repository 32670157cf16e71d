import Derived.Test.YtamndllolppmoaaGreatH01
import Derived.Test.YtamndllolppmoaaGreatG07
import Derived.Lib.SliceRun
import Derived.Test.YtamndllolppmoaaGreatG20
import Derived.Test.YtamndllolppmoaaGreatG23

namespace Go.Proofs.YtamndllolppmoaaGreat
open Wd U Go.ChangeShapes Go.WideShapes Go.RowKit Go.Sort
set_option linter.unusedVariables false

/-- words that a row holds somewhere, from a block on -/
def RdRow (w : World) (B : Nat) (v : Value) (xs : List Nat) : Prop :=
  (v = .slice none 0 0 ∧ xs = []) ∨ ∃ (q off c : Nat) (cs : Array Value), v = .slice (some ⟨q, off, none⟩) xs.length c ∧ xs.length ≤ c ∧ B ≤ q ∧ Cells w q 69 cs ∧ ∀ j x, xs[j]? = some x → cs[off + j]? = some (wd x)
theorem RdRow.of_own {w : World} {B : Nat} {v : Value} {xs : List Nat} (h : w.ownsRow B 69 1 v xs.length (xs.map wd)) : RdRow w B v xs := by
  rcases h.2 with ⟨rfl, h0⟩ | ⟨g, cap, cur, rfl, hb, hh, h1, h2, hs, ht⟩
  · exact .inl ⟨rfl, List.eq_nil_of_length_eq_zero h0⟩
  · refine .inr ⟨g, 0, cap, cur, rfl, h1, hb, hh, fun j x hj => ?_⟩
    rw [Nat.mul_one] at ht
    have hjn : j < xs.length := (List.getElem?_eq_some_iff.1 hj).1
    have e : (xs.map wd)[j]? = some (wd x) := by rw [List.getElem?_map, hj]; rfl
    rw [← ht, List.getElem?_take_of_lt hjn] at e
    rw [Nat.zero_add]
    simpa using e
theorem row_at {w : World} {q off n : Nat} {cs : Array Value} {xs : List Nat} (hn : xs.length = n) (hh : Cells w q 69 cs) (hx : ∀ j x, xs[j]? = some x → cs[off + j]? = some (wd x)) : Row w w.heap.size (some ⟨q, off, none⟩) n (xs.map wd) := by
  refine ⟨by rw [List.length_map]; exact hn, fun hp => ⟨q, off, rfl, hh.lt, fun j hj => ?_⟩⟩
  have hj' : j < xs.length := by simpa using hj
  rw [hh.cell, hx j xs[j] (List.getElem?_eq_getElem hj')]
  simp
theorem RdRow.row {w : World} {B : Nat} {v : Value} {xs : List Nat} (h : RdRow w B v xs) : ∃ A c, v = .slice A xs.length c ∧ xs.length ≤ c ∧ Row w w.heap.size A xs.length (xs.map wd) := by
  rcases h with ⟨rfl, rfl⟩ | ⟨q, off, c, cs, rfl, hc, _, hh, hx⟩
  · exact ⟨none, 0, rfl, Nat.le_refl _, Row.nil⟩
  · exact ⟨_, c, rfl, hc, row_at rfl hh hx⟩
theorem RdRow.keep {w w' : World} {B : Nat} {v : Value} {xs : List Nat} (h : RdRow w B v xs) (hk : ∀ g cs, Cells w g 69 cs → w'.heap[g]? = w.heap[g]?) : RdRow w' B v xs := by
  rcases h with h | ⟨q, off, c, cs, hv, hc, hB, hh, hx⟩
  · exact .inl h
  · exact .inr ⟨q, off, c, cs, hv, hc, hB, (hk q cs hh).trans hh, hx⟩
theorem RdRow.below {w w' : World} {B : Nat} {v : Value} {xs : List Nat} (h : RdRow w B v xs) (hb : Below w.heap.size w w') : RdRow w' B v xs := h.keep fun g cs hc => hb.block g hc.lt

def ClonedW (W : World) (xs : List Nat) (e : Ending) (w : World) : Prop := ∃ v, e = .returned v ∧ RdRow w W.heap.size v xs ∧ Below W.heap.size W w
set_option maxRecDepth 100000 in
theorem wclone {w : World} {B n c : Nat} {A : Option Addr} {xs : List Nat} (hn : xs.length = n) (h : Row w B A n (xs.map wd)) (hB : B ≤ w.heap.size) (hle : n ≤ 1000000) : Calls Tryz.prog 97 #[.slice A n c] w (ClonedW w xs) := by
  cases A with
  | none =>
    have h0 : n = 0 := by
      apply Classical.byContradiction
      intro hc
      obtain ⟨b, off, e, _⟩ := h.2 (by omega)
      cases e
    subst h0
    obtain rfl : xs = [] := List.eq_nil_of_length_eq_zero hn
    have hq := fun (w : World) => Lib.run_eql_slice_nil (P := Tryz.prog) w 61 69 none 0 c 0 0 Tryz.underlying61
    clear h hn
    go_enter Tryz.func97, Tryz.ntmps97
    go_wp2
    go_ret
    exact ⟨_, rfl, .inl ⟨rfl, rfl⟩, Below.refl _ _⟩
  | some a =>
    have ho : (w.alloc (.cells #[] 69)).ownsRow w.heap.size 69 1 (.slice (some ⟨w.heap.size, 0, none⟩) 0 0) 0 [] := ⟨rfl, .inr ⟨w.heap.size, 0, #[], rfl, Nat.le_refl _, Cells.new w _ _, Nat.le_refl _, by decide, rfl, rfl⟩⟩
    have HO := Lib.hid ho
    have hr' : Row (w.alloc (.cells #[] 69)) w.heap.size (some a) n (xs.map wd) := (h.more hB).below ((Below.refl w.heap.size w).alloc (Nat.le_refl _) _)
    have HR := Lib.hid hr'
    have HN := Lib.hid hn
    have hq := fun (w : World) => Lib.run_eql_slice_nil (P := Tryz.prog) w 61 69 (some a) n c 0 0 Tryz.underlying61
    clear ho hr' h hn
    go_enter Tryz.func97, Tryz.ntmps97
    go_wp2_with (at_builtin; refine wpList_append_row _ rfl (.tmp 5) (.tmp 6) 61 rfl w.heap.size 69 (.int .u64 0) 8 Tryz.underlying61 infoU64' rfl _ _ _ rfl HO.out _ (some a) n c (xs.map wd) rfl HR.out (oneW _) (by unfold maxLen; omega) (by omega) (by simp) ?_; intro v5 w5 hown5 hgr5 hat5; have HO5 := Lib.hid hown5; have HG5 := Lib.hid hgr5; have HA5 := Lib.hid hat5; clear hown5 hgr5 hat5)
    go_ret
    have hb5 : Below w.heap.size w w5 := ((Below.refl _ _).alloc (Nat.le_refl _) _).grown HG5.out (by simp) (own_base HO.out)
    have ho5 := HO5.out
    rw [Nat.zero_add, List.nil_append, ← HN.out] at ho5
    exact ⟨_, rfl, RdRow.of_own ho5, hb5⟩

/-- a Writer's words -/
theorem words_w {W w : World} {g : Nat} {xs : List Nat} (h : WrSt W g xs w) (hl : xs.length ≤ 400000) :
    Calls Tryz.prog 60 #[.pointer (some ⟨g, 0, none⟩)] w (ClonedW w xs) := by
  obtain ⟨h1, h2, v, h3, h4⟩ := h
  have c0 : w.cell? ⟨g, 0, none⟩ = some v := h3.cell 0
  obtain ⟨A, c, rfl, hr⟩ := Row.of_own h4
  obtain ⟨n, hn⟩ : ∃ n, xs.length = n := ⟨_, rfl⟩
  rw [hn] at c0 hr hl
  have HN := Lib.hid hn; have HR := Lib.hid hr
  clear h1 h3 h4 hr hn
  go_enter Tryz.func60, Tryz.ntmps60
  go_wp2_with (go_at_call 97; refine (wclone HN.out HR.out (Nat.le_refl _) (by omega)).mono ?_; rintro e w' ⟨v', rfl, r', b'⟩; have HR' := Lib.hid r'; have HB' := Lib.hid b'; clear r' b')
  go_ret
  exact ⟨_, rfl, HR'.out, HB'.out⟩
end Go.Proofs.YtamndllolppmoaaGreat

/-! A Writer's Num and Text, with all that they leave as it was. -/
namespace Go.Proofs.YtamndllolppmoaaGreat
open Wd Ino Sm U Go.RowKit Go.ChangeShapes Go.WideShapes Go.ChangeAt Go.Deep Go.Lib
set_option linter.unusedVariables false
set_option maxRecDepth 100000
abbrev wrTs : List TypeId := [106, 69]
theorem keep_put {w w' : World} {g n base : Nat} {v v' : Value} {xs : List Value} (h3 : Cells w g 106 #[v]) (h4 : w.ownsRow base 69 1 v n xs) (k2 : w.grownBy w' v.ownBlock) : KeepC wrTs w (w'.setCell ⟨g, 0, none⟩ v') := by
  intro b t cs ht hc
  have h1 : t ≠ 106 := fun e => ht (by rw [e]; exact List.mem_cons_self)
  have h2 : t ≠ 69 := fun e => ht (by rw [e]; exact List.mem_cons_of_mem _ List.mem_cons_self)
  exact (hc.grown k2 (ne_own hc h4 h2)).far (p := ⟨g, 0, none⟩) (hc.ne h3 h1) _
def WroteK (w0 W : World) (g : Nat) (xs : List Nat) (e : Ending) (w : World) : Prop := e = .returned (.tuple #[]) ∧ WrSt W g xs w ∧ KeepC wrTs w0 w
set_option maxHeartbeats 1000000 in
theorem num_k {W w : World} {g : Nat} {xs : List Nat} (h : WrSt W g xs w) (hl : xs.length ≤ 400000) (k : Int) :
    Calls Tryz.prog 57 #[.pointer (some ⟨g, 0, none⟩), .int .i64 k] w (WroteK w W g (xs ++ [uw k])) := by
  obtain ⟨h1, h2, v, h3, h4⟩ := h
  have c0 : w.cell? ⟨g, 0, none⟩ = some v := h3.cell 0
  have f0 := h3.free 0
  have hsh : v.ownBlock = none ∧ v = .slice none 0 0 ∨ ∃ q c, v = .slice (some ⟨q, 0, none⟩) xs.length c := by
    rcases h4.2 with ⟨rfl, _⟩ | ⟨g', cap, cur, rfl, _⟩
    · exact .inl ⟨rfl, rfl⟩
    · exact .inr ⟨g', cap, rfl⟩
  have hw : IntKind.u64.wrap k = ((uw k : Nat) : Int) := by rw [IntKind.wrap_u64]; unfold uw; omega
  have H1 := Lib.hid h1; have H3 := Lib.hid h3; have H4 := Lib.hid h4
  have hsz := h1.size
  clear h1 h3 h4 hsh
  go_enter Tryz.func57, Tryz.ntmps57
  go_wp2_with (at_builtin; refine wpList_append_row _ rfl (.tmp 10) (.tmp 13) 61 rfl W.heap.size 69 (.int .u64 0) 8 Tryz.underlying61 infoU64' rfl v xs.length (xs.map wd) rfl (own_belowW H4.out ((Below.refl _ _).alloc (Nat.le_refl _) _)) _ (some ⟨w.heap.size, 0, none⟩) 1 1 [.int .u64 (uw k : Nat)] rfl (Row.one _ _ _) (by simp [Value.oneCell']) (by unfold maxLen; omega) (by omega) (by simp; omega) ?_; intro v5 w5 hown5 hgr5 hat5; obtain ⟨q5, k5, rfl, _, _, _, _⟩ := own_open hown5 (by omega); have hgr6 := grow_alloc' hgr5; have HO5 := Lib.hid hown5; have HG5 := Lib.hid hgr6; have hc5 := H3.out.grown hgr6 (WrSt.ne H3.out H4.out); have c5 : w5.cell? ⟨g, 0, none⟩ = some v := hc5.cell 0; have f5 := hc5.free 0; clear hown5 hgr5 hat5 hgr6 hc5)
  refine bodyPost_ret (results_none rfl _ _ _) rfl ?_
  exact ⟨rfl, WrSt.put (ys := [uw k]) H1.out h2 H3.out H4.out HO5.out HG5.out, keep_put H3.out H4.out HG5.out⟩


set_option maxHeartbeats 4000000 in
theorem text_k {W w : World} {g : Nat} {xs : List Nat} (h : WrSt W g xs w) (hl : xs.length ≤ 350000) (s : ByteArray) (hs : s.size ≤ 1000) :
    Calls Tryz.prog 96 #[.pointer (some ⟨g, 0, none⟩), .string s] w (WroteK w W g (xs ++ [s.size] ++ pk (bsOfW s))) := by
  have HW := Lib.hid h
  clear h
  obtain ⟨n, hn⟩ : ∃ n, s.size = n := ⟨_, rfl⟩
  have hcv : ∀ w, (convert 9 48 (.string s)).run Tryz.prog w = .ok (.slice (some ⟨w.heap.size, 0, none⟩) n (grownCap w s.size 0 5))
      (w.drew.alloc (.cells (bytesRow s (grownCap w s.size 0 5)) 5 ((bytesRow s (grownCap w s.size 0 5)).size, (bytesRow s (grownCap w s.size 0 5)).size + 1))) := fun w => by
    rw [run_bytes_of_string (P := Tryz.prog) w 9 48 5 s Tryz.underlying9 Tryz.underlying48 Tryz.underlying5, hn]
  have HN := Lib.hid hn
  have HCV := Lib.hid hcv
  clear hcv
  rw [hn] at hs ⊢
  have hn2 := hn
  clear hn
  go_enter Tryz.func96, Tryz.ntmps96
  go_wp2_with fail
  refine (num_k HW.out (by omega) (n : Int)).mono ?_
  rintro e w1 ⟨rfl, h1, hk1⟩
  have HK1 := Lib.hid hk1
  rw [uw_nat (by omega)] at h1
  clear hk1
  obtain ⟨hb1, hg, v, hc, ho⟩ := h1
  have c0 : w1.cell? ⟨g, 0, none⟩ = some v := hc.cell 0
  have hcv := HCV.out
  have hL : (bsOfW s).length = n := by rw [bsOf_lenW]; exact HN.out
  have HL := Lib.hid hL; have HB1 := Lib.hid hb1; have HC := Lib.hid hc; have HO := Lib.hid ho
  clear hL hb1 hc ho hn2
  go_upto_region 2 with fail
  have hgl := HC.out.lt
  have hsz := HB1.out.size
  have hnd : need n ≤ 200 := by unfold need; omega
  have hpk : (pk (bsOfW s)).length = need n := by rw [pk_len, HL.out]
  have HPK := Lib.hid hpk
  clear hpk
  go_region_law (first
    | (go_simp; go_at_call 145; refine (wPack (bsOfW s) n HL.out (bsOf_bytesW s) _ _ _ (by omega) (bytes_rowW _ s n HN.out _ _ _)).mono ?_; rintro e w2 ⟨A2, c2, rfl, r2, b2⟩; have b1 := below_marked b2; have hc2 := HC.out.below' b1; have c02 : w2.cell? ⟨g, 0, none⟩ = some v := hc2.cell 0; have HO2 := Lib.hid (own_belowW HO.out b1); have HC2 := Lib.hid hc2; have HB2 := Lib.hid (HB1.out.trans (b1.mono HB1.out.size)); have HKB := Lib.hid (KeepC.of (Ts := []) b1); have HR2 := Lib.hid r2; have hsz2 := HB2.out.size; clear r2 b2 b1 hc2)
    | ((with_reducible refine step_shape (by rfl) ?_); refine wp_append_row _ (.tmp 14) (.tmp 17) 61 (by rfl) W.heap.size 69 (.int .u64 0) 8 Tryz.underlying61 infoU64' (by rfl) v _ _ (by rfl) HO2.out _ A2 (pk (bsOfW s)).length c2 ((pk (bsOfW s)).map wd) (by rfl) HR2.out (oneW _) (by rw [HPK.out, List.length_append, List.length_singleton]; unfold maxLen; omega) (by rw [HPK.out, List.length_append, List.length_singleton]; omega) (by omega) ?_; intro v5 w5 hown5 hgr5 hat5; obtain ⟨q5, k5, hq5, _, _, _, _⟩ := own_open hown5 (by rw [List.length_append, List.length_singleton]; omega); have HO5 := Lib.hid hown5; have HG5 := Lib.hid hgr5; have hc5 := HC2.out.grown hgr5 (WrSt.ne HC2.out HO2.out); have c5 : w5.cell? ⟨g, 0, none⟩ = some v := hc5.cell 0; have f5 := hc5.free 0; subst hq5; clear hown5 hgr5 hat5 hc5))
  all_goals
    go_wp2
    refine bodyPost_ret (results_none rfl _ _ _) rfl ?_
    have hput := WrSt.put (ys := pk (bsOfW s)) HB2.out hg HC2.out HO2.out HO5.out HG5.out
    rw [List.length_append, List.length_singleton] at hput
    exact ⟨rfl, hput, HK1.out.trans ((HKB.out.more (by simp)).trans (keep_put HC2.out HO2.out HG5.out))⟩

end Go.Proofs.YtamndllolppmoaaGreat

/-! The project's image: the words of one node. -/
namespace Go.Proofs.YtamndllolppmoaaGreat
open Wd Ino Sm U Go.RowKit Go.ChangeShapes Go.WideShapes
set_option linter.unusedVariables false
set_option maxRecDepth 100000
def nameW (e : Ent) : List Nat := [e.s.size] ++ pk (bsOfW e.s) ++ [uw e.n]
def hdrZ (n : Nod) : List Int := [n.ino, n.kind, n.links, n.size, n.up, (n.pages.length : Nat), (n.names.length : Nat)]
def nodeW (n : Nod) : List Nat := (hdrZ n).map uw ++ n.pages.map uw ++ n.names.flatMap nameW
theorem take_snocA {α : Type} {l : List α} {k : Nat} {x : α} (h : l[k]? = some x) : l.take (k + 1) = l.take k ++ [x] := by
  obtain ⟨hk, rfl⟩ := List.getElem?_eq_some_iff.1 h
  rw [List.take_add_one, List.getElem?_eq_getElem hk]; rfl
theorem flat_le {l : List Ent} (k : Nat) : ((l.take k).flatMap nameW).length ≤ (l.flatMap nameW).length := by
  conv => rhs; rw [← List.take_append_drop k l]
  rw [List.flatMap_append, List.length_append]; omega
def WkRel (w1 W : World) (g : Nat) (xs ys : List Nat) (n : Nat) (f : Nat → List Nat) (i : Value) (wr : World) : Prop := ∃ k : Nat, k ≤ n ∧ i = .int .i64 k ∧ WrSt W g (xs ++ f k) wr ∧ KeepC wrTs w1 wr
set_option maxHeartbeats 16000000 in
theorem iWrite {W w : World} {g base : Nat} {xs : List Nat} (h : WrSt W g xs w) (n : Nd) (ho : OwnNd w base n) (hp : n.pages.length ≤ 1000) (hq : n.names.length ≤ 1000) (hsz : ∀ e ∈ n.names, e.s.size ≤ 1000) (hl : xs.length + (nodeW n.plain).length ≤ 300000) :
    Calls Tryz.prog 58 #[.pointer (some ⟨g, 0, none⟩), n.val] w (WroteK w W g (xs ++ nodeW n.plain)) := by
  obtain ⟨j0, ki, lk, t, u, A, ac, P, B, bc, N⟩ := n
  dsimp only at hp hq hsz
  obtain ⟨w0, hw0⟩ : ∃ w0, w.alloc (.cells #[.int .i64 j0, .int .i64 ki, .int .i64 lk, .int .i64 t, .int .i64 u, .slice A P.length ac, .slice B N.length bc] 55) = w0 := ⟨_, rfl⟩
  have hb0 : Below w.heap.size w w0 := by rw [← hw0]; exact below_of_grown (World.grownBy_alloc w _ none)
  have hc0 : Cells w0 w.heap.size 55 (ncells j0 ki lk t u (.slice A P.length ac) (.slice B N.length bc)) := by rw [← hw0]; exact Cells.new _ _ _
  have hs0 : w0.heap.size = w.heap.size + 1 := by rw [← hw0]; simp
  obtain ⟨w1, hw1⟩ : ∃ w1, w0.alloc (.cells #[.int .i64 j0, .int .i64 ki, .int .i64 lk, .int .i64 t, .int .i64 u, .int .i64 (P.length : Nat), .int .i64 (N.length : Nat)] 3) = w1 := ⟨_, rfl⟩
  have hb1 : Below w0.heap.size w0 w1 := by rw [← hw1]; exact below_of_grown (World.grownBy_alloc w0 _ none)
  have hc1 : Cells w1 w0.heap.size 3 ((hdrZ (Nd.plain ⟨j0, ki, lk, t, u, A, ac, P, B, bc, N⟩)).map (Value.int .i64)).toArray := by
    have := Cells.new w0 3 #[.int .i64 j0, .int .i64 ki, .int .i64 lk, .int .i64 t, .int .i64 u, .int .i64 (P.length : Nat), .int .i64 (N.length : Nat)]
    rw [hw1] at this
    exact this
  have hb01 : Below w.heap.size w w1 := hb0.trans (hb1.mono hb0.size)
  have HK1 := Lib.hid (show KeepC wrTs w w1 from (KeepC.of (Ts := []) hb01).more (by simp))
  have H1 := Lib.hid (h.below hb01); have HO1 := Lib.hid (ho.below hb01); have HC0 := Lib.hid (hc0.below' hb1); have HC1 := Lib.hid hc1
  have hlen : (nodeW (Nd.plain ⟨j0, ki, lk, t, u, A, ac, P, B, bc, N⟩)).length = 7 + P.length + (N.flatMap nameW).length := by
    unfold nodeW hdrZ; simp [Nd.plain]; omega
  have HL := Lib.hid (show xs.length + (7 + P.length + (N.flatMap nameW).length) ≤ 300000 by rw [← hlen]; exact hl)
  have HP := Lib.hid hp; have HQ := Lib.hid hq; have HSZ := Lib.hid hsz
  obtain ⟨z0, z1, z2, z3, z4, z5, z6⟩ := cells7 hc0
  have HW0 := Lib.hid hw0; have HW1 := Lib.hid hw1
  unfold Nd.val
  clear h ho hp hq hsz hl hb0 hc0 hs0 hb1 hc1 hb01 hlen hw1
  go_enter Tryz.func58, Tryz.ntmps58
  go_wp2
  rw [HW1.out]
  clear hw0 z0 z1 z2 z3 z4 z5 z6
  obtain ⟨H, hH⟩ : ∃ H, hdrZ (Nd.plain ⟨j0, ki, lk, t, u, A, ac, P, B, bc, N⟩) = H := ⟨_, rfl⟩
  have HH := Lib.hid hH
  have HHL := Lib.hid (show H.length = 7 by rw [← hH]; rfl)
  rw [hH] at HC1
  clear hH
  go_loopw [28] (fun i wr => WkRel w1 W g xs [] 7 (fun k => (H.take k).map uw) i wr) (fun i _ => 7 - (intOf i).toNat)
  case atStart => exact ⟨0, Nat.zero_le _, rfl, by simpa using H1.out, fun _ _ _ _ hc => hc⟩
  case round =>
    obtain ⟨k, hk, rfl, hw, hkp⟩ := hrel
    change WrSt W g (xs ++ (H.take k).map uw) wr at hw
    have HWR := Lib.hid hw; have HKP := Lib.hid hkp
    by_cases hlt : k < 7
    · have hlt2 : (k : Int) < 7 := by omega
      obtain ⟨x, hx⟩ : ∃ x, H[k]? = some x := ⟨_, List.getElem?_eq_getElem (by rw [HHL.out]; exact hlt)⟩
      have cx : wr.cell? ⟨w0.heap.size, k, none⟩ = some (.int .i64 x) := by
        rw [(hkp _ _ _ (by decide) HC1.out).cell k, List.getElem?_toArray, List.getElem?_map, hx]; rfl
      have HX := Lib.hid (take_snocA hx)
      have HLT := Lib.hid hlt
      clear hw hkp hx hk hlt
      go_wp2_with (go_at_call 57; refine (num_k HWR.out (by have := HL.out; have := HLT.out; rw [List.length_append, List.length_map, List.length_take, HHL.out]; omega) x).mono ?_; rintro e' wn ⟨rfl, hn, hkn⟩; have HN := Lib.hid hn; have HKN := Lib.hid (HKP.out.trans hkn); clear hn hkn)
      go_roundw
      case rel => exact ⟨k + 1, HLT.out, by go_num, by show WrSt W g (xs ++ (H.take (k + 1)).map uw) wn; rw [HX.out, List.map_append, ← List.append_assoc]; exact HN.out, HKN.out⟩
      case measure => simp [intOf]; have := HLT.out; omega
    · have hlt2 : ¬ (k : Int) < 7 := by omega
      have hfull : H.take k = H := List.take_of_length_le (by rw [HHL.out]; omega)
      rw [hfull] at HWR
      obtain ⟨z0, z1, z2, z3, z4, z5, z6⟩ := cells7 (hkp _ _ _ (by decide) HC0.out)
      clear hw hkp hk hlt hfull
      go_wp2
      clear z0 z1 z2 z3 z4 z5 z6
      go_loopw [39] (fun i wr => WkRel w1 W g xs [] P.length (fun k => H.map uw ++ (P.take k).map uw) i wr) (fun i _ => P.length - (intOf i).toNat)
      case atStart => exact ⟨0, Nat.zero_le _, rfl, by simpa using HWR.out, HKP.out⟩
      case round =>
        obtain ⟨k, hk, rfl, hw, hkp⟩ := hrel
        change WrSt W g (xs ++ (H.map uw ++ (P.take k).map uw)) wr at hw
        have HW2 := Lib.hid hw; have HK2 := Lib.hid hkp
        by_cases hlt : k < P.length
        · have hlt2 : (k : Int) < (P.length : Int) := Int.ofNat_lt.2 hlt
          have hk9 : k ≤ 1000 := by have := HP.out; omega
          obtain ⟨A', c', hv, hr⟩ := (HO1.out.keep hkp (by decide) (by decide)).1.row
          injection hv with hv _ hv3
          subst hv hv3
          obtain ⟨b1, o1, x, hA, hbb, hx, cx⟩ := getI hr hlt
          have HX := Lib.hid (take_snocA hx)
          have HLT := Lib.hid hlt
          dsimp only at hA
          subst hA
          clear hw hkp hx hk hlt hr
          go_wp2_with (go_at_call 57; refine (num_k HW2.out (by have := HL.out; have := HLT.out; rw [List.length_append, List.length_append, List.length_map, List.length_map, List.length_take, HHL.out]; omega) x).mono ?_; rintro e' wn ⟨rfl, hn, hkn⟩; have HN := Lib.hid hn; have HKN := Lib.hid (HK2.out.trans hkn); clear hn hkn)
          go_roundw
          case rel => exact ⟨k + 1, HLT.out, by go_num, by show WrSt W g (xs ++ (H.map uw ++ (P.take (k + 1)).map uw)) wn; rw [HX.out, List.map_append, ← List.append_assoc (H.map uw), ← List.append_assoc xs]; exact HN.out, HKN.out⟩
          case measure => simp [intOf]; have := HLT.out; omega
        · obtain rfl : k = P.length := by omega
          rw [List.take_length] at hw
          obtain ⟨M, hM⟩ : ∃ M, H.map uw ++ P.map uw = M := ⟨_, rfl⟩
          have HM := Lib.hid hM
          have HML := Lib.hid (show M.length = 7 + P.length by rw [← hM, List.length_append, List.length_map, List.length_map, HHL.out])
          rw [hM] at hw
          have HW3 := Lib.hid hw
          obtain ⟨z0, z1, z2, z3, z4, z5, z6⟩ := cells7 (hkp _ _ _ (by decide) HC0.out)
          clear hw hkp hk hlt hM HW2
          go_wp2
          clear z0 z1 z2 z3 z4 z5 z6
          go_loopw [50] (fun i wr => WkRel w1 W g xs [] N.length (fun k => M ++ (N.take k).flatMap nameW) i wr) (fun i _ => N.length - (intOf i).toNat)
          case atStart => exact ⟨0, Nat.zero_le _, rfl, by simpa using HW3.out, HK2.out⟩
          case round =>
            obtain ⟨k, hk, rfl, hw, hkp⟩ := hrel
            change WrSt W g (xs ++ (M ++ (N.take k).flatMap nameW)) wr at hw
            have HK4 := Lib.hid hkp
            by_cases hlt : k < N.length
            · have hlt2 : (k : Int) < (N.length : Int) := Int.ofNat_lt.2 hlt
              have hk9 : k ≤ 1000 := by have := HQ.out; omega
              obtain ⟨e, hek⟩ : ∃ e, N[k]? = some e := ⟨_, List.getElem?_eq_getElem hlt⟩
              obtain ⟨A', c', hv, _, hens⟩ := (HO1.out.keep hkp (by decide) (by decide)).2.form
              injection hv with hv _ hv3
              subst hv hv3
              obtain ⟨b1, o1, hA, hbb, x0, x1⟩ := ens_cells hens hek
              dsimp only at hA
              subst hA
              have hes := HSZ.out e (List.mem_of_getElem? hek)
              have HX := Lib.hid (take_snocA hek)
              have hfl := flat_le (l := N) (k + 1)
              rw [HX.out, List.flatMap_append, List.length_append] at hfl
              have hfn : ([e].flatMap nameW).length = 1 + (pk (bsOfW e.s)).length + 1 := by show (nameW e ++ []).length = _; unfold nameW; simp only [List.append_nil, List.length_append, List.length_singleton]
              rw [hfn] at hfl
              obtain ⟨s, n⟩ := e
              dsimp only at x0 x1 hes hfl
              have hb2 : Below wr.heap.size wr (wr.alloc (.cells #[.string s, .int .i64 n] 114)) := below_of_grown (World.grownBy_alloc wr _ none)
              have hc2 : Cells (wr.alloc (.cells #[.string s, .int .i64 n] 114)) wr.heap.size 114 #[.string s, .int .i64 n] := Cells.new _ _ _
              have hlw : (xs ++ (M ++ (N.take k).flatMap nameW)).length + (1 + (pk (bsOfW s)).length + 1) ≤ 300000 := by
                rw [List.length_append, List.length_append, HML.out]
                have := HL.out
                omega
              have HLW := Lib.hid hlw
              have HW5 := Lib.hid (hw.below hb2)
              have HK5 := Lib.hid (hkp.trans ((KeepC.of (Ts := []) hb2).more (by simp)))
              have HC2 := Lib.hid hc2
              have KT := Lib.hid (text_k HW5.out (by have := HLW.out; omega) s hes)
              have y0 := hc2.cell 0
              simp only [List.getElem?_toArray, List.getElem?_cons_zero] at y0
              have HLT := Lib.hid hlt
              clear hw hkp hk hlt hek hes hfl hfn hlw hb2 hc2 hens
              go_wp2_with fail
              refine (KT.out).mono ?_
              rintro e' w6 ⟨rfl, h6, hk6⟩
              have HW6 := Lib.hid h6; have HK6 := Lib.hid (HK5.out.trans hk6)
              have hc6 := hk6 _ _ _ (by decide) HC2.out
              have y1 := hc6.cell 1
              simp only [List.getElem?_toArray, List.getElem?_cons_succ, List.getElem?_cons_zero] at y1
              clear h6 hk6 hc6 y0 KT
              go_wp2_with (go_at_call 57; refine (num_k HW6.out (by have := HLW.out; rw [List.length_append, List.length_append, List.length_singleton]; omega) n).mono ?_; rintro e' wn ⟨rfl, hn, hkn⟩; have HN := Lib.hid hn; have HKN := Lib.hid (HK6.out.trans hkn); clear hn hkn)
              go_roundw
              case rel => exact ⟨k + 1, HLT.out, by go_num, by
                show WrSt W g (xs ++ (M ++ (N.take (k + 1)).flatMap nameW)) wn
                rw [HX.out, List.flatMap_append]
                have h9 := HN.out
                simp only [List.flatMap_cons, List.flatMap_nil, List.append_nil, nameW, List.append_assoc] at h9 ⊢
                exact h9, HKN.out⟩
              case measure => simp [intOf]; have := HLT.out; omega
            · obtain rfl : k = N.length := by omega
              rw [List.take_length] at hw
              have HW7 := Lib.hid hw
              clear hw hkp hk hlt
              go_wp2
              refine bodyPost_ret (results_none rfl _ _ _) rfl ?_
              exact ⟨rfl, by unfold nodeW; rw [HH.out]; show WrSt W g (xs ++ (H.map uw ++ P.map uw ++ N.flatMap nameW)) wr; rw [HM.out]; exact HW7.out, HK1.out.trans HK4.out⟩
end Go.Proofs.YtamndllolppmoaaGreat
