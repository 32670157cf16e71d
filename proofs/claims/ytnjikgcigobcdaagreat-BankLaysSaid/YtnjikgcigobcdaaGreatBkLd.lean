import Derived.Test.YtnjikgcigobcdaaGreatBkLayT
import Derived.Test.YtnjikgcigobcdaaGreatMB
import Derived.Laws.MakeOwn
namespace Go.Proofs.YtnjikgcigobcdaaGreat
open Wd Pm Go.Maps Go.RowKit
set_option linter.unusedVariables false

/-! words read one behind the other -/
theorem own_cell {w : World} {base n : Nat} {e : TypeId} {v : Value} {xs : List Value} (h : w.ownsRow base e 1 v n xs) {g : Nat} (hg : v.ownBlock = some g) : ∃ cs, Cells w g e cs := by
  obtain ⟨_, h | ⟨g', cap, cs, rfl, _, hc, _⟩⟩ := h
  · rw [h.1] at hg; cases hg
  · cases hg; exact ⟨cs, hc⟩
theorem own_far {w : World} {base n : Nat} {e T : TypeId} {v : Value} {xs : List Value} {g : Nat} {cs : Array Value} (h : w.ownsRow base e 1 v n xs) (hc : Cells w g T cs) (hT : T ≠ e) : some g ≠ v.ownBlock := by
  intro he
  obtain ⟨cs', h'⟩ := own_cell h he.symm
  exact hc.ne h' hT rfl
def ldVals (σ : St) (at_ : Int) (k : Nat) : List Int := (List.range k).map fun (i : Nat) => σ.loadVal (at_ + (i : Int))
theorem ldVals_len (σ : St) (at_ : Int) (k : Nat) : (ldVals σ at_ k).length = k := by simp [ldVals]
theorem ldVals_succ (σ : St) (at_ : Int) (k : Nat) : ldVals σ at_ (k + 1) = ldVals σ at_ k ++ [σ.loadVal (at_ + k)] := by simp [ldVals, List.range_succ]
structure LdRel (w : World) (f : Fp) (σ : St) (n3 g q : Nat) (at_ : Int) (many k : Nat) (w' : World) : Prop where
  b : Below w.heap.size w w'
  c3 : Cells w' n3 27 #[.pointer (some ⟨f.p, 0, none⟩)]
  c4 : Cells w' (n3 + 1) 3 #[.int .i64 at_]
  own : ∃ v, Cells w' g 23 #[v] ∧ w'.ownsRow w.heap.size 31 1 v k ((ldVals σ at_ k).map VU64)
  e : Each w' q 0 ((many : Int) - 1) (.func (.func 86) #[] #[PV n3, PV (n3 + 1), PV g])
theorem Each.grown {w w' : World} {row : Option Nat} {n : Nat} {a b : Int} {fv : Value} (h : Each w n a b fv) (hg : w.grownBy w' row) (hr : ∀ k T cs, Cells w k T cs → T ≠ 31 → some k ≠ row) : Each w' n a b fv :=
  ⟨h.a.grown hg (hr _ _ _ h.a (by decide)), h.b.grown hg (hr _ _ _ h.b (by decide)), h.f.grown hg (hr _ _ _ h.f (by decide))⟩
theorem Each.alloc {w : World} {n : Nat} {a b : Int} {fv : Value} (h : Each w n a b fv) (o : Obj) : Each (w.alloc o) n a b fv := ⟨h.a.alloc o, h.b.alloc o, h.f.alloc o⟩
theorem Each.far {w : World} {n g : Nat} {a b : Int} {fv : Value} {cs : Array Value} (h : Each w n a b fv) (hc : Cells w g 23 cs) (u : Value) : Each (w.setCell ⟨g, 0, none⟩ u) n a b fv :=
  ⟨h.a.far (h.a.ne hc (by decide)) u, h.b.far (h.b.ne hc (by decide)) u, h.f.far (h.f.ne hc (by decide)) u⟩
theorem loadErr_ok {σ : St} (hd : σ.dead = false) {i : Int} (h0 : 0 ≤ i) (h1 : i < σ.n) : refErr σ.dead (hasW σ.n i) = 0 := by rw [hd, hasW_iff.2 ⟨h0, h1⟩]; exact ref_ok
theorem own_set {w : World} {base n g : Nat} {e T : TypeId} {v : Value} {xs : List Value} {cs : Array Value} (h : w.ownsRow base e 1 v n xs) (hc : Cells w g T cs) (hT : T ≠ e) (i : Nat) (u : Value) : (w.setCell ⟨g, i, none⟩ u).ownsRow base e 1 v n xs := by
  obtain ⟨h1, h | ⟨g', cap, cs', rfl, hb, hc', h2⟩⟩ := h
  · exact ⟨h1, .inl h⟩
  · exact ⟨h1, .inr ⟨g', cap, cs', rfl, hb, Cells.far hc' (Cells.ne hc' hc (Ne.symm hT)) u, h2⟩⟩
set_option maxRecDepth 100000 in
set_option maxHeartbeats 2000000 in
theorem load1_dev {w wr : World} {f : Fp} {σ : St} (h : Dev w f σ) (hd : σ.dead = false) (n3 g q : Nat) (at_ : Int) (many k : Nat) (h0 : 0 ≤ at_) (h1 : at_ + many ≤ σ.n) (hk : k < many) (hr : LdRel w f σ n3 g q at_ many k wr) (hg0 : w.heap.size ≤ g) :
    Calls Tryz.prog 86 #[.int .i64 k, .pointer (some ⟨n3, 0, none⟩), .pointer (some ⟨n3 + 1, 0, none⟩), .pointer (some ⟨g, 0, none⟩)] wr (Ends (LdRel w f σ n3 g q at_ many (k + 1)) (fun _ _ => False)) := by
  obtain ⟨b, c3, c4, ⟨v, cg, own⟩, he⟩ := hr
  have nle := h.good.nle
  have hl := load_dev (h.below b) (at_ + k)
  rw [loadErr_ok hd (by omega) (by omega)] at hl
  have hs := ldVals_succ σ at_ k
  obtain ⟨x, hx⟩ : ∃ x, σ.loadVal (at_ + k) = x := ⟨_, rfl⟩
  obtain ⟨l, hL⟩ : ∃ l, ldVals σ at_ k = l := ⟨_, rfl⟩
  rw [hx, hL] at hs
  rw [hx] at hl
  rw [hL] at own
  have k3 : wr.cell? ⟨n3, 0, none⟩ = some (.pointer (some ⟨f.p, 0, none⟩)) := c3.cell 0
  have k4 : wr.cell? ⟨n3 + 1, 0, none⟩ = some (.int .i64 at_) := c4.cell 0
  have k5 : wr.cell? ⟨g, 0, none⟩ = some v := cg.cell 0
  have q1 : IntKind.i64.wrap (at_ + (k : Int)) = at_ + (k : Int) := wrapI (by omega) (by omega)
  have HL := Lib.hid hl; have HO := Lib.hid own; have HB := Lib.hid b; have HS := Lib.hid hs; have C3 := Lib.hid c3; have C4 := Lib.hid c4; have CG := Lib.hid cg; have HE := Lib.hid he
  have hgs : g < wr.heap.size := cg.lt
  have hws := b.size
  have z5 := cg.free 0
  have hkm : k ≤ 33554432 := by omega
  clear hl own b hs c3 c4 cg he h hx hL hd
  unfold Fp.ptr at HL
  go_enter Tryz.func86, Tryz.ntmps86
  go_wp2_with fail
  refine (HL.out).mono ?_
  rintro e w2 ⟨rfl, rfl⟩
  have hnew : ∀ (T : TypeId) (cs : Array Value) (n : Nat), Cells wr n T cs → T ≠ 31 → some n ≠ v.ownBlock := fun T cs n hc hT => own_far HO.out hc hT
  have HNEW := Lib.hid hnew
  clear hnew
  go_upto_region 2 with fail
  go_wp2_with (at_builtin; refine wpList_append_row _ rfl (.tmp 16) (.tmp 18) 23 rfl w.heap.size 31 (.int .u64 0) 8 Tryz.underlying23 infoU rfl v k (l.map VU64) rfl (HO.out.alloc _) _ (some ⟨wr.heap.size, 0, none⟩) 1 1 [.int .u64 x] rfl (Row.one _ _ _) (by simp [Value.oneCell']) (by unfold maxLen; omega) (by omega) (by simp; omega) ?_; intro v5 w5 hown5 hgr5 hat5; obtain ⟨A5, cc5, rfl, hrow5⟩ := Row.of_own hown5; clear hrow5; have c5 := (CG.out.alloc _).grown hgr5 (HNEW.out _ _ _ CG.out (by decide)); have z6 := c5.free 0; have k6 := c5.cell 0; have HC5 := Lib.hid c5; have HO5 := Lib.hid hown5; have HG5 := Lib.hid hgr5; clear hown5 hgr5 hat5 c5)
  go_wp2
  go_ret
  have hb5 : Below w.heap.size w w5 := (HB.out.alloc hws _).grown HG5.out (by simp; omega) (own_base HO.out)
  refine ⟨0, rfl, .inl ⟨rfl, ⟨hb5.setCell hg0 _, ?_, ?_, ⟨.slice A5 (k + 1) cc5, ?_, ?_⟩, ?_⟩⟩⟩
  · exact ((C3.out.alloc _).grown HG5.out (HNEW.out _ _ _ C3.out (by decide))).far (C3.out.ne CG.out (by decide)) _
  · exact ((C4.out.alloc _).grown HG5.out (HNEW.out _ _ _ C4.out (by decide))).far (C4.out.ne CG.out (by decide)) _
  · have := HC5.out.set 0 (.slice A5 (k + 1) cc5)
    simpa using this
  · rw [HS.out, List.map_append]
    have := HO5.out
    exact own_set this HC5.out (by decide) 0 _
  · exact ((HE.out.alloc _).grown HG5.out (fun kk T cs hc hT => own_far (HO.out.alloc _) hc hT)).far HC5.out _

theorem own_bl {w w' : World} {base n : Nat} {e : TypeId} {v : Value} {xs : List Value} (h : w.ownsRow base e 1 v n xs) (hb : Below w.heap.size w w') : w'.ownsRow base e 1 v n xs := by
  obtain ⟨h1, h | ⟨g', cap, cs', rfl, hb', hc', h2⟩⟩ := h
  · exact ⟨h1, .inl h⟩
  · exact ⟨h1, .inr ⟨g', cap, cs', rfl, hb', Cells.below' hc' hb, h2⟩⟩
def Loaded (w : World) (σ : St) (at_ : Int) (many : Nat) (e : Ending) (w' : World) : Prop :=
  ∃ A c, e = .returned (.tuple #[.slice A many c, .int .i64 0]) ∧ Row w' w'.heap.size A many ((ldVals σ at_ many).map VU64) ∧ (∀ b o m, A = some ⟨b, o, m⟩ → w.heap.size ≤ b) ∧ Below w.heap.size w w'
set_option maxRecDepth 100000 in
set_option maxHeartbeats 2000000 in
theorem load_many {w : World} {f : Fp} {σ : St} (h : Dev w f σ) (hd : σ.dead = false) (at_ : Int) (many : Nat) (h0 : 0 ≤ at_) (h1 : at_ + many ≤ σ.n) :
    Calls Tryz.prog 50 #[f.ptr, .int .i64 at_, .int .i64 many] w (Loaded w σ at_ many) := by
  have nle := h.good.nle
  have hW := words_dev ((h.alloc (.cells #[.pointer (some ⟨f.p, 0, none⟩)] 27)).alloc (.cells #[.int .i64 at_] 3))
  have q1 : IntKind.i64.wrap ((many : Int) - 1) = (many : Int) - 1 := wrapI (by omega) (by omega)
  have q2 : min (many : Int) (σ.n : Int) = (many : Int) := by omega
  obtain ⟨M, hM⟩ : ∃ M, (List.replicate many (Value.int .u64 0)).toArray = M := ⟨_, rfl⟩
  have hMs : M.size = many := by rw [← hM]; simp
  have hmk : ∀ W : World, (Instr.makeSlice 23 (.int .i64 0) (.int .i64 (many : Int))).run Tryz.prog W = .ok (.slice (some ⟨W.heap.size, 0, none⟩) 0 many) (W.alloc (.cells M 31)) := fun W => by
    obtain ⟨i, i1, i2, i3, i4⟩ := info_parts infoU
    have hr := run_make (P := Tryz.prog) W 23 31 i (.int .u64 0) Tryz.underlying23 i1 i2 .i64 .i64 0 many (by omega) (by omega) (by rw [i4]; omega) (by omega)
    rw [i3, Nat.mul_one] at hr
    have e1 : madeCells (Value.int .u64 0).cells (many : Int).toNat = M := by
      have := toList_madeCells_one (Value.int .u64 0) many
      rw [← hM, Int.toNat_natCast, ← this]
      rfl
    rw [e1] at hr
    exact hr
  have w2s : ((w.alloc (.cells #[.pointer (some ⟨f.p, 0, none⟩)] 27)).alloc (.cells #[.int .i64 at_] 3)).heap.size = w.heap.size + 1 + 1 := by simp
  have H := Lib.hid h; have HW := Lib.hid hW; have HD := Lib.hid hd; have HMS := Lib.hid hMs
  clear h hW hd hM hMs
  unfold Fp.ptr at HW ⊢
  go_enter Tryz.func50, Tryz.ntmps50
  go_wp2_with fail
  refine (HW.out).mono ?_
  rintro e w' ⟨rfl, hw'⟩
  subst hw'
  go_upto_region 2 with fail
  clear hmk
  have c3 := (Cells.new w 27 #[.pointer (some ⟨f.p, 0, none⟩)]).alloc (.cells #[.int .i64 at_] 3)
  have c4 := Cells.new (w.alloc (.cells #[.pointer (some ⟨f.p, 0, none⟩)] 27)) 3 #[.int .i64 at_]
  rw [World.size_alloc] at c4
  have b2 : Below w.heap.size w ((w.alloc (.cells #[.pointer (some ⟨f.p, 0, none⟩)] 27)).alloc (.cells #[.int .i64 at_] 3)) := ((Below.refl _ _).alloc (Nat.le_refl _) _).alloc (by simp) _
  obtain ⟨w2, hw2⟩ : ∃ w2, (w.alloc (.cells #[.pointer (some ⟨f.p, 0, none⟩)] 27)).alloc (.cells #[.int .i64 at_] 3) = w2 := ⟨_, rfl⟩
  rw [hw2] at c3 c4 b2 w2s ⊢
  have cm := (Cells.new w2 31 M).alloc (.cells #[.slice (some ⟨w.heap.size + 1 + 1, 0, none⟩) 0 many] 23)
  have cg := Cells.new (w2.alloc (.cells M 31)) 23 #[.slice (some ⟨w.heap.size + 1 + 1, 0, none⟩) 0 many]
  rw [World.size_alloc] at cg
  rw [w2s] at cm cg
  have b4 : Below w.heap.size w ((w2.alloc (.cells M 31)).alloc (.cells #[.slice (some ⟨w.heap.size + 1 + 1, 0, none⟩) 0 many] 23)) := (b2.alloc b2.size _).alloc (by have := b2.size; simp; omega) _
  have c3' := (c3.alloc (.cells M 31)).alloc (.cells #[.slice (some ⟨w.heap.size + 1 + 1, 0, none⟩) 0 many] 23)
  have c4' := (c4.alloc (.cells M 31)).alloc (.cells #[.slice (some ⟨w.heap.size + 1 + 1, 0, none⟩) 0 many] 23)
  obtain ⟨W, hW⟩ : ∃ W, (w2.alloc (.cells M 31)).alloc (.cells #[.slice (some ⟨w.heap.size + 1 + 1, 0, none⟩) 0 many] 23) = W := ⟨_, rfl⟩
  rw [hW] at cm cg b4 c3' c4' ⊢
  have own : W.ownsRow w.heap.size 31 1 (.slice (some ⟨w.heap.size + 1 + 1, 0, none⟩) 0 many) 0 [] := ⟨rfl, .inr ⟨_, many, M, rfl, by omega, cm, Nat.zero_le _, by unfold maxLen; omega, by have := HMS.out; omega, rfl⟩⟩
  have C3 := Lib.hid c3'; have C4 := Lib.hid c4'; have CG := Lib.hid cg; have OW := Lib.hid own; have B4 := Lib.hid b4
  clear c3 c4 cm cg c3' c4' own b2 hw2 b4 hW w2s
  have KF := Lib.hid (forEach_gen 0 ((many : Int) - 1) 86 #[] #[PV w.heap.size, PV (w.heap.size + 1), PV (w.heap.size + 1 + 1 + 1)] W)
  unfold PV at KF
  go_wp2_with (go_at_call 36; refine (KF.out).mono ?_; rintro e' w5 ⟨q, rfl, lq, eq, b5⟩; clear KF; have EQ := Lib.hid eq; have B5 := Lib.hid b5; clear eq b5; unfold EachV)
  have hlim : (many : Int) - 1 ≤ 1000000000 := by omega
  have rel0 : LdRel w f σ w.heap.size (w.heap.size + 1 + 1 + 1) q at_ many 0 w5 :=
    ⟨B4.out.trans (B5.out.mono B4.out.size), C3.out.below' B5.out, C4.out.below' B5.out, ⟨_, CG.out.below' B5.out, own_bl OW.out B5.out⟩, EQ.out⟩
  have key := each_any 0 ((many : Int) - 1) (by omega) hlim q 86 #[] #[PV w.heap.size, PV (w.heap.size + 1), PV (w.heap.size + 1 + 1 + 1)] (fun j wr => LdRel w f σ w.heap.size (w.heap.size + 1 + 1 + 1) q at_ many j.toNat wr) (fun _ _ => False) w5 rel0
    (fun j wr hj => hj.e) (fun args w => by simp [go_sem])
    (fun j wr hj1 hj2 hA => by
      obtain ⟨k, rfl⟩ : ∃ k : Nat, j = (k : Int) := ⟨j.toNat, by omega⟩
      rw [Int.toNat_natCast] at hA
      rw [show ((k : Int) + 1).toNat = k + 1 by omega]
      exact load1_dev H.out HD.out w.heap.size (w.heap.size + 1 + 1 + 1) q at_ many k h0 h1 (by omega) hA (by omega))
  simp only [show (max (0 : Int) ((many : Int) - 1 + 1)).toNat = many by omega] at key
  have KEY := Lib.hid key
  clear key rel0
  unfold PV at KEY
  go_wp2_with fail
  refine (KEY.out).mono ?_
  rintro e w6 ⟨er, rfl, ⟨rfl, hR⟩ | ⟨_, hF⟩⟩
  rotate_left
  · exact hF.elim
  obtain ⟨b6, _, _, ⟨v, cg6, own6⟩, _⟩ := hR
  obtain ⟨A6, c6, rfl, r6⟩ := Row.of_own own6
  have k6 := cg6.cell 0
  have HB6 := Lib.hid b6; have HR6 := Lib.hid r6; have HO6 := Lib.hid (own_base own6)
  clear KEY b6 r6 own6 cg6
  go_wp2
  go_ret2
  exact ⟨A6, c6, rfl, HR6.out, fun b o m e => HO6.out b (by subst e; rfl), HB6.out⟩
end Go.Proofs.YtnjikgcigobcdaaGreat
