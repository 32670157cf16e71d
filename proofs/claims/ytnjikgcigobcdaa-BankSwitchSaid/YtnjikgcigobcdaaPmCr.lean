import Derived.Test.YtnjikgcigobcdaaPmDi
namespace Go.Proofs.Ytnjikgcigobcdaa
open Wd Pm Go.Maps Go.RowKit
set_option linter.unusedVariables false

/-! what a crash makes of a device -/
def evSt (σ : St) (ks : List Int) : Int → Int := fun x => if x ∈ ks then (σ.hd x).getD 0 else σ.st x
def keptL : List Int → List Bool → List Int
  | [], _ => []
  | _ :: _, [] => []
  | x :: l, b :: keep => (if b = true then [x] else []) ++ keptL l keep
def St.crash (σ : St) (l : List Int) (keep : List Bool) : St := { σ with st := evSt σ (keptL l keep), hd := fun _ => none, sn := fun _ => none, ar := 0, dead := false }
theorem evSt_nil (σ : St) : evSt σ [] = σ.st := by funext x; simp [evSt]
theorem evSt_snoc (σ : St) (ks : List Int) (y c : Int) (h : σ.hd y = some c) : (fun x => if x = y then c else evSt σ ks x) = evSt σ (ks ++ [y]) := by
  funext x
  unfold evSt
  by_cases e : x = y
  · subst e; simp [h]
  · simp [e]
theorem kept_step : ∀ {l : List Int} {keep : List Bool} {k : Nat} {y : Int}, l[k]? = some y → keptL (l.take (k + 1)) keep = keptL (l.take k) keep ++ (if keep[k]? = some true then [y] else [])
  | [], _, _, _, h => by simp at h
  | x :: l, [], 0, y, _ => by simp [keptL]
  | x :: l, [], k + 1, y, _ => by simp [keptL]
  | x :: l, b :: keep, 0, y, h => by
    simp at h; subst h
    simp [keptL]
  | x :: l, b :: keep, k + 1, y, h => by
    simp at h
    have := kept_step (keep := keep) h
    simp only [List.take_succ_cons, keptL, this, List.getElem?_cons_succ, List.append_assoc]
theorem mem_kept : ∀ {l : List Int} {keep : List Bool} {x : Int}, x ∈ keptL l keep → x ∈ l
  | [], _, _, h => by simp [keptL] at h
  | _ :: _, [], _, h => by simp [keptL] at h
  | y :: l, b :: keep, x, h => by
    simp only [keptL, List.mem_append] at h
    rcases h with h | h
    · split at h
      · simp at h; simp [h]
      · cases h
    · exact List.mem_cons_of_mem _ (mem_kept h)

/-- two new maps -/
theorem Dev.newHN {w : World} {f : Fp} {σ : St} (h : Dev w f σ) : Dev ((((w.alloc (.map #[] 0)).alloc (.map #[] 0)).setCell ⟨f.p, 1, none⟩ (.map (some w.heap.size))).setCell ⟨f.p, 2, none⟩ (.map (some (w.heap.size + 1)))) { f with bh := w.heap.size, bn := w.heap.size + 1 } { σ with hd := fun _ => none, sn := fun _ => none } := by
  have n := h.ne
  have l := h.lt
  have h' := (h.alloc (.map #[] 0)).alloc (.map #[] 0)
  obtain ⟨h1, h2, h3, h4, h5, h6⟩ := h'
  have m1 := (Mp.made w Try.prog 3 49).kept (World.grownBy_alloc _ (.map #[] 0) none) (by simp)
  have m2 := Mp.made (w.alloc (.map #[] 0)) Try.prog 3 49
  rw [World.size_alloc] at m2
  refine ⟨(h1.set 1 _).set 2 _, (h2.far (by exact n.1.symm) _).far (by exact n.1.symm) _, ?_, ?_, by simp, ?_⟩
  · exact ((m1.mono (Nat.zero_le _)).same (Below.heap_setCell _ ⟨f.p, 1, none⟩ (.map (some w.heap.size)) _ (by simp; omega))).same (Below.heap_setCell _ _ _ _ (by simp; omega))
  · exact ((m2.mono (Nat.zero_le _)).same (Below.heap_setCell _ ⟨f.p, 1, none⟩ (.map (some w.heap.size)) _ (by simp; omega))).same (Below.heap_setCell _ _ _ _ (by simp; omega))
  · exact ⟨h6.nle, h6.st, (fun x c hc => by cases hc), (fun x c hc => by cases hc), h6.ev, h6.ar⟩

def CrashRel (w1 : World) (f : Fp) (σ : St) (l : List Int) (keep : List Bool) (i : Value) (wr : World) : Prop := ∃ k : Nat, k ≤ l.length ∧ i = .int .i64 k ∧ Dev wr f { σ with st := evSt σ (keptL (l.take k) keep) } ∧ w1.grownBy wr (some f.bs)
/-- a device has crashed -/
def Crashed (w : World) (f : Fp) (σ : St) (keep : List Bool) (e : Ending) (w' : World) : Prop := e = .returned (.tuple #[]) ∧ ∃ l, KeysOf σ.hd l ∧ Goes w f (σ.crash l keep) w'

set_option maxRecDepth 100000 in
set_option maxHeartbeats 1000000 in
theorem crash_dev {w : World} {f : Fp} {σ : St} (h : Dev w f σ) (B : Nat) (hB : ∀ k ∈ f.blocks, B ≤ k) (hBw : B ≤ w.heap.size) (A : Option Addr) (cp : Nat) (keep : List Bool) (hrow : Row w B A keep.length (keep.map Value.bool)) (hkm : keep.length ≤ maxLen) :
    Calls Try.prog 16 #[f.ptr, .slice A keep.length cp] w (Crashed w f σ keep) := by
  have hp : f.ptr = .pointer (some ⟨f.p, 0, none⟩) := rfl
  have hmm := @run_makeMap Try.prog
  have hge := h.lt
  have hne := h.ne
  have g0 := h.good
  have nle := g0.nle
  have HR := Lib.hid hrow
  have HB := Lib.hid hB
  unfold maxLen at hkm
  rw [hp]
  clear hp hrow hB
  go_enter Try.func16, Try.ntmps16
  go_wp2_with (first
    | (go_at_call 45; refine (made_dev h).mono ?_; rintro e w' ⟨rfl, rfl⟩)
    | (go_at_call 46; refine (dirty_dev h).mono ?_; rintro e w1 ⟨l, hk, v, rfl, hown, hb⟩; obtain ⟨Al, cl, rfl, -⟩ := Row.of_own hown))
  have hlen : l.length ≤ 33554432 := by
    have : l.Pairwise (· ≠ ·) := hk.rise.imp fun h => by omega
    have h2 := pigeon σ.n l this (fun x hx => few_of g0.hd x ((hk.mem x).1 hx))
    omega
  have h1 := h.below hb
  have HO := Lib.hid hown
  have HBL := Lib.hid hb
  have HK := Lib.hid hk
  have hbs := hb.size
  clear hown hb hk
  go_loopw [12] (fun i wr => CrashRel w1 f σ l keep i wr) (fun i _ => l.length - (intOf i).toNat)
  case atStart =>
    refine ⟨0, Nat.zero_le _, rfl, ?_, World.grownBy.refl w1 _⟩
    have e : evSt σ (keptL (l.take 0) keep) = σ.st := evSt_nil σ
    rw [e]
    exact h1
  case round =>
    obtain ⟨k, hk, rfl, hd, hg⟩ := hrel
    by_cases hlt : k < l.length
    · obtain ⟨y, hy⟩ : ∃ y, l[k]? = some y := ⟨_, List.getElem?_eq_getElem hlt⟩
      have hown' := HO.out.kept hg (.inr fun e => by have := own_base HO.out _ e; omega)
      obtain ⟨g, cap, e, hgb, hc1, hc2, hgl⟩ := own_open hown' (by omega)
      injection e with e1 e2 e3
      subst e1 e3
      have cy := (own_cell hown' (k := k) (u := .int .i64 y) (by rw [List.getElem?_map, hy]; rfl)).1
      obtain ⟨c, hc⟩ := Option.isSome_iff_exists.1 ((HK.out.mem y).1 (List.mem_of_getElem? hy))
      obtain ⟨y0, yn, yc⟩ := g0.hd y c hc
      obtain ⟨j, rfl⟩ := Int.eq_ofNat_of_zero_le y0
      have hj : j < σ.n := by omega
      have hw := wf_i (x := (j : Int)) (by omega) (by omega)
      have r0 := hd.reads.c0
      have r1 := hd.reads.c1
      have cw := hd.word j hj
      have zw := hd.2.1.free j
      have hlook : (Instr.lookup 71 (.map (some f.bh)) (.int .i64 (j : Int)) false).run Try.prog wr.drew = .ok (.int .u64 c) wr.drew := by
        have := Mp.look (t := 71) (w := wr.drew) (hd.drewN 1).2.2.1 keyedInt Try.underlying71 Try.underlying49 Try.underlying3 (zeroU _) (j : Int) hw
        rw [this]
        simp [hc]
      have hrk : Row wr B A keep.length (keep.map Value.bool) := HR.out.below ((HBL.out.mono hBw).trans ⟨hg.os, hg.tape, hg.output, hg.size, fun k hk => hg.block k (by omega) (fun e => by have h1 := HB.out f.bs (memS f); have h2 := Option.some.inj e; omega)⟩)
      have HY := Lib.hid hy
      have HC := Lib.hid hc
      have HD := Lib.hid hd
      have HG := Lib.hid hg
      clear hy hc hd hg hown'
      have HRK := Lib.hid hrk
      clear hrk
      by_cases hkl : k < keep.length
      · obtain ⟨b, off, x, rfl, hbB, hx, cx⟩ := HRK.out.get hkl
        have HX := Lib.hid hx
        clear hx
        cases x with
        | false =>
          go_wp2
          go_roundw
          case rel =>
            refine ⟨k + 1, by omega, by go_num, ?_, HG.out⟩
            rw [kept_step HY.out, HX.out, if_neg (by simp), List.append_nil]
            exact HD.out
          case measure => simp [intOf]; omega
        | true =>
          go_wp2
          refine wp_region_still_tail 12 (by kernel_rfl) (by kernel_rfl) ?_
          simp only [List.take_succ_cons, List.take_zero, List.drop_succ_cons, List.drop_zero]
          repeat still_step
          try refine wpStill_nil ?_
          go_wp2
          go_roundw
          case rel =>
            refine ⟨k + 1, by omega, by go_num, ?_, grown_set (grown_drew HG.out) _ _⟩
            have h2 := (HD.out.drewN 1).setW j hj c yc
            rw [kept_step HY.out, HX.out, if_pos rfl, ← evSt_snoc σ _ _ _ HC.out]
            exact h2
          case measure => simp [intOf]; omega
      · have hkl' : decide (k < keep.length) = false := by simpa using hkl
        go_wp2
        go_roundw
        case rel =>
          refine ⟨k + 1, by omega, by go_num, ?_, HG.out⟩
          rw [kept_step HY.out, List.getElem?_eq_none (by omega), if_neg (by simp), List.append_nil]
          exact HD.out
        case measure => simp [intOf]; omega
    · obtain rfl : k = l.length := by omega
      have hd := hd
      have dn := ((hd.newHN.setAr 0 (by omega)).setDead false)
      rw [List.take_of_length_le (Nat.le_refl _)] at dn
      have HDN := Lib.hid dn
      have HG := Lib.hid hg
      have r1 := ((hd.alloc (.map #[] 0)).alloc (.map #[] 0)).reads
      have cx1 := r1.c1
      have cx2 := r1.c2
      have cx4 := r1.c4
      have cx5 := r1.c5
      have cz := ((hd.alloc (.map #[] 0)).alloc (.map #[] 0)).1.free
      have z1 := cz 1
      have z2 := cz 2
      have z4 := cz 4
      have z5 := cz 5
      clear hd hg dn cz r1
      go_wp2
      go_end0
      refine ⟨rfl, l, HK.out, _, HDN.out, rfl, fun k hk => ?_, ?_⟩
      · have hs := HG.out.size
        simp [Fp.blocks] at hk ⊢
        omega
      · have t1 : Turn w wr f.blocks := (Turn.ofBelow HBL.out).trans (Turn.grown HG.out (memS f)) (fun x hx => .inl hx)
        have t2 := t1.trans (Turn.ofBelow (S := f.blocks) (((Below.refl wr.heap.size wr).alloc (Nat.le_refl _) (.map #[] 0)).alloc (by simp) (.map #[] 0))) (fun x hx => .inl hx)
        exact (((t2.trans (Turn.set _ (p := ⟨f.p, 1, none⟩) (memP f) _) (fun x hx => .inl hx)).trans (Turn.set _ (p := ⟨f.p, 2, none⟩) (memP f) _) (fun x hx => .inl hx)).trans (Turn.set _ (p := ⟨f.p, 4, none⟩) (memP f) _) (fun x hx => .inl hx)).trans (Turn.set _ (p := ⟨f.p, 5, none⟩) (memP f) _) (fun x hx => .inl hx)
end Go.Proofs.Ytnjikgcigobcdaa
