import Derived.Test.YtakgiommhpifiaaPmAw
import Derived.Test.YtakgiommhpifiaaStructs
namespace Go.Proofs.Ytakgiommhpifiaa
open Wd Pm Go.Maps Go.RowKit Go.ChangeShapes Go.WideShapes Go.ChangeAt Go.Deep
set_option linter.unusedVariables false

/-- something that is done, as the statement's argument holds it -/
structure Deed where
  kind : Int
  i : Int
  v : Int
  A : Option Addr
  cp : Nat
  keep : List Bool
instance : Inhabited Deed := ⟨⟨0, 0, 0, none, 0, []⟩⟩
def Deed.vals (d : Deed) : Array Value := #[.int .i64 d.kind, .int .i64 d.i, .int .u64 d.v, .slice d.A d.keep.length d.cp]
structure Deed.Ok (d : Deed) (w : World) (B : Nat) : Prop where
  kind : (Lit.int .i64 d.kind).wf = true
  i : (Lit.int .i64 d.i).wf = true
  v : U64 d.v
  row : Row w B d.A d.keep.length (d.keep.map Value.bool)
  le : d.keep.length ≤ maxLen
/-- deeds in a row -/
structure Deeds (w : World) (B : Nat) (A : Option Addr) (l : List Deed) : Prop where
  at_ : 0 < l.length → ∃ b off, A = some ⟨b, off, none⟩ ∧ b < B ∧ ∀ (j : Nat) (d : Deed), l[j]? = some d → ∀ (k : Nat) (x : Value), d.vals[k]? = some x → w.cell? ⟨b, off + (j * 4 + k), none⟩ = some x
  ok : ∀ d ∈ l, d.Ok w B
theorem Deed.Ok.below {d : Deed} {w w' : World} {B : Nat} (h : d.Ok w B) (hb : Below B w w') : d.Ok w' B := ⟨h.kind, h.i, h.v, h.row.below hb, h.le⟩
theorem Deeds.below {w w' : World} {B : Nat} {A : Option Addr} {l : List Deed} (h : Deeds w B A l) (hb : Below B w w') : Deeds w' B A l :=
  ⟨fun hn => by
    obtain ⟨b, off, e, hB, hx⟩ := h.at_ hn
    exact ⟨b, off, e, hB, fun j d hj k x hk => (hb.cell (p := ⟨b, _, none⟩) hB).trans (hx j d hj k x hk)⟩, fun d hd => (h.ok d hd).below hb⟩

theorem open_deeds {H : Type} {enc : TypeId × Value → H} {w : World} {base : Nat} {spare : Nat → Bool} {held : Bool} {r : Reach} {b0 : Nat} {v : Value} {d : DataW H} {p : List MemPlace}
    (hv : Value.okWide Try.prog w r b0 22 v) (h : DataW.Trod enc Try.prog w base spare held 22 v d p) :
    ∃ (A : Option Addr) (c : Nat) (l : List Deed), v = .slice A l.length c ∧ Deeds w w.heap.size A l ∧ l.length ≤ maxLen := by
  obtain ⟨A, len, cap, rfl, h1, h2, h3⟩ := open_structs Try.underlying22 Try.underlying32 (by kernel_rfl) (by kernel_rfl) (by decide) hv h
  by_cases hn : 0 < len
  · obtain ⟨b, off, rfl, hb, hx⟩ := h3 hn
    have each : ∀ i, i < len → ∃ d : Deed, (∀ (k : Nat) (x : Value), d.vals[k]? = some x → w.cell? ⟨b, off + (i * 4 + k), none⟩ = some x) ∧ d.Ok w w.heap.size := by
      intro i hi
      obtain ⟨n, hy⟩ := hx i hi
      obtain ⟨u0, y0, c0, t0⟩ := hy 0 _ rfl
      obtain ⟨u1, y1, c1, t1⟩ := hy 1 _ rfl
      obtain ⟨u2, y2, c2, t2⟩ := hy 2 _ rfl
      obtain ⟨u3, y3, c3, t3⟩ := hy 3 _ rfl
      obtain ⟨a0, z0, _, w0⟩ := DataW.trod_int Try.underlying3 t0
      obtain ⟨a1, z1, _, w1⟩ := DataW.trod_int Try.underlying3 t1
      obtain ⟨a2, z2, _, w2⟩ := DataW.trod_int Try.underlying29 t2
      obtain rfl := (List.cons.inj z0).1
      obtain rfl := (List.cons.inj z1).1
      obtain rfl := (List.cons.inj z2).1
      obtain ⟨A3, cp3, l3, rfl, r3, _, q1, q2⟩ := row_of_trod (f := Value.bool) (ok := fun _ => True) Try.underlying30 (by kernel_rfl) (fun n v x h => by obtain ⟨b, hb, _⟩ := DataW.trod_bool Try.underlying4 h; exact ⟨b, (List.cons.inj hb).1, trivial⟩) t3
      refine ⟨⟨a0, a1, a2, A3, cp3, l3⟩, ?_, ⟨w0, w1, w2, r3, Nat.le_trans q1 q2⟩⟩
      intro k x hk
      match k, hk with
      | 0, hk => cases hk; exact c0
      | 1, hk => cases hk; exact c1
      | 2, hk => cases hk; exact c2
      | 3, hk => cases hk; exact c3
      | k + 4, hk => simp [Deed.vals] at hk
    obtain ⟨Y, hY⟩ := choose_lt (n := len) (p := fun i (d : Deed) => (∀ (k : Nat) (x : Value), d.vals[k]? = some x → w.cell? ⟨b, off + (i * 4 + k), none⟩ = some x) ∧ d.Ok w w.heap.size) each
    refine ⟨_, cap, (List.range len).map Y, by simp, ⟨fun _ => ⟨b, off, rfl, hb, fun j d hj k x hk => ?_⟩, fun d hd => ?_⟩, by simp; exact Nat.le_trans h1 h2⟩
    · obtain ⟨hj1, hj2⟩ := List.getElem?_eq_some_iff.1 hj
      simp at hj1 hj2
      subst hj2
      exact (hY j hj1).1 k x hk
    · obtain ⟨i, hi, rfl⟩ := List.mem_map.1 hd
      exact (hY i (List.mem_range.1 hi)).2
  · obtain rfl : len = 0 := by omega
    exact ⟨A, cap, [], rfl, ⟨fun h => absurd h (by simp), fun d hd => by cases hd⟩, by simp⟩

/-! whether deeds are few -/
def fewB (l : List Deed) : Bool := l.all (fun d => decide (d.keep.length ≤ 60)) && decide (l.length ≤ 60)
def FewRel (w : World) (l : List Deed) (i : Value) (wr : World) : Prop := ∃ k : Nat, k ≤ l.length ∧ i = .int .i64 k ∧ (∀ d ∈ l.take k, d.keep.length ≤ 60) ∧ Below w.heap.size w wr
def RetB (w : World) (b : Bool) (e : Ending) (w' : World) : Prop := e = .returned (.bool b) ∧ Below w.heap.size w w'

set_option maxRecDepth 100000 in
theorem few_any {w : World} {A : Option Addr} {c : Nat} {l : List Deed} (h : Deeds w w.heap.size A l) (hm : l.length ≤ maxLen) : Calls Try.prog 5 #[.slice A l.length c] w (RetB w (fewB l)) := by
  unfold maxLen at hm
  go_enter Try.func5, Try.ntmps5
  go_wp2
  go_loopw [7] (fun i wr => FewRel w l i wr) (fun i _ => l.length - (intOf i).toNat)
  case atStart => exact ⟨0, Nat.zero_le _, rfl, by simp, Below.refl _ _⟩
  case round =>
    obtain ⟨k, hk, rfl, hall, hb⟩ := hrel
    by_cases hlt : k < l.length
    · obtain ⟨d, hd⟩ : ∃ d, l[k]? = some d := ⟨_, List.getElem?_eq_getElem hlt⟩
      have hD := h.below hb
      obtain ⟨b, off, rfl, hbB, hx⟩ := hD.at_ (by omega)
      have ok := hD.ok d (List.mem_of_getElem? hd)
      have x0 : wr.cell? ⟨b, off + k * 4, none⟩ = some (.int .i64 d.kind) := hx k d hd 0 _ rfl
      have x1 : wr.cell? ⟨b, off + k * 4 + 1, none⟩ = some (.int .i64 d.i) := hx k d hd 1 _ rfl
      have x2 : wr.cell? ⟨b, off + k * 4 + 2, none⟩ = some (.int .u64 d.v) := hx k d hd 2 _ rfl
      have x3 : wr.cell? ⟨b, off + k * 4 + 3, none⟩ = some (.slice d.A d.keep.length d.cp) := hx k d hd 3 _ rfl
      have hle := ok.le
      unfold maxLen at hle
      have HB := Lib.hid hb
      have HA := Lib.hid hall
      have HD := Lib.hid hd
      clear hx hD hb hall hd ok
      by_cases h60 : d.keep.length ≤ 60
      · have hq : decide (60 < d.keep.length) = false := by simp; omega
        have hq' : decide ((d.keep.length : Int) > 60) = false := by simp; omega
        have H60 := Lib.hid h60
        clear h60
        go_wp2
        go_roundw
        case rel =>
          refine ⟨k + 1, by omega, by go_num, ?_, ?_⟩
          · rw [take_snoc' HD.out]
            intro x hx
            rcases List.mem_append.1 hx with h | h
            · exact HA.out x h
            · simp at h; subst h; exact H60.out
          · exact HB.out.alloc HB.out.size _
        case measure => simp [intOf]; omega
      · have hq' : decide ((d.keep.length : Int) > 60) = true := by simp; omega
        have e : fewB l = false := by
          unfold fewB
          rw [Bool.and_eq_false_iff]
          left
          rw [List.all_eq_false]
          exact ⟨d, List.mem_of_getElem? HD.out, by simpa using h60⟩
        have HE := Lib.hid e
        clear h60 e
        go_wp2
        go_ret
        exact ⟨by rw [HE.out]; rfl, HB.out.alloc HB.out.size _⟩
    · obtain rfl : k = l.length := by omega
      have e : fewB l = decide (l.length ≤ 60) := by
        unfold fewB
        rw [List.all_eq_true.2 (fun d hd => by simpa using hall d (by rw [List.take_of_length_le (Nat.le_refl _)]; exact hd)), Bool.true_and]
      have HE := Lib.hid e
      have HB := Lib.hid hb
      clear hb hall e h
      by_cases h60 : l.length ≤ 60
      · have hq : decide ((l.length : Int) ≤ 60) = true := by simp; omega
        have hq' : decide (l.length ≤ 60) = true := by simp; omega
        have HQ := Lib.hid hq'
        clear hq'
        go_wp2
        go_ret
        exact ⟨by rw [HE.out, HQ.out]; rfl, HB.out⟩
      · have hq : decide ((l.length : Int) ≤ 60) = false := by simp; omega
        have hq' : decide (l.length ≤ 60) = false := by simp; omega
        have HQ := Lib.hid hq'
        clear hq'
        go_wp2
        go_ret
        exact ⟨by rw [HE.out, HQ.out]; rfl, HB.out⟩
end Go.Proofs.Ytakgiommhpifiaa
