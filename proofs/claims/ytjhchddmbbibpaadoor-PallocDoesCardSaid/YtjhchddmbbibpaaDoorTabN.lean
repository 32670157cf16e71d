import Derived.Test.YtjhchddmbbibpaaDoorPaSml
import Derived.Test.YtjhchddmbbibpaaDoorLaw
import Derived.LaidMore
import Derived.OpenShut
import Derived.Stop.Joined
namespace Wd
open Go Go.RowKit Go.ChangeShapes Go.WideShapes Go.ChangeAt
set_option linter.unusedVariables false
variable {H : Type} {enc : TypeId × Value → H} {P : Program} {w : World} {base : Nat} {spare : Nat → Bool} {held : Bool}

/-- a table of numbers, as it is laid: each number's cell -/
theorem nums_of_trod {t e : TypeId} {k : IntKind} {n fuel : Nat} {cs : List Value} {x : DataW H × List MemPlace} {L : List Nat} (ht : P.underlying t = some (.array n e)) (he : P.underlying e = some (.int k)) (hce : P.cellsOf e = 1)
    (h : DataW.trod enc P w base spare held fuel t cs = some x) (hx : x.1 = .agg (L.map (fun (z : Nat) => DataW.lit (Lit.int k (z : Int))))) : ∀ (j z : Nat), L[j]? = some z → cs[j]? = some (Value.int k z) := by
  obtain ⟨xs, m, rfl, rfl, hlen, hn, hel⟩ := DataW.trod_array ht h
  intro j s hj
  have hx' : xs.map (·.1) = L.map (fun (z : Nat) => DataW.lit (Lit.int k (z : Int))) := by injection hx
  have hxl : xs.length = L.length := by have := congrArg List.length hx'; simpa using this
  have hjL : j < L.length := (List.getElem?_eq_some_iff.1 hj).1
  have hjn : j < n := by omega
  have h1 := hel j hjn
  rw [hce, Nat.mul_one] at h1
  have hjx : j < xs.length := by omega
  rw [List.getElem?_eq_getElem hjx] at h1
  have hy : (xs[j]).1 = DataW.lit (Lit.int k (s : Int)) := by
    have := congrArg (fun l => l[j]?) hx'
    simp only [List.getElem?_map, List.getElem?_eq_getElem hjx, hj, Option.map_some] at this
    exact Option.some.inj this
  cases hd : cs.drop j with
  | nil =>
    rw [hd] at h1
    obtain ⟨b, hb, _⟩ := DataW.trod_int he (show DataW.trod enc P w base spare held m e [] = some xs[j] from h1)
    cases hb
  | cons c r =>
    rw [hd] at h1
    obtain ⟨b, hb, hv, _⟩ := DataW.trod_int he (show DataW.trod enc P w base spare held m e [c] = some xs[j] from h1)
    obtain rfl := (List.cons.inj hb).1
    have e : b = (s : Int) := by
      rw [hv] at hy
      injection hy with hy
      injection hy with _ hy
    have := congrArg (fun l : List Value => l[0]?) hd
    rw [← e]
    simpa using this
end Wd
namespace Go.Proofs.YtjhchddmbbibpaaDoor
theorem tb_lt {w : World} (h : Tb w) : 0 < w.heap.size := World.block_lt_of_cell? w _ (h 0 (by decide))
end Go.Proofs.YtjhchddmbbibpaaDoor
