import Derived.Test.YtanjikflljdjcaaDoorLaw
import Derived.LaidMore
import Derived.OpenShut
import Derived.Stop.Joined
namespace Wd
open Go Go.RowKit Go.ChangeShapes Go.WideShapes Go.ChangeAt
set_option linter.unusedVariables false
variable {H : Type} {enc : TypeId × Value → H} {P : Program} {w : World} {base : Nat} {spare : Nat → Bool} {held : Bool}

/-- a table of texts, as it is laid: each text's cell -/
theorem strs_of_trod {t e : TypeId} {n fuel : Nat} {cs : List Value} {x : DataW H × List MemPlace} {L : List (List UInt8)} (ht : P.underlying t = some (.array n e)) (he : P.underlying e = some .string) (hce : P.cellsOf e = 1)
    (h : DataW.trod enc P w base spare held fuel t cs = some x) (hx : x.1 = .agg (L.map (fun s => DataW.lit (Lit.string s)))) : ∀ (j : Nat) (s : List UInt8), L[j]? = some s → ∃ b : ByteArray, b.data.toList = s ∧ cs[j]? = some (Value.string b) := by
  obtain ⟨xs, m, rfl, rfl, hlen, hn, hel⟩ := DataW.trod_array ht h
  intro j s hj
  have hx' : xs.map (·.1) = L.map (fun s => DataW.lit (Lit.string s)) := by injection hx
  have hxl : xs.length = L.length := by have := congrArg List.length hx'; simpa using this
  have hjL : j < L.length := (List.getElem?_eq_some_iff.1 hj).1
  have hjn : j < n := by omega
  have h1 := hel j hjn
  rw [hce, Nat.mul_one] at h1
  have hjx : j < xs.length := by omega
  rw [List.getElem?_eq_getElem hjx] at h1
  have hy : (xs[j]).1 = DataW.lit (Lit.string s) := by
    have := congrArg (fun l => l[j]?) hx'
    simp only [List.getElem?_map, List.getElem?_eq_getElem hjx, hj, Option.map_some] at this
    exact Option.some.inj this
  cases hd : cs.drop j with
  | nil =>
    rw [hd] at h1
    obtain ⟨b, hb, _⟩ := DataW.trod_string he (show DataW.trod enc P w base spare held m e [] = some xs[j] from h1)
    cases hb
  | cons c r =>
    rw [hd] at h1
    obtain ⟨b, hb, hv, _⟩ := DataW.trod_string he (show DataW.trod enc P w base spare held m e [c] = some xs[j] from h1)
    obtain rfl := (List.cons.inj hb).1
    refine ⟨b, ?_, ?_⟩
    · rw [hv] at hy
      injection hy with hy
      injection hy with hy
    · have := congrArg (fun l : List Value => l[0]?) hd
      simpa using this
end Wd
