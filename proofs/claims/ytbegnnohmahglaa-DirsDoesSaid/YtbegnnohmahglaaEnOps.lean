import Derived.Test.YtbegnnohmahglaaEnOwn
import Derived.Laws.AppendOwn
import Derived.Laws.IdiomCopy
namespace Go.Proofs.Ytbegnnohmahglaa
open Wd Ino Go.RowKit Go.ChangeShapes Go.WideShapes Go.ChangeAt Go.Deep Go.Sort
set_option linter.unusedVariables false
set_option maxRecDepth 100000

/-! copy and clear, of rows of names -/
def zE : Value := .agg #[.string ByteArray.empty, .int .i64 0]
theorem zE_size (n : Nat) : (Builtin.zeroCells zE.cells n).size = n * 2 := by rw [size_zeroCells]; rfl
theorem zE_one (n : Nat) : ∀ u ∈ (Builtin.zeroCells zE.cells n).toList, u.oneCell' = true := by
  intro u hu
  unfold Builtin.zeroCells at hu
  rw [Array.toList_map] at hu
  obtain ⟨i, _, rfl⟩ := List.mem_map.1 hu
  have h2 : zE.cells = #[.string ByteArray.empty, .int .i64 0] := rfl
  rw [h2]
  have h3 : i % (#[Value.string ByteArray.empty, Value.int .i64 0] : Array Value).size = 0 ∨ i % (#[Value.string ByteArray.empty, Value.int .i64 0] : Array Value).size = 1 := by
    show i % 2 = 0 ∨ i % 2 = 1
    omega
  rcases h3 with h3 | h3 <;> rw [h3] <;> rfl
theorem evals_one (l : List Ent) : ∀ u ∈ evals l, u.oneCell' = true := by
  intro u hu
  obtain ⟨e, _, he⟩ := List.mem_flatMap.1 hu
  exact one2 e u he
/-- copy: es lie at a, and go to place o of block g -/
theorem copy_ents (w : World) (ty : TypeId) (g o dLen dCap : Nat) (a : Addr) (sLen sCap : Nat) (cur : Array Value) (t : TypeId) (es : List Ent) (hg : Cells w g t cur) (hn : es.length = Nat.min sLen dLen)
    (hsrc : ∀ (j : Nat) v, (evals es)[j]? = some v → w.cell? (a.add j) = some v) (hfit : o + es.length * 2 ≤ cur.size) :
    (Builtin.copy_ #[22, 22] ty #[.slice (some ⟨g, o, none⟩) dLen dCap, .slice (some a) sLen sCap]).run Try.prog w =
      .ok (goInt es.length) (w.setRow g (cur.toList.take o ++ evals es ++ cur.toList.drop (o + es.length * 2)).toArray) := by
  obtain ⟨i, i1, i2, i3, i4⟩ := info_parts infoE
  have hl := run_loadCells_list (P := Try.prog) w a (evals es) hsrc
  have hst := run_storeCells_at Try.prog g o t (evals es) 0 cur w hg (by rw [evals_len]; simpa using hfit) (evals_one es)
  rw [evals_len, Nat.add_zero] at hst
  rw [evals_len] at hl
  simp [Builtin.copy_, run_underlying Try.underlying22, Builtin.lenOf, Builtin.firstCells, Go.sizeOf, typeInfo, i1, i3, ← hn, hl, hst]
theorem clear_ents (w : World) (ty : TypeId) (g o n c : Nat) (cur : Array Value) (t : TypeId) (hg : Cells w g t cur) (h0 : 0 < n) (hfit : o + n * 2 ≤ cur.size) :
    (Builtin.clear_ #[22] ty #[.slice (some ⟨g, o, none⟩) n c]).run Try.prog w =
      .ok (.tuple #[]) (w.setRow g (cur.toList.take o ++ (Builtin.zeroCells zE.cells n).toList ++ cur.toList.drop (o + n * 2)).toArray) := by
  obtain ⟨i, i1, i2, i3, i4⟩ := info_parts infoE
  have hst := run_storeCells_at Try.prog g o t (Builtin.zeroCells zE.cells n).toList 0 cur w hg (by rw [Array.length_toList, zE_size]; simpa using hfit) (zE_one n)
  rw [Array.length_toList, zE_size, Nat.add_zero] at hst
  have hz : (zeroValue 32).run Try.prog w = .ok zE w := by
    simp [zeroValue, typeInfo, i1, i2]
    rfl
  obtain ⟨m, rfl⟩ : ∃ m, n = m + 1 := ⟨n - 1, by omega⟩
  simp [Builtin.clear_, run_underlying Try.underlying22, hz, hst]
theorem below_setRow {w : World} {base g : Nat} {cs : Array Value} (hg : base ≤ g) : Below base w (w.setRow g cs) :=
  ⟨rfl, rfl, rfl, by simp, fun k hk => setRow_other w g k cs (by omega)⟩
theorem cells_setRow {w : World} {g : Nat} {t : TypeId} {cur cs : Array Value} (h : Cells w g t cur) : Cells (w.setRow g cs) g t cs := setRow_heap w g cur cs t (0, 0) h
end Go.Proofs.Ytbegnnohmahglaa
