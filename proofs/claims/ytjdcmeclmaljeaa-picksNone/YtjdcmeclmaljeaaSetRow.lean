/- Rows of one cell an element: what a block holds, behind the shelf's sort and compact; the encoding may be whatever. -/
import Derived.Test.YtjdcmeclmaljeaaSetPlain
import Derived.Test.YtjdcmeclmaljeaaApp
import Derived.Test.YtjdcmeclmaljeaaMem
import Derived.Sort.Grow
import Derived.Lib.SlicesCompact
import Derived.Laws.MakeOwn
namespace Go.Proofs.Ytjdcmeclmaljeaa.Sets
open Go.RowKit Go.Proofs.Ytjdcmeclmaljeaa.Dig Go.Proofs.Ytjdcmeclmaljeaa.Mem Go.Sort
set_option linter.unusedVariables false
set_option linter.unusedSimpArgs false

section
variable {α : Type} [Inhabited α] {enc : α → Value}
theorem is_putRow {w : World} {b q : Nat} {cs : Array Value} {d : Array α} (h : Is w b cs) (hs : cs.size = d.size) : Is (putRow enc (Sort.ahead w q) b 0 d) b (d.map enc) := by
  obtain ⟨T, h⟩ := h
  refine ⟨T, ?_⟩
  have e : putCells enc 0 d cs = d.map enc := by
    apply Array.ext
    · simp [putCells, hs]
    · intro i h1 h2
      have hi : i < d.size := by simpa using h2
      simp [putCells, hi, getElem!_pos]
  simp [putRow, mapBlock, Sort.ahead, Array.getElem?_modify, h, onCells, e]
theorem only_putRow {S : Nat → Prop} {w : World} {b q : Nat} {d : Array α} (hb : S b) : Only S w (putRow enc (Sort.ahead w q) b 0 d) :=
  ⟨rfl, rfl, rfl, by simp [putRow, mapBlock, Sort.ahead], fun k _ hk => by
    simp [putRow, mapBlock, Sort.ahead, Array.getElem?_modify, show b ≠ k from fun e => hk (e ▸ hb)]⟩
theorem is_grow {w : World} {b : Nat} {cs : Array Value} {os : Array Obj} (h : Is w b cs) : Is (grow w os) b cs := by
  have hl := h.lt
  obtain ⟨T, h⟩ := h
  exact ⟨T, by rw [heap_grow_old w os hl]; exact h⟩
theorem only_grow {S : Nat → Prop} {w : World} {os : Array Obj} : Only S w (grow w os) :=
  ⟨rfl, rfl, rfl, by simp, fun k hk _ => heap_grow_old w os hk⟩
theorem holds_is {w : World} {b : Nat} {d : Array α} (h : Is w b (d.map enc)) : Holds enc w b 0 d := fun j hj => by
  refine ⟨h.cell _ ?_, h.frozen _⟩
  simp [hj, getElem!_pos]
end
section
variable {α : Type} {enc : α → Value}
/-- The first k of a row laid, zero values behind. -/
def fillZ (enc : α → Value) (z : Value) (l : List α) (n k : Nat) : Array Value := ((l.take k).map enc ++ List.replicate (n - k) z).toArray
theorem fillZ_size {z : Value} {l : List α} {n k : Nat} (hl : l.length = n) (hk : k ≤ n) : (fillZ enc z l n k).size = n := by simp [fillZ]; omega
theorem fillZ_zero {z : Value} {l : List α} {n : Nat} : fillZ enc z l n 0 = (List.replicate n z).toArray := by simp [fillZ]
theorem fillZ_all {z : Value} {l : List α} {n : Nat} (hl : l.length = n) : fillZ enc z l n n = l.toArray.map enc := by subst hl; simp [fillZ]
theorem fillZ_set {z : Value} {l : List α} {n k : Nat} {x : α} (hl : l.length = n) (hk : k < n) (hx : l[k]? = some x) : (fillZ enc z l n k).setIfInBounds k (enc x) = fillZ enc z l n (k + 1) := by
  unfold fillZ
  obtain ⟨r, hr⟩ : ∃ r, n - k = r + 1 := ⟨n - k - 1, by omega⟩
  have e : n - (k + 1) = r := by omega
  have e2 : ((l.take k).map enc).length = k := by simp; omega
  rw [hr, e, List.setIfInBounds_toArray, List.set_append_right _ _ (by omega), e2, Nat.sub_self, List.replicate_succ (n := r), List.set_cons_zero, List.take_add_one, hx]
  simp
theorem fillZ_get {z : Value} {l : List α} {n k : Nat} (hl : l.length = n) (hk : k < n) : (fillZ enc z l n k)[k]? = some z := by
  unfold fillZ
  have e2 : ((l.take k).map enc).length = k := by simp; omega
  rw [List.getElem?_toArray, List.getElem?_append_right (by omega), e2, Nat.sub_self, List.getElem?_replicate, if_pos (by omega)]
end
theorem compactUpTo_le {α : Type} [Inhabited α] [DecidableEq α] (d : Array α) (m : Nat) : (Lib.compactUpTo d m).length ≤ m := by
  unfold Lib.compactUpTo
  rw [List.length_map]
  exact Nat.le_trans (List.length_filter_le _ _) (by simp)
theorem compact_le {α : Type} [Inhabited α] [DecidableEq α] (zs : List α) : (Lib.compact zs).length ≤ zs.length := compactUpTo_le _ _
theorem madeCells_one (z : Value) (hz : z.cells = #[z]) (n : Nat) : madeCells z.cells n = (List.replicate n z).toArray := by
  rw [hz]
  apply Array.ext
  · simp [madeCells]
  · intro i h1 h2
    simp [madeCells, Nat.mod_one]
end Go.Proofs.Ytjdcmeclmaljeaa.Sets
