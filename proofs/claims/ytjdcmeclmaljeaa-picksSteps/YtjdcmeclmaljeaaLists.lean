/- Rows of rows of numbers in memory, and as an argument. -/
import Derived.Test.YtjdcmeclmaljeaaHist
import Derived.Test.YtjdcmeclmaljeaaDqRow
namespace Go.Proofs.Ytjdcmeclmaljeaa.Mem
open Go.RowKit Go.Proofs.Ytjdcmeclmaljeaa.Dig Go.ChangeShapes Go.WideShapes Go.Deep Go.Proofs.Ytjdcmeclmaljeaa.Dq
set_option linter.unusedVariables false
set_option linter.unusedSimpArgs false

def ListAt (F : Nat → Prop) (w : World) (c : List Value) (l : List Int) : Prop := ∃ v, c = [v] ∧ IntsAt F w v l
def ListsAt (F : Nat → Prop) (w : World) (v : Value) (ls : List (List Int)) : Prop := ∃ cs, RowAt F w 1 v cs ∧ AllAt (ListAt F w) cs ls
section
variable {F : Nat → Prop} {w w' : World}
theorem ListsAt.keep {v : Value} {ls : List (List Int)} (h : ListsAt F w v ls) (ho : Below w.heap.size w w') : ListsAt F w' v ls := by
  obtain ⟨cs, h1, h2⟩ := h
  exact ⟨cs, h1.keep ho, h2.mono fun _ _ ⟨v, g1, g2⟩ => ⟨v, g1, g2.keep ho⟩⟩
theorem ListsAt.lt {v : Value} {ls : List (List Int)} (h : ListsAt F w v ls) : ListsAt (fun b => F b ∧ b < w.heap.size) w v ls := by
  obtain ⟨cs, h1, h2⟩ := h
  exact ⟨cs, h1.lt (by omega), h2.mono fun _ _ ⟨v, g1, g2⟩ => ⟨v, g1, g2.lt⟩⟩
theorem ListsAt.shape {v : Value} {ls : List (List Int)} (h : ListsAt F w v ls) : ∃ a cap, v = .slice a ls.length cap ∧ ls.length ≤ cap ∧ cap ≤ maxLen := by
  obtain ⟨cs, h1, h2⟩ := h
  have := h1.shape
  rw [h2.1] at this
  exact this
/-- A row of numbers whose blocks are of F, as it is read. -/
theorem IntsAt.row {a : Option Addr} {n c : Nat} {l : List Int} (h : IntsAt F w (.slice a n c) l) (hl : l.length ≤ 1000000000000) : RowI w a c l := by
  obtain ⟨a', c', e, h1, h2⟩ := h.rd hl
  injection e with e1 e2 e3
  subst e1 e3
  obtain ⟨⟨a2, c2, g1, g2, g3, g4, g5, g6⟩, hw⟩ := h
  injection g1 with f1 f2 f3
  subst f1 f3
  exact ⟨h1, h2, g4⟩
/-- Row i. -/
theorem ListsAt.at {a : Option Addr} {len cap : Nat} {ls : List (List Int)} (h : ListsAt F w (.slice a len cap) ls) {i : Nat} (hi : i < ls.length) :
    ∃ b off la lc, a = some ⟨b, off, none⟩ ∧ w.cell? ⟨b, off + i, none⟩ = some (.slice la (ls.getD i []).length lc) ∧ IntsAt F w (.slice la (ls.getD i []).length lc) (ls.getD i []) ∧ (ls.getD i []).length ≤ maxLen := by
  obtain ⟨cs, hr, ha⟩ := h
  obtain ⟨hc, v, e, hl⟩ := ha.get hi
  obtain ⟨_, b, off, ea, hF, hcell⟩ := hr.at hc
  obtain ⟨la, lc, rfl, g1, g2⟩ := hl.1.shape
  have hg : ls.getD i [] = ls[i] := by rw [List.getD_eq_getElem?_getD, List.getElem?_eq_getElem hi]; rfl
  rw [List.length_map] at hl e g1
  rw [e] at hcell
  rw [hg]
  have := hcell 0 _ rfl
  rw [Nat.mul_one, Nat.add_zero] at this
  exact ⟨b, off, la, lc, ea, this, hl, by omega⟩
end
section
variable {H : Type} {enc : TypeId × Value → H} {P : Program} {w : World} {held : Bool}
/-- An argument of rows of numbers. -/
theorem open_lists {tls tints tint : TypeId} (ht : P.underlying tls = some (.slice tints)) (hints : P.underlying tints = some (.slice tint)) (hint : P.underlying tint = some (.int .i64)) (ci : P.cellsOf tint = 1) (cs' : P.cellsOf tints = 1)
    {fuel : Nat} {cs : List Value} {x : DataW H × List MemPlace} (h : DataW.trod enc P w 0 (fun _ => true) held fuel tls cs = some x) : ∃ v ls, cs = [v] ∧ ListsAt (fun b => b < w.heap.size) w v ls := by
  obtain ⟨v, rows, rfl, hr, hcr⟩ := open_row ht cs' (by omega) h
  obtain ⟨ls, hls⟩ := open_all (α := List Int) (R := ListAt (fun _ => True) w) rows (fun c hcm => by
    obtain ⟨m, y, hy⟩ := hcr c hcm
    obtain ⟨vl, l, e1, hl⟩ := open_intsAt hints hint ci hy
    subst e1
    exact ⟨l, _, rfl, hl⟩)
  have h2 : ListsAt (fun _ => True) w v ls := ⟨rows, hr, hls⟩
  refine ⟨v, ls, rfl, ?_⟩
  obtain ⟨cs, g1, g2⟩ := h2.lt
  exact ⟨cs, g1.mono (fun b q => q.2), g2.mono fun _ _ ⟨v, k1, k2⟩ => ⟨v, k1, k2.mono (fun b q => q.2)⟩⟩
end
end Go.Proofs.Ytjdcmeclmaljeaa.Mem
