/- Acts in memory: rows of a number, a row of numbers, and a number. -/
import Derived.Test.YtbljbhgelcakdaaDoorHist
import Derived.Test.YtbljbhgelcakdaaDoorBitRow
namespace Go.Proofs.YtbljbhgelcakdaaDoor.Bit
open Go.RowKit Go.Proofs.YtbljbhgelcakdaaDoor.Dig Go.Proofs.YtbljbhgelcakdaaDoor.Mem Go.ChangeShapes Go.WideShapes Go.Deep
set_option linter.unusedVariables false
set_option linter.unusedSimpArgs false

structure ActM where
  d : Int
  l : List Int
  room : Int
instance : Inhabited ActM := ⟨⟨0, [], 0⟩⟩
def ActAt (F : Nat → Prop) (w : World) (c : List Value) (t : ActM) : Prop := ∃ v, c = [.int .i64 t.d, v, .int .i64 t.room] ∧ IntsAt F w v t.l ∧ (Lit.int .i64 t.d).wf = true ∧ (Lit.int .i64 t.room).wf = true
def ActsAt (F : Nat → Prop) (w : World) (v : Value) (ts : List ActM) : Prop := ∃ cs, RowAt F w 3 v cs ∧ AllAt (ActAt F w) cs ts
section
variable {F : Nat → Prop} {w w' : World}
theorem ActsAt.keep {v : Value} {ts : List ActM} (h : ActsAt F w v ts) (ho : Below w.heap.size w w') : ActsAt F w' v ts := by
  obtain ⟨cs, h1, h2⟩ := h
  exact ⟨cs, h1.keep ho, h2.mono fun _ _ ⟨v, g1, g2, g3⟩ => ⟨v, g1, g2.keep ho, g3⟩⟩
theorem ActsAt.lt {v : Value} {ts : List ActM} (h : ActsAt F w v ts) : ActsAt (fun b => F b ∧ b < w.heap.size) w v ts := by
  obtain ⟨cs, h1, h2⟩ := h
  exact ⟨cs, h1.lt (by omega), h2.mono fun _ _ ⟨v, g1, g2, g3⟩ => ⟨v, g1, g2.lt, g3⟩⟩
theorem ActsAt.shape {v : Value} {ts : List ActM} (h : ActsAt F w v ts) : ∃ a cap, v = .slice a ts.length cap ∧ ts.length ≤ cap ∧ cap ≤ maxLen := by
  obtain ⟨cs, h1, h2⟩ := h
  have := h1.shape
  rw [h2.1] at this
  exact this
/-- A row of numbers whose blocks are of F, as it is read. -/
theorem ints_row {a : Option Addr} {n c : Nat} {l : List Int} (h : IntsAt F w (.slice a n c) l) (hl : l.length ≤ 1000000000000) : RowI w a c l ∧ (0 < l.length → ∀ x, a = some x → F x.block) := by
  obtain ⟨a', c', e, h1, h2⟩ := h.rd hl
  injection e with e1 e2 e3
  subst e1 e3
  have h0 := h
  obtain ⟨⟨a2, c2, g1, g2, g3, g4, g5, g6⟩, hw⟩ := h
  injection g1 with f1 f2 f3
  subst f1 f3
  refine ⟨⟨h1, h2, g4⟩, fun hp x ex => ?_⟩
  obtain ⟨b, off, k1, k2, _⟩ := g6 0 [.int .i64 (l[0]'hp)] (by simp [List.getElem?_map, List.getElem?_eq_getElem hp])
  rw [k1] at ex
  cases ex
  exact k2
/-- Act i, cell by cell. -/
theorem ActsAt.at {a : Option Addr} {len cap : Nat} {ts : List ActM} (h : ActsAt F w (.slice a len cap) ts) {i : Nat} (hi : i < ts.length) :
    ∃ b off la lc, a = some ⟨b, off, none⟩ ∧ w.cell? ⟨b, off + i * 3, none⟩ = some (.int .i64 ts[i].d) ∧ w.cell? ⟨b, off + i * 3 + 1, none⟩ = some (.slice la ts[i].l.length lc) ∧ w.cell? ⟨b, off + i * 3 + 2, none⟩ = some (.int .i64 ts[i].room) ∧
      IntsAt F w (.slice la ts[i].l.length lc) ts[i].l ∧ ts[i].l.length ≤ maxLen ∧ (Lit.int .i64 ts[i].d).wf = true ∧ (Lit.int .i64 ts[i].room).wf = true := by
  obtain ⟨cs, hr, ha⟩ := h
  obtain ⟨hc, v, e, hl, hw1, hw2⟩ := ha.get hi
  obtain ⟨_, b, off, ea, hF, hcell⟩ := hr.at hc
  obtain ⟨la, lc, rfl, g1, g2⟩ := hl.1.shape
  rw [List.length_map] at hl e g1
  rw [e] at hcell
  exact ⟨b, off, la, lc, ea, hcell 0 _ rfl, hcell 1 _ rfl, hcell 2 _ rfl, hl, by omega, hw1, hw2⟩
end
section
variable {H : Type} {enc : TypeId × Value → H} {P : Program} {w : World} {held : Bool}
/-- An argument of acts. -/
theorem open_acts {tacts tact tints tint : TypeId} {f0 f1 f2 : Field} (ht : P.underlying tacts = some (.slice tact)) (hs : P.underlying tact = some (.struct #[f0, f1, f2])) (hc : P.cellsOf tact = 3)
    (g0 : f0.type = tint ∧ f0.offset = 0) (g1 : f1.type = tints ∧ f1.offset = 1) (g2 : f2.type = tint ∧ f2.offset = 2) (hints : P.underlying tints = some (.slice tint)) (hint : P.underlying tint = some (.int .i64)) (ci : P.cellsOf tint = 1) (cs' : P.cellsOf tints = 1)
    {fuel : Nat} {cs : List Value} {x : DataW H × List MemPlace} (h : DataW.trod enc P w 0 (fun _ => true) held fuel tacts cs = some x) : ∃ v ts, cs = [v] ∧ ActsAt (fun b => b < w.heap.size) w v ts := by
  obtain ⟨v, rows, rfl, hr, hcr⟩ := open_row ht hc (by omega) h
  obtain ⟨ts, hts⟩ := open_all (α := ActM) (R := ActAt (fun _ => True) w) rows (fun c hcm => by
    obtain ⟨m, y, hy⟩ := hcr c hcm
    obtain ⟨xs, n, _, _, hl, hxl, hf⟩ := DataW.trod_struct hs hy
    have k0 := hf 0 f0 rfl
    have k1 := hf 1 f1 rfl
    have k2 := hf 2 f2 rfl
    rw [hc] at hl
    rw [g0.1, g0.2, ci] at k0
    rw [g1.1, g1.2, cs'] at k1
    rw [g2.1, g2.2, ci] at k2
    match c, hl, xs, hxl with
    | [c0, c1, c2], _, [x0, x1, x2], _ =>
      obtain ⟨d, e0, _, w0⟩ := DataW.trod_int hint k0
      obtain ⟨vl, l, e1, hl⟩ := open_intsAt hints hint ci k1
      obtain ⟨r, e2, _, w2⟩ := DataW.trod_int hint k2
      simp at e0 e1 e2
      subst e0 e1 e2
      exact ⟨⟨d, l, r⟩, _, rfl, hl, w0, w2⟩)
  have h2 : ActsAt (fun _ => True) w v ts := ⟨rows, hr, hts⟩
  obtain ⟨cs, q1, q2⟩ := h2.lt
  exact ⟨v, ts, rfl, cs, q1.mono (fun b h => h.2), q2.mono fun _ _ ⟨v, g1, g2, g3⟩ => ⟨v, g1, g2.mono (fun b h => h.2), g3⟩⟩
end
end Go.Proofs.YtbljbhgelcakdaaDoor.Bit
