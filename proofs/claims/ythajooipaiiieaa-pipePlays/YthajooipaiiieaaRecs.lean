/- A slice of structs of numbers that came in: nil, or a row of so many cells an element, each a number of its field's kind. -/
import Derived.Test.YthajooipaiiieaaFrame
import Derived.Test.YthajooipaiiieaaDigList
import Derived.Deep.Slices
namespace Go.Proofs.Ythajooipaiiieaa.Frame
open Go.ChangeShapes Go.WideShapes Go.ChangeAt Go.RowKit Go.Deep
set_option linter.unusedVariables false
set_option linter.unusedSimpArgs false

/-- Type e is a struct of numbers of these kinds. -/
def recB (P : Program) (e : TypeId) (ks : List IntKind) : Bool :=
  match P.underlying e with
  | some (.struct (fs : Array Field)) => (P.cellsOf e == ks.length) && (List.range ks.length).all fun j => match (fs[j]? : Option Field), (ks[j]? : Option IntKind) with
    | some f, some k => f.offset == j && P.cellsOf f.type == 1 && (match P.underlying f.type with
      | some (.int k') => decide (k' = k)
      | _ => false)
    | _, _ => false
  | _ => false
theorem recB_out {P : Program} {e : TypeId} {ks : List IntKind} (h : recB P e ks = true) :
    ∃ fs : Array Field, P.underlying e = some (.struct fs) ∧ P.cellsOf e = ks.length ∧ ∀ j k, ks[j]? = some k → ∃ f : Field, fs[j]? = some f ∧ f.offset = j ∧ P.cellsOf f.type = 1 ∧ P.underlying f.type = some (.int k) := by
  unfold recB at h
  split at h
  · rename_i fs hu
    rw [Bool.and_eq_true, List.all_eq_true] at h
    refine ⟨fs, hu, by simpa using h.1, fun j k hk => ?_⟩
    have hj : j < ks.length := by
      rcases Nat.lt_or_ge j ks.length with q | q
      · exact q
      · rw [List.getElem?_eq_none q] at hk; cases hk
    have g := h.2 j (List.mem_range.2 hj)
    rw [hk] at g
    split at g
    · rename_i f k2 h1 h2
      obtain rfl := Option.some.inj h2
      rw [Bool.and_eq_true, Bool.and_eq_true] at g
      obtain ⟨⟨g1, g2⟩, g3⟩ := g
      split at g3
      · rename_i k' hk'
        have := of_decide_eq_true g3
        subst this
        exact ⟨f, h1, by simpa using g1, by simpa using g2, hk'⟩
      · cases g3
    · cases g
  · cases h

def IsRec (ks : List IntKind) (w : World) (a : Option Addr) (len cap : Nat) (Y : Nat → Nat → Int) : Prop :=
  (a = none ∧ len = 0 ∧ cap = 0) ∨
  ∃ x, a = some x ∧ len ≤ cap ∧ cap ≤ maxLen ∧ ∀ i, i < cap → ∀ j k, ks[j]? = some k → w.cell? (x.add (i * ks.length + j)) = some (.int k (Y i j)) ∧ (Lit.int k (Y i j)).wf = true
theorem IsRec.cap {ks : List IntKind} {w : World} {a : Option Addr} {len cap : Nat} {Y : Nat → Nat → Int} (h : IsRec ks w a len cap Y) : len ≤ cap ∧ cap ≤ 9223372036854775807 := by
  rcases h with ⟨_, h1, h2⟩ | ⟨x, _, h1, h2, _⟩
  · omega
  · unfold maxLen at h2; omega
theorem open_recs {H : Type} {enc : TypeId × Value → H} {P : Program} {w : World} {held : Bool} {t e : TypeId} {ks : List IntKind} {fuel : Nat} {cs : List Value} {x : DataW H × List MemPlace} (ht : P.underlying t = some (.slice e)) (hr : recB P e ks = true)
    (h : DataW.trod enc P w 0 (fun _ => true) held fuel t cs = some x) : ∃ a len cap Y, cs = [.slice a len cap] ∧ IsRec ks w a len cap Y := by
  obtain ⟨fs, he, ce, hfs⟩ := recB_out hr
  rcases open_slice ht h with ⟨h0, _⟩ | ⟨a, len, cap, m, n, D, Pl, rfl, hb, hl, hm, hmm, rfl, hx⟩
  · exact ⟨none, 0, 0, fun _ _ => 0, h0, .inl ⟨rfl, rfl, rfl⟩⟩
  · simp only [if_true] at hmm
    subst hmm
    have each : ∀ i, i < m → ∃ y : Nat → Int, ∀ j k, ks[j]? = some k → w.cell? (a.add (i * ks.length + j)) = some (.int k (y j)) ∧ (Lit.int k (y j)).wf = true := by
      intro i hi
      obtain ⟨cs', h1, h2⟩ := hx i hi
      rw [ce] at h1
      obtain ⟨_, hlen, hcell⟩ := World.cells?_some h1
      obtain ⟨xs, n', hk, hxy, _, hxl, hf⟩ := DataW.trod_struct he h2
      have one : ∀ j, j < ks.length → ∃ v : Int, ∀ k, ks[j]? = some k → w.cell? (a.add (i * ks.length + j)) = some (.int k v) ∧ (Lit.int k v).wf = true := by
        intro j hj
        obtain ⟨f, f1, f2, f3, f4⟩ := hfs j ks[j] (List.getElem?_eq_getElem hj)
        have g := hf j f f1
        rw [f2, f3] at g
        have hjs : j < xs.length := by
          rw [hxl]
          rcases Nat.lt_or_ge j fs.size with q | q
          · exact q
          · rw [Array.getElem?_eq_none q] at f1; cases f1
        rw [List.getElem?_eq_getElem hjs] at g
        obtain ⟨v, e1, _, e3⟩ := DataW.trod_int f4 g
        have hc := hcell j (by omega)
        rw [add_add] at hc
        have hv : cs'[j]? = some (Value.int ks[j] v) := by
          have : ((cs'.drop j).take 1)[0]? = some (Value.int ks[j] v) := by rw [e1]; rfl
          simpa using this
        refine ⟨v, fun k hk => ?_⟩
        rw [List.getElem?_eq_getElem hj] at hk
        obtain rfl := Option.some.inj hk
        refine ⟨?_, e3⟩
        rw [← hv]
        exact hc
      obtain ⟨y, hy⟩ := choose_lt (α := Int) one
      refine ⟨y, fun j k hk => hy j ?_ k hk⟩
      rcases Nat.lt_or_ge j ks.length with q | q
      · exact q
      · rw [List.getElem?_eq_none q] at hk; cases hk
    obtain ⟨Y, hY⟩ := choose_lt (α := Nat → Int) each
    exact ⟨some a, len, m, Y, rfl, .inr ⟨a, rfl, hl, hm, hY⟩⟩
/-- How a walk reads it: element i's field j. -/
def RdRec (ks : List IntKind) (w : World) (a : Option Addr) (len : Nat) (Y : Nat → Nat → Int) : Prop :=
  ∀ i, i < len → ∃ b off, a = some ⟨b, off, none⟩ ∧ ∀ j k, ks[j]? = some k → w.cell? ⟨b, off + (i * ks.length + j), none⟩ = some (.int k (Y i j)) ∧ (Lit.int k (Y i j)).wf = true
theorem IsRec.rd {ks : List IntKind} {w : World} {a : Option Addr} {len cap : Nat} {Y : Nat → Nat → Int} (h : IsRec ks w a len cap Y) (hk : 0 < ks.length) : RdRec ks w a len Y := by
  intro i hi
  rcases h with ⟨_, h1, _⟩ | ⟨x, rfl, h1, h2, h3⟩
  · omega
  · obtain ⟨b, off, spot⟩ := x
    have h00 := (h3 0 (by omega) 0 ks[0] (List.getElem?_eq_getElem hk)).1
    have hs : spot = none := by simpa [Addr.add] using World.cell?_spot h00
    subst hs
    refine ⟨b, off, rfl, fun j k hj => ?_⟩
    have := h3 i (by omega) j k hj
    rw [show (⟨b, off, none⟩ : Addr).add (i * ks.length + j) = ⟨b, off + (i * ks.length + j), none⟩ by unfold Addr.add; split <;> simp_all] at this
    exact this
theorem RdRec.below {ks : List IntKind} {B : Nat} {w w' : World} {a : Option Addr} {len : Nat} {Y : Nat → Nat → Int} (h : RdRec ks w a len Y) (ho : Below B w w') (hs : ∀ x, a = some x → x.block < B) : RdRec ks w' a len Y := by
  intro i hi
  obtain ⟨b, off, e, hc⟩ := h i hi
  refine ⟨b, off, e, fun j k hk => ?_⟩
  rw [ho.cell (by exact hs ⟨b, off, none⟩ e)]
  exact hc j k hk
theorem RdRec.keep {ks : List IntKind} {w w' : World} {a : Option Addr} {len : Nat} {Y : Nat → Nat → Int} (h : RdRec ks w a len Y) (hk : 0 < ks.length) (ho : Below w.heap.size w w') : RdRec ks w' a len Y := by
  intro i hi
  obtain ⟨b, off, e, hc⟩ := h i hi
  have hlt := Dig.lt_of_cell (hc 0 ks[0] (List.getElem?_eq_getElem hk)).1
  refine ⟨b, off, e, fun j k hj => ?_⟩
  rw [ho.cell (by exact hlt)]
  exact hc j k hj
/-- .. of four fields, cell by cell. -/
theorem RdRec.four {k0 k1 k2 k3 : IntKind} {w : World} {a : Option Addr} {len : Nat} {Y : Nat → Nat → Int} (h : RdRec [k0, k1, k2, k3] w a len Y) {i : Nat} (hi : i < len) :
    ∃ b off, a = some ⟨b, off, none⟩ ∧ b < w.heap.size ∧ w.cell? ⟨b, off + i * 4, none⟩ = some (.int k0 (Y i 0)) ∧ w.cell? ⟨b, off + i * 4 + 1, none⟩ = some (.int k1 (Y i 1)) ∧
      w.cell? ⟨b, off + i * 4 + 2, none⟩ = some (.int k2 (Y i 2)) ∧ w.cell? ⟨b, off + i * 4 + 3, none⟩ = some (.int k3 (Y i 3)) ∧
      ((Lit.int k0 (Y i 0)).wf = true ∧ (Lit.int k1 (Y i 1)).wf = true ∧ (Lit.int k2 (Y i 2)).wf = true ∧ (Lit.int k3 (Y i 3)).wf = true) := by
  obtain ⟨b, off, e, hc⟩ := h i hi
  exact ⟨b, off, e, Dig.lt_of_cell (hc 0 k0 rfl).1, (hc 0 k0 rfl).1, (hc 1 k1 rfl).1, (hc 2 k2 rfl).1, (hc 3 k3 rfl).1, (hc 0 k0 rfl).2, (hc 1 k1 rfl).2, (hc 2 k2 rfl).2, (hc 3 k3 rfl).2⟩
/-- .. in whatever world behind. -/
theorem RdRec.four' {k0 k1 k2 k3 : IntKind} {w : World} {a : Option Addr} {len : Nat} {Y : Nat → Nat → Int} (h : RdRec [k0, k1, k2, k3] w a len Y) {i : Nat} (hi : i < len) :
    ∃ b off, a = some ⟨b, off, none⟩ ∧ b < w.heap.size ∧ (∀ w', Below w.heap.size w w' → w'.cell? ⟨b, off + i * 4, none⟩ = some (.int k0 (Y i 0)) ∧ w'.cell? ⟨b, off + i * 4 + 1, none⟩ = some (.int k1 (Y i 1)) ∧
      w'.cell? ⟨b, off + i * 4 + 2, none⟩ = some (.int k2 (Y i 2)) ∧ w'.cell? ⟨b, off + i * 4 + 3, none⟩ = some (.int k3 (Y i 3))) ∧
      ((Lit.int k0 (Y i 0)).wf = true ∧ (Lit.int k1 (Y i 1)).wf = true ∧ (Lit.int k2 (Y i 2)).wf = true ∧ (Lit.int k3 (Y i 3)).wf = true) := by
  obtain ⟨b, off, e, hb, c0, c1, c2, c3, hw⟩ := h.four hi
  exact ⟨b, off, e, hb, fun w' ho => ⟨(ho.cell hb).trans c0, (ho.cell hb).trans c1, (ho.cell hb).trans c2, (ho.cell hb).trans c3⟩, hw⟩
end Go.Proofs.Ythajooipaiiieaa.Frame
