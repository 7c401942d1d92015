/- Objects that live in a block of their own: what a block holds, and what a call leaves as it was. -/
import Derived.Test.YtjdcmeclmaljeaaDigList
import Derived.Deep.Draws
import Derived.Laws.NewBlocks
namespace Go.Proofs.Ytjdcmeclmaljeaa.Mem
open Go.RowKit Go.Proofs.Ytjdcmeclmaljeaa.Dig
set_option linter.unusedVariables false
set_option linter.unusedSimpArgs false

theorem hide {p : Prop} (h : p) : Hid p := h
/-- Block b holds just these cells, none of them frozen. -/
def Is (w : World) (b : Nat) (cs : Array Value) : Prop := ∃ T, w.heap[b]? = some (.cells cs T)

theorem Is.lt {w : World} {b : Nat} {cs : Array Value} (h : Is w b cs) : b < w.heap.size := by
  obtain ⟨T, h⟩ := h
  rcases Nat.lt_or_ge b w.heap.size with q | q
  · exact q
  · rw [Array.getElem?_eq_none q] at h; cases h
theorem Is.cell {w : World} {b : Nat} {cs : Array Value} (h : Is w b cs) (i : Nat) {v : Value} (hv : cs[i]? = some v) : w.cell? ⟨b, i, none⟩ = some v := by
  obtain ⟨T, h⟩ := h
  simp [World.cell?, h, hv]
theorem Is.frozen {w : World} {b : Nat} {cs : Array Value} (h : Is w b cs) (i : Nat) : w.frozen? ⟨b, i, none⟩ = false := by
  obtain ⟨T, h⟩ := h
  simp [World.frozen?, h]
theorem Is.set {w : World} {b : Nat} {cs : Array Value} (h : Is w b cs) (i : Nat) (v : Value) : Is (w.setCell ⟨b, i, none⟩ v) b (cs.setIfInBounds i v) := by
  obtain ⟨T, h⟩ := h
  exact ⟨T, by simp [World.setCell, Array.getElem?_modify, h]⟩
theorem Is.other {w : World} {b : Nat} {cs : Array Value} (h : Is w b cs) {p : Addr} (hp : p.block ≠ b) (v : Value) : Is (w.setCell p v) b cs := by
  obtain ⟨T, h⟩ := h
  exact ⟨T, by rw [Below.heap_setCell _ _ _ _ (Ne.symm hp)]; exact h⟩
theorem Is.alloc {w : World} {b : Nat} {cs : Array Value} (h : Is w b cs) (o : Obj) : Is (w.alloc o) b cs := by
  have hl := h.lt
  obtain ⟨T, h⟩ := h
  exact ⟨T, by rw [Below.heap_alloc _ _ _ hl]; exact h⟩
theorem Is.made (w : World) (cs : Array Value) (T : TypeId) {b : Nat} (hb : b = w.heap.size) : Is (w.alloc (.cells cs T)) b cs := by
  subst hb
  exact ⟨T, by show (w.heap.push _)[_]? = _; simp⟩
theorem Is.drew {w : World} {b : Nat} {cs : Array Value} (h : Is w b cs) : Is w.drew b cs := h
theorem Is.drewN {w : World} {b : Nat} {cs : Array Value} (h : Is w b cs) (n : Nat) : Is (w.drewN n) b cs := h
theorem Is.eq {w : World} {b : Nat} {cs cs' : Array Value} (h : Is w b cs) (e : cs = cs') : Is w b cs' := e ▸ h

/-- From w to w': of what was there nothing has turned but in blocks of S. -/
structure Only (S : Nat → Prop) (w w' : World) : Prop where
  os : w'.os = w.os
  tape : w'.tape = w.tape
  output : w'.output = w.output
  size : w.heap.size ≤ w'.heap.size
  block : ∀ k, k < w.heap.size → ¬ S k → w'.heap[k]? = w.heap[k]?

theorem Only.refl (S : Nat → Prop) (w : World) : Only S w w := ⟨rfl, rfl, rfl, Nat.le_refl _, fun _ _ _ => rfl⟩
theorem Only.trans {S : Nat → Prop} {a b c : World} (h : Only S a b) (k : Only S b c) : Only S a c :=
  ⟨k.os.trans h.os, k.tape.trans h.tape, k.output.trans h.output, Nat.le_trans h.size k.size, fun i hi hs => (k.block i (Nat.lt_of_lt_of_le hi h.size) hs).trans (h.block i hi hs)⟩
/-- .. where the second step may turn what the first one has made. -/
theorem Only.trans' {S S' : Nat → Prop} {a b c : World} (h : Only S a b) (k : Only S' b c) (hs : ∀ i, S' i → S i ∨ a.heap.size ≤ i) : Only S a c :=
  ⟨k.os.trans h.os, k.tape.trans h.tape, k.output.trans h.output, Nat.le_trans h.size k.size, fun i hi hn => (k.block i (Nat.lt_of_lt_of_le hi h.size) (fun q => (hs i q).elim hn (fun r => by omega))).trans (h.block i hi hn)⟩
theorem Only.mono {S S' : Nat → Prop} {w w' : World} (h : Only S w w') (hs : ∀ i, S i → S' i) : Only S' w w' := ⟨h.os, h.tape, h.output, h.size, fun i hi hn => h.block i hi (fun q => hn (hs i q))⟩
theorem Only.drew {S : Nat → Prop} {a w : World} (h : Only S a w) : Only S a w.drew := ⟨h.os, h.tape, h.output, h.size, h.block⟩
theorem Only.drewN {S : Nat → Prop} {a w : World} (h : Only S a w) (n : Nat) : Only S a (w.drewN n) := ⟨h.os, h.tape, h.output, h.size, h.block⟩
theorem Only.alloc {S : Nat → Prop} {a w : World} (h : Only S a w) (o : Obj) : Only S a (w.alloc o) :=
  h.trans ⟨rfl, rfl, rfl, by simp, fun k hk _ => Below.heap_alloc _ _ _ hk⟩
theorem Only.setCell {S : Nat → Prop} {a w : World} (h : Only S a w) {p : Addr} (hp : S p.block ∨ a.heap.size ≤ p.block) (u : Value) : Only S a (w.setCell p u) :=
  h.trans' (S' := fun k => k = p.block) ⟨rfl, rfl, rfl, by simp [World.setCell], fun k hk hn => Below.heap_setCell _ _ _ _ hn⟩ (fun i e => e ▸ hp)
/-- .. where one block alone may turn. -/
theorem Only.put {b : Nat} {a w : World} (h : Only (fun k => k = b) a w) (i : Nat) (u : Value) : Only (fun k => k = b) a (w.setCell ⟨b, i, none⟩ u) := h.setCell (p := ⟨b, i, none⟩) (.inl rfl) u
theorem Only.below {S : Nat → Prop} {w w' : World} (h : Only S w w') {B : Nat} (hs : ∀ k, S k → B ≤ k) (hB : B ≤ w.heap.size) : Below B w w' :=
  ⟨h.os, h.tape, h.output, h.size, fun k hk => h.block k (Nat.lt_of_lt_of_le hk hB) (fun q => by have := hs k q; omega)⟩
theorem Only.of_below {S : Nat → Prop} {w w' : World} (h : Below w.heap.size w w') : Only S w w' := ⟨h.os, h.tape, h.output, h.size, fun k hk _ => h.block k hk⟩
theorem _root_.Go.RowKit.Below.only {B : Nat} {a w w' : World} {S : Nat → Prop} (h : Below B a w) (k : Only S w w') (hs : ∀ i, S i → B ≤ i) (hB : B ≤ w.heap.size) : Below B a w' := h.trans (k.below hs hB)
theorem Is.keep {w w' : World} {b : Nat} {cs : Array Value} (h : Is w b cs) {S : Nat → Prop} (ho : Only S w w') (hb : ¬ S b) : Is w' b cs := by
  have hl := h.lt
  obtain ⟨T, h⟩ := h
  exact ⟨T, by rw [ho.block b hl hb]; exact h⟩
theorem Is.below {w w' : World} {b : Nat} {cs : Array Value} (h : Is w b cs) (ho : Below w.heap.size w w') : Is w' b cs := h.keep (Only.of_below (S := fun _ => False) ho) (fun q => q)
theorem Only.cell {S : Nat → Prop} {w w' : World} (h : Only S w w') {p : Addr} {v : Value} (hc : w.cell? p = some v) (hp : ¬ S p.block) : w'.cell? p = some v := by
  rw [← hc]
  exact World.cell?_of_block (w := w) (h.block p.block (lt_of_cell hc) hp)
theorem _root_.Go.Proofs.Ytjdcmeclmaljeaa.Dig.Rd.only {k : IntKind} {w w' : World} {a : Option Addr} {len : Nat} {z : Nat → Int} (h : Rd k w a len z) {S : Nat → Prop} (ho : Only S w w') (hs : ∀ x, a = some x → ¬ S x.block) : Rd k w' a len z := by
  refine ⟨h.1, fun i hi => ?_⟩
  obtain ⟨b, off, e, hc, hw⟩ := h.2 i hi
  exact ⟨b, off, e, ho.cell hc (by exact hs ⟨b, off, none⟩ e), hw⟩
theorem _root_.Go.Proofs.Ytjdcmeclmaljeaa.Dig.Rd.below {k : IntKind} {B : Nat} {w w' : World} {a : Option Addr} {len : Nat} {z : Nat → Int} (h : Rd k w a len z) (ho : Below B w w') (hs : ∀ x, a = some x → x.block < B) : Rd k w' a len z := by
  refine ⟨h.1, fun i hi => ?_⟩
  obtain ⟨b, off, e, hc, hw⟩ := h.2 i hi
  exact ⟨b, off, e, by rw [ho.cell (by exact hs ⟨b, off, none⟩ e)]; exact hc, hw⟩
/-- What a call left as it was, as two rules for a walk. -/
theorem bcell {W w1 : World} (hb : Below W.heap.size W w1) : (∀ b o, b < W.heap.size → w1.cell? ⟨b, o, none⟩ = W.cell? ⟨b, o, none⟩) ∧ (∀ b o, b < W.heap.size → w1.frozen? ⟨b, o, none⟩ = W.frozen? ⟨b, o, none⟩) :=
  ⟨fun b o h => hb.cell (p := ⟨b, o, none⟩) h, fun b o h => hb.frozen (p := ⟨b, o, none⟩) h⟩
/-- A block of four cells, cell by cell. -/
theorem Is.four {w : World} {b : Nat} {v0 v1 v2 v3 : Value} (h : Is w b #[v0, v1, v2, v3]) :
    (w.cell? ⟨b, 0, none⟩ = some v0 ∧ w.cell? ⟨b, 1, none⟩ = some v1 ∧ w.cell? ⟨b, 2, none⟩ = some v2 ∧ w.cell? ⟨b, 3, none⟩ = some v3) ∧
    w.frozen? ⟨b, 0, none⟩ = false ∧ w.frozen? ⟨b, 1, none⟩ = false ∧ w.frozen? ⟨b, 2, none⟩ = false ∧ w.frozen? ⟨b, 3, none⟩ = false :=
  ⟨⟨h.cell 0 rfl, h.cell 1 rfl, h.cell 2 rfl, h.cell 3 rfl⟩, h.frozen 0, h.frozen 1, h.frozen 2, h.frozen 3⟩
/-- Two blocks that were laid ahead of a call, behind it. -/
theorem two_boxes {w w' : World} {c d : Array Value} {T U : TypeId} (hb : Below ((w.alloc (.cells c T)).alloc (.cells d U)).heap.size ((w.alloc (.cells c T)).alloc (.cells d U)) w') :
    Is w' w.heap.size c ∧ Is w' (w.heap.size + 1) d ∧ Below w.heap.size w w' ∧ w.heap.size + 1 < w'.heap.size := by
  have hs := hb.size
  simp at hs
  exact ⟨((Is.made w c T rfl).alloc _).below hb, (Is.made _ d U (by simp)).below hb, (((Below.refl _ _).alloc (Nat.le_refl _) _).alloc (by simp) _).trans (hb.mono (by simp; omega)), by omega⟩
/-- A row that is read stays while other blocks are written. -/
theorem _root_.Go.Proofs.Ytjdcmeclmaljeaa.Dig.Rd.put {k : IntKind} {w : World} {a : Option Addr} {len : Nat} {z : Nat → Int} (h : Rd k w a len z) {p : Addr} (hp : ∀ x, a = some x → x.block ≠ p.block) (v : Value) : Rd k (w.setCell p v) a len z := by
  refine ⟨h.1, fun i hi => ?_⟩
  obtain ⟨b, off, e, hc, hw⟩ := h.2 i hi
  exact ⟨b, off, e, by rw [World.cell?_of_block (w := w) (w' := w.setCell p v) (a := ⟨b, off + i, none⟩) (Below.heap_setCell _ _ _ _ (hp ⟨b, off, none⟩ e))]; exact hc, hw⟩
/-- .. an empty row asks nothing of its address. -/
theorem _root_.Go.Proofs.Ytjdcmeclmaljeaa.Dig.Rd.only' {k : IntKind} {w w' : World} {a : Option Addr} {len : Nat} {z : Nat → Int} (h : Rd k w a len z) {S : Nat → Prop} (ho : Only S w w') (hs : 0 < len → ∀ x, a = some x → ¬ S x.block) : Rd k w' a len z := by
  refine ⟨h.1, fun i hi => ?_⟩
  obtain ⟨b, off, e, hc, hw⟩ := h.2 i hi
  exact ⟨b, off, e, ho.cell hc (by exact hs (by omega) ⟨b, off, none⟩ e), hw⟩
theorem _root_.Go.Proofs.Ytjdcmeclmaljeaa.Dig.Rd.lt {k : IntKind} {w : World} {a : Option Addr} {len : Nat} {z : Nat → Int} (h : Rd k w a len z) (hl : 0 < len) : ∀ x, a = some x → x.block < w.heap.size := by
  obtain ⟨b, off, rfl, hc, _⟩ := h.2 0 hl
  rintro x hx
  obtain rfl := Option.some.inj hx
  exact lt_of_cell hc
end Go.Proofs.Ytjdcmeclmaljeaa.Mem
