/- Joined out of the texts Mem, Cells, Hist, HistFrame, DigBack, in that order. -/
import Derived.Test.YtigmgkcojifbcaaAll1
import Derived.Deep.Draws
import Derived.Laws.NewBlocks
import Derived.Laws.AppendOwnNone
import Derived.Deep.Slices
/- Objects that live in a block of their own: what a block holds, and what a call leaves as it was. -/
namespace Go.Proofs.Ytigmgkcojifbcaa.Mem
open Go.RowKit Go.Proofs.Ytigmgkcojifbcaa.Dig
set_option linter.unusedVariables false
set_option linter.unusedSimpArgs false

theorem hide {p : Prop} (h : p) : Hid p := h
/-- Block b holds just these cells, none of them frozen. -/
def Is (w : World) (b : Nat) (cs : Array Value) : Prop := ∃ T, w.heap[b]? = some (.cells cs T)

theorem Is.lt {w : World} {b : Nat} {cs : Array Value} (h : Is w b cs) : b < w.heap.size := by
  obtain ⟨T, h⟩ := h
  rcases Nat.lt_or_ge b w.heap.size with q | q
  · exact q
  · rw [Array.getElem?_eq_none q] at h; cases h
theorem Is.cell {w : World} {b : Nat} {cs : Array Value} (h : Is w b cs) (i : Nat) {v : Value} (hv : cs[i]? = some v) : w.cell? ⟨b, i, none⟩ = some v := by
  obtain ⟨T, h⟩ := h
  simp [World.cell?, h, hv]
theorem Is.frozen {w : World} {b : Nat} {cs : Array Value} (h : Is w b cs) (i : Nat) : w.frozen? ⟨b, i, none⟩ = false := by
  obtain ⟨T, h⟩ := h
  simp [World.frozen?, h]
theorem Is.set {w : World} {b : Nat} {cs : Array Value} (h : Is w b cs) (i : Nat) (v : Value) : Is (w.setCell ⟨b, i, none⟩ v) b (cs.setIfInBounds i v) := by
  obtain ⟨T, h⟩ := h
  exact ⟨T, by simp [World.setCell, Array.getElem?_modify, h]⟩
theorem Is.other {w : World} {b : Nat} {cs : Array Value} (h : Is w b cs) {p : Addr} (hp : p.block ≠ b) (v : Value) : Is (w.setCell p v) b cs := by
  obtain ⟨T, h⟩ := h
  exact ⟨T, by rw [Below.heap_setCell _ _ _ _ (Ne.symm hp)]; exact h⟩
theorem Is.alloc {w : World} {b : Nat} {cs : Array Value} (h : Is w b cs) (o : Obj) : Is (w.alloc o) b cs := by
  have hl := h.lt
  obtain ⟨T, h⟩ := h
  exact ⟨T, by rw [Below.heap_alloc _ _ _ hl]; exact h⟩
theorem Is.made (w : World) (cs : Array Value) (T : TypeId) {b : Nat} (hb : b = w.heap.size) : Is (w.alloc (.cells cs T)) b cs := by
  subst hb
  exact ⟨T, by show (w.heap.push _)[_]? = _; simp⟩
theorem Is.drew {w : World} {b : Nat} {cs : Array Value} (h : Is w b cs) : Is w.drew b cs := h
theorem Is.drewN {w : World} {b : Nat} {cs : Array Value} (h : Is w b cs) (n : Nat) : Is (w.drewN n) b cs := h
theorem Is.eq {w : World} {b : Nat} {cs cs' : Array Value} (h : Is w b cs) (e : cs = cs') : Is w b cs' := e ▸ h

/-- From w to w': of what was there nothing has turned but in blocks of S. -/
structure Only (S : Nat → Prop) (w w' : World) : Prop where
  os : w'.os = w.os
  tape : w'.tape = w.tape
  output : w'.output = w.output
  size : w.heap.size ≤ w'.heap.size
  block : ∀ k, k < w.heap.size → ¬ S k → w'.heap[k]? = w.heap[k]?

theorem Only.refl (S : Nat → Prop) (w : World) : Only S w w := ⟨rfl, rfl, rfl, Nat.le_refl _, fun _ _ _ => rfl⟩
theorem Only.trans {S : Nat → Prop} {a b c : World} (h : Only S a b) (k : Only S b c) : Only S a c :=
  ⟨k.os.trans h.os, k.tape.trans h.tape, k.output.trans h.output, Nat.le_trans h.size k.size, fun i hi hs => (k.block i (Nat.lt_of_lt_of_le hi h.size) hs).trans (h.block i hi hs)⟩
/-- .. where the second step may turn what the first one has made. -/
theorem Only.trans' {S S' : Nat → Prop} {a b c : World} (h : Only S a b) (k : Only S' b c) (hs : ∀ i, S' i → S i ∨ a.heap.size ≤ i) : Only S a c :=
  ⟨k.os.trans h.os, k.tape.trans h.tape, k.output.trans h.output, Nat.le_trans h.size k.size, fun i hi hn => (k.block i (Nat.lt_of_lt_of_le hi h.size) (fun q => (hs i q).elim hn (fun r => by omega))).trans (h.block i hi hn)⟩
theorem Only.mono {S S' : Nat → Prop} {w w' : World} (h : Only S w w') (hs : ∀ i, S i → S' i) : Only S' w w' := ⟨h.os, h.tape, h.output, h.size, fun i hi hn => h.block i hi (fun q => hn (hs i q))⟩
theorem Only.drew {S : Nat → Prop} {a w : World} (h : Only S a w) : Only S a w.drew := ⟨h.os, h.tape, h.output, h.size, h.block⟩
theorem Only.drewN {S : Nat → Prop} {a w : World} (h : Only S a w) (n : Nat) : Only S a (w.drewN n) := ⟨h.os, h.tape, h.output, h.size, h.block⟩
theorem Only.alloc {S : Nat → Prop} {a w : World} (h : Only S a w) (o : Obj) : Only S a (w.alloc o) :=
  h.trans ⟨rfl, rfl, rfl, by simp, fun k hk _ => Below.heap_alloc _ _ _ hk⟩
theorem Only.setCell {S : Nat → Prop} {a w : World} (h : Only S a w) {p : Addr} (hp : S p.block ∨ a.heap.size ≤ p.block) (u : Value) : Only S a (w.setCell p u) :=
  h.trans' (S' := fun k => k = p.block) ⟨rfl, rfl, rfl, by simp [World.setCell], fun k hk hn => Below.heap_setCell _ _ _ _ hn⟩ (fun i e => e ▸ hp)
/-- .. where one block alone may turn. -/
theorem Only.put {b : Nat} {a w : World} (h : Only (fun k => k = b) a w) (i : Nat) (u : Value) : Only (fun k => k = b) a (w.setCell ⟨b, i, none⟩ u) := h.setCell (p := ⟨b, i, none⟩) (.inl rfl) u
theorem Only.below {S : Nat → Prop} {w w' : World} (h : Only S w w') {B : Nat} (hs : ∀ k, S k → B ≤ k) (hB : B ≤ w.heap.size) : Below B w w' :=
  ⟨h.os, h.tape, h.output, h.size, fun k hk => h.block k (Nat.lt_of_lt_of_le hk hB) (fun q => by have := hs k q; omega)⟩
theorem Only.of_below {S : Nat → Prop} {w w' : World} (h : Below w.heap.size w w') : Only S w w' := ⟨h.os, h.tape, h.output, h.size, fun k hk _ => h.block k hk⟩
theorem _root_.Go.RowKit.Below.only {B : Nat} {a w w' : World} {S : Nat → Prop} (h : Below B a w) (k : Only S w w') (hs : ∀ i, S i → B ≤ i) (hB : B ≤ w.heap.size) : Below B a w' := h.trans (k.below hs hB)
theorem Is.keep {w w' : World} {b : Nat} {cs : Array Value} (h : Is w b cs) {S : Nat → Prop} (ho : Only S w w') (hb : ¬ S b) : Is w' b cs := by
  have hl := h.lt
  obtain ⟨T, h⟩ := h
  exact ⟨T, by rw [ho.block b hl hb]; exact h⟩
theorem Is.below {w w' : World} {b : Nat} {cs : Array Value} (h : Is w b cs) (ho : Below w.heap.size w w') : Is w' b cs := h.keep (Only.of_below (S := fun _ => False) ho) (fun q => q)
theorem Only.cell {S : Nat → Prop} {w w' : World} (h : Only S w w') {p : Addr} {v : Value} (hc : w.cell? p = some v) (hp : ¬ S p.block) : w'.cell? p = some v := by
  rw [← hc]
  exact World.cell?_of_block (w := w) (h.block p.block (lt_of_cell hc) hp)
theorem _root_.Go.Proofs.Ytigmgkcojifbcaa.Dig.Rd.only {k : IntKind} {w w' : World} {a : Option Addr} {len : Nat} {z : Nat → Int} (h : Rd k w a len z) {S : Nat → Prop} (ho : Only S w w') (hs : ∀ x, a = some x → ¬ S x.block) : Rd k w' a len z := by
  refine ⟨h.1, fun i hi => ?_⟩
  obtain ⟨b, off, e, hc, hw⟩ := h.2 i hi
  exact ⟨b, off, e, ho.cell hc (by exact hs ⟨b, off, none⟩ e), hw⟩
theorem _root_.Go.Proofs.Ytigmgkcojifbcaa.Dig.Rd.below {k : IntKind} {B : Nat} {w w' : World} {a : Option Addr} {len : Nat} {z : Nat → Int} (h : Rd k w a len z) (ho : Below B w w') (hs : ∀ x, a = some x → x.block < B) : Rd k w' a len z := by
  refine ⟨h.1, fun i hi => ?_⟩
  obtain ⟨b, off, e, hc, hw⟩ := h.2 i hi
  exact ⟨b, off, e, by rw [ho.cell (by exact hs ⟨b, off, none⟩ e)]; exact hc, hw⟩
/-- What a call left as it was, as two rules for a walk. -/
theorem bcell {W w1 : World} (hb : Below W.heap.size W w1) : (∀ b o, b < W.heap.size → w1.cell? ⟨b, o, none⟩ = W.cell? ⟨b, o, none⟩) ∧ (∀ b o, b < W.heap.size → w1.frozen? ⟨b, o, none⟩ = W.frozen? ⟨b, o, none⟩) :=
  ⟨fun b o h => hb.cell (p := ⟨b, o, none⟩) h, fun b o h => hb.frozen (p := ⟨b, o, none⟩) h⟩
/-- A block of four cells, cell by cell. -/
theorem Is.four {w : World} {b : Nat} {v0 v1 v2 v3 : Value} (h : Is w b #[v0, v1, v2, v3]) :
    (w.cell? ⟨b, 0, none⟩ = some v0 ∧ w.cell? ⟨b, 1, none⟩ = some v1 ∧ w.cell? ⟨b, 2, none⟩ = some v2 ∧ w.cell? ⟨b, 3, none⟩ = some v3) ∧
    w.frozen? ⟨b, 0, none⟩ = false ∧ w.frozen? ⟨b, 1, none⟩ = false ∧ w.frozen? ⟨b, 2, none⟩ = false ∧ w.frozen? ⟨b, 3, none⟩ = false :=
  ⟨⟨h.cell 0 rfl, h.cell 1 rfl, h.cell 2 rfl, h.cell 3 rfl⟩, h.frozen 0, h.frozen 1, h.frozen 2, h.frozen 3⟩
/-- Two blocks that were laid ahead of a call, behind it. -/
theorem two_boxes {w w' : World} {c d : Array Value} {T U : TypeId} (hb : Below ((w.alloc (.cells c T)).alloc (.cells d U)).heap.size ((w.alloc (.cells c T)).alloc (.cells d U)) w') :
    Is w' w.heap.size c ∧ Is w' (w.heap.size + 1) d ∧ Below w.heap.size w w' ∧ w.heap.size + 1 < w'.heap.size := by
  have hs := hb.size
  simp at hs
  exact ⟨((Is.made w c T rfl).alloc _).below hb, (Is.made _ d U (by simp)).below hb, (((Below.refl _ _).alloc (Nat.le_refl _) _).alloc (by simp) _).trans (hb.mono (by simp; omega)), by omega⟩
/-- A row that is read stays while other blocks are written. -/
theorem _root_.Go.Proofs.Ytigmgkcojifbcaa.Dig.Rd.put {k : IntKind} {w : World} {a : Option Addr} {len : Nat} {z : Nat → Int} (h : Rd k w a len z) {p : Addr} (hp : ∀ x, a = some x → x.block ≠ p.block) (v : Value) : Rd k (w.setCell p v) a len z := by
  refine ⟨h.1, fun i hi => ?_⟩
  obtain ⟨b, off, e, hc, hw⟩ := h.2 i hi
  exact ⟨b, off, e, by rw [World.cell?_of_block (w := w) (w' := w.setCell p v) (a := ⟨b, off + i, none⟩) (Below.heap_setCell _ _ _ _ (hp ⟨b, off, none⟩ e))]; exact hc, hw⟩
/-- .. an empty row asks nothing of its address. -/
theorem _root_.Go.Proofs.Ytigmgkcojifbcaa.Dig.Rd.only' {k : IntKind} {w w' : World} {a : Option Addr} {len : Nat} {z : Nat → Int} (h : Rd k w a len z) {S : Nat → Prop} (ho : Only S w w') (hs : 0 < len → ∀ x, a = some x → ¬ S x.block) : Rd k w' a len z := by
  refine ⟨h.1, fun i hi => ?_⟩
  obtain ⟨b, off, e, hc, hw⟩ := h.2 i hi
  exact ⟨b, off, e, ho.cell hc (by exact hs (by omega) ⟨b, off, none⟩ e), hw⟩
theorem _root_.Go.Proofs.Ytigmgkcojifbcaa.Dig.Rd.lt {k : IntKind} {w : World} {a : Option Addr} {len : Nat} {z : Nat → Int} (h : Rd k w a len z) (hl : 0 < len) : ∀ x, a = some x → x.block < w.heap.size := by
  obtain ⟨b, off, rfl, hc, _⟩ := h.2 0 hl
  rintro x hx
  obtain rfl := Option.some.inj hx
  exact lt_of_cell hc
end Go.Proofs.Ytigmgkcojifbcaa.Mem

/- Rows whose elements are so many cells each: how they are read, what keeps them, and what an append leaves. -/
namespace Go.Proofs.Ytigmgkcojifbcaa.Mem
open Go.RowKit Go.Proofs.Ytigmgkcojifbcaa.Dig
set_option linter.unusedVariables false
set_option linter.unusedSimpArgs false

theorem addr_add (b off n : Nat) : (⟨b, off, none⟩ : Addr).add n = ⟨b, off + n, none⟩ := by unfold Addr.add; split <;> simp_all
/-- v is a row of elements of n cells each, whose cells are cs; it lies in blocks of F. -/
def RowAt (F : Nat → Prop) (w : World) (n : Nat) (v : Value) (cs : List (List Value)) : Prop :=
  ∃ a cap, v = .slice a cs.length cap ∧ cs.length ≤ cap ∧ cap ≤ maxLen ∧ (a = none → cap = 0) ∧ (∀ c ∈ cs, c.length = n) ∧
    ∀ i c, cs[i]? = some c → ∃ b off, a = some ⟨b, off, none⟩ ∧ F b ∧ ∀ j u, c[j]? = some u → w.cell? ⟨b, off + (i * n + j), none⟩ = some u

theorem RowAt.nil (F : Nat → Prop) (w : World) (n : Nat) : RowAt F w n (.slice none 0 0) [] := ⟨none, 0, rfl, by simp, by unfold maxLen; omega, fun _ => rfl, by simp, by simp⟩
theorem RowAt.mono {F F' : Nat → Prop} {w : World} {n : Nat} {v : Value} {cs : List (List Value)} (h : RowAt F w n v cs) (hf : ∀ b, F b → F' b) : RowAt F' w n v cs := by
  obtain ⟨a, cap, h1, h2, h3, h4, h5, h6⟩ := h
  exact ⟨a, cap, h1, h2, h3, h4, h5, fun i c hc => let ⟨b, off, g1, g2, g3⟩ := h6 i c hc; ⟨b, off, g1, hf b g2, g3⟩⟩
theorem RowAt.only {F S : Nat → Prop} {w w' : World} {n : Nat} {v : Value} {cs : List (List Value)} (h : RowAt F w n v cs) (ho : Only S w w') (hs : ∀ b, F b → ¬ S b) : RowAt F w' n v cs := by
  obtain ⟨a, cap, h1, h2, h3, h4, h5, h6⟩ := h
  exact ⟨a, cap, h1, h2, h3, h4, h5, fun i c hc => let ⟨b, off, g1, g2, g3⟩ := h6 i c hc; ⟨b, off, g1, g2, fun j u hu => ho.cell (g3 j u hu) (hs b g2)⟩⟩
theorem RowAt.keep {F : Nat → Prop} {w w' : World} {n : Nat} {v : Value} {cs : List (List Value)} (h : RowAt F w n v cs) (ho : Below w.heap.size w w') : RowAt F w' n v cs :=
  h.only (Only.of_below (S := fun _ => False) ho) (fun _ _ q => q)
/-- Its blocks are there. -/
theorem RowAt.lt {F : Nat → Prop} {w : World} {n : Nat} {v : Value} {cs : List (List Value)} (h : RowAt F w n v cs) (hn : 0 < n) : RowAt (fun b => F b ∧ b < w.heap.size) w n v cs := by
  obtain ⟨a, cap, h1, h2, h3, h4, h5, h6⟩ := h
  refine ⟨a, cap, h1, h2, h3, h4, h5, fun i c hc => ?_⟩
  obtain ⟨b, off, g1, g2, g3⟩ := h6 i c hc
  have hl : c.length = n := h5 c (List.mem_of_getElem? hc)
  have hc0 := g3 0 (c[0]'(by omega)) (List.getElem?_eq_getElem (by omega))
  exact ⟨b, off, g1, ⟨g2, lt_of_cell hc0⟩, g3⟩
/-- Element i. -/
theorem RowAt.at {F : Nat → Prop} {w : World} {n : Nat} {a : Option Addr} {len cap : Nat} {cs : List (List Value)} (h : RowAt F w n (.slice a len cap) cs) {i : Nat} (hi : i < cs.length) :
    len = cs.length ∧ ∃ b off, a = some ⟨b, off, none⟩ ∧ F b ∧ ∀ j u, cs[i][j]? = some u → w.cell? ⟨b, off + (i * n + j), none⟩ = some u := by
  obtain ⟨a', cap', h1, h2, h3, h4, h5, h6⟩ := h
  simp at h1
  obtain ⟨rfl, rfl, rfl⟩ := h1
  obtain ⟨b, off, g1, g2, g3⟩ := h6 i cs[i] (List.getElem?_eq_getElem hi)
  exact ⟨rfl, b, off, g1, g2, g3⟩
theorem RowAt.shape {F : Nat → Prop} {w : World} {n : Nat} {v : Value} {cs : List (List Value)} (h : RowAt F w n v cs) : ∃ a cap, v = .slice a cs.length cap ∧ cs.length ≤ cap ∧ cap ≤ maxLen := by
  obtain ⟨a, cap, h1, h2, h3, _⟩ := h
  exact ⟨a, cap, h1, h2, h3⟩

theorem flatten_get {α : Type} (n : Nat) : ∀ (cs : List (List α)) (_ : ∀ c ∈ cs, c.length = n) (i : Nat) (c : List α) (_ : cs[i]? = some c) (j : Nat) (_ : j < n), cs.flatten[i * n + j]? = c[j]?
  | [], _, i, c, hc, _, _ => by simp at hc
  | d :: cs, hl, 0, c, hc, j, hj => by
    simp at hc
    subst hc
    have := hl d List.mem_cons_self
    rw [Nat.zero_mul, Nat.zero_add, List.flatten_cons, List.getElem?_append_left (by omega)]
  | d :: cs, hl, i + 1, c, hc, j, hj => by
    have := hl d List.mem_cons_self
    simp at hc
    rw [List.flatten_cons, Nat.succ_mul, List.getElem?_append_right (by omega), show i * n + n + j - d.length = i * n + j by omega]
    exact flatten_get n cs (fun c hc => hl c (List.mem_cons_of_mem _ hc)) i c hc j hj
theorem flatten_len {α : Type} (n : Nat) : ∀ (cs : List (List α)) (_ : ∀ c ∈ cs, c.length = n), cs.flatten.length = cs.length * n
  | [], _ => by simp
  | d :: cs, hl => by
    rw [List.flatten_cons, List.length_append, flatten_len n cs (fun c hc => hl c (List.mem_cons_of_mem _ hc)), hl d List.mem_cons_self, List.length_cons, Nat.succ_mul, Nat.add_comm]

/-- v is a row of the call's own, of elements of n cells each. -/
def OwnC (e : TypeId) (n base : Nat) (w : World) (v : Value) (cs : List (List Value)) : Prop := w.ownsRow base e n v cs.length cs.flatten ∧ ∀ c ∈ cs, c.length = n
theorem OwnC.nil (e : TypeId) (n base : Nat) (w : World) : OwnC e n base w (.slice none 0 0) [] := ⟨World.ownsRow_nil _ _ _ _, by simp⟩
theorem OwnC.empty (e : TypeId) (n base : Nat) (w : World) (b : Nat) (hb : b = w.heap.size) (hB : base ≤ w.heap.size) : OwnC e n base (w.alloc (.cells #[] e)) (.slice (some ⟨b, 0, none⟩) 0 0) [] := by
  subst hb
  exact ⟨World.ownsRow_made w #[] 0 hB (by unfold maxLen; omega) (by simp), by simp⟩
theorem OwnC.lt {e : TypeId} {n base : Nat} {w : World} {v : Value} {cs : List (List Value)} (h : OwnC e n base w v cs) : ∀ b, v.ownBlock = some b → base ≤ b ∧ b < w.heap.size := World.ownsRow.lt h.1
theorem OwnC.keep {e : TypeId} {n base : Nat} {w w' : World} {v : Value} {cs : List (List Value)} (h : OwnC e n base w v cs) {S : Nat → Prop} (ho : Only S w w') (hs : ∀ b, v.ownBlock = some b → ¬ S b) : OwnC e n base w' v cs := by
  refine ⟨⟨h.1.1, ?_⟩, h.2⟩
  rcases h.1.2 with hn | ⟨g, cap, cur, rfl, hg, hh, r⟩
  · exact .inl hn
  · have hlt : g < w.heap.size := (h.lt g rfl).2
    exact .inr ⟨g, cap, cur, rfl, hg, by rw [ho.block g hlt (hs g rfl)]; exact hh, r⟩
theorem OwnC.alloc {e : TypeId} {n base : Nat} {w : World} {v : Value} {cs : List (List Value)} (h : OwnC e n base w v cs) (o : Obj) : OwnC e n base (w.alloc o) v cs := ⟨World.ownsRow.alloc h.1 o, h.2⟩
theorem OwnC.drew {e : TypeId} {n base : Nat} {w : World} {v : Value} {cs : List (List Value)} (h : OwnC e n base w v cs) : OwnC e n base w.drew v cs := h
/-- How it is read: it lies from base on. -/
theorem OwnC.row {e : TypeId} {n base : Nat} {w : World} {v : Value} {cs : List (List Value)} (h : OwnC e n base w v cs) : RowAt (fun b => base ≤ b ∧ v.ownBlock = some b) w n v cs := by
  obtain ⟨h1, hl⟩ := h
  rcases h1.2 with ⟨hv, h0⟩ | ⟨g, cap, cur, hv, hg, hh, hc1, hc2, hc3, hc4⟩
  · have : cs = [] := List.eq_nil_of_length_eq_zero h0
    subst this
    subst hv
    exact RowAt.nil _ _ _
  · subst hv
    refine ⟨_, cap, rfl, hc1, hc2, by simp, hl, fun i c hc => ⟨g, 0, rfl, ⟨hg, rfl⟩, fun j u hu => ?_⟩⟩
    have hci : c.length = n := hl c (List.mem_of_getElem? hc)
    have hj : j < n := by
      rcases Nat.lt_or_ge j c.length with q | q
      · omega
      · rw [List.getElem?_eq_none q] at hu; cases hu
    have hi : i < cs.length := by
      rcases Nat.lt_or_ge i cs.length with q | q
      · exact q
      · rw [List.getElem?_eq_none q] at hc; cases hc
    have hlt : i * n + j < cs.length * n := by
      have : (i + 1) * n ≤ cs.length * n := Nat.mul_le_mul_right n (by omega)
      rw [Nat.succ_mul] at this
      omega
    rw [Nat.zero_add, h1.cellAt _ hlt, flatten_get n cs hl i c hc j hj, hu]

section
variable {P : Program} {w w0 : World} {ops : Array Oper} {rest : List Oper} {o : Oper} {a : Act} {Q : Exit → Act → World → Prop}
/-- append(v, x...), v a row of the call's own, x whatever row of such elements. -/
theorem app_row (hgd : o.guard = none) (s x : Operand) (t : TypeId) (ho : o.op = .call { callee := .builtin .append, args := #[s, x], argTypes := #[t, t] })
    (e : TypeId) (i : TypeInfo) (z : Value) (size bytes : Nat) (ht : P.underlying t = some (.slice e)) (hi : P.info? e = some i) (hz : i.zero = some z) (hsize : i.size = size) (hby : i.bytes = bytes) (hzs : z.cells.size = size) (hsz : 0 < size) (hb8 : bytes ≤ 1000)
    (base : Nat) (v : Value) (cs : List (List Value)) (hs : a.eval s = v) (hown : OwnC e size base w v cs) (F : Nat → Prop) (vx : Value) (ds : List (List Value)) (hx : a.eval x = vx) (hrow : RowAt F w size vx ds)
    (h1 : ∀ c ∈ ds, ∀ u ∈ c, u.oneCell' = true) (hb : cs.length + ds.length ≤ 1000000) (hbase : base ≤ w.heap.size)
    (h : ∀ v' w', OwnC e size base w' v' (cs ++ ds) → Only (fun k => v.ownBlock = some k) w w' → wpList P ops Q rest (a.put o.dst v') w') : wpList P ops Q (o :: rest) a w := by
  obtain ⟨ao, cap, rfl, hc1, hc2, hc3, hl, hcell⟩ := hrow
  cases ao with
  | none =>
    have hcap := hc3 rfl
    subst hcap
    have hd : ds = [] := List.eq_nil_of_length_eq_zero (by omega)
    subst hd
    exact wpList_append_own_none hgd s x t ho base e i size ht hi v cs.length cs.flatten hs hown.1 hx (h v w (by simpa using hown) (Only.refl _ _))
  | some ad =>
    refine wpList_append_own w hgd s x t ho base e i z size bytes ht hi hz hsize hby hzs hsz v cs.length cs.flatten hs hown.1 ad ds.length cap ds.flatten hx (flatten_len size ds hl) ?_ ?_ (by unfold maxLen; omega) ?_ hbase ?_
    · intro j u hu
      have hj : j < ds.length * size := by
        rw [← flatten_len size ds hl]
        rcases Nat.lt_or_ge j ds.flatten.length with q | q
        · exact q
        · rw [List.getElem?_eq_none q] at hu; cases hu
      have hq : j / size < ds.length := Nat.div_lt_of_lt_mul (by rw [Nat.mul_comm]; exact hj)
      have hm : j % size < size := Nat.mod_lt _ hsz
      have e1 : j = (j / size) * size + j % size := by rw [Nat.mul_comm]; exact (Nat.div_add_mod j size).symm
      obtain ⟨b, off, hab, _, hc⟩ := hcell (j / size) ds[j / size] (List.getElem?_eq_getElem hq)
      obtain rfl := Option.some.inj hab
      rw [e1] at hu ⊢
      rw [flatten_get size ds hl _ _ (List.getElem?_eq_getElem hq) _ hm] at hu
      rw [addr_add]
      exact hc _ u hu
    · intro u hu
      obtain ⟨c, hc, huc⟩ := List.mem_flatten.1 hu
      exact h1 c hc u huc
    · have : (cs.length + ds.length) * bytes ≤ 1000000 * 1000 := Nat.mul_le_mul hb hb8
      omega
    · intro v' w' hown' hgrow _
      refine h v' w' ⟨?_, ?_⟩ ⟨hgrow.os, hgrow.tape, hgrow.output, hgrow.size, fun k hk hn => hgrow.block k hk (fun q => hn q.symm)⟩
      · rw [List.length_append, List.flatten_append]
        exact hown'
      · intro c hc
        rcases List.mem_append.1 hc with q | q
        · exact hown.2 c q
        · exact hl c q
end
end Go.Proofs.Ytigmgkcojifbcaa.Mem

/- Histories in memory: rows of transactions, each with a row of operations, each with a row of numbers: how they are read, and what keeps them. -/
namespace Go.Proofs.Ytigmgkcojifbcaa.Mem
open Go.RowKit Go.Proofs.Ytigmgkcojifbcaa.Dig Go.ChangeShapes Go.WideShapes Go.Deep
set_option linter.unusedVariables false
set_option linter.unusedSimpArgs false

/-- An operation, a transaction. -/
structure OpM where
  read : Bool
  key : Int
  value : Int
  list : List Int
structure TxnM where
  id : Int
  ab : Bool
  ops : List OpM

/-- Element by element. -/
def AllAt {α : Type} (R : List Value → α → Prop) (cs : List (List Value)) (xs : List α) : Prop := cs.length = xs.length ∧ ∀ (i : Nat) (c : List Value) (x : α), cs[i]? = some c → xs[i]? = some x → R c x
theorem AllAt.nil {α : Type} (R : List Value → α → Prop) : AllAt R [] [] := ⟨rfl, by simp⟩
theorem AllAt.mono {α : Type} {R R' : List Value → α → Prop} {cs : List (List Value)} {xs : List α} (h : AllAt R cs xs) (hr : ∀ c x, R c x → R' c x) : AllAt R' cs xs := ⟨h.1, fun i c x h1 h2 => hr _ _ (h.2 i c x h1 h2)⟩
theorem AllAt.one {α : Type} {R : List Value → α → Prop} {c : List Value} {x : α} (h : R c x) : AllAt R [c] [x] := by
  refine ⟨rfl, fun i c' x' h1 h2 => ?_⟩
  cases i with
  | zero => simp at h1 h2; subst h1; subst h2; exact h
  | succ i => simp at h1
theorem AllAt.append {α : Type} {R : List Value → α → Prop} {cs ds : List (List Value)} {xs ys : List α} (h : AllAt R cs xs) (k : AllAt R ds ys) : AllAt R (cs ++ ds) (xs ++ ys) := by
  refine ⟨by rw [List.length_append, List.length_append, h.1, k.1], fun i c x h1 h2 => ?_⟩
  rcases Nat.lt_or_ge i cs.length with q | q
  · rw [List.getElem?_append_left q] at h1
    rw [List.getElem?_append_left (by rw [← h.1]; exact q)] at h2
    exact h.2 i c x h1 h2
  · rw [List.getElem?_append_right q] at h1
    rw [List.getElem?_append_right (by rw [← h.1]; exact q), ← h.1] at h2
    exact k.2 _ c x h1 h2
theorem AllAt.get {α : Type} {R : List Value → α → Prop} {cs : List (List Value)} {xs : List α} (h : AllAt R cs xs) {i : Nat} (hi : i < xs.length) : ∃ hc : i < cs.length, R cs[i] xs[i] :=
  ⟨by rw [h.1]; exact hi, h.2 i _ _ (List.getElem?_eq_getElem (by rw [h.1]; exact hi)) (List.getElem?_eq_getElem hi)⟩

def IntsAt (F : Nat → Prop) (w : World) (v : Value) (l : List Int) : Prop := RowAt F w 1 v (l.map fun n => [.int .i64 n]) ∧ ∀ n ∈ l, (Lit.int .i64 n).wf = true
def OpAt (F : Nat → Prop) (w : World) (c : List Value) (o : OpM) : Prop := ∃ v, c = [.bool o.read, .int .i64 o.key, .int .i64 o.value, v] ∧ IntsAt F w v o.list ∧ (Lit.int .i64 o.key).wf = true ∧ (Lit.int .i64 o.value).wf = true
def OpsAt (F : Nat → Prop) (w : World) (v : Value) (os : List OpM) : Prop := ∃ cs, RowAt F w 4 v cs ∧ AllAt (OpAt F w) cs os
def TxnAt (F : Nat → Prop) (w : World) (c : List Value) (t : TxnM) : Prop := ∃ v, c = [.int .i64 t.id, .bool t.ab, v] ∧ OpsAt F w v t.ops ∧ (Lit.int .i64 t.id).wf = true
def TxnsAt (F : Nat → Prop) (w : World) (v : Value) (ts : List TxnM) : Prop := ∃ cs, RowAt F w 3 v cs ∧ AllAt (TxnAt F w) cs ts

section
variable {F F' S : Nat → Prop} {w w' : World}
theorem IntsAt.mono {v : Value} {l : List Int} (h : IntsAt F w v l) (hf : ∀ b, F b → F' b) : IntsAt F' w v l := ⟨h.1.mono hf, h.2⟩
theorem OpAt.mono {c : List Value} {o : OpM} (h : OpAt F w c o) (hf : ∀ b, F b → F' b) : OpAt F' w c o := let ⟨v, h1, h2, h3⟩ := h; ⟨v, h1, h2.mono hf, h3⟩
theorem OpsAt.mono {v : Value} {os : List OpM} (h : OpsAt F w v os) (hf : ∀ b, F b → F' b) : OpsAt F' w v os := let ⟨cs, h1, h2⟩ := h; ⟨cs, h1.mono hf, h2.mono fun _ _ q => q.mono hf⟩
theorem TxnAt.mono {c : List Value} {t : TxnM} (h : TxnAt F w c t) (hf : ∀ b, F b → F' b) : TxnAt F' w c t := let ⟨v, h1, h2, h3⟩ := h; ⟨v, h1, h2.mono hf, h3⟩
theorem TxnsAt.mono {v : Value} {ts : List TxnM} (h : TxnsAt F w v ts) (hf : ∀ b, F b → F' b) : TxnsAt F' w v ts := let ⟨cs, h1, h2⟩ := h; ⟨cs, h1.mono hf, h2.mono fun _ _ q => q.mono hf⟩
theorem IntsAt.only {v : Value} {l : List Int} (h : IntsAt F w v l) (ho : Only S w w') (hs : ∀ b, F b → ¬ S b) : IntsAt F w' v l := ⟨h.1.only ho hs, h.2⟩
theorem OpAt.only {c : List Value} {o : OpM} (h : OpAt F w c o) (ho : Only S w w') (hs : ∀ b, F b → ¬ S b) : OpAt F w' c o := let ⟨v, h1, h2, h3⟩ := h; ⟨v, h1, h2.only ho hs, h3⟩
theorem OpsAt.only {v : Value} {os : List OpM} (h : OpsAt F w v os) (ho : Only S w w') (hs : ∀ b, F b → ¬ S b) : OpsAt F w' v os := let ⟨cs, h1, h2⟩ := h; ⟨cs, h1.only ho hs, h2.mono fun _ _ q => q.only ho hs⟩
theorem TxnAt.only {c : List Value} {t : TxnM} (h : TxnAt F w c t) (ho : Only S w w') (hs : ∀ b, F b → ¬ S b) : TxnAt F w' c t := let ⟨v, h1, h2, h3⟩ := h; ⟨v, h1, h2.only ho hs, h3⟩
theorem TxnsAt.only {v : Value} {ts : List TxnM} (h : TxnsAt F w v ts) (ho : Only S w w') (hs : ∀ b, F b → ¬ S b) : TxnsAt F w' v ts := let ⟨cs, h1, h2⟩ := h; ⟨cs, h1.only ho hs, h2.mono fun _ _ q => q.only ho hs⟩
theorem IntsAt.keep {v : Value} {l : List Int} (h : IntsAt F w v l) (ho : Below w.heap.size w w') : IntsAt F w' v l := h.only (Only.of_below (S := fun _ => False) ho) (fun _ _ q => q)
theorem OpsAt.keep {v : Value} {os : List OpM} (h : OpsAt F w v os) (ho : Below w.heap.size w w') : OpsAt F w' v os := h.only (Only.of_below (S := fun _ => False) ho) (fun _ _ q => q)
theorem TxnsAt.keep {v : Value} {ts : List TxnM} (h : TxnsAt F w v ts) (ho : Below w.heap.size w w') : TxnsAt F w' v ts := h.only (Only.of_below (S := fun _ => False) ho) (fun _ _ q => q)
theorem IntsAt.lt {v : Value} {l : List Int} (h : IntsAt F w v l) : IntsAt (fun b => F b ∧ b < w.heap.size) w v l := ⟨h.1.lt (by omega), h.2⟩
theorem OpAt.lt {c : List Value} {o : OpM} (h : OpAt F w c o) : OpAt (fun b => F b ∧ b < w.heap.size) w c o := let ⟨v, h1, h2, h3⟩ := h; ⟨v, h1, h2.lt, h3⟩
theorem OpsAt.lt {v : Value} {os : List OpM} (h : OpsAt F w v os) : OpsAt (fun b => F b ∧ b < w.heap.size) w v os := let ⟨cs, h1, h2⟩ := h; ⟨cs, h1.lt (by omega), h2.mono fun _ _ q => q.lt⟩
theorem TxnAt.lt {c : List Value} {t : TxnM} (h : TxnAt F w c t) : TxnAt (fun b => F b ∧ b < w.heap.size) w c t := let ⟨v, h1, h2, h3⟩ := h; ⟨v, h1, h2.lt, h3⟩
theorem TxnsAt.lt {v : Value} {ts : List TxnM} (h : TxnsAt F w v ts) : TxnsAt (fun b => F b ∧ b < w.heap.size) w v ts := let ⟨cs, h1, h2⟩ := h; ⟨cs, h1.lt (by omega), h2.mono fun _ _ q => q.lt⟩

theorem IntsAt.nil : IntsAt F w (.slice none 0 0) [] := ⟨RowAt.nil _ _ _, by simp⟩
theorem OpsAt.nil : OpsAt F w (.slice none 0 0) [] := ⟨[], RowAt.nil _ _ _, AllAt.nil _⟩
theorem TxnsAt.nil : TxnsAt F w (.slice none 0 0) [] := ⟨[], RowAt.nil _ _ _, AllAt.nil _⟩
/-- A row of numbers, as it is read. -/
theorem IntsAt.rd {v : Value} {l : List Int} (h : IntsAt F w v l) (hl : l.length ≤ 1000000000000) : ∃ a cap, v = .slice a l.length cap ∧ l.length ≤ cap ∧ Rd .i64 w a l.length (fun i => l.getD i 0) := by
  obtain ⟨⟨a, cap, h1, h2, h3, h4, h5, h6⟩, hw⟩ := h
  rw [List.length_map] at h1 h2
  refine ⟨a, cap, h1, h2, hl, fun i hi => ?_⟩
  obtain ⟨b, off, g1, _, g3⟩ := h6 i [.int .i64 l[i]] (by simp [List.getElem?_map, List.getElem?_eq_getElem hi])
  have e : l.getD i 0 = l[i] := by simp [List.getD_eq_getElem?_getD, List.getElem?_eq_getElem hi]
  refine ⟨b, off, g1, ?_, ?_⟩
  · have := g3 0 (.int .i64 l[i]) rfl
    rw [Nat.mul_one, Nat.add_zero] at this
    show _ = some (Value.int .i64 (l.getD i 0))
    rw [e]
    exact this
  · show (Lit.int .i64 (l.getD i 0)).wf = true
    rw [e]
    exact hw _ (List.getElem_mem hi)
/-- .. and back. -/
theorem IntsAt.of_rd {a : Option Addr} {cap : Nat} {l : List Int} (h : Rd .i64 w a l.length (fun i => l.getD i 0)) (hc : l.length ≤ cap) (hm : cap ≤ maxLen) (hn : a = none → cap = 0) (hf : ∀ x, a = some x → F x.block) : IntsAt F w (.slice a l.length cap) l := by
  have e : ∀ i (hi : i < l.length), l.getD i 0 = l[i] := fun i hi => by simp [List.getD_eq_getElem?_getD, List.getElem?_eq_getElem hi]
  refine ⟨⟨a, cap, by rw [List.length_map], by rw [List.length_map]; exact hc, hm, hn, by simp, fun i c hci => ?_⟩, fun n hn => ?_⟩
  · have hi : i < l.length := by
      rcases Nat.lt_or_ge i l.length with q | q
      · exact q
      · rw [List.getElem?_eq_none (by rw [List.length_map]; exact q)] at hci; cases hci
    rw [List.getElem?_map, List.getElem?_eq_getElem hi] at hci
    obtain rfl := Option.some.inj hci
    obtain ⟨b, off, g1, g2, g3⟩ := h.2 i hi
    refine ⟨b, off, g1, hf _ g1, fun j u hu => ?_⟩
    cases j with
    | zero =>
      simp at hu
      subst hu
      rw [Nat.mul_one, Nat.add_zero, g2]
      show some (Value.int .i64 (l.getD i 0)) = _
      rw [e i hi]
    | succ j => simp at hu
  · obtain ⟨i, hi, rfl⟩ := List.mem_iff_getElem.1 hn
    obtain ⟨b, off, g1, g2, g3⟩ := h.2 i hi
    have g3' : (Lit.int .i64 (l.getD i 0)).wf = true := g3
    rw [e i hi] at g3'
    exact g3'
end

/-! ### Arguments -/
section
variable {H : Type} {enc : TypeId × Value → H} {P : Program} {w : World} {held : Bool}
theorem open_row {t e : TypeId} {n fuel : Nat} {cs : List Value} {x : DataW H × List MemPlace} (ht : P.underlying t = some (.slice e)) (ce : P.cellsOf e = n) (hn : 0 < n) (h : DataW.trod enc P w 0 (fun _ => true) held fuel t cs = some x) :
    ∃ v rows, cs = [v] ∧ RowAt (fun _ => True) w n v rows ∧ ∀ c ∈ rows, ∃ m y, DataW.trod enc P w 0 (fun _ => true) held m e c = some y := by
  rcases open_slice ht h with ⟨h0, _⟩ | ⟨a, len, cap, m, k, D, Pl, rfl, hb, hl, hm, hmm, rfl, hx⟩
  · exact ⟨.slice none 0 0, [], h0, RowAt.nil _ _ _, by simp⟩
  · simp only [if_true] at hmm
    subst hmm
    rw [ce] at hx
    obtain ⟨f, hf⟩ := choose_lt (α := List Value) (n := m) (p := fun i c => w.cells? 0 (a.add (i * n)) n = some c ∧ ∃ k y, DataW.trod enc P w 0 (fun _ => true) held k e c = some y) (fun i hi => by
      obtain ⟨c, h1, h2⟩ := hx i hi
      exact ⟨c, h1, k, _, h2⟩)
    have hlen : ((List.range len).map f).length = len := by simp
    refine ⟨_, (List.range len).map f, rfl, ⟨some a, m, by rw [hlen], by rw [hlen]; exact hl, hm, by simp, ?_, ?_⟩, ?_⟩
    · intro c hc
      obtain ⟨i, hi, rfl⟩ := List.mem_map.1 hc
      exact (World.cells?_some (hf i (by have := List.mem_range.1 hi; omega)).1).2.1
    · intro i c hc
      have hi : i < len := by
        rcases Nat.lt_or_ge i len with q | q
        · exact q
        · rw [List.getElem?_eq_none (by rw [hlen]; exact q)] at hc; cases hc
      rw [List.getElem?_map, List.getElem?_range hi] at hc
      obtain rfl := Option.some.inj hc
      obtain ⟨_, h2, h3⟩ := World.cells?_some (hf i (by omega)).1
      have h00 := (World.cells?_some (hf 0 (by omega)).1)
      obtain ⟨b, off, spot⟩ := a
      have hs : spot = none := by
        have c0 := h00.2.2 0 hn
        rw [List.getElem?_eq_getElem (by rw [h00.2.1]; exact hn)] at c0
        simpa [Addr.add] using World.cell?_spot c0
      subst hs
      refine ⟨b, off, rfl, trivial, fun j u hu => ?_⟩
      have hj : j < n := by
        rcases Nat.lt_or_ge j (f i).length with q | q
        · omega
        · rw [List.getElem?_eq_none q] at hu; cases hu
      have := h3 j hj
      rw [add_add, addr_add] at this
      rw [this, hu]
    · intro c hc
      obtain ⟨i, hi, rfl⟩ := List.mem_map.1 hc
      exact (hf i (by have := List.mem_range.1 hi; omega)).2
theorem open_all {α : Type} [Inhabited α] {R : List Value → α → Prop} : ∀ (rows : List (List Value)), (∀ c ∈ rows, ∃ x, R c x) → ∃ xs, AllAt R rows xs
  | [], _ => ⟨[], AllAt.nil _⟩
  | c :: rows, h => by
    obtain ⟨x, hx⟩ := h c List.mem_cons_self
    obtain ⟨xs, hxs⟩ := open_all rows (fun c hc => h c (List.mem_cons_of_mem _ hc))
    exact ⟨x :: xs, (AllAt.one hx).append hxs⟩
theorem open_intsAt {t e : TypeId} {fuel : Nat} {cs : List Value} {x : DataW H × List MemPlace} (ht : P.underlying t = some (.slice e)) (he : P.underlying e = some (.int .i64)) (ce : P.cellsOf e = 1) (h : DataW.trod enc P w 0 (fun _ => true) held fuel t cs = some x) :
    ∃ v l, cs = [v] ∧ IntsAt (fun _ => True) w v l := by
  obtain ⟨v, rows, rfl, hr, hc⟩ := open_row ht ce (by omega) h
  obtain ⟨l, hl⟩ := open_all (α := Int) (R := fun c n => c = [.int .i64 n] ∧ (Lit.int .i64 n).wf = true) rows (fun c hcm => by
    obtain ⟨m, y, hy⟩ := hc c hcm
    obtain ⟨n, h1, _, h3⟩ := DataW.trod_int he hy
    exact ⟨n, h1, h3⟩)
  have e : rows = l.map fun n => [.int .i64 n] := by
    apply List.ext_getElem?
    intro i
    rcases Nat.lt_or_ge i l.length with q | q
    · obtain ⟨hc, h1, _⟩ := hl.get q
      rw [List.getElem?_eq_getElem hc, List.getElem?_map, List.getElem?_eq_getElem q, h1]
      rfl
    · rw [List.getElem?_eq_none (by rw [hl.1]; exact q), List.getElem?_eq_none (by rw [List.length_map]; exact q)]
  refine ⟨v, l, rfl, e ▸ hr, fun n hn => ?_⟩
  obtain ⟨i, hi, rfl⟩ := List.mem_iff_getElem.1 hn
  exact (hl.get hi).2.2
/-- The types of a history, as a program has them. -/
structure HistTypes (P : Program) (tops top ttxns ttxn tints tint tbool : TypeId) (r k v l i a o : Field) : Prop where
  ops : P.underlying tops = some (.slice top)
  op : P.underlying top = some (.struct #[r, k, v, l])
  opc : P.cellsOf top = 4
  txns : P.underlying ttxns = some (.slice ttxn)
  txn : P.underlying ttxn = some (.struct #[i, a, o])
  txnc : P.cellsOf ttxn = 3
  ints : P.underlying tints = some (.slice tint)
  int : P.underlying tint = some (.int .i64)
  intc : P.cellsOf tint = 1
  bool : P.underlying tbool = some .bool
  boolc : P.cellsOf tbool = 1
  intsc : P.cellsOf tints = 1
  opsc : P.cellsOf tops = 1
  rt : r.type = tbool ∧ r.offset = 0
  kt : k.type = tint ∧ k.offset = 1
  vt : v.type = tint ∧ v.offset = 2
  lt : l.type = tints ∧ l.offset = 3
  it : i.type = tint ∧ i.offset = 0
  at_ : a.type = tbool ∧ a.offset = 1
  ot : o.type = tops ∧ o.offset = 2
instance : Inhabited OpM := ⟨⟨false, 0, 0, []⟩⟩
instance : Inhabited TxnM := ⟨⟨0, false, []⟩⟩
variable {tops top ttxns ttxn tints tint tbool : TypeId} {fr fk fv fl fi fa fo : Field}
theorem open_opsAt (T : HistTypes P tops top ttxns ttxn tints tint tbool fr fk fv fl fi fa fo) {fuel : Nat} {cs : List Value} {x : DataW H × List MemPlace} (h : DataW.trod enc P w 0 (fun _ => true) held fuel tops cs = some x) :
    ∃ v os, cs = [v] ∧ OpsAt (fun _ => True) w v os := by
  obtain ⟨v, rows, rfl, hr, hc⟩ := open_row T.ops T.opc (by omega) h
  obtain ⟨os, hos⟩ := open_all (α := OpM) (R := OpAt (fun _ => True) w) rows (fun c hcm => by
    obtain ⟨m, y, hy⟩ := hc c hcm
    obtain ⟨xs, n, _, _, hl, hxl, hf⟩ := DataW.trod_struct T.op hy
    have g0 := hf 0 fr rfl
    have g1 := hf 1 fk rfl
    have g2 := hf 2 fv rfl
    have g3 := hf 3 fl rfl
    rw [T.opc] at hl
    rw [T.rt.1, T.rt.2, T.boolc] at g0
    rw [T.kt.1, T.kt.2, T.intc] at g1
    rw [T.vt.1, T.vt.2, T.intc] at g2
    rw [T.lt.1, T.lt.2, T.intsc] at g3
    match c, hl, xs, hxl with
    | [c0, c1, c2, c3], _, [x0, x1, x2, x3], _ =>
      obtain ⟨b, e0, _⟩ := DataW.trod_bool T.bool g0
      obtain ⟨k, e1, _, w1⟩ := DataW.trod_int T.int g1
      obtain ⟨v, e2, _, w2⟩ := DataW.trod_int T.int g2
      obtain ⟨vl, l, e3, hl⟩ := open_intsAt T.ints T.int T.intc g3
      simp at e0 e1 e2 e3
      subst e0 e1 e2 e3
      exact ⟨⟨b, k, v, l⟩, _, rfl, hl, w1, w2⟩)
  exact ⟨v, os, rfl, rows, hr, hos⟩
theorem open_txnsAt (T : HistTypes P tops top ttxns ttxn tints tint tbool fr fk fv fl fi fa fo) {fuel : Nat} {cs : List Value} {x : DataW H × List MemPlace} (h : DataW.trod enc P w 0 (fun _ => true) held fuel ttxns cs = some x) :
    ∃ v ts, cs = [v] ∧ TxnsAt (fun _ => True) w v ts := by
  obtain ⟨v, rows, rfl, hr, hc⟩ := open_row T.txns T.txnc (by omega) h
  obtain ⟨ts, hts⟩ := open_all (α := TxnM) (R := TxnAt (fun _ => True) w) rows (fun c hcm => by
    obtain ⟨m, y, hy⟩ := hc c hcm
    obtain ⟨xs, n, _, _, hl, hxl, hf⟩ := DataW.trod_struct T.txn hy
    have g0 := hf 0 fi rfl
    have g1 := hf 1 fa rfl
    have g2 := hf 2 fo rfl
    rw [T.txnc] at hl
    rw [T.it.1, T.it.2, T.intc] at g0
    rw [T.at_.1, T.at_.2, T.boolc] at g1
    rw [T.ot.1, T.ot.2, T.opsc] at g2
    match c, hl, xs, hxl with
    | [c0, c1, c2], _, [x0, x1, x2], _ =>
      obtain ⟨k, e0, _, w1⟩ := DataW.trod_int T.int g0
      obtain ⟨b, e1, _⟩ := DataW.trod_bool T.bool g1
      obtain ⟨vl, os, e2, hl⟩ := open_opsAt T g2
      simp at e0 e1 e2
      subst e0 e1 e2
      exact ⟨⟨k, b, os⟩, _, rfl, hl, w1⟩)
  exact ⟨v, ts, rfl, rows, hr, hts⟩
/-- A history by value, as an argument. -/
theorem open_hist (T : HistTypes P tops top ttxns ttxn tints tint tbool fr fk fv fl fi fa fo) {thist : TypeId} {fh : Field} (hh : P.underlying thist = some (.struct #[fh])) (hc : P.cellsOf thist = 1) (ft : fh.type = ttxns ∧ fh.offset = 0) (ct : P.cellsOf ttxns = 1)
    {v : Value} (hv : ∃ cs, v = .agg cs ∧ cs.size = P.cellsOf thist) {fuel : Nat} {x : DataW H × List MemPlace} (h : DataW.trod enc P w 0 (fun _ => true) held fuel thist v.cells.toList = some x) :
    ∃ a len cap ts, v = .agg #[.slice a len cap] ∧ len = ts.length ∧ len ≤ cap ∧ cap ≤ maxLen ∧ TxnsAt (fun b => b < w.heap.size) w (.slice a len cap) ts := by
  obtain ⟨cs, rfl, hs⟩ := hv
  rw [hc] at hs
  obtain ⟨c, rfl⟩ : ∃ c, cs = #[c] := by
    obtain ⟨l⟩ := cs
    match l, hs with
    | [c], _ => exact ⟨c, rfl⟩
  obtain ⟨xs, n, _, _, _, hxl, hf⟩ := DataW.trod_struct hh h
  have g := hf 0 fh rfl
  rw [ft.1, ft.2, ct] at g
  match xs, hxl with
  | [x0], _ =>
    obtain ⟨u, ts, e, ht⟩ := open_txnsAt T (show DataW.trod enc P w 0 (fun _ => true) held n ttxns [c] = some x0 from by simpa [Value.cells] using g)
    simp at e
    subst e
    obtain ⟨cs, hr, hal⟩ := ht
    obtain ⟨a, cap, rfl, h1, h2⟩ := hr.shape
    refine ⟨a, cs.length, cap, ts, rfl, hal.1, h1, h2, ?_⟩
    have := TxnsAt.lt (F := fun _ => True) ⟨cs, hr, hal⟩
    exact this.mono fun b hb => hb.2
end
end Go.Proofs.Ytigmgkcojifbcaa.Mem

/- A history as an argument: its types, as this program has them. -/
namespace Go.Proofs.Ytigmgkcojifbcaa.Frame
open Go.RowKit Go.Proofs.Ytigmgkcojifbcaa.Dig Go.Proofs.Ytigmgkcojifbcaa.Mem
set_option linter.unusedVariables false

theorem histTypes : ∃ r k v l i a o, HistTypes Try.prog 46 45 22 48 43 3 4 r k v l i a o := ⟨_, _, _, _, _, _, _, {
  ops := Try.underlying46
  op := Try.underlying45
  opc := by kernel_rfl
  txns := Try.underlying22
  txn := Try.underlying48
  txnc := by kernel_rfl
  ints := Try.underlying43
  int := Try.underlying3
  intc := by kernel_rfl
  bool := Try.underlying4
  boolc := by kernel_rfl
  intsc := by kernel_rfl
  opsc := by kernel_rfl
  rt := ⟨rfl, rfl⟩
  kt := ⟨rfl, rfl⟩
  vt := ⟨rfl, rfl⟩
  lt := ⟨rfl, rfl⟩
  it := ⟨rfl, rfl⟩
  at_ := ⟨rfl, rfl⟩
  ot := ⟨rfl, rfl⟩ }⟩
theorem openHist {H : Type} {enc : TypeId × Value → H} {w : World} {held : Bool} {v : Value} (hv : ∃ cs, v = .agg cs ∧ cs.size = Try.prog.cellsOf 24) {fuel : Nat} {x : DataW H × List MemPlace} (h : DataW.trod enc Try.prog w 0 (fun _ => true) held fuel 24 v.cells.toList = some x) :
    ∃ a len cap ts, v = .agg #[.slice a len cap] ∧ len = ts.length ∧ len ≤ cap ∧ cap ≤ maxLen ∧ TxnsAt (fun b => b < w.heap.size) w (.slice a len cap) ts :=
  let ⟨_, _, _, _, _, _, _, T⟩ := histTypes
  open_hist T Try.underlying24 (by kernel_rfl) ⟨rfl, rfl⟩ (by kernel_rfl) hv h
end Go.Proofs.Ytigmgkcojifbcaa.Frame

/- Plain mathematics: a number comes back from its text, and a list from its texts with blanks ahead. -/
namespace Go.Proofs.Ytigmgkcojifbcaa.Dig
open Go.RowKit
set_option linter.unusedVariables false
set_option linter.unusedSimpArgs false

theorem val_mono (z : Nat → Int) (a : Nat) : ∀ m j, j ≤ m → (∀ i, i < m → dgt (z (a + i)) = true) → val z a j ≤ val z a m
  | 0, j, h, _ => by obtain rfl : j = 0 := by omega
                     exact Int.le_refl _
  | m + 1, j, h, hd => by
    by_cases e : j = m + 1
    · subst e; exact Int.le_refl _
    · have h1 := val_mono z a m j (by omega) (fun i hi => hd i (by omega))
      have h2 := (val_bd z a m (fun i hi => hd i (by omega))).1
      have h3 := dgt_iff.1 (hd m (by omega))
      simp only [val]; omega
theorem okm_mono {z : Nat → Int} {a m j : Nat} (h : okm z a m = true) (h1 : 1 ≤ j) (h2 : j ≤ m) (hd : ∀ i, i < m → dgt (z (a + i)) = true) : okm z a j = true := by
  rw [okm_iff] at h ⊢
  obtain ⟨q1, q2, q3, q4⟩ := h
  have := val_mono z a m j h2 hd
  refine ⟨h1, by omega, fun g => q3 ⟨by omega, g.2⟩, by omega⟩
theorem okm_one {z : Nat → Int} {a : Nat} (h : dgt (z a) = true) : okm z a 1 = true := by
  have := dgt_iff.1 h
  rw [okm_iff]; simp [val]; omega
/-- Of digits that end there the number is read to their end, if they are a number's text. -/
theorem parse_to {z : Nat → Int} {len a k : Nat} (hk : a + k ≤ len) (h1 : 1 ≤ k) (hok : okm z a k = true) (hd : ∀ i, i < k → dgt (z (a + i)) = true) (he : ¬ (a + k < len ∧ dgt (z (a + k)) = true)) :
    parse z len (a : Int) = (val z a k, ((a + k : Nat) : Int), true) := by
  rcases parse_spec z len a (by omega) with ⟨q, g1, g2, g3, g4, g5, g6⟩ | ⟨q, g2, g3, g4, g5, g6⟩
  · by_cases e : q < k
    · exact absurd ⟨by omega, hd q e⟩ g5
    · by_cases e' : k < q
      · exact absurd ⟨by omega, g4 k e'⟩ he
      · obtain rfl : q = k := by omega
        exact g6
  · exfalso
    rcases g5 with ⟨e, g⟩ | ⟨q1, q2, q3⟩
    · exact g ⟨by omega, by have := hd 0 (by omega); simpa using this⟩
    · by_cases e : q < k
      · exact q3 (okm_mono hok (by omega) (by omega) hd)
      · by_cases e' : k < q
        · exact he ⟨by omega, g4 k e'⟩
        · obtain rfl : q = k := by omega
          exact he ⟨q1, q2⟩

/-- A number's text, as numbers. -/
def txtI (n : Nat) : List Int := (txt n).map fun b => (b.toNat : Int)
theorem txtI_len (n : Nat) : (txtI n).length = (txt n).length := by simp [txtI]
theorem txtI_small {n : Nat} (h : n ≤ 9) : txtI n = [48 + (n : Int)] := by
  unfold txtI; rw [txt_small h]
  have : (UInt8.ofNat (48 + n)).toNat = 48 + n := by simp only [UInt8.toNat_ofNat']; omega
  simp only [List.map_cons, List.map_nil, this]; rfl
theorem txtI_big {n : Nat} (h : 9 < n) (hm : n ≤ 2147483647) : txtI n = txtI (n / 10) ++ [48 + ((n % 10 : Nat) : Int)] := by
  unfold txtI; rw [txt_big h hm]
  have : (UInt8.ofNat (48 + n % 10)).toNat = 48 + n % 10 := by simp only [UInt8.toNat_ofNat']; omega
  simp only [List.map_append, List.map_cons, List.map_nil, this]; rfl
theorem txt_back (z : Nat → Int) (a : Nat) : ∀ f n : Nat, n ≤ f → n ≤ 2147483647 → (∀ j, j < (txtI n).length → z (a + j) = (txtI n).getD j 0) →
    val z a (txtI n).length = n ∧ (∀ j, j < (txtI n).length → dgt (z (a + j)) = true) ∧ (1 < (txtI n).length → z a ≠ 48) := by
  intro f
  induction f with
  | zero =>
    intro n hn _ hz
    obtain rfl : n = 0 := by omega
    rw [txtI_small (by omega)] at hz ⊢
    have h0 := hz 0 (by simp)
    simp at h0
    refine ⟨by simp [val, h0], fun j hj => ?_, by simp⟩
    obtain rfl : j = 0 := by simpa using hj
    rw [Nat.add_zero, h0, dgt_iff]; omega
  | succ f ih =>
    intro n hn hm hz
    by_cases h9 : n ≤ 9
    · rw [txtI_small h9] at hz ⊢
      have h0 := hz 0 (by simp)
      simp at h0
      refine ⟨by simp [val, h0]; omega, fun j hj => ?_, by simp⟩
      obtain rfl : j = 0 := by simpa using hj
      rw [Nat.add_zero, h0, dgt_iff]; omega
    · have e := txtI_big (n := n) (by omega) hm
      rw [e] at hz ⊢
      have hl : (txtI (n / 10) ++ [48 + ((n % 10 : Nat) : Int)]).length = (txtI (n / 10)).length + 1 := by simp
      rw [hl] at hz ⊢
      obtain ⟨i1, i2, i3⟩ := ih (n / 10) (by omega) (by omega) (fun j hj => by
        rw [hz j (by omega), List.getD_eq_getElem?_getD, List.getD_eq_getElem?_getD, List.getElem?_append_left hj])
      have hlast := hz (txtI (n / 10)).length (by omega)
      rw [List.getD_eq_getElem?_getD, List.getElem?_append_right (by omega)] at hlast
      simp at hlast
      have hlen1 : 1 ≤ (txtI (n / 10)).length := by rw [txtI_len]; exact (txt_len _).1
      refine ⟨?_, fun j hj => ?_, fun _ => ?_⟩
      · rw [val, i1, hlast]; omega
      · by_cases ej : j = (txtI (n / 10)).length
        · rw [ej, hlast, dgt_iff]; omega
        · exact i2 j (by omega)
      · by_cases e1 : 1 < (txtI (n / 10)).length
        · exact i3 e1
        · have e2 : (txtI (n / 10)).length = 1 := by omega
          rw [e2] at i1
          simp [val] at i1
          omega
/-- A number comes back from its text. -/
theorem parse_back {z : Nat → Int} {len a n : Nat} (hn : n ≤ 2147483647) (hl : a + (txtI n).length ≤ len) (hz : ∀ j, j < (txtI n).length → z (a + j) = (txtI n).getD j 0)
    (he : a + (txtI n).length = len ∨ dgt (z (a + (txtI n).length)) = false) : parse z len (a : Int) = ((n : Int), ((a + (txtI n).length : Nat) : Int), true) := by
  obtain ⟨h1, h2, h3⟩ := txt_back z a n n (Nat.le_refl _) hn hz
  have hb := txt_len n
  rw [← txtI_len] at hb
  rw [parse_to hl hb.1 (okm_iff.2 ⟨hb.1, hb.2, fun g => h3 g.1 g.2, by rw [h1]; omega⟩) h2 (by rcases he with g | g <;> simp [g]), h1]

/-- Numbers' texts, a blank ahead of each. -/
def flat : List Int → List Int
  | [] => []
  | n :: l => 32 :: (txtI n.toNat ++ flat l)
theorem flat_append : ∀ l m : List Int, flat (l ++ m) = flat l ++ flat m
  | [], _ => rfl
  | n :: l, m => by simp [flat, flat_append l m]
theorem flat_len : ∀ l : List Int, l.length ≤ (flat l).length ∧ (flat l).length ≤ 11 * l.length
  | [] => by simp [flat]
  | n :: l => by
    have := flat_len l
    have := txt_len n.toNat
    rw [← txtI_len] at this
    simp [flat]; omega
/-- A list comes back from its texts. -/
theorem lscan_back {z : Nat → Int} {len : Nat} : ∀ (l acc : List Int) (p f : Nat), (∀ n ∈ l, 0 ≤ n ∧ n ≤ 2147483647) → p + (flat l).length ≤ len → len - p ≤ f → (∀ j, j < (flat l).length → z (p + j) = (flat l).getD j 0) →
    (p + (flat l).length = len ∨ (dgt (z (p + (flat l).length)) = false ∧ z (p + (flat l).length) ≠ 32)) → lscan z len f p acc = (acc ++ l, ((p + (flat l).length : Nat) : Int), true)
  | [], acc, p, f, _, hp, hf, hz, he => by
    simp only [flat, List.length_nil, Nat.add_zero, List.append_nil] at *
    exact lscan_stop hf (by intro g; rcases he with h | h; omega; exact h.2 g.2)
  | n :: l, acc, p, f, hl, hp, hf, hz, he => by
    have hn := hl n List.mem_cons_self
    obtain ⟨N, rfl⟩ : ∃ N : Nat, n = N := ⟨n.toNat, by omega⟩
    have hlen : (flat ((N : Int) :: l)).length = 1 + (txtI N).length + (flat l).length := by simp [flat]; omega
    have ht := txt_len N
    rw [← txtI_len] at ht
    rw [hlen] at hp hz he ⊢
    have hflat : flat ((N : Int) :: l) = 32 :: (txtI N ++ flat l) := by simp [flat]
    rw [hflat] at hz
    have h0 := hz 0 (by omega)
    simp at h0
    have hz1 : ∀ j, j < (txtI N).length → z (p + 1 + j) = (txtI N).getD j 0 := fun j hj => by
      have := hz (1 + j) (by omega)
      rw [← Nat.add_assoc] at this
      rw [this, List.getD_eq_getElem?_getD, List.getD_eq_getElem?_getD, Nat.add_comm 1 j, List.getElem?_cons_succ, List.getElem?_append_left hj]
    have hz2 : ∀ j, j < (flat l).length → z (p + 1 + (txtI N).length + j) = (flat l).getD j 0 := fun j hj => by
      have := hz ((txtI N).length + j + 1) (by omega)
      rw [show p + 1 + (txtI N).length + j = p + ((txtI N).length + j + 1) by omega, this, List.getD_eq_getElem?_getD, List.getD_eq_getElem?_getD, List.getElem?_cons_succ, List.getElem?_append_right (by omega)]
      simp
    have hpar := parse_back (z := z) (len := len) (a := p + 1) (n := N) (by omega) (by omega) hz1 (by
      cases l with
      | nil =>
        simp only [flat, List.length_nil, Nat.add_zero] at he
        rcases he with h | h
        · left; omega
        · right; rw [show p + 1 + (txtI N).length = p + (1 + (txtI N).length) by omega]; exact h.1
      | cons m l =>
        right
        have := hz2 0 (by simp [flat])
        simp [flat] at this
        rw [this]; rfl)
    rw [lscan_go hf ⟨by omega, h0⟩ (t := p + 1 + (txtI N).length) (n := (N : Int)) (by simpa using hpar)]
    rw [lscan_back l (acc ++ [(N : Int)]) (p + 1 + (txtI N).length) (f - 1) (fun m hm => hl m (List.mem_cons_of_mem _ hm)) (by omega) (by omega) hz2 (by
      rcases he with h | h
      · left; omega
      · right; rw [show p + 1 + (txtI N).length + (flat l).length = p + (1 + (txtI N).length + (flat l).length) by omega]; exact h)]
    simp
    omega
theorem lst_back {z : Nat → Int} {len : Nat} (l : List Int) (p : Nat) (hl : ∀ n ∈ l, 0 ≤ n ∧ n ≤ 2147483647) (hp : p + (flat l).length ≤ len) (hz : ∀ j, j < (flat l).length → z (p + j) = (flat l).getD j 0)
    (he : p + (flat l).length = len ∨ (dgt (z (p + (flat l).length)) = false ∧ z (p + (flat l).length) ≠ 32)) : lst z len (p : Int) = (l, ((p + (flat l).length : Nat) : Int), true) := by
  rw [lst_in (by omega), lscan_back l [] p (len - p) hl hp (Nat.le_refl _) hz he]; simp
end Go.Proofs.Ytigmgkcojifbcaa.Dig
