/- Rows of truths, and of numbers, that are read, or that are a call's own. -/
import Derived.Test.YtbljbhgelcakdaaDoorBitPlain
import Derived.Test.YtbljbhgelcakdaaDoorApp
import Derived.Test.YtbljbhgelcakdaaDoorMem
import Derived.Laws.MakeOwn
import Derived.Laws.OwnMore
namespace Go.Proofs.YtbljbhgelcakdaaDoor.Bit
open Go.RowKit Go.Proofs.YtbljbhgelcakdaaDoor.Dig Go.Proofs.YtbljbhgelcakdaaDoor.Mem
set_option linter.unusedVariables false
set_option linter.unusedSimpArgs false

structure RowB (w : World) (a : Option Addr) (c : Nat) (m : List Bool) : Prop where
  cap : m.length ≤ c
  le : m.length ≤ 1000000000000
  rd : ∀ i, i < m.length → ∃ b off, a = some ⟨b, off, none⟩ ∧ w.cell? ⟨b, off + i, none⟩ = some (.bool (m.getD i false))
  nil : a = none → c = 0
theorem RowB.keep {w w' : World} {a : Option Addr} {c : Nat} {m : List Bool} (h : RowB w a c m) (hb : Below w.heap.size w w') : RowB w' a c m :=
  ⟨h.cap, h.le, fun i hi => by
    obtain ⟨b, off, e, hc⟩ := h.rd i hi
    exact ⟨b, off, e, by rw [hb.cell (lt_of_cell hc)]; exact hc⟩, h.nil⟩
theorem RowB.at {w : World} {a : Option Addr} {c : Nat} {m : List Bool} (h : RowB w a c m) {i : Nat} (hi : i < m.length) : ∃ b off, a = some ⟨b, off, none⟩ ∧ w.cell? ⟨b, off + i, none⟩ = some (.bool (m.getD i false)) := h.rd i hi
/-- A slice value that reads a list of numbers. -/
structure RowI (w : World) (a : Option Addr) (c : Nat) (l : List Int) : Prop where
  cap : l.length ≤ c
  rd : Rd .i64 w a l.length (fun i => l.getD i 0)
  nil : a = none → c = 0
theorem RowI.keep {w w' : World} {a : Option Addr} {c : Nat} {l : List Int} (h : RowI w a c l) (hb : Below w.heap.size w w') : RowI w' a c l := ⟨h.cap, h.rd.keep hb, h.nil⟩
theorem RowI.at {w : World} {a : Option Addr} {c : Nat} {l : List Int} (h : RowI w a c l) {i : Nat} (hi : i < l.length) : ∃ b off, a = some ⟨b, off, none⟩ ∧ w.cell? ⟨b, off + i, none⟩ = some (.int .i64 (l.getD i 0)) := by
  obtain ⟨b, off, e, hc, _⟩ := h.rd.2 i hi
  exact ⟨b, off, e, hc⟩
theorem RowI.wf {w : World} {a : Option Addr} {c : Nat} {l : List Int} (h : RowI w a c l) : ∀ n ∈ l, (Lit.int .i64 n).wf = true := fun n hn => by
  obtain ⟨i, hi, e⟩ := List.getElem_of_mem hn
  obtain ⟨_, _, _, _, hw⟩ := h.rd.2 i hi
  have : (fun i => l.getD i 0) i = n := by show l.getD i 0 = n; rw [List.getD_eq_getElem?_getD, List.getElem?_eq_getElem hi]; exact e
  rw [this] at hw
  exact hw
theorem Tryd.infoBool : (Tryd.prog.info? 4).map (fun i => (i.zero, i.size, i.bytes)) = some (some (.bool false), 1, 1) := by kernel_rfl
theorem Tryd.infoInt : (Tryd.prog.info? 3).map (fun i => (i.zero, i.size, i.bytes)) = some (some (.int .i64 0), 1, 8) := by kernel_rfl
/-- A row of truths of the call's own. -/
def OwnB (base : Nat) (w : World) (v : Value) (m : List Bool) : Prop := w.ownsRow base 4 1 v m.length (m.map Value.bool)
def OwnI (base : Nat) (w : World) (v : Value) (l : List Int) : Prop := w.ownsRow base 3 1 v l.length (l.map (Value.int .i64))
/-- A row that lies in no block older than B. -/
def Fresh (B : Nat) (a : Option Addr) : Prop := ∀ x, a = some x → B ≤ x.block
theorem fresh_own {w : World} {base e : TypeId} {a : Option Addr} {n c : Nat} {xs : List Value} (h : w.ownsRow base e 1 (.slice a n c) n xs) : Fresh base a := fun x e => by
  subst e
  exact (World.ownsRow.lt h x.block rfl).1
theorem OwnB.row {base : Nat} {w : World} {v : Value} {m : List Bool} (h : OwnB base w v m) (hl : m.length ≤ 1000000000000) : ∃ a c, v = .slice a m.length c ∧ RowB w a c m ∧ Fresh base a := by
  rcases h.2 with ⟨rfl, h0⟩ | ⟨g, cap, cur, rfl, _, _, h1, _, _, _⟩
  · exact ⟨none, 0, by rw [h0], ⟨by omega, hl, fun i hi => by omega, fun _ => rfl⟩, fun x e => by cases e⟩
  · refine ⟨_, cap, rfl, ⟨h1, hl, fun i hi => ⟨g, 0, rfl, ?_⟩, fun e => (by cases e)⟩, fresh_own h⟩
    rw [Nat.zero_add, World.ownsRow.cellAt h i (by omega), List.getElem?_map, List.getD_eq_getElem?_getD, List.getElem?_eq_getElem hi]
    rfl
theorem OwnI.row {base : Nat} {w : World} {v : Value} {l : List Int} (h : OwnI base w v l) (hl : l.length ≤ 1000000000000) (hw : ∀ n ∈ l, (Lit.int .i64 n).wf = true) : ∃ a c, v = .slice a l.length c ∧ RowI w a c l ∧ Fresh base a := by
  obtain ⟨a, cap, e, h1, h2⟩ := Rd.own h hl hw
  refine ⟨a, cap, e, ⟨h1, h2, fun q => ?_⟩, by subst e; exact fresh_own h⟩
  subst q
  rcases h.2 with ⟨hv, _⟩ | ⟨g, cap', cur, hv, _⟩
  · rw [hv] at e; injection e with e1 e2 e3; exact e3.symm
  · rw [hv] at e; injection e with e1; cases e1
theorem own_form {w : World} {base e : TypeId} {v : Value} {n : Nat} {xs : List Value} (h : w.ownsRow base e 1 v n xs) : ∃ a c, v = .slice a n c := by
  rcases h.2 with ⟨rfl, h0⟩ | ⟨g, cap, cur, rfl, _⟩
  · have : n = 0 := by omega
    exact ⟨none, 0, by rw [this]⟩
  · exact ⟨_, _, rfl⟩
theorem owns_below {w w' : World} {e base : TypeId} {v : Value} {n : Nat} {xs : List Value} (h : w.ownsRow base e 1 v n xs) (hb : Below w.heap.size w w') : w'.ownsRow base e 1 v n xs := by
  refine ⟨h.1, ?_⟩
  rcases h.2 with hn | ⟨g, cap, cur, rfl, hg, hh, r⟩
  · exact .inl hn
  · have hlt : g < w.heap.size := by
      rcases Nat.lt_or_ge g w.heap.size with q | q
      · exact q
      · simp [Array.getElem?_eq_none q] at hh
    exact .inr ⟨g, cap, cur, rfl, hg, by rw [hb.block g hlt]; exact hh, r⟩
theorem OwnB.empty {base b : Nat} {w : World} (hb : b = w.heap.size) (hB : base ≤ w.heap.size) : OwnB base (w.alloc (.cells #[] 4)) (.slice (some ⟨b, 0, none⟩) 0 0) [] := by
  subst hb
  exact World.ownsRow_made (e := 4) (size := 1) w #[] 0 hB (by unfold maxLen; omega) rfl
/-- A truth of an own row is turned. -/
theorem OwnB.put {base : Nat} {w : World} {a : Option Addr} {c n : Nat} {m : List Bool} (h : OwnB base w (.slice a n c) m) {k : Nat} (hk : k < m.length) : ∃ g, a = some ⟨g, 0, none⟩ ∧ base ≤ g ∧ g < w.heap.size ∧ w.cell? ⟨g, k, none⟩ = some (.bool (m.getD k false)) ∧ w.frozen? ⟨g, k, none⟩ = false ∧ n = m.length ∧ ∀ x : Bool, OwnB base (w.setCell ⟨g, k, none⟩ (.bool x)) (.slice a n c) (m.set k x) := by
  rcases h.2 with ⟨hv, h0⟩ | ⟨g, cap, cur, hv, hb, hh, h1, _⟩
  · omega
  · injection hv with e1 e2 e3
    subst e1 e2 e3
    have hlt : g < w.heap.size := by
      rcases Nat.lt_or_ge g w.heap.size with q | q
      · exact q
      · simp [Array.getElem?_eq_none q] at hh
    refine ⟨g, rfl, hb, hlt, ?_, World.ownsRow.frozenAt h k, rfl, fun x => ?_⟩
    · rw [World.ownsRow.cellAt h k (by omega), List.getElem?_map, List.getD_eq_getElem?_getD, List.getElem?_eq_getElem hk]
      rfl
    · have := (World.ownsRow.stored h k (.bool x)).1
      unfold OwnB
      rw [List.length_set, List.map_set]
      exact this
theorem mk_bools (base n : Nat) (hn : n ≤ 65536) : ∃ C : Array Value, ∀ w : World, base ≤ w.heap.size → (Instr.makeSlice 26 (.int .i64 (n : Int)) (.int .i64 (n : Int))).run Tryd.prog w = .ok (.slice (some ⟨w.heap.size, 0, none⟩) n n) (w.alloc (.cells C 4)) ∧ OwnB base (w.alloc (.cells C 4)) (.slice (some ⟨w.heap.size, 0, none⟩) n n) (List.replicate n false) := by
  obtain ⟨i0, hi, hz0, hz1, hz2⟩ := info_parts Tryd.infoBool
  refine ⟨madeCells (Value.bool false).cells (n * i0.size), fun w hb => ?_⟩
  have hr := run_makeSlice (P := Tryd.prog) w 26 4 i0 (.bool false) Tryd.underlying26 hi hz0 .i64 .i64 (n : Int) (n : Int) (by omega) (Int.le_refl _) (by rw [hz1]; simp; omega) (by rw [hz2]; omega) (by omega)
  simp only [Int.toNat_natCast] at hr
  refine ⟨hr, ?_⟩
  have e : (madeCells (Value.bool false).cells (n * i0.size)).toList = (List.replicate n false).map Value.bool := by
    rw [hz1, Nat.mul_one, show (Value.bool false).cells = #[.bool false] from rfl, toList_madeCells_one]; simp
  unfold OwnB
  rw [List.length_replicate, ← e]
  exact World.ownsRow_lit w _ n hb (by unfold maxLen; omega) (by rw [hz1]; have := size_madeCells (Value.bool false).cells (n * 1); simpa using this)
/-- append of a row of truths that is read. -/
theorem app_bools {w w0 : World} {ops : Array Oper} {rest : List Oper} {o : Oper} {a : Act} {Q : Exit → Act → World → Prop} (hgd : o.guard = none) (s x : Operand)
    (ho : o.op = .call { callee := .builtin .append, args := #[s, x], argTypes := #[26, 26] }) (base : Nat) (v : Value) (l : List Bool) (hs : a.eval s = v) (hown : OwnB base w v l)
    (ao : Option Addr) (c m : Nat) (r : List Bool) (hx : a.eval x = .slice ao m c) (hm : m = r.length) (hr : RowB w ao c r) (hb : l.length + r.length ≤ 1000000) (hbase : base ≤ w.heap.size) (hbel : Below base w0 w)
    (h : ∀ v' w', OwnB base w' v' (l ++ r) → Below base w0 w' → w.heap.size ≤ w'.heap.size → wpList Tryd.prog ops Q rest (a.put o.dst v') w') : wpList Tryd.prog ops Q (o :: rest) a w := by
  obtain ⟨i0, hi, hz0, hz1, hz2⟩ := info_parts Tryd.infoBool
  subst hm
  cases ao with
  | none =>
    have hr0 : r = [] := by
      cases r with
      | nil => rfl
      | cons y r => obtain ⟨b, off, e', _⟩ := hr.at (i := 0) (by simp); cases e'
    subst hr0
    have hc : c = 0 := hr.nil rfl
    subst hc
    exact wpList_append_own_none hgd s x 26 ho base 4 i0 1 Tryd.underlying26 hi v l.length (l.map Value.bool) hs hown hx (h v w (by simpa using hown) hbel (Nat.le_refl _))
  | some ad =>
    refine wpList_append_own w hgd s x 26 ho base 4 i0 (.bool false) 1 1 Tryd.underlying26 hi hz0 hz1 hz2 rfl (by decide) v l.length (l.map Value.bool) hs hown ad r.length c (r.map Value.bool) hx (by simp) ?_ ?_ (by unfold maxLen; omega) (by omega) hbase ?_
    · intro j u hu
      rw [List.getElem?_map] at hu
      have hj : j < r.length := by
        rcases Nat.lt_or_ge j r.length with q | q
        · exact q
        · rw [List.getElem?_eq_none q] at hu; simp at hu
      obtain ⟨b, off, hab, hc⟩ := hr.at hj
      obtain rfl := Option.some.inj hab
      rw [Addr.add_lit, hc, ← hu]
      simp [List.getD_eq_getElem?_getD, List.getElem?_eq_getElem hj]
    · intro u hu
      obtain ⟨n, _, rfl⟩ := List.mem_map.1 hu
      rfl
    · intro v' w' hown' hgrow _
      refine h v' w' ?_ (hbel.grown hgrow hbase (fun k hk => (World.ownsRow.lt hown k hk).1)) hgrow.size
      unfold OwnB
      rw [List.length_append, List.map_append]
      exact hown'
end Go.Proofs.YtbljbhgelcakdaaDoor.Bit
