/- Joined out of the texts App, DqRow, RowApp, DqKeep, Things, OwnKit, in that order. -/
import Derived.Test.YtofgfcebkmdhcaaAll2
import Derived.Laws.AppendOwnNone
import Derived.Lib.AppendStr
import Derived.Test.YtofgfcebkmdhcaaAll1
import Derived.Laws.MakeOwn
import Derived.Laws.OwnMore
import Derived.Deep.RegionLaw
import Derived.Deep.DeepMust
import Derived.Maps.AppendAt
import Derived.RangeFuncBox
import Derived.RangeFuncNested
import Derived.Deep.RegionHeld
/- A row of numbers that a call made itself, and what an append to it leaves: of another row, whatever its address, and of a string's bytes. -/
namespace Go.Proofs.Ytofgfcebkmdhcaa.Dig
open Go.RowKit
set_option linter.unusedVariables false
set_option linter.unusedSimpArgs false

/-- v is a row of the call's own (its blocks are numbered from base on) that holds the numbers l. -/
def Own (e : TypeId) (k : IntKind) (base : Nat) (w : World) (v : Value) (l : List Int) : Prop := w.ownsRow base e 1 v l.length (l.map (Value.int k))

theorem Own.nil (e : TypeId) (k : IntKind) (base : Nat) (w : World) : Own e k base w (.slice none 0 0) [] := World.ownsRow_nil _ _ _ _
theorem Own.empty (e : TypeId) (k : IntKind) (base : Nat) (w : World) (n : Nat) (hn : n = w.heap.size) (hb : base ≤ w.heap.size) : Own e k base (w.alloc (.cells #[] e)) (.slice (some ⟨n, 0, none⟩) 0 0) [] := by
  subst hn
  exact World.ownsRow_made w #[] 0 hb (by unfold maxLen; omega) (by simp)
theorem Own.lt {e : TypeId} {k : IntKind} {base : Nat} {w : World} {v : Value} {l : List Int} (h : Own e k base w v l) : ∀ b, v.ownBlock = some b → base ≤ b ∧ b < w.heap.size := World.ownsRow.lt h
theorem Own.keep {e : TypeId} {k : IntKind} {base : Nat} {w w' : World} {v : Value} {l : List Int} (h : Own e k base w v l) (hb : Below w.heap.size w w') : Own e k base w' v l := by
  refine ⟨h.1, ?_⟩
  rcases h.2 with hn | ⟨g, cap, cur, rfl, hg, hh, r⟩
  · exact .inl hn
  · have hlt : g < w.heap.size := by
      rcases Nat.lt_or_ge g w.heap.size with q | q
      · exact q
      · simp [Array.getElem?_eq_none q] at hh
    exact .inr ⟨g, cap, cur, rfl, hg, by rw [hb.block g hlt]; exact hh, r⟩
theorem Own.alloc {e : TypeId} {k : IntKind} {base : Nat} {w : World} {v : Value} {l : List Int} (h : Own e k base w v l) (o : Obj) : Own e k base (w.alloc o) v l := World.ownsRow.alloc h o
/-- Its shape, and how it is read. -/
theorem Own.shape {e : TypeId} {k : IntKind} {base : Nat} {w : World} {v : Value} {l : List Int} (h : Own e k base w v l) (hl : l.length ≤ 1000000000000) (hw : ∀ n ∈ l, (Lit.int k n).wf = true) :
    ∃ a cap, v = .slice a l.length cap ∧ l.length ≤ cap ∧ Rd k w a l.length (fun i => l.getD i 0) := by
  have h' := h
  unfold Own at h'
  rcases h.2 with ⟨hv, h0⟩ | ⟨g, cap, cur, hv, hg, hh, hc1, hc2, hc3, hc4⟩
  · have : l = [] := by cases l with
      | nil => rfl
      | cons x l => simp at h0
    subst this
    exact ⟨none, 0, hv, by simp, by simp, fun i hi => by simp at hi⟩
  · refine ⟨_, cap, hv, hc1, hl, fun i hi => ⟨g, 0, rfl, ?_, ?_⟩⟩
    · subst hv
      rw [Nat.zero_add, h'.cellAt i (by omega)]
      simp [List.getD_eq_getElem?_getD, List.getElem?_eq_getElem hi]
    · simp only [List.getD_eq_getElem?_getD, List.getElem?_eq_getElem hi, Option.getD_some]
      exact hw _ (List.getElem_mem hi)

/-- The same with its length and its elements named. -/
theorem Own.view {e : TypeId} {k : IntKind} {base : Nat} {w : World} {v : Value} {l : List Int} (h : Own e k base w v l) (hl : l.length ≤ 1000000000000) (hw : ∀ n ∈ l, (Lit.int k n).wf = true) :
    ∃ a cap n z, v = .slice a n cap ∧ Hid (n = l.length) ∧ Hid (z = fun i => l.getD i 0) ∧ n ≤ cap ∧ Rd k w a n z := by
  obtain ⟨a, cap, rfl, h1, h2⟩ := h.shape hl hw
  exact ⟨a, cap, _, _, rfl, rfl, rfl, h1, h2⟩
theorem wf_u8 {n : Int} (h0 : 0 ≤ n) (h1 : n ≤ 255) : (Lit.int .u8 n).wf = true := WalkArith.wf_u8 (by omega)
theorem wf_txtI (n : Nat) : ∀ x ∈ (txt n).map (fun b : UInt8 => (b.toNat : Int)), (Lit.int .u8 x).wf = true := by
  intro x hx
  obtain ⟨b, _, rfl⟩ := List.mem_map.1 hx
  have := b.toNat_lt
  exact wf_u8 (by omega) (by omega)

section
variable {P : Program} {w w0 : World} {ops : Array Oper} {rest : List Oper} {o : Oper} {a : Act} {Q : Exit → Act → World → Prop}
/-- append(v, x...), x whatever row of numbers. -/
theorem app_slice (hgd : o.guard = none) (s x : Operand) (t : TypeId) (ho : o.op = .call { callee := .builtin .append, args := #[s, x], argTypes := #[t, t] })
    (e : TypeId) (i : TypeInfo) (z : Value) (bytes : Nat) (ht : P.underlying t = some (.slice e)) (hi : P.info? e = some i) (hz : i.zero = some z) (hsize : i.size = 1) (hby : i.bytes = bytes) (hzs : z.cells.size = 1) (hb8 : bytes ≤ 8)
    (k : IntKind) (base : Nat) (v : Value) (l : List Int) (hs : a.eval s = v) (hown : Own e k base w v l) (ao : Option Addr) (m c : Nat) (ns : List Int) (hx : a.eval x = .slice ao m c) (hm : ns.length = m)
    (hr : Rd k w ao m (fun i => ns.getD i 0)) (hnil : ao = none → m = 0 ∧ c = 0) (hb : l.length + m ≤ 1000000) (hbase : base ≤ w.heap.size) (B : Nat) (hB : B ≤ base) (hbel : Below B w0 w)
    (h : ∀ v' w', Own e k base w' v' (l ++ ns) → Below B w0 w' → w.heap.size ≤ w'.heap.size → wpList P ops Q rest (a.put o.dst v') w') : wpList P ops Q (o :: rest) a w := by
  cases ao with
  | none =>
    obtain ⟨rfl, rfl⟩ := hnil rfl
    have : ns = [] := List.eq_nil_of_length_eq_zero hm
    subst this
    exact wpList_append_own_none hgd s x t ho base e i 1 ht hi v l.length (l.map (Value.int k)) hs hown hx (h v w (by simpa using hown) hbel (Nat.le_refl _))
  | some ad =>
    refine wpList_append_own w hgd s x t ho base e i z 1 bytes ht hi hz hsize hby hzs (by omega) v l.length (l.map (Value.int k)) hs hown ad m c (ns.map (Value.int k)) hx (by simp [hm]) ?_ ?_ (by unfold maxLen; omega) ?_ hbase ?_
    · intro j u hu
      rw [List.getElem?_map] at hu
      have hj : j < ns.length := by
        rcases Nat.lt_or_ge j ns.length with q | q
        · exact q
        · rw [List.getElem?_eq_none q] at hu; simp at hu
      obtain ⟨b, off, hab, hc, _⟩ := hr.2 j (by omega)
      obtain rfl := Option.some.inj hab
      rw [Addr.add_lit, hc, ← hu]
      simp [List.getD_eq_getElem?_getD, List.getElem?_eq_getElem hj]
    · intro u hu
      obtain ⟨n, _, rfl⟩ := List.mem_map.1 hu
      rfl
    · have : (l.length + m) * bytes ≤ (l.length + m) * 8 := Nat.mul_le_mul_left _ hb8
      omega
    · intro v' w' hown' hgrow _
      refine h v' w' ?_ (hbel.grown hgrow (Nat.le_trans hB hbase) (fun k hk => Nat.le_trans hB (hown.lt k hk).1)) hgrow.size
      unfold Own
      rw [List.length_append, List.map_append, hm]
      exact hown'
theorem strCells_of (l : List UInt8) : Lib.strCells ⟨l.toArray⟩ = (l.map fun b => (b.toNat : Int)).map (Value.int .u8) := by simp [Lib.strCells, Function.comp_def]
/-- append(v, s...), s a string. -/
theorem app_string (hgd : o.guard = none) (s x : Operand) (t u : TypeId) (ho : o.op = .call { callee := .builtin .append, args := #[s, x], argTypes := #[t, u] })
    (e : TypeId) (i : TypeInfo) (ht : P.underlying t = some (.slice e)) (hu : P.underlying u = some .string) (hi : P.info? e = some i) (hz : i.zero = some (.int .u8 0)) (hsize : i.size = 1) (hby : i.bytes = 1)
    (base : Nat) (v : Value) (l : List Int) (hs : a.eval s = v) (hown : Own e .u8 base w v l) (ns : List UInt8) (hx : a.eval x = .string ⟨ns.toArray⟩)
    (hb : l.length + ns.length ≤ 1000000) (hbase : base ≤ w.heap.size) (B : Nat) (hB : B ≤ base) (hbel : Below B w0 w)
    (h : ∀ v' w', Own e .u8 base w' v' (l ++ ns.map fun b => (b.toNat : Int)) → Below B w0 w' → w.heap.size ≤ w'.heap.size → wpList P ops Q rest (a.put o.dst v') w') : wpList P ops Q (o :: rest) a w := by
  have hsz : ByteArray.size ⟨ns.toArray⟩ = ns.length := by simp [ByteArray.size]
  refine Lib.wpList_append_own_string w hgd s x t u ho base e i ht hu hi hz hsize hby v l.length (l.map (Value.int .u8)) hs hown ⟨ns.toArray⟩ hx (by rw [hsz]; unfold maxLen; omega) (by rw [hsz]; omega) hbase ?_
  intro v' w' hown' hgrow _
  refine h v' w' ?_ (hbel.grown hgrow (Nat.le_trans hB hbase) (fun k hk => Nat.le_trans hB (hown.lt k hk).1)) hgrow.size
  unfold Own
  rw [List.length_append, List.map_append, List.length_map, ← strCells_of]
  rw [hsz] at hown'
  exact hown'
end
end Go.Proofs.Ytofgfcebkmdhcaa.Dig

/- Rows of numbers that are read, or that are a call's own; parts of them; append; the document's Same. -/
namespace Go.Proofs.Ytofgfcebkmdhcaa.Dq
open Go.RowKit Go.Proofs.Ytofgfcebkmdhcaa.Dig Go.Proofs.Ytofgfcebkmdhcaa.Mem
set_option linter.unusedVariables false
set_option linter.unusedSimpArgs false

/-- A slice value that reads a list of numbers. -/
structure RowI (w : World) (a : Option Addr) (c : Nat) (l : List Int) : Prop where
  cap : l.length ≤ c
  rd : Rd .i64 w a l.length (fun i => l.getD i 0)
  nil : a = none → c = 0
theorem RowI.keep {w w' : World} {a : Option Addr} {c : Nat} {l : List Int} (h : RowI w a c l) (hb : Below w.heap.size w w') : RowI w' a c l := ⟨h.cap, h.rd.keep hb, h.nil⟩
theorem RowI.at {w : World} {a : Option Addr} {c : Nat} {l : List Int} (h : RowI w a c l) {i : Nat} (hi : i < l.length) : ∃ b off, a = some ⟨b, off, none⟩ ∧ w.cell? ⟨b, off + i, none⟩ = some (.int .i64 (l.getD i 0)) := by
  obtain ⟨b, off, e, hc, _⟩ := h.rd.2 i hi
  exact ⟨b, off, e, hc⟩
theorem RowI.wf {w : World} {a : Option Addr} {c : Nat} {l : List Int} (h : RowI w a c l) : ∀ n ∈ l, (Lit.int .i64 n).wf = true := fun n hn => by
  obtain ⟨i, hi, e⟩ := List.getElem_of_mem hn
  obtain ⟨_, _, _, _, hw⟩ := h.rd.2 i hi
  have : (fun i => l.getD i 0) i = n := by show l.getD i 0 = n; rw [List.getD_eq_getElem?_getD, List.getElem?_eq_getElem hi]; exact e
  rw [this] at hw
  exact hw
theorem Try.infoInt : (Try.prog.info? 3).map (fun i => (i.zero, i.size, i.bytes)) = some (some (.int .i64 0), 1, 8) := by kernel_rfl
def OwnI (base : Nat) (w : World) (v : Value) (l : List Int) : Prop := w.ownsRow base 3 1 v l.length (l.map (Value.int .i64))
/-- A row that lies in no block older than B. -/
def Fresh (B : Nat) (a : Option Addr) : Prop := ∀ x, a = some x → B ≤ x.block
theorem fresh_own {w : World} {base e : TypeId} {a : Option Addr} {n c : Nat} {xs : List Value} (h : w.ownsRow base e 1 (.slice a n c) n xs) : Fresh base a := fun x e => by
  subst e
  exact (World.ownsRow.lt h x.block rfl).1
theorem OwnI.row {base : Nat} {w : World} {v : Value} {l : List Int} (h : OwnI base w v l) (hl : l.length ≤ 1000000000000) (hw : ∀ n ∈ l, (Lit.int .i64 n).wf = true) : ∃ a c, v = .slice a l.length c ∧ RowI w a c l ∧ Fresh base a := by
  obtain ⟨a, cap, e, h1, h2⟩ := Rd.own h hl hw
  refine ⟨a, cap, e, ⟨h1, h2, fun q => ?_⟩, by subst e; exact fresh_own h⟩
  subst q
  rcases h.2 with ⟨hv, _⟩ | ⟨g, cap', cur, hv, _⟩
  · rw [hv] at e; injection e with e1 e2 e3; exact e3.symm
  · rw [hv] at e; injection e with e1; cases e1
theorem own_form {w : World} {base e : TypeId} {v : Value} {n : Nat} {xs : List Value} (h : w.ownsRow base e 1 v n xs) : ∃ a c, v = .slice a n c := by
  rcases h.2 with ⟨rfl, h0⟩ | ⟨g, cap, cur, rfl, _⟩
  · have : n = 0 := by omega
    exact ⟨none, 0, by rw [this]⟩
  · exact ⟨_, _, rfl⟩
theorem owns_below {w w' : World} {e base : TypeId} {v : Value} {n : Nat} {xs : List Value} (h : w.ownsRow base e 1 v n xs) (hb : Below w.heap.size w w') : w'.ownsRow base e 1 v n xs := by
  refine ⟨h.1, ?_⟩
  rcases h.2 with hn | ⟨g, cap, cur, rfl, hg, hh, r⟩
  · exact .inl hn
  · have hlt : g < w.heap.size := by
      rcases Nat.lt_or_ge g w.heap.size with q | q
      · exact q
      · simp [Array.getElem?_eq_none q] at hh
    exact .inr ⟨g, cap, cur, rfl, hg, by rw [hb.block g hlt]; exact hh, r⟩
/-- A row, up to a place. -/
theorem rowi_take {w : World} {a : Option Addr} {c : Nat} {l : List Int} (hW : RowI w a c l) (m : Nat) : RowI w a c (l.take m) := by
  refine ⟨by have := hW.cap; rw [List.length_take]; omega, ⟨by have := hW.rd.1; rw [List.length_take]; omega, fun i hi => ?_⟩, fun e => ?_⟩
  · rw [List.length_take] at hi
    obtain ⟨b, off, rfl, hcell, hwf⟩ := hW.rd.2 i (by omega)
    have him : i < m := by omega
    have e : (l.take m).getD i 0 = l.getD i 0 := by simp [List.getD_eq_getElem?_getD, List.getElem?_take, him]
    refine ⟨b, off, rfl, ?_, ?_⟩
    · show _ = some (Value.int .i64 ((l.take m).getD i 0))
      rw [e]
      exact hcell
    · show (Lit.int .i64 ((l.take m).getD i 0)).wf = true
      rw [e]
      exact hwf
  · have := hW.nil e
    omega
/-- A row, from a place on. -/
theorem slice_from {w : World} {a : Option Addr} {c : Nat} {l : List Int} (h : RowI w a c l) (m : Nat) (hm : m ≤ l.length) :
    ∃ a2 c2, (∀ W : World, (Instr.slice 36 (.slice a l.length c) (some (.int .i64 (m : Int))) none none).run Try.prog W = .ok (.slice a2 (l.drop m).length c2) W) ∧ ∀ W, RowI W a c l → RowI W a2 c2 (l.drop m) := by
  have hel : Try.prog.elem 36 = 3 := by kernel_rfl
  have hu : Try.prog.underlying 36 = some (.slice (Try.prog.elem 36)) := by rw [hel]; exact Try.underlying36
  have hr : ∀ W : World, (Instr.slice 36 (.slice a l.length c) (some (.int .i64 (m : Int))) none none).run Try.prog W = .ok (sliced a m l.length c 1) W := fun W => by
    rw [run_slice_l (t := 36) (a := a) (len := l.length) (cap := c) (w := W) hu .i64 (m : Int) (by omega) (by omega), hel, Try.sizeOf3]
    simp [Result.andThen]
  refine ⟨if c = m then a else a.map (·.add (m * 1)), c - m, fun W => by rw [hr W, List.length_drop]; rfl, fun W hW => ⟨by have := hW.cap; rw [List.length_drop]; omega, ⟨by have := hW.rd.1; rw [List.length_drop]; omega, fun i hi => ?_⟩, fun e => ?_⟩⟩
  · rw [List.length_drop] at hi
    have hc := hW.cap
    obtain ⟨b, off, rfl, hcell, hwf⟩ := hW.rd.2 (m + i) (by omega)
    have e : (l.drop m).getD i 0 = l.getD (m + i) 0 := by simp [List.getD_eq_getElem?_getD]
    refine ⟨b, off + m, ?_, ?_, ?_⟩
    · rw [if_neg (by omega), Nat.mul_one]
      simp [Addr.add_lit]
    · show _ = some (Value.int .i64 ((l.drop m).getD i 0))
      rw [e, Nat.add_assoc]
      exact hcell
    · show (Lit.int .i64 ((l.drop m).getD i 0)).wf = true
      rw [e]
      exact hwf
  · have : a = none := by
      split at e
      · exact e
      · cases a with
        | none => rfl
        | some x => simp at e
    have := hW.nil this
    omega
/-- append of a row that is read. -/
theorem app_rowi {w w0 : World} {ops : Array Oper} {rest : List Oper} {o : Oper} {a : Act} {Q : Exit → Act → World → Prop} (hgd : o.guard = none) (s x : Operand)
    (ho : o.op = .call { callee := .builtin .append, args := #[s, x], argTypes := #[36, 36] }) (base : Nat) (v : Value) (l : List Int) (hs : a.eval s = v) (hown : Dig.Own 3 .i64 base w v l)
    (ao : Option Addr) (c m : Nat) (r : List Int) (hx : a.eval x = .slice ao m c) (hm : m = r.length) (hr : RowI w ao c r) (hb : l.length + r.length ≤ 1000000) (hbase : base ≤ w.heap.size) (hbel : Below base w0 w)
    (h : ∀ v' w', Dig.Own 3 .i64 base w' v' (l ++ r) → Below base w0 w' → w.heap.size ≤ w'.heap.size → wpList Try.prog ops Q rest (a.put o.dst v') w') : wpList Try.prog ops Q (o :: rest) a w := by
  obtain ⟨i0, hi, hz0, hz1, hz2⟩ := info_parts Try.infoInt
  subst hm
  refine app_slice hgd s x 36 ho 3 i0 (.int .i64 0) 8 Try.underlying36 hi hz0 hz1 hz2 rfl (by decide) .i64 base v l hs hown ao r.length c r hx rfl hr.rd (fun e => ⟨?_, hr.nil e⟩) (by omega) hbase base (Nat.le_refl _) hbel h
  cases r with
  | nil => rfl
  | cons y r => obtain ⟨b, off, e', _⟩ := hr.at (i := 0) (by simp); rw [e] at e'; cases e'
theorem ext_getI {a b : List Int} (hl : a.length = b.length) (h : ∀ k, k < a.length → a.getD k 0 = b.getD k 0) : a = b := by
  apply List.ext_getElem hl
  intro i h1 h2
  have := h i h1
  rw [List.getD_eq_getElem?_getD, List.getD_eq_getElem?_getD, List.getElem?_eq_getElem h1, List.getElem?_eq_getElem h2] at this
  exact this
set_option maxHeartbeats 1000000 in
theorem same_is (x y : Option Addr) (c d : Nat) (a b : List Int) (w : World) (ha : RowI w x c a) (hb : RowI w y d b) :
    Calls Try.prog 13 #[.slice x a.length c, .slice y b.length d] w fun e w' => e = .returned (.bool (decide (a = b))) ∧ Below w.heap.size w w' := by
  have l1 := ha.rd.le
  have l2 := hb.rd.le
  by_cases hl : a.length = b.length
  · have HA := hide ha
    have HB := hide hb
    have HX := hide (ext_getI hl)
    obtain ⟨n, hn⟩ : ∃ n, n = a.length := ⟨_, rfl⟩
    have hnb : b.length = n := by rw [hn]; omega
    have HN := hide hn
    have HNB := hide hnb
    rw [← hn, hnb]
    rw [← hn] at l1 HX
    have g0 : ((n : Int) != n) = false := by simp
    clear ha hb hl hn hnb l2
    go_enter Try.func13, Try.ntmps13
    go_wp2
    go_loopw [5] (fun i wr => (∃ k : Nat, k ≤ n ∧ i = .int .i64 (k : Int) ∧ Hid (∀ j, j < k → a.getD j 0 = b.getD j 0)) ∧ Hid (Below w.heap.size w wr)) (fun i _ => n - (intOf i).toNat)
    case atStart => exact ⟨⟨0, by omega, rfl, fun j hj => by omega⟩, Below.refl _ _⟩
    case round =>
      obtain ⟨⟨k, hk, rfl, hx⟩, hbel⟩ := hrel
      by_cases hlt : k < n
      · obtain ⟨b1, o1, rfl, hc1⟩ := (HA.out.keep hbel.out).at (show k < a.length by rw [← HN.out]; exact hlt)
        obtain ⟨b2, o2, rfl, hc2⟩ := (HB.out.keep hbel.out).at (show k < b.length by rw [HNB.out]; exact hlt)
        obtain ⟨p, hp⟩ : ∃ p, p = a.getD k 0 := ⟨_, rfl⟩
        obtain ⟨q, hq⟩ : ∃ q, q = b.getD k 0 := ⟨_, rfl⟩
        rw [← hp] at hc1
        rw [← hq] at hc2
        have HP := hide hp
        have HQ := hide hq
        clear hp hq
        by_cases hpq : p = q
        · have g1 : (p != q) = false := by simp [hpq]
          have HE := hide hpq
          clear hpq
          go_wp2
          go_region
          all_goals
            go_wp2
            go_roundw
            case rel => exact ⟨⟨k + 1, by omega, by go_num, fun j hj => by
              by_cases e : j = k
              · subst e; rw [← HP.out, ← HQ.out]; exact HE.out
              · exact hx.out j (by omega)⟩, by (repeat (first | exact hbel.out | apply Below.drew))⟩
            case measure => simp [intOf]; omega
        · have g1 : (p != q) = true := by simp [hpq]
          have HE : Hid (decide (a = b) = false) := by
            show _ = _
            rw [decide_eq_false_iff_not]
            intro e
            exact hpq (by rw [HP.out, HQ.out, e])
          clear hpq
          go_wp2
          go_region
          all_goals
            go_wp2
            go_ret
            rw [HE.out]
            exact ⟨rfl, by (repeat (first | exact hbel.out | apply Below.drew))⟩
      · obtain rfl : n = k := by omega
        have HE : Hid (decide (a = b) = true) := hide (decide_eq_true (HX.out hx.out))
        have hge : ¬ (n : Int) < n := by omega
        go_wp2
        go_ret
        rw [HE.out]
        exact ⟨rfl, hbel.out⟩
  · have HE : Hid (decide (a = b) = false) := by
      show _ = _
      rw [decide_eq_false_iff_not]
      intro e
      exact hl (by rw [e])
    obtain ⟨n, hn⟩ : ∃ n, n = a.length := ⟨_, rfl⟩
    obtain ⟨m, hm⟩ : ∃ m, m = b.length := ⟨_, rfl⟩
    rw [← hn, ← hm] at hl ⊢
    have g0 : ((n : Int) != m) = true := by simp; omega
    clear ha hb hl hn hm l1 l2
    go_enter Try.func13, Try.ntmps13
    go_wp2
    go_ret
    rw [HE.out]
    exact ⟨rfl, Below.refl _ _⟩
end Go.Proofs.Ytofgfcebkmdhcaa.Dq

/- append to a row of numbers of the call's own, within a region that draws; a row that is laid. -/
namespace Go.Proofs.Ytofgfcebkmdhcaa.Dq
open Go.RowKit Go.Proofs.Ytofgfcebkmdhcaa.Dig Go.Proofs.Ytofgfcebkmdhcaa.Mem
set_option linter.unusedVariables false
set_option linter.unusedSimpArgs false

def WfL (l : List Int) : Prop := ∀ x ∈ l, (Lit.int .i64 x).wf = true
/-- A row of numbers is laid. -/
theorem rowi_made (wx : World) (zs : List Int) (T : TypeId) {p n : Nat} (hp : p = wx.heap.size) (hn : n = zs.length) (hl : zs.length ≤ 100) (hw : WfL zs) : RowI (wx.alloc (.cells (zs.map (Value.int .i64)).toArray T)) (some ⟨p, 0, none⟩) n zs :=
  ⟨by omega, ⟨by omega, fun i hi => ⟨p, 0, rfl, (Is.made wx _ T hp).cell _ (by simp [List.getD_eq_getElem?_getD, List.getElem?_eq_getElem hi]), by
    show (Lit.int .i64 (zs.getD i 0)).wf = true
    rw [List.getD_eq_getElem?_getD, List.getElem?_eq_getElem hi]
    exact hw _ (List.getElem_mem hi)⟩⟩, fun e => by cases e⟩
theorem OwnI.empty {base b : Nat} {w : World} (hb : b = w.heap.size) (hB : base ≤ w.heap.size) : OwnI base (w.alloc (.cells #[] 3)) (.slice (some ⟨b, 0, none⟩) 0 0) [] := by
  subst hb
  exact World.ownsRow_made (e := 3) (size := 1) w #[] 0 hB (by unfold maxLen; omega) rfl
theorem OwnI.keep {base : Nat} {w w' : World} {v : Value} {l : List Int} (h : OwnI base w v l) (hb : Below w.heap.size w w') : OwnI base w' v l := owns_below h hb
/-- append of a row that is read, at a step of a region that draws. -/
theorem step_app_rowi {w w0 : World} {ops : Array Oper} {o : Oper} {a : Act} {K : Act → World → Prop} {Q : Exit → Act → World → Prop} {E : Prop} (hgd : o.guard = none) (s x : Operand)
    (ho : o.op = .call { callee := .builtin .append, args := #[s, x], argTypes := #[36, 36] }) (base : Nat) (v : Value) (l : List Int) (hs : a.eval s = v) (hown : OwnI base w v l)
    (ao : Option Addr) (c m : Nat) (r : List Int) (hx : a.eval x = .slice ao m c) (hm : m = r.length) (hr : RowI w ao c r) (hb : l.length + r.length ≤ 1000000) (hbase : base ≤ w.heap.size) (hbel : Below base w0 w)
    (h : ∀ v' w', OwnI base w' v' (l ++ r) → Below base w0 w' → w.heap.size ≤ w'.heap.size → K (a.put o.dst v') w') :
    if Region.wanted o (yielded ops a.tmps) = true then Oper.wp Try.prog o a w K Q else E := by
  have hw : Region.wanted o (yielded ops a.tmps) = true := by simp [Region.wanted, hgd]
  rw [if_pos hw]
  obtain ⟨i0, hi, hz0, hz1, hz2⟩ := info_parts Try.infoInt
  subst hm
  cases ao with
  | none =>
    have hr0 : r = [] := by
      cases r with
      | nil => rfl
      | cons y r => obtain ⟨b, off, e', _⟩ := hr.at (i := 0) (by simp); cases e'
    subst hr0
    have hc : c = 0 := hr.nil rfl
    subst hc
    have hrun := run_append_owned_none (P := Try.prog) (w := w) base 36 o.type 3 i0 1 Try.underlying36 hi v l.length _ hown
    simp only [List.length_nil] at hx
    unfold Oper.wp
    simp [execOp, ho, resolve, invoke, builtin, hs, hx, hrun, Result.andThen]
    exact h v w (by simpa using hown) hbel (Nat.le_refl _)
  | some ad =>
    refine wp_append_own w s x 36 ho base 3 i0 (.int .i64 0) 1 8 Try.underlying36 hi hz0 hz1 hz2 rfl (by decide) v l.length (l.map (Value.int .i64)) hs hown ad r.length c (r.map (Value.int .i64)) hx (by simp) ?_ ?_ (by unfold maxLen; omega) (by omega) hbase ?_
    · intro j u hu
      rw [List.getElem?_map] at hu
      have hj : j < r.length := by
        rcases Nat.lt_or_ge j r.length with q | q
        · exact q
        · rw [List.getElem?_eq_none q] at hu; simp at hu
      obtain ⟨b, off, hab, hc⟩ := hr.at hj
      obtain rfl := Option.some.inj hab
      rw [Addr.add_lit, hc, ← hu]
      simp [List.getD_eq_getElem?_getD, List.getElem?_eq_getElem hj]
    · intro u hu
      obtain ⟨n, _, rfl⟩ := List.mem_map.1 hu
      rfl
    · intro v' w' hown' hgrow _
      refine h v' w' ?_ (hbel.grown hgrow hbase (fun k hk => (World.ownsRow.lt hown k hk).1)) hgrow.size
      unfold OwnI
      rw [List.length_append, List.map_append]
      exact hown'
/-- append of a row that is read, at a step of a region that draws: nothing else than the own row has turned. -/
theorem step_app_g {w : World} {ops : Array Oper} {o : Oper} {a : Act} {K : Act → World → Prop} {Q : Exit → Act → World → Prop} {E : Prop} (hgd : o.guard = none) (s x : Operand)
    (ho : o.op = .call { callee := .builtin .append, args := #[s, x], argTypes := #[36, 36] }) (base : Nat) (v : Value) (l : List Int) (hs : a.eval s = v) (hown : OwnI base w v l)
    (ao : Option Addr) (c m : Nat) (r : List Int) (hx : a.eval x = .slice ao m c) (hm : m = r.length) (hr : RowI w ao c r) (hb : l.length + r.length ≤ 1000000) (hbase : base ≤ w.heap.size)
    (h : ∀ v' w', OwnI base w' v' (l ++ r) → w.grownBy w' v.ownBlock → K (a.put o.dst v') w') :
    if Region.wanted o (yielded ops a.tmps) = true then Oper.wp Try.prog o a w K Q else E := by
  have hw : Region.wanted o (yielded ops a.tmps) = true := by simp [Region.wanted, hgd]
  rw [if_pos hw]
  obtain ⟨i0, hi, hz0, hz1, hz2⟩ := info_parts Try.infoInt
  subst hm
  cases ao with
  | none =>
    have hr0 : r = [] := by
      cases r with
      | nil => rfl
      | cons y r => obtain ⟨b, off, e', _⟩ := hr.at (i := 0) (by simp); cases e'
    subst hr0
    have hc : c = 0 := hr.nil rfl
    subst hc
    have hrun := run_append_owned_none (P := Try.prog) (w := w) base 36 o.type 3 i0 1 Try.underlying36 hi v l.length _ hown
    simp only [List.length_nil] at hx
    unfold Oper.wp
    simp [execOp, ho, resolve, invoke, builtin, hs, hx, hrun, Result.andThen]
    exact h v w (by simpa using hown) ⟨rfl, rfl, rfl, Nat.le_refl _, fun _ _ _ => rfl⟩
  | some ad =>
    refine wp_append_own w s x 36 ho base 3 i0 (.int .i64 0) 1 8 Try.underlying36 hi hz0 hz1 hz2 rfl (by decide) v l.length (l.map (Value.int .i64)) hs hown ad r.length c (r.map (Value.int .i64)) hx (by simp) ?_ ?_ (by unfold maxLen; omega) (by omega) hbase ?_
    · intro j u hu
      rw [List.getElem?_map] at hu
      have hj : j < r.length := by
        rcases Nat.lt_or_ge j r.length with q | q
        · exact q
        · rw [List.getElem?_eq_none q] at hu; simp at hu
      obtain ⟨b, off, hab, hc⟩ := hr.at hj
      obtain rfl := Option.some.inj hab
      rw [Addr.add_lit, hc, ← hu]
      simp [List.getD_eq_getElem?_getD, List.getElem?_eq_getElem hj]
    · intro u hu
      obtain ⟨n, _, rfl⟩ := List.mem_map.1 hu
      rfl
    · intro v' w' hown' hgrow _
      refine h v' w' ?_ hgrow
      unfold OwnI
      rw [List.length_append, List.map_append]
      exact hown'
/-- What is known of memory in the region: from W on nothing older has turned; the own row; the row of the one number, if it lies already. -/
structure StepK (W : World) (v : Value) (l : List Int) (wx : World) : Prop where
  own : OwnI W.heap.size wx v l
  below : Below W.heap.size W wx
theorem StepK.alloc {W : World} {v : Value} {l : List Int} {wx : World} (h : StepK W v l wx) (o : Obj) : StepK W v l (wx.alloc o) := ⟨owns_below h.own ((Below.refl _ _).alloc (Nat.le_refl _) _), h.below.alloc h.below.size _⟩
theorem StepK.next {W : World} {v v' : Value} {l l' : List Int} {wx wy : World} (h : StepK W v l wx) (ho : OwnI W.heap.size wy v' l') (hg : wx.grownBy wy v.ownBlock) : StepK W v' l' wy := ⟨ho, h.below.grown hg h.below.size (fun k hk => (World.ownsRow.lt h.own k hk).1)⟩
theorem rowi_grown {w w' : World} {a : Option Addr} {c : Nat} {l : List Int} {row : Option Nat} (h : RowI w a c l) (hg : w.grownBy w' row) (hn : ∀ x, a = some x → row ≠ some x.block) : RowI w' a c l :=
  ⟨h.cap, h.rd.only' (S := fun k => row = some k) ⟨hg.os, hg.tape, hg.output, hg.size, fun k hk hn => hg.block k hk (fun e => hn e.symm)⟩ (fun _ x ex q => hn x ex q), h.nil⟩
end Go.Proofs.Ytofgfcebkmdhcaa.Dq

/- What a loop over a function keeps: boxes of variables, and what was there; and where one block may turn. -/
namespace Go.Proofs.Ytofgfcebkmdhcaa.Dq
open Go.RowKit Go.Proofs.Ytofgfcebkmdhcaa.Mem
set_option linter.unusedVariables false
set_option linter.unusedSimpArgs false

/-- A block of cells, while one that is no cells turns. -/
theorem is_off {W V : World} {b : Nat} {cs : Array Value} (h : Is W b cs) {row : Option Nat} (hg : W.grownBy V row) (hr : ∀ r, row = some r → ∃ o : Obj, W.heap[r]? = some o ∧ o.isCells = false) : Is V b cs :=
  h.keep (S := fun k => row = some k) ⟨hg.os, hg.tape, hg.output, hg.size, fun k hk hn => hg.block k hk (fun e => hn e.symm)⟩ (fun q => by
    obtain ⟨T, hT⟩ := h
    obtain ⟨o, h1, h2⟩ := hr _ q
    rw [hT] at h1; cases h1; cases h2)
theorem only_off {S : Nat → Prop} {w W V : World} {B : Nat} (h : Only S w W) (hB : w.heap.size ≤ B) {row : Option Nat} (hg : W.grownBy V row) (hr : ∀ r, row = some r → B ≤ r ∧ ∃ o : Obj, W.heap[r]? = some o ∧ o.isCells = false) : Only S w V :=
  h.trans' (S' := fun k => row = some k) ⟨hg.os, hg.tape, hg.output, hg.size, fun k hk hn => hg.block k hk (fun e => hn e.symm)⟩ (fun i e => .inr (Nat.le_trans hB (hr i e).1))
/-- What a loop keeps that turns blocks of S. -/
structure Fo (S : Nat → Prop) (w : World) (bs : List (Nat × Array Value)) (W : World) : Prop where
  only : Only S w W
  boxes : ∀ r ∈ bs, Is W r.1 r.2
section
variable {S : Nat → Prop} {w W V : World} {bs bs' : List (Nat × Array Value)}
theorem Fo.start (S : Nat → Prop) (w : World) : Fo S w [] w := ⟨Only.refl _ _, by simp⟩
theorem Fo.cell (h : Fo S w bs W) {b : Nat} {c : Array Value} (hb : (b, c) ∈ bs) (i : Nat) {v : Value} (hv : c[i]? = some v) : W.cell? ⟨b, i, none⟩ = some v ∧ W.frozen? ⟨b, i, none⟩ = false := ⟨(h.boxes _ hb).cell i hv, (h.boxes _ hb).frozen i⟩
theorem Fo.one (h : Fo S w bs W) {b : Nat} {v : Value} (hb : (b, #[v]) ∈ bs) : W.cell? ⟨b, 0, none⟩ = some v ∧ W.frozen? ⟨b, 0, none⟩ = false := h.cell hb 0 rfl
theorem Fo.off {B : Nat} (h : Fo S w bs W) (hB : w.heap.size ≤ B) {row : Option Nat} (hg : W.grownBy V row) (hr : ∀ r, row = some r → B ≤ r ∧ ∃ o : Obj, W.heap[r]? = some o ∧ o.isCells = false) : Fo S w bs V :=
  ⟨only_off h.only hB hg hr, fun r hr' => is_off (h.boxes r hr') hg (fun q e => (hr q e).2)⟩
theorem Fo.keep (h : Fo S w bs W) (hb : Below W.heap.size W V) : Fo S w bs V := ⟨h.only.trans (Only.of_below hb), fun r hr => (h.boxes r hr).below hb⟩
theorem Fo.push (h : Fo S w bs W) (cs : Array Value) (T : TypeId) {b : Nat} (hb : b = W.heap.size) : Fo S w ((b, cs) :: bs) (W.alloc (.cells cs T)) :=
  ⟨h.only.alloc _, fun r hr => by
    rcases List.mem_cons.1 hr with rfl | q
    · exact Is.made W cs T hb
    · exact (h.boxes r q).alloc _⟩
theorem Fo.sub (h : Fo S w bs W) (hs : ∀ r ∈ bs', r ∈ bs) : Fo S w bs' W := ⟨h.only, fun r hr => h.boxes r (hs r hr)⟩
/-- A cell of a box is turned. -/
theorem Fo.set {b i : Nat} {c : Array Value} {u : Value} (h : Fo S w ((b, c) :: bs) W) (hb : S b ∨ w.heap.size ≤ b) (hn : ∀ r ∈ bs, r.1 ≠ b) : Fo S w ((b, c.setIfInBounds i u) :: bs) (W.setCell ⟨b, i, none⟩ u) :=
  ⟨h.only.setCell (p := ⟨b, i, none⟩) hb u, fun r hr => by
    rcases List.mem_cons.1 hr with rfl | q
    · exact (h.boxes (b, c) (by simp)).set i u
    · exact (h.boxes r (List.mem_cons_of_mem _ q)).other (p := ⟨b, i, none⟩) (Ne.symm (hn r q)) u⟩
theorem Fo.drewN (h : Fo S w bs W) (m : Nat) : Fo S w bs (W.drewN m) := ⟨h.only.drewN m, fun r hr => (h.boxes r hr).drewN m⟩
/-- From w on nothing older than B has turned. -/
theorem _root_.Go.Proofs.Ytofgfcebkmdhcaa.Mem.Only.of_below' {B : Nat} (h : Below B W V) : Only (fun k => B ≤ k) W V := ⟨h.os, h.tape, h.output, h.size, fun k hk hn => h.block k (Nat.lt_of_not_le hn)⟩
theorem keeps_below (B : Nat) (hb : Below W.heap.size W V) : KeepsFrom B W V := ⟨hb.size, fun k o _ hk _ => (hb.block k (Array.getElem?_eq_some_iff.1 hk).1).trans hk⟩
theorem below_of_drewN (m : Nat) : Below w.heap.size w (w.drewN m) := ⟨rfl, rfl, rfl, Nat.le_refl _, fun _ _ => rfl⟩
theorem grown_of_below (h : Below W.heap.size W V) : W.grownBy V none := ⟨h.os, h.tape, h.output, h.size, fun k hk _ => h.block k hk⟩
theorem abides {B : Nat} {J : List Int → World → Prop} (hJ : AbidesFrom B J) {s : List Int} (h : J s W) (hb : Below W.heap.size W V) : J s V := hJ s W V none h (grown_of_below hb) (fun q e => by cases e)
end
end Go.Proofs.Ytofgfcebkmdhcaa.Dq

/- What a law knows between two calls: things that it has made, no two of which share a block, each with what may turn it. -/
namespace Go.Proofs.Ytofgfcebkmdhcaa.Thing
open Go.RowKit Go.Proofs.Ytofgfcebkmdhcaa.Dig Go.Proofs.Ytofgfcebkmdhcaa.Mem Go.Proofs.Ytofgfcebkmdhcaa.Dq
set_option linter.unusedVariables false
set_option linter.unusedSimpArgs false

/-- A thing: what is so of the world, and the blocks that it hangs on. -/
structure Th where
  P : World → Prop
  F : Nat → Prop
  keep : ∀ {w w' : World} {S : Nat → Prop}, P w → Only S w w' → (∀ k, F k → ¬ S k) → P w'
  lt : ∀ {w : World}, P w → ∀ k, F k → k < w.heap.size
def Sep (x y : Th) : Prop := ∀ k, x.F k → ¬ y.F k
theorem Sep.symm {x y : Th} (h : Sep x y) : Sep y x := fun k h1 h2 => h k h2 h1
/-- From w on: nothing older has turned; the things are there, made since w, and share no block. -/
structure Kn (w : World) (ts : List Th) (wx : World) : Prop where
  below : Below w.heap.size w wx
  has : ∀ t ∈ ts, t.P wx ∧ ∀ k, t.F k → w.heap.size ≤ k
  sep : ts.Pairwise Sep
section
variable {w wx w' : World} {ts ts' : List Th} {t t' : Th}
theorem Kn.start (w : World) : Kn w [] w := ⟨Below.refl _ _, by simp, by simp⟩
theorem Kn.hd (h : Kn w (t :: ts) wx) : t.P wx := (h.has t (by simp)).1
theorem Kn.get (h : Kn w ts wx) (ht : t ∈ ts) : t.P wx := (h.has t ht).1
theorem Kn.keep (h : Kn w ts wx) (hb : Below wx.heap.size wx w') : Kn w ts w' :=
  ⟨h.below.trans (hb.mono h.below.size), fun t ht => ⟨t.keep (h.has t ht).1 (Only.of_below (S := fun _ => False) hb) (fun _ _ q => q), (h.has t ht).2⟩, h.sep⟩
theorem Kn.drewN (h : Kn w ts wx) (m : Nat) : Kn w ts (wx.drewN m) := h.keep (below_of_drewN m)
theorem Kn.sub (h : Kn w ts wx) (hs : ts'.Sublist ts) : Kn w ts' wx := ⟨h.below, fun t ht => h.has t (hs.subset ht), h.sep.sublist hs⟩
theorem Kn.perm (h : Kn w ts wx) (hs : ts.Perm ts') : Kn w ts' wx := ⟨h.below, fun t ht => h.has t (hs.mem_iff.2 ht), (hs.pairwise_iff (fun {a b} q => Sep.symm q)).1 h.sep⟩
theorem Kn.swap {a b : Th} (h : Kn w (a :: b :: ts) wx) : Kn w (b :: a :: ts) wx := h.perm (List.Perm.swap b a ts)
theorem Kn.tail (h : Kn w (t :: ts) wx) : Kn w ts wx := h.sub (List.sublist_cons_self _ _)
/-- The first thing is turned. -/
theorem Kn.turn (h : Kn w (t :: ts) wx) (hp : t'.P w') (ho : Only t.F wx w') (hf : ∀ k, t'.F k → t.F k ∨ wx.heap.size ≤ k) : Kn w (t' :: ts) w' := by
  have hge := (h.has t (by simp)).2
  have hs := List.pairwise_cons.1 h.sep
  refine ⟨h.below.only ho hge h.below.size, fun x hx => ?_, List.pairwise_cons.2 ⟨fun x hx k h1 h2 => ?_, hs.2⟩⟩
  · rcases List.mem_cons.1 hx with rfl | q
    · refine ⟨hp, fun k hk => ?_⟩
      rcases hf k hk with q | q
      · exact hge k q
      · exact Nat.le_trans h.below.size q
    · exact ⟨x.keep (h.has x (List.mem_cons_of_mem _ q)).1 ho (fun k h1 h2 => hs.1 x q k h2 h1), (h.has x (List.mem_cons_of_mem _ q)).2⟩
  · rcases hf k h1 with q | q
    · exact hs.1 x hx k q h2
    · have := x.lt (h.has x (List.mem_cons_of_mem _ hx)).1 k h2
      omega
/-- One more, made meanwhile. -/
theorem Kn.more (h : Kn w ts wx) (hb : Below wx.heap.size wx w') (hp : t'.P w') (hf : ∀ k, t'.F k → wx.heap.size ≤ k) : Kn w (t' :: ts) w' := by
  have h' := h.keep hb
  refine ⟨h'.below, fun x hx => ?_, List.pairwise_cons.2 ⟨fun x hx k h1 h2 => ?_, h.sep⟩⟩
  · rcases List.mem_cons.1 hx with rfl | q
    · exact ⟨hp, fun k hk => Nat.le_trans h.below.size (hf k hk)⟩
    · exact h'.has x q
  · have := x.lt (h.has x hx).1 k h2
    have := hf k h1
    omega
/-- A thing seen otherwise. -/
theorem Kn.as (h : Kn w (t :: ts) wx) (hp : t.P wx → t'.P wx) (hf : ∀ k, t'.F k → t.F k) : Kn w (t' :: ts) wx :=
  h.turn (hp h.hd) (Only.refl _ _) (fun k q => .inl (hf k q))
end
/-- A row of numbers that is read. -/
def rowT (a : Option Addr) (c : Nat) (m : List Int) : Th where
  P w := RowI w a c m
  F k := 0 < m.length ∧ ∃ x, a = some x ∧ x.block = k
  keep h ho hs := ⟨h.cap, h.rd.only' ho (fun hl x e => hs x.block ⟨hl, x, e, rfl⟩), h.nil⟩
  lt h k hk := by
    obtain ⟨hl, x, e, rfl⟩ := hk
    exact Rd.lt h.rd hl x e
/-- A block of cells. -/
def boxT (b : Nat) (cs : Array Value) : Th where
  P w := Is w b cs
  F k := k = b
  keep h ho hs := h.keep ho (hs b rfl)
  lt h k hk := by cases hk; exact h.lt
/-- A row of the call's own. -/
def ownT (base : Nat) (e : TypeId) (v : Value) (n : Nat) (xs : List Value) : Th where
  P w := w.ownsRow base e 1 v n xs
  F k := v.ownBlock = some k
  keep {w w' S} h ho hs := by
    refine ⟨h.1, ?_⟩
    rcases h.2 with hn | ⟨g, cap, cur, rfl, hg, hh, r⟩
    · exact .inl hn
    · have hlt : g < w.heap.size := by
        rcases Nat.lt_or_ge g w.heap.size with q | q
        · exact q
        · simp [Array.getElem?_eq_none q] at hh
      exact .inr ⟨g, cap, cur, rfl, hg, by rw [ho.block g hlt (hs g rfl)]; exact hh, r⟩
  lt h k hk := (World.ownsRow.lt h k hk).2
end Go.Proofs.Ytofgfcebkmdhcaa.Thing

/- One's own rows, of elements of any size, as things: how they grow, how a cell is written, how they are read; boxes; things in a list. -/
namespace Go.Proofs.Ytofgfcebkmdhcaa.Own
open Go.RowKit Go.Proofs.Ytofgfcebkmdhcaa.Dig Go.Proofs.Ytofgfcebkmdhcaa.Mem Go.Proofs.Ytofgfcebkmdhcaa.Dq Go.Proofs.Ytofgfcebkmdhcaa.Thing
set_option linter.unusedVariables false
set_option linter.unusedSimpArgs false

theorem Try.infoI : (Try.prog.info? 3).map (fun i => (i.zero, i.size, i.bytes)) = some (some (.int .i64 0), 1, 8) := by kernel_rfl
theorem Try.infoIs : (Try.prog.info? 36).map (fun i => (i.zero, i.size, i.bytes)) = some (some (.slice none 0 0), 1, 24) := by kernel_rfl
/-- A row of the call's own, of elements of so many cells. -/
def ownN (base : Nat) (e : TypeId) (z : Nat) (v : Value) (n : Nat) (xs : List Value) : Th where
  P w := w.ownsRow base e z v n xs
  F k := v.ownBlock = some k
  keep {w w' S} h ho hs := by
    refine ⟨h.1, ?_⟩
    rcases h.2 with hn | ⟨g, cap, cur, rfl, hg, hh, r⟩
    · exact .inl hn
    · have hlt : g < w.heap.size := by
        rcases Nat.lt_or_ge g w.heap.size with q | q
        · exact q
        · simp [Array.getElem?_eq_none q] at hh
      exact .inr ⟨g, cap, cur, rfl, hg, by rw [ho.block g hlt (hs g rfl)]; exact hh, r⟩
  lt h k hk := (World.ownsRow.lt h k hk).2
section
variable {w w' wx W : World} {x y t t' : Th} {ts pre post ls : List Th} {base m m' z n c g k j : Nat} {e : TypeId} {v v' u : Value} {xs xs' : List Value}
theorem turnAt (h : Kn w (pre ++ t :: post) wx) (hp : t'.P w') (ho : Only t.F wx w') (hf : ∀ k, t'.F k → t.F k ∨ wx.heap.size ≤ k) : Kn w (pre ++ t' :: post) w' :=
  ((h.perm List.perm_middle).turn hp ho hf).perm List.perm_middle.symm
/-- One of a list of things is turned. -/
theorem split_at (hk : ls[k]? = some t) : ls = ls.take k ++ t :: ls.drop (k + 1) := by
  obtain ⟨h1, h2⟩ := List.getElem?_eq_some_iff.1 hk
  rw [← h2, List.getElem_cons_drop, List.take_append_drop]
theorem split_set (hk : ls[k]? = some t) : ls.set k t' = ls.take k ++ t' :: ls.drop (k + 1) := by
  rw [List.set_eq_take_append_cons_drop, if_pos (List.getElem?_eq_some_iff.1 hk).1]
theorem turnL (h : Kn w (pre ++ (ls ++ post)) wx) (hk : ls[k]? = some t) (hp : t'.P w') (ho : Only t.F wx w') (hf : ∀ k, t'.F k → t.F k ∨ wx.heap.size ≤ k) : Kn w (pre ++ (ls.set k t' ++ post)) w' := by
  rw [split_set hk]
  rw [split_at hk] at h
  have h2 : Kn w ((pre ++ ls.take k) ++ t :: (ls.drop (k + 1) ++ post)) wx := by simpa using h
  have h3 := turnAt h2 hp ho hf
  simpa using h3
theorem growAt (h : Kn w (pre ++ ownN base e z v m xs :: post) W) (ho : w'.ownsRow base e z v' m' xs') (hg : W.grownBy w' v.ownBlock) (hat : v'.ownBlock = v.ownBlock ∨ v'.ownBlock = some W.heap.size) :
    Kn w (pre ++ ownN base e z v' m' xs' :: post) w' :=
  turnAt (t := ownN base e z v m xs) (t' := ownN base e z v' m' xs') h ho ⟨hg.os, hg.tape, hg.output, hg.size, fun k hk hn => hg.block k hk (fun e => hn e.symm)⟩ (fun k hk => by
    have hk' : v'.ownBlock = some k := hk
    rcases hat with q | q
    · exact .inl (by show v.ownBlock = some k; rw [← q]; exact hk')
    · rw [q] at hk'
      exact .inr (Nat.le_of_eq (Option.some.inj hk')))
/-- One's own row, of which nothing is there yet. -/
theorem own0 (h : Kn w ts W) (T : TypeId) (z : Nat) (hb : base ≤ W.heap.size) (hg : g = W.heap.size) : Kn w (ownN base T z (.slice (some ⟨g, 0, none⟩) 0 0) 0 [] :: ts) (W.alloc (.cells #[] T)) := by
  subst hg
  exact h.more ((Below.refl _ _).alloc (Nat.le_refl _) _) (t' := ownN base T z (.slice (some ⟨W.heap.size, 0, none⟩) 0 0) 0 []) (World.ownsRow_made W #[] 0 hb (by unfold maxLen; omega) (by simp)) (fun k hk => by cases hk; exact Nat.le_refl _)
/-- .. that is nil. -/
theorem ownNil (h : Kn w ts W) (base : Nat) (T : TypeId) (z : Nat) : Kn w (ownN base T z (.slice none 0 0) 0 [] :: ts) W :=
  h.more (Below.refl _ _) (t' := ownN base T z (.slice none 0 0) 0 []) (World.ownsRow_nil _ _ _ _) (fun k hk => by cases hk)
/-- .. made with so many. -/
theorem ownMade (h : Kn w ts W) (cs : Array Value) (T : TypeId) (z : Nat) (hb : base ≤ W.heap.size) (hn : n ≤ maxLen) (hs : cs.size = n * z) (hg : g = W.heap.size) : Kn w (ownN base T z (.slice (some ⟨g, 0, none⟩) n n) n cs.toList :: ts) (W.alloc (.cells cs T)) := by
  subst hg
  exact h.more ((Below.refl _ _).alloc (Nat.le_refl _) _) (t' := ownN base T z (.slice (some ⟨W.heap.size, 0, none⟩) n n) n cs.toList) (World.ownsRow_lit W cs n hb hn hs) (fun k hk => by cases hk; exact Nat.le_refl _)
theorem box0 (h : Kn w ts W) (cs : Array Value) (T : TypeId) (hg : g = W.heap.size) : Kn w (boxT g cs :: ts) (W.alloc (.cells cs T)) :=
  h.more ((Below.refl _ _).alloc (Nat.le_refl _) _) (t' := boxT g cs) (Is.made _ _ _ hg) (fun k hk => by cases hk; exact Nat.le_of_eq hg.symm)
theorem putBox {b : Nat} {cs : Array Value} (h : Kn w (pre ++ boxT b cs :: post) W) (i : Nat) (u : Value) {cs' : Array Value} (hc : cs.setIfInBounds i u = cs') (hp : (boxT b cs).P W) : Kn w (pre ++ boxT b cs' :: post) (W.setCell ⟨b, i, none⟩ u) :=
  turnAt (t := boxT b cs) (t' := boxT b cs') h ((Is.set hp i u).eq hc) ((Only.refl _ _).put i _) (fun _ e => .inl e)
theorem Knget (h : Kn w (pre ++ t :: post) W) : t.P W := h.get (by simp)
theorem Knlt (h : Kn w (pre ++ t :: post) W) : ∀ k, t.F k → w.heap.size ≤ k := (h.has t (by simp)).2
/-- How one's own row is read. -/
theorem own_at (h : (ownN base e z v n xs).P W) (hj : xs[j]? = some u) : ∃ g c, v = .slice (some ⟨g, 0, none⟩) n c ∧ W.cell? ⟨g, j, none⟩ = some u ∧ W.frozen? ⟨g, j, none⟩ = false := by
  have hl := World.ownsRow.lt h
  rcases h.2 with ⟨hv, h0⟩ | ⟨g, cap, cur, hv, _⟩
  · have := h.1
    rw [h0, Nat.zero_mul] at this
    rw [List.eq_nil_of_length_eq_zero this] at hj
    cases hj
  · subst hv
    have hlt : j < xs.length := by
      rcases Nat.lt_or_ge j xs.length with q | q
      · exact q
      · rw [List.getElem?_eq_none q] at hj; cases hj
    refine ⟨g, cap, rfl, ?_, World.ownsRow.frozenAt h j⟩
    rw [World.ownsRow.cellAt h j (by rw [← h.1]; exact hlt)]
    exact hj
theorem own_form (h : (ownN base e z v n xs).P W) : ∃ a c, v = .slice a n c := by
  rcases h.2 with ⟨rfl, h0⟩ | ⟨g, cap, cur, rfl, _⟩
  · subst h0; exact ⟨_, _, rfl⟩
  · exact ⟨_, _, rfl⟩
theorem own_cap {a : Option Addr} (h : (ownN base e z (.slice a n c) n xs).P W) : n ≤ c ∧ c ≤ maxLen := by
  rcases h.2 with ⟨hv, h0⟩ | ⟨g, cap, cur, hv, _, _, h1, h2, _⟩
  · cases hv; exact ⟨Nat.le_refl _, by unfold maxLen; omega⟩
  · cases hv; exact ⟨h1, h2⟩
/-- A cell of one's own row is written. -/
theorem ownPut (h : Kn w (pre ++ ownN base e z (.slice (some ⟨g, 0, none⟩) n c) n xs :: post) W) (j : Nat) (u : Value) (hp : (ownN base e z (.slice (some ⟨g, 0, none⟩) n c) n xs).P W) : Kn w (pre ++ ownN base e z (.slice (some ⟨g, 0, none⟩) n c) n (xs.set j u) :: post) (W.setCell ⟨g, j, none⟩ u) := by
  obtain ⟨h1, h2⟩ := World.ownsRow.stored (show W.ownsRow base e z (.slice (some ⟨g, 0, none⟩) n c) n xs from hp) j u
  exact turnAt (t := ownN base e z (.slice (some ⟨g, 0, none⟩) n c) n xs) (t' := ownN base e z (.slice (some ⟨g, 0, none⟩) n c) n (xs.set j u)) h h1 ⟨h2.os, h2.tape, h2.output, h2.size, fun k hk hn => h2.block k hk (fun e => hn (by show _ = some k; rw [e]; rfl))⟩ (fun k hk => .inl hk)
theorem sep_of (h : Kn w (pre ++ t :: post) W) (hx : x ∈ post) : Sep t x := by
  have := (List.pairwise_append.1 h.sep).2.1
  exact (List.pairwise_cons.1 this).1 x hx
end
/-- A slice that reads values of one cell each. -/
structure CellsR (w : World) (a : Option Addr) (c : Nat) (xs : List Value) : Prop where
  cap : xs.length ≤ c
  nil : a = none → c = 0
  at_ : ∀ i u, xs[i]? = some u → ∃ b off, a = some ⟨b, off, none⟩ ∧ w.cell? ⟨b, off + i, none⟩ = some u
theorem CellsR.keep {w w' : World} {a : Option Addr} {c : Nat} {xs : List Value} (h : CellsR w a c xs) (hb : Below w.heap.size w w') : CellsR w' a c xs := ⟨h.cap, h.nil, fun i u hu => by
  obtain ⟨b, off, e, hc⟩ := h.at_ i u hu
  exact ⟨b, off, e, (hb.cell (p := ⟨b, off + i, none⟩) (lt_of_cell hc)).trans hc⟩⟩
theorem CellsR.of_own {w : World} {base n c : Nat} {e : TypeId} {a : Option Addr} {xs : List Value} (h : w.ownsRow base e 1 (.slice a n c) n xs) : CellsR w a c xs := by
  have hl := h.1
  rcases h.2 with ⟨hv, h0⟩ | ⟨g, cap, cur, hv, hg, hh, hc1, hc2, hc3, hc4⟩
  · have : xs = [] := List.eq_nil_of_length_eq_zero (by omega)
    subst this
    cases hv
    exact ⟨Nat.zero_le _, fun _ => rfl, fun i u hu => by simp at hu⟩
  · cases hv
    refine ⟨by omega, (fun q => by cases q), fun i u hu => ⟨g, 0, rfl, ?_⟩⟩
    have hi : i < xs.length := by
      rcases Nat.lt_or_ge i xs.length with q | q
      · exact q
      · rw [List.getElem?_eq_none q] at hu; cases hu
    rw [Nat.zero_add, h.cellAt i (by omega)]
    exact hu
theorem CellsR.of_row {w : World} {a : Option Addr} {c : Nat} {l : List Int} (h : RowI w a c l) : CellsR w a c (l.map (Value.int .i64)) := ⟨by rw [List.length_map]; exact h.cap, h.nil, fun i u hu => by
  rw [List.getElem?_map] at hu
  have hi : i < l.length := by
    rcases Nat.lt_or_ge i l.length with q | q
    · exact q
    · rw [List.getElem?_eq_none q] at hu; cases hu
  obtain ⟨b, off, e, hc⟩ := h.at hi
  refine ⟨b, off, e, ?_⟩
  rw [hc, ← hu]
  simp [List.getD_eq_getElem?_getD, List.getElem?_eq_getElem hi]⟩
/-- append of what is read to one's own row. -/
theorem app_cells {w : World} {ops : Array Oper} {rest : List Oper} {o : Oper} {a : Act} {Q : Exit → Act → World → Prop} (T e : TypeId) {z : Value} {by_ : Nat} (hT : Try.prog.underlying T = some (.slice e)) (hI : (Try.prog.info? e).map (fun i => (i.zero, i.size, i.bytes)) = some (some z, 1, by_)) (hzs : z.cells.size = 1) (hby : by_ ≤ 1000) (hgd : o.guard = none) (s x : Operand)
    (ho : o.op = .call { callee := .builtin .append, args := #[s, x], argTypes := #[T, T] }) (base : Nat) (v : Value) (n : Nat) (xs : List Value) (hs : a.eval s = v) (hown : w.ownsRow base e 1 v n xs)
    (ao : Option Addr) (c m : Nat) (news : List Value) (hx : a.eval x = .slice ao m c) (hm : m = news.length) (hr : CellsR w ao c news) (h1 : ∀ u ∈ news, u.oneCell' = true) (hb : n + news.length ≤ 1000000) (hbase : base ≤ w.heap.size)
    (h : ∀ v' w', w'.ownsRow base e 1 v' (n + news.length) (xs ++ news) → w.grownBy w' v.ownBlock → (v'.ownBlock = v.ownBlock ∨ v'.ownBlock = some w.heap.size) → wpList Try.prog ops Q rest (a.put o.dst v') w') : wpList Try.prog ops Q (o :: rest) a w := by
  obtain ⟨i0, hi, hz0, hz1, hz2⟩ := info_parts hI
  subst hm
  cases ao with
  | none =>
    have hr0 : news = [] := by
      cases news with
      | nil => rfl
      | cons y r => obtain ⟨b, off, e', _⟩ := hr.at_ 0 y rfl; cases e'
    subst hr0
    have hc : c = 0 := hr.nil rfl
    subst hc
    exact wpList_append_own_none hgd s x T ho base e i0 1 hT hi v n xs hs hown hx (h v w (by simpa using hown) ⟨rfl, rfl, rfl, Nat.le_refl _, fun _ _ _ => rfl⟩ (.inl rfl))
  | some ad =>
    refine wpList_append_own_at w hgd s x T ho base e i0 z 1 by_ hT hi hz0 hz1 hz2 hzs (by decide) v n xs hs hown ad news.length c news hx (by simp) ?_ h1 (by unfold maxLen; omega) ?_ hbase ?_
    · intro j u hu
      obtain ⟨b, off, hab, hc⟩ := hr.at_ j u hu
      obtain rfl := Option.some.inj hab
      rw [Addr.add_lit, hc]
    · exact Nat.le_trans (Nat.mul_le_mul hb hby) (by decide)
    · intro v' w' hown' hgrow _ hat
      exact h v' w' hown' hgrow hat
/-- A slice value. -/
structure SL where
  a : Option Addr
  n : Nat
  c : Nat
abbrev SL.v (s : SL) : Value := .slice s.a s.n s.c
/-- Lists, each read at a slice. -/
def ReadR (w : World) (ds : List SL) (ls : List (List Int)) : Prop := ds.length = ls.length ∧ ∀ (i : Nat) (d : SL) (l : List Int), ds[i]? = some d → ls[i]? = some l → d.n = l.length ∧ RowI w d.a d.c l
section
variable {w w' : World} {ds : List SL} {ls : List (List Int)}
theorem ReadR.keep (h : ReadR w ds ls) (hb : Below w.heap.size w w') : ReadR w' ds ls := ⟨h.1, fun i d l h1 h2 => ⟨(h.2 i d l h1 h2).1, (h.2 i d l h1 h2).2.keep hb⟩⟩
theorem ReadR.set (h : ReadR w ds ls) {d : SL} {l : List Int} (hn : d.n = l.length) (hr : RowI w d.a d.c l) (k : Nat) : ReadR w (ds.set k d) (ls.set k l) := by
  refine ⟨by rw [List.length_set, List.length_set]; exact h.1, fun i d' l' h1 h2 => ?_⟩
  rw [List.getElem?_set] at h1 h2
  by_cases e : k = i
  · rw [if_pos e] at h1 h2
    split at h1
    · split at h2
      · cases h1; cases h2; exact ⟨hn, hr⟩
      · cases h2
    · cases h1
  · rw [if_neg e] at h1 h2
    exact h.2 i d' l' h1 h2
theorem ReadR.get (h : ReadR w ds ls) {k : Nat} {l : List Int} (hk : ls[k]? = some l) : ∃ d, ds[k]? = some d ∧ d.n = l.length ∧ RowI w d.a d.c l := by
  have hlt : k < ds.length := by
    rw [h.1]
    rcases Nat.lt_or_ge k ls.length with q | q
    · exact q
    · rw [List.getElem?_eq_none q] at hk; cases hk
  exact ⟨ds[k], List.getElem?_eq_getElem hlt, h.2 k _ l (List.getElem?_eq_getElem hlt) hk⟩
end
end Go.Proofs.Ytofgfcebkmdhcaa.Own
