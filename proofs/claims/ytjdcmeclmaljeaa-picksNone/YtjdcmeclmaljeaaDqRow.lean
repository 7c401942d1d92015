/- Rows of numbers that are read, or that are a call's own; parts of them; append; the document's Same. -/
import Derived.Test.YtjdcmeclmaljeaaApp
import Derived.Test.YtjdcmeclmaljeaaMem
import Derived.Laws.MakeOwn
import Derived.Laws.OwnMore
namespace Go.Proofs.Ytjdcmeclmaljeaa.Dq
open Go.RowKit Go.Proofs.Ytjdcmeclmaljeaa.Dig Go.Proofs.Ytjdcmeclmaljeaa.Mem
set_option linter.unusedVariables false
set_option linter.unusedSimpArgs false

/-- A slice value that reads a list of numbers. -/
structure RowI (w : World) (a : Option Addr) (c : Nat) (l : List Int) : Prop where
  cap : l.length ≤ c
  rd : Rd .i64 w a l.length (fun i => l.getD i 0)
  nil : a = none → c = 0
theorem RowI.keep {w w' : World} {a : Option Addr} {c : Nat} {l : List Int} (h : RowI w a c l) (hb : Below w.heap.size w w') : RowI w' a c l := ⟨h.cap, h.rd.keep hb, h.nil⟩
theorem RowI.at {w : World} {a : Option Addr} {c : Nat} {l : List Int} (h : RowI w a c l) {i : Nat} (hi : i < l.length) : ∃ b off, a = some ⟨b, off, none⟩ ∧ w.cell? ⟨b, off + i, none⟩ = some (.int .i64 (l.getD i 0)) := by
  obtain ⟨b, off, e, hc, _⟩ := h.rd.2 i hi
  exact ⟨b, off, e, hc⟩
theorem RowI.wf {w : World} {a : Option Addr} {c : Nat} {l : List Int} (h : RowI w a c l) : ∀ n ∈ l, (Lit.int .i64 n).wf = true := fun n hn => by
  obtain ⟨i, hi, e⟩ := List.getElem_of_mem hn
  obtain ⟨_, _, _, _, hw⟩ := h.rd.2 i hi
  have : (fun i => l.getD i 0) i = n := by show l.getD i 0 = n; rw [List.getD_eq_getElem?_getD, List.getElem?_eq_getElem hi]; exact e
  rw [this] at hw
  exact hw
theorem Try.infoInt : (Try.prog.info? 3).map (fun i => (i.zero, i.size, i.bytes)) = some (some (.int .i64 0), 1, 8) := by kernel_rfl
def OwnI (base : Nat) (w : World) (v : Value) (l : List Int) : Prop := w.ownsRow base 3 1 v l.length (l.map (Value.int .i64))
/-- A row that lies in no block older than B. -/
def Fresh (B : Nat) (a : Option Addr) : Prop := ∀ x, a = some x → B ≤ x.block
theorem fresh_own {w : World} {base e : TypeId} {a : Option Addr} {n c : Nat} {xs : List Value} (h : w.ownsRow base e 1 (.slice a n c) n xs) : Fresh base a := fun x e => by
  subst e
  exact (World.ownsRow.lt h x.block rfl).1
theorem OwnI.row {base : Nat} {w : World} {v : Value} {l : List Int} (h : OwnI base w v l) (hl : l.length ≤ 1000000000000) (hw : ∀ n ∈ l, (Lit.int .i64 n).wf = true) : ∃ a c, v = .slice a l.length c ∧ RowI w a c l ∧ Fresh base a := by
  obtain ⟨a, cap, e, h1, h2⟩ := Rd.own h hl hw
  refine ⟨a, cap, e, ⟨h1, h2, fun q => ?_⟩, by subst e; exact fresh_own h⟩
  subst q
  rcases h.2 with ⟨hv, _⟩ | ⟨g, cap', cur, hv, _⟩
  · rw [hv] at e; injection e with e1 e2 e3; exact e3.symm
  · rw [hv] at e; injection e with e1; cases e1
theorem own_form {w : World} {base e : TypeId} {v : Value} {n : Nat} {xs : List Value} (h : w.ownsRow base e 1 v n xs) : ∃ a c, v = .slice a n c := by
  rcases h.2 with ⟨rfl, h0⟩ | ⟨g, cap, cur, rfl, _⟩
  · have : n = 0 := by omega
    exact ⟨none, 0, by rw [this]⟩
  · exact ⟨_, _, rfl⟩
theorem owns_below {w w' : World} {e base : TypeId} {v : Value} {n : Nat} {xs : List Value} (h : w.ownsRow base e 1 v n xs) (hb : Below w.heap.size w w') : w'.ownsRow base e 1 v n xs := by
  refine ⟨h.1, ?_⟩
  rcases h.2 with hn | ⟨g, cap, cur, rfl, hg, hh, r⟩
  · exact .inl hn
  · have hlt : g < w.heap.size := by
      rcases Nat.lt_or_ge g w.heap.size with q | q
      · exact q
      · simp [Array.getElem?_eq_none q] at hh
    exact .inr ⟨g, cap, cur, rfl, hg, by rw [hb.block g hlt]; exact hh, r⟩
/-- A row, up to a place. -/
theorem rowi_take {w : World} {a : Option Addr} {c : Nat} {l : List Int} (hW : RowI w a c l) (m : Nat) : RowI w a c (l.take m) := by
  refine ⟨by have := hW.cap; rw [List.length_take]; omega, ⟨by have := hW.rd.1; rw [List.length_take]; omega, fun i hi => ?_⟩, fun e => ?_⟩
  · rw [List.length_take] at hi
    obtain ⟨b, off, rfl, hcell, hwf⟩ := hW.rd.2 i (by omega)
    have him : i < m := by omega
    have e : (l.take m).getD i 0 = l.getD i 0 := by simp [List.getD_eq_getElem?_getD, List.getElem?_take, him]
    refine ⟨b, off, rfl, ?_, ?_⟩
    · show _ = some (Value.int .i64 ((l.take m).getD i 0))
      rw [e]
      exact hcell
    · show (Lit.int .i64 ((l.take m).getD i 0)).wf = true
      rw [e]
      exact hwf
  · have := hW.nil e
    omega
/-- A row, from a place on. -/
theorem slice_from {w : World} {a : Option Addr} {c : Nat} {l : List Int} (h : RowI w a c l) (m : Nat) (hm : m ≤ l.length) :
    ∃ a2 c2, (∀ W : World, (Instr.slice 22 (.slice a l.length c) (some (.int .i64 (m : Int))) none none).run Try.prog W = .ok (.slice a2 (l.drop m).length c2) W) ∧ ∀ W, RowI W a c l → RowI W a2 c2 (l.drop m) := by
  have hel : Try.prog.elem 22 = 3 := by kernel_rfl
  have hu : Try.prog.underlying 22 = some (.slice (Try.prog.elem 22)) := by rw [hel]; exact Try.underlying22
  have hr : ∀ W : World, (Instr.slice 22 (.slice a l.length c) (some (.int .i64 (m : Int))) none none).run Try.prog W = .ok (sliced a m l.length c 1) W := fun W => by
    rw [run_slice_l (t := 22) (a := a) (len := l.length) (cap := c) (w := W) hu .i64 (m : Int) (by omega) (by omega), hel, Try.sizeOf3]
    simp [Result.andThen]
  refine ⟨if c = m then a else a.map (·.add (m * 1)), c - m, fun W => by rw [hr W, List.length_drop]; rfl, fun W hW => ⟨by have := hW.cap; rw [List.length_drop]; omega, ⟨by have := hW.rd.1; rw [List.length_drop]; omega, fun i hi => ?_⟩, fun e => ?_⟩⟩
  · rw [List.length_drop] at hi
    have hc := hW.cap
    obtain ⟨b, off, rfl, hcell, hwf⟩ := hW.rd.2 (m + i) (by omega)
    have e : (l.drop m).getD i 0 = l.getD (m + i) 0 := by simp [List.getD_eq_getElem?_getD]
    refine ⟨b, off + m, ?_, ?_, ?_⟩
    · rw [if_neg (by omega), Nat.mul_one]
      simp [Addr.add_lit]
    · show _ = some (Value.int .i64 ((l.drop m).getD i 0))
      rw [e, Nat.add_assoc]
      exact hcell
    · show (Lit.int .i64 ((l.drop m).getD i 0)).wf = true
      rw [e]
      exact hwf
  · have : a = none := by
      split at e
      · exact e
      · cases a with
        | none => rfl
        | some x => simp at e
    have := hW.nil this
    omega
/-- append of a row that is read. -/
theorem app_rowi {w w0 : World} {ops : Array Oper} {rest : List Oper} {o : Oper} {a : Act} {Q : Exit → Act → World → Prop} (hgd : o.guard = none) (s x : Operand)
    (ho : o.op = .call { callee := .builtin .append, args := #[s, x], argTypes := #[22, 22] }) (base : Nat) (v : Value) (l : List Int) (hs : a.eval s = v) (hown : Dig.Own 3 .i64 base w v l)
    (ao : Option Addr) (c m : Nat) (r : List Int) (hx : a.eval x = .slice ao m c) (hm : m = r.length) (hr : RowI w ao c r) (hb : l.length + r.length ≤ 1000000) (hbase : base ≤ w.heap.size) (hbel : Below base w0 w)
    (h : ∀ v' w', Dig.Own 3 .i64 base w' v' (l ++ r) → Below base w0 w' → w.heap.size ≤ w'.heap.size → wpList Try.prog ops Q rest (a.put o.dst v') w') : wpList Try.prog ops Q (o :: rest) a w := by
  obtain ⟨i0, hi, hz0, hz1, hz2⟩ := info_parts Try.infoInt
  subst hm
  refine app_slice hgd s x 22 ho 3 i0 (.int .i64 0) 8 Try.underlying22 hi hz0 hz1 hz2 rfl (by decide) .i64 base v l hs hown ao r.length c r hx rfl hr.rd (fun e => ⟨?_, hr.nil e⟩) (by omega) hbase base (Nat.le_refl _) hbel h
  cases r with
  | nil => rfl
  | cons y r => obtain ⟨b, off, e', _⟩ := hr.at (i := 0) (by simp); rw [e] at e'; cases e'
theorem ext_getI {a b : List Int} (hl : a.length = b.length) (h : ∀ k, k < a.length → a.getD k 0 = b.getD k 0) : a = b := by
  apply List.ext_getElem hl
  intro i h1 h2
  have := h i h1
  rw [List.getD_eq_getElem?_getD, List.getD_eq_getElem?_getD, List.getElem?_eq_getElem h1, List.getElem?_eq_getElem h2] at this
  exact this
end Go.Proofs.Ytjdcmeclmaljeaa.Dq
