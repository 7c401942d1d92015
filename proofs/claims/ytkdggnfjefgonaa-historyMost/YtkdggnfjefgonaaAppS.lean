/- append of a string's bytes to a row of bytes of the call's own, or to one that was made of a constant (its row is full, so it grows). -/
import Derived.Test.YtkdggnfjefgonaaApp
namespace Go.Proofs.Ytkdggnfjefgonaa.Dig
open Go.RowKit
set_option linter.unusedVariables false
set_option linter.unusedSimpArgs false

/-- A row of bytes that fills its block, or one of the call's own. -/
def OwnS (e : TypeId) (base : Nat) (w : World) (v : Value) (l : List Int) : Prop :=
  Own e .u8 base w v l ∨ ∃ g fr, v = .slice (some ⟨g, 0, none⟩) l.length l.length ∧ base ≤ g ∧ w.heap[g]? = some (.cells (l.map (Value.int .u8)).toArray e fr)
theorem OwnS.full {e : TypeId} {base : Nat} {w : World} {l : List Int} {fr : Nat × Nat} {g : Nat} (hg : g = w.heap.size) (hb : base ≤ w.heap.size) : OwnS e base (w.alloc (.cells (l.map (Value.int .u8)).toArray e fr)) (.slice (some ⟨g, 0, none⟩) l.length l.length) l := by
  subst hg
  exact .inr ⟨_, fr, rfl, hb, heap_alloc_new w _⟩
theorem OwnS.keep {e : TypeId} {base : Nat} {w w' : World} {v : Value} {l : List Int} (h : OwnS e base w v l) (hb : Below w.heap.size w w') : OwnS e base w' v l := by
  rcases h with h | ⟨g, fr, h1, h2, h3⟩
  · exact .inl (h.keep hb)
  · refine .inr ⟨g, fr, h1, h2, ?_⟩
    have hlt : g < w.heap.size := by
      rcases Nat.lt_or_ge g w.heap.size with q | q
      · exact q
      · rw [Array.getElem?_eq_none q] at h3; cases h3
    rw [hb.block g hlt]
    exact h3
theorem OwnS.view {e : TypeId} {base : Nat} {w : World} {v : Value} {l : List Int} (h : OwnS e base w v l) (hl : l.length ≤ 1000000000000) (hw : ∀ n ∈ l, (Lit.int .u8 n).wf = true) :
    ∃ a cap n z, v = .slice a n cap ∧ Hid (n = l.length) ∧ Hid (z = fun i => l.getD i 0) ∧ n ≤ cap ∧ Rd .u8 w a n z := by
  rcases h with h | ⟨g, fr, h1, h2, h3⟩
  · exact h.view hl hw
  · refine ⟨_, _, _, _, h1, rfl, rfl, Nat.le_refl _, hl, fun i hi => ⟨g, 0, rfl, ?_, ?_⟩⟩
    · rw [Nat.zero_add, cell_of_row w g i _ e fr h3]
      simp [List.getD_eq_getElem?_getD, List.getElem?_eq_getElem hi]
    · simp only [List.getD_eq_getElem?_getD, List.getElem?_eq_getElem hi, Option.getD_some]
      exact hw _ (List.getElem_mem hi)

section
variable {P : Program} {w w0 : World} {ops : Array Oper} {rest : List Oper} {o : Oper} {a : Act} {Q : Exit → Act → World → Prop}
theorem app_stringS (hgd : o.guard = none) (s x : Operand) (t u : TypeId) (ho : o.op = .call { callee := .builtin .append, args := #[s, x], argTypes := #[t, u] })
    (e : TypeId) (i : TypeInfo) (ht : P.underlying t = some (.slice e)) (hu : P.underlying u = some .string) (hi : P.info? e = some i) (hz : i.zero = some (.int .u8 0)) (hsize : i.size = 1) (hby : i.bytes = 1)
    (base : Nat) (v : Value) (l : List Int) (hs : a.eval s = v) (hown : OwnS e base w v l) (ns : List UInt8) (hx : a.eval x = .string ⟨ns.toArray⟩) (hne : 0 < ns.length)
    (hb : l.length + ns.length ≤ 1000000) (hbase : base ≤ w.heap.size) (B : Nat) (hB : B ≤ base) (hbel : Below B w0 w)
    (h : ∀ v' w', Own e .u8 base w' v' (l ++ ns.map fun b => (b.toNat : Int)) → Below B w0 w' → w.heap.size ≤ w'.heap.size → wpList P ops Q rest (a.put o.dst v') w') : wpList P ops Q (o :: rest) a w := by
  rcases hown with hown | ⟨g, fr, rfl, hg, hh⟩
  · exact app_string hgd s x t u ho e i ht hu hi hz hsize hby base v l hs hown ns hx hb hbase B hB hbel h
  · have hsz : ByteArray.size ⟨ns.toArray⟩ = ns.length := by simp [ByteArray.size]
    have hgc := grownCap_ge w (l.length + ns.length) l.length e
    have hcm : grownCap w (l.length + ns.length) l.length e ≤ maxLen := grownCap_le_maxLen w (l.length + ns.length) l.length e (by unfold maxLen; omega)
    have hr := Lib.run_append_grow_string (P := P) (w := w) t u o.type e i (.int .u8 0) ht hu hi hz ⟨g, 0, none⟩ l.length l.length (l.map (Value.int .u8)) (by rw [List.length_map, hsize, Nat.mul_one]) (fun j v hv => by
      rw [Addr.add_lit, Nat.zero_add, cell_of_row w g j _ e fr hh]; simpa using hv) ⟨ns.toArray⟩ (by rw [hsz]; omega) (by rw [hsz]; omega) (by
      rw [hsz, hby, Nat.mul_one]
      have := growslice_fits (need := l.length + ns.length) (old := l.length) (bytes := 1) (by omega) (by omega)
      omega)
    rw [hsz] at hr
    refine wpList_plain hgd fun K hK => ?_
    unfold Oper.wp execOp
    simp only [ho, resolve, invoke, builtin, Sem.run_bind, Sem.run_pure, Result.andThen_ok, List.map_toArray, List.map_cons, List.map_nil, hs, hx, hr]
    refine hK _ _ (h _ _ ?_ ?_ (by simp))
    · refine ⟨by simp, .inr ⟨w.heap.size, _, _, by rw [List.length_append, List.length_map], hbase, heap_alloc_new w.drew _, by rw [List.length_append, List.length_map]; exact hgc, hcm, ?_, ?_⟩⟩
      · have e1 : (Value.int .u8 0).cells.size = 1 := rfl
        simp [size_zeroCells, e1, Lib.strCells_length, hsz]
        omega
      · have e2 : ((l.map (Value.int .u8)).toArray ++ (Lib.strCells ⟨ns.toArray⟩).toArray ++ Builtin.zeroCells (Value.int .u8 0).cells (grownCap w (l.length + ns.length) l.length e - (l.length + ns.length))).toList = (l ++ ns.map fun b => (b.toNat : Int)).map (Value.int .u8) ++ (Builtin.zeroCells (Value.int .u8 0).cells (grownCap w (l.length + ns.length) l.length e - (l.length + ns.length))).toList := by
          simp [strCells_of]
        rw [e2, List.take_left' (by simp)]
    · exact (hbel.drew).alloc (by have := hB; simp; omega) _
end
end Go.Proofs.Ytkdggnfjefgonaa.Dig
