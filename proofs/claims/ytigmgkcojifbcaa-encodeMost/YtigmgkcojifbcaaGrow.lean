/- append to a row of the call's own, of another row, whatever its address and its length: at an operation, at a list of operations, at a step of a region that draws. And rows of n-celled elements that are read out of a block. -/
import Derived.Test.YtigmgkcojifbcaaCells
import Derived.Laws.OwnMore
import Derived.Deep.AppendLies
namespace Go.Proofs.Ytigmgkcojifbcaa.Mem
open Go.RowKit Go.Proofs.Ytigmgkcojifbcaa.Dig
set_option linter.unusedVariables false
set_option linter.unusedSimpArgs false

theorem run_app_row {P : Program} {w : World} (t ty e : TypeId) (i : TypeInfo) (z : Value) (size bytes : Nat) (ht : P.underlying t = some (.slice e)) (hi : P.info? e = some i) (hz : i.zero = some z) (hsize : i.size = size) (hby : i.bytes = bytes) (hzs : z.cells.size = size) (hsz : 0 < size) (hb8 : bytes ≤ 1000)
    (base : Nat) (v : Value) (cs : List (List Value)) (hown : OwnC e size base w v cs) (F : Nat → Prop) (vx : Value) (ds : List (List Value)) (hrow : RowAt F w size vx ds)
    (h1 : ∀ c ∈ ds, ∀ u ∈ c, u.oneCell' = true) (hb : cs.length + ds.length ≤ 1000000) (hbase : base ≤ w.heap.size) :
    ∃ v' w', (Builtin.append_ #[t, t] ty #[v, vx]).run P w = .ok v' w' ∧ OwnC e size base w' v' (cs ++ ds) ∧ Only (fun k => v.ownBlock = some k) w w' ∧ (v'.ownBlock = v.ownBlock ∨ v'.ownBlock = some w.heap.size) := by
  obtain ⟨ao, cap, rfl, hc1, hc2, hc3, hl, hcell⟩ := hrow
  cases ao with
  | none =>
    have hcap := hc3 rfl
    subst hcap
    have hd : ds = [] := List.eq_nil_of_length_eq_zero (by omega)
    subst hd
    exact ⟨v, w, run_append_owned_none (P := P) (w := w) base t ty e i size ht hi v cs.length cs.flatten hown.1, by simpa using hown, Only.refl _ _, .inl rfl⟩
  | some ad =>
    obtain ⟨v', w', hr, h2, h3, h4, h5⟩ := run_append_own_at (P := P) w base t ty e i z size bytes ht hi hz hsize hby hzs hsz v cs.length cs.flatten hown.1 ad ds.length cap ds.flatten (flatten_len size ds hl) (by
      intro j u hu
      have hj : j < ds.length * size := by
        rw [← flatten_len size ds hl]
        rcases Nat.lt_or_ge j ds.flatten.length with q | q
        · exact q
        · rw [List.getElem?_eq_none q] at hu; cases hu
      have hq : j / size < ds.length := Nat.div_lt_of_lt_mul (by rw [Nat.mul_comm]; exact hj)
      have hm : j % size < size := Nat.mod_lt _ hsz
      have e1 : j = (j / size) * size + j % size := by rw [Nat.mul_comm]; exact (Nat.div_add_mod j size).symm
      obtain ⟨b, off, hab, _, hc⟩ := hcell (j / size) ds[j / size] (List.getElem?_eq_getElem hq)
      obtain rfl := Option.some.inj hab
      rw [e1] at hu ⊢
      rw [flatten_get size ds hl _ _ (List.getElem?_eq_getElem hq) _ hm] at hu
      rw [addr_add]
      exact hc _ u hu) (by
      intro u hu
      obtain ⟨c, hc, huc⟩ := List.mem_flatten.1 hu
      exact h1 c hc u huc) (by unfold maxLen; omega) (by
      have : (cs.length + ds.length) * bytes ≤ 1000000 * 1000 := Nat.mul_le_mul hb hb8
      omega) hbase
    refine ⟨v', w', hr, ⟨?_, ?_⟩, ⟨h3.os, h3.tape, h3.output, h3.size, fun k hk hn => h3.block k hk (fun q => hn q.symm)⟩, h5⟩
    · rw [List.length_append, List.flatten_append]
      exact h2
    · intro c hc
      rcases List.mem_append.1 hc with q | q
      · exact hown.2 c q
      · exact hl c q

section
variable {P : Program} {w : World} {ops : Array Oper} {rest : List Oper} {o : Oper} {a : Act} {Q : Exit → Act → World → Prop} {K : Act → World → Prop} {E : Prop}
theorem wp_app_row (s x : Operand) (t : TypeId) (ho : o.op = .call { callee := .builtin .append, args := #[s, x], argTypes := #[t, t] })
    (e : TypeId) (i : TypeInfo) (z : Value) (size bytes : Nat) (ht : P.underlying t = some (.slice e)) (hi : P.info? e = some i) (hz : i.zero = some z) (hsize : i.size = size) (hby : i.bytes = bytes) (hzs : z.cells.size = size) (hsz : 0 < size) (hb8 : bytes ≤ 1000)
    (base : Nat) (v : Value) (cs : List (List Value)) (hs : a.eval s = v) (hown : OwnC e size base w v cs) (F : Nat → Prop) (vx : Value) (ds : List (List Value)) (hx : a.eval x = vx) (hrow : RowAt F w size vx ds)
    (h1 : ∀ c ∈ ds, ∀ u ∈ c, u.oneCell' = true) (hb : cs.length + ds.length ≤ 1000000) (hbase : base ≤ w.heap.size)
    (h : ∀ v' w', OwnC e size base w' v' (cs ++ ds) → Only (fun k => v.ownBlock = some k) w w' → (v'.ownBlock = v.ownBlock ∨ v'.ownBlock = some w.heap.size) → K (a.put o.dst v') w') : o.wp P a w K Q := by
  obtain ⟨v', w', hr, h2, h3, h4⟩ := run_app_row (P := P) t o.type e i z size bytes ht hi hz hsize hby hzs hsz hb8 base v cs hown F vx ds hrow h1 hb hbase
  unfold Oper.wp execOp
  simp only [ho, resolve, invoke, builtin, Sem.run_bind, Sem.run_pure, Result.andThen_ok, List.map_toArray, List.map_cons, List.map_nil, hs, hx, hr]
  exact h v' w' h2 h3 h4
theorem list_app_row (hgd : o.guard = none) (s x : Operand) (t : TypeId) (ho : o.op = .call { callee := .builtin .append, args := #[s, x], argTypes := #[t, t] })
    (e : TypeId) (i : TypeInfo) (z : Value) (size bytes : Nat) (ht : P.underlying t = some (.slice e)) (hi : P.info? e = some i) (hz : i.zero = some z) (hsize : i.size = size) (hby : i.bytes = bytes) (hzs : z.cells.size = size) (hsz : 0 < size) (hb8 : bytes ≤ 1000)
    (base : Nat) (v : Value) (cs : List (List Value)) (hs : a.eval s = v) (hown : OwnC e size base w v cs) (F : Nat → Prop) (vx : Value) (ds : List (List Value)) (hx : a.eval x = vx) (hrow : RowAt F w size vx ds)
    (h1 : ∀ c ∈ ds, ∀ u ∈ c, u.oneCell' = true) (hb : cs.length + ds.length ≤ 1000000) (hbase : base ≤ w.heap.size)
    (h : ∀ v' w', OwnC e size base w' v' (cs ++ ds) → Only (fun k => v.ownBlock = some k) w w' → (v'.ownBlock = v.ownBlock ∨ v'.ownBlock = some w.heap.size) → wpList P ops Q rest (a.put o.dst v') w') : wpList P ops Q (o :: rest) a w :=
  wpList_plain hgd fun _ hK => wp_app_row s x t ho e i z size bytes ht hi hz hsize hby hzs hsz hb8 base v cs hs hown F vx ds hx hrow h1 hb hbase fun v' w' h2 h3 h4 => hK _ _ (h v' w' h2 h3 h4)
theorem step_app_row (hgd : o.guard = none) (s x : Operand) (t : TypeId) (ho : o.op = .call { callee := .builtin .append, args := #[s, x], argTypes := #[t, t] })
    (e : TypeId) (i : TypeInfo) (z : Value) (size bytes : Nat) (ht : P.underlying t = some (.slice e)) (hi : P.info? e = some i) (hz : i.zero = some z) (hsize : i.size = size) (hby : i.bytes = bytes) (hzs : z.cells.size = size) (hsz : 0 < size) (hb8 : bytes ≤ 1000)
    (base : Nat) (v : Value) (cs : List (List Value)) (hs : a.eval s = v) (hown : OwnC e size base w v cs) (F : Nat → Prop) (vx : Value) (ds : List (List Value)) (hx : a.eval x = vx) (hrow : RowAt F w size vx ds)
    (h1 : ∀ c ∈ ds, ∀ u ∈ c, u.oneCell' = true) (hb : cs.length + ds.length ≤ 1000000) (hbase : base ≤ w.heap.size)
    (h : ∀ v' w', OwnC e size base w' v' (cs ++ ds) → Only (fun k => v.ownBlock = some k) w w' → (v'.ownBlock = v.ownBlock ∨ v'.ownBlock = some w.heap.size) → K (a.put o.dst v') w') :
    if Region.wanted o (yielded ops a.tmps) = true then Oper.wp P o a w K Q else E := by
  have hw : Region.wanted o (yielded ops a.tmps) = true := by simp [Region.wanted, hgd]
  rw [if_pos hw]
  exact wp_app_row s x t ho e i z size bytes ht hi hz hsize hby hzs hsz hb8 base v cs hs hown F vx ds hx hrow h1 hb hbase h
end
/-- A row that fills a block of its own. -/
theorem RowAt.block {w : World} {n b cap : Nat} {cs : List (List Value)} (hn : ∀ c ∈ cs, c.length = n) (h : Is w b cs.flatten.toArray) (hc : cs.length ≤ cap) (hm : cap ≤ maxLen) : RowAt (fun k => k = b) w n (.slice (some ⟨b, 0, none⟩) cs.length cap) cs := by
  refine ⟨some ⟨b, 0, none⟩, cap, rfl, hc, hm, by simp, hn, fun i d hd => ⟨b, 0, rfl, rfl, fun j u hu => ?_⟩⟩
  have hj : j < n := by
    have := hn d (List.mem_of_getElem? hd)
    rcases Nat.lt_or_ge j d.length with q | q
    · omega
    · rw [List.getElem?_eq_none q] at hu; cases hu
  rw [Nat.zero_add]
  exact h.cell _ (by rw [List.getElem?_toArray, flatten_get n cs hn i d hd j hj]; exact hu)
theorem own_some {e : TypeId} {n base : Nat} {w : World} {v : Value} {cs : List (List Value)} (h : OwnC e n base w v cs) (hl : 0 < cs.length) : ∃ g cap, v = .slice (some ⟨g, 0, none⟩) cs.length cap ∧ cs.length ≤ cap ∧ cap ≤ maxLen := by
  rcases h.1.2 with ⟨_, h0⟩ | ⟨g, cap, cur, hv, _, _, hc1, hc2, _⟩
  · omega
  · exact ⟨g, cap, hv, hc1, hc2⟩
theorem own_len {e : TypeId} {n base m : Nat} {w : World} {v : Value} {cs : List (List Value)} (h : OwnC e n base w v cs) (hl : cs.length = m + 1) : ∃ g cap, v = .slice (some ⟨g, 0, none⟩) (m + 1) cap ∧ m + 1 ≤ cap ∧ cap ≤ maxLen := by
  obtain ⟨g, cap, h1, h2, h3⟩ := own_some h (by omega)
  rw [hl] at h1 h2
  exact ⟨g, cap, h1, h2, h3⟩
theorem own_snoc_some {e : TypeId} {n base m : Nat} {w : World} {v : Value} {cs : List (List Value)} {c : List Value} (h : OwnC e n base w v (cs ++ [c])) (hl : cs.length = m) : ∃ g cap, v = .slice (some ⟨g, 0, none⟩) (m + 1) cap ∧ m + 1 ≤ cap ∧ cap ≤ maxLen := by
  obtain ⟨g, cap, h1, h2, h3⟩ := own_some h (by simp)
  rw [List.length_append, hl] at h1 h2
  exact ⟨g, cap, h1, h2, h3⟩
theorem own_frozen {e : TypeId} {n base : Nat} {w : World} {g len cap : Nat} {cs : List (List Value)} (h : OwnC e n base w (.slice (some ⟨g, 0, none⟩) len cap) cs) (i : Nat) : w.frozen? ⟨g, i, none⟩ = false := by
  rcases h.1.2 with ⟨e, _⟩ | ⟨g', cap', cur, e, _, hh, _⟩
  · simp at e
  · simp at e
    obtain ⟨rfl, _⟩ := e
    exact Is.frozen ⟨_, hh⟩ i
/-- A row of one element, in a block of its own. -/
theorem RowAt.one {w : World} {n b cap : Nat} {c : List Value} (hn : c.length = n) (h : Is w b c.toArray) (hc : 1 ≤ cap) (hm : cap ≤ maxLen) : RowAt (fun k => k = b) w n (.slice (some ⟨b, 0, none⟩) 1 cap) [c] := by
  refine ⟨some ⟨b, 0, none⟩, cap, rfl, hc, hm, by simp, by simp [hn], fun i d hd => ?_⟩
  cases i with
  | zero =>
    simp at hd
    subst hd
    refine ⟨b, 0, rfl, rfl, fun j u hu => ?_⟩
    have : (0 : Nat) + (0 * n + j) = j := by omega
    rw [this]
    exact h.cell j (by simpa using hu)
  | succ i => simp at hd
end Go.Proofs.Ytigmgkcojifbcaa.Mem
