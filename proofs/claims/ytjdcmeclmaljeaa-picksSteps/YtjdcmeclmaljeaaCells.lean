/- Rows whose elements are so many cells each: how they are read, what keeps them, and what an append leaves. -/
import Derived.Test.YtjdcmeclmaljeaaMem
import Derived.Laws.AppendOwnNone
namespace Go.Proofs.Ytjdcmeclmaljeaa.Mem
open Go.RowKit Go.Proofs.Ytjdcmeclmaljeaa.Dig
set_option linter.unusedVariables false
set_option linter.unusedSimpArgs false

theorem addr_add (b off n : Nat) : (⟨b, off, none⟩ : Addr).add n = ⟨b, off + n, none⟩ := by unfold Addr.add; split <;> simp_all
/-- v is a row of elements of n cells each, whose cells are cs; it lies in blocks of F. -/
def RowAt (F : Nat → Prop) (w : World) (n : Nat) (v : Value) (cs : List (List Value)) : Prop :=
  ∃ a cap, v = .slice a cs.length cap ∧ cs.length ≤ cap ∧ cap ≤ maxLen ∧ (a = none → cap = 0) ∧ (∀ c ∈ cs, c.length = n) ∧
    ∀ i c, cs[i]? = some c → ∃ b off, a = some ⟨b, off, none⟩ ∧ F b ∧ ∀ j u, c[j]? = some u → w.cell? ⟨b, off + (i * n + j), none⟩ = some u

theorem RowAt.nil (F : Nat → Prop) (w : World) (n : Nat) : RowAt F w n (.slice none 0 0) [] := ⟨none, 0, rfl, by simp, by unfold maxLen; omega, fun _ => rfl, by simp, by simp⟩
theorem RowAt.mono {F F' : Nat → Prop} {w : World} {n : Nat} {v : Value} {cs : List (List Value)} (h : RowAt F w n v cs) (hf : ∀ b, F b → F' b) : RowAt F' w n v cs := by
  obtain ⟨a, cap, h1, h2, h3, h4, h5, h6⟩ := h
  exact ⟨a, cap, h1, h2, h3, h4, h5, fun i c hc => let ⟨b, off, g1, g2, g3⟩ := h6 i c hc; ⟨b, off, g1, hf b g2, g3⟩⟩
theorem RowAt.only {F S : Nat → Prop} {w w' : World} {n : Nat} {v : Value} {cs : List (List Value)} (h : RowAt F w n v cs) (ho : Only S w w') (hs : ∀ b, F b → ¬ S b) : RowAt F w' n v cs := by
  obtain ⟨a, cap, h1, h2, h3, h4, h5, h6⟩ := h
  exact ⟨a, cap, h1, h2, h3, h4, h5, fun i c hc => let ⟨b, off, g1, g2, g3⟩ := h6 i c hc; ⟨b, off, g1, g2, fun j u hu => ho.cell (g3 j u hu) (hs b g2)⟩⟩
theorem RowAt.keep {F : Nat → Prop} {w w' : World} {n : Nat} {v : Value} {cs : List (List Value)} (h : RowAt F w n v cs) (ho : Below w.heap.size w w') : RowAt F w' n v cs :=
  h.only (Only.of_below (S := fun _ => False) ho) (fun _ _ q => q)
/-- Its blocks are there. -/
theorem RowAt.lt {F : Nat → Prop} {w : World} {n : Nat} {v : Value} {cs : List (List Value)} (h : RowAt F w n v cs) (hn : 0 < n) : RowAt (fun b => F b ∧ b < w.heap.size) w n v cs := by
  obtain ⟨a, cap, h1, h2, h3, h4, h5, h6⟩ := h
  refine ⟨a, cap, h1, h2, h3, h4, h5, fun i c hc => ?_⟩
  obtain ⟨b, off, g1, g2, g3⟩ := h6 i c hc
  have hl : c.length = n := h5 c (List.mem_of_getElem? hc)
  have hc0 := g3 0 (c[0]'(by omega)) (List.getElem?_eq_getElem (by omega))
  exact ⟨b, off, g1, ⟨g2, lt_of_cell hc0⟩, g3⟩
/-- Element i. -/
theorem RowAt.at {F : Nat → Prop} {w : World} {n : Nat} {a : Option Addr} {len cap : Nat} {cs : List (List Value)} (h : RowAt F w n (.slice a len cap) cs) {i : Nat} (hi : i < cs.length) :
    len = cs.length ∧ ∃ b off, a = some ⟨b, off, none⟩ ∧ F b ∧ ∀ j u, cs[i][j]? = some u → w.cell? ⟨b, off + (i * n + j), none⟩ = some u := by
  obtain ⟨a', cap', h1, h2, h3, h4, h5, h6⟩ := h
  simp at h1
  obtain ⟨rfl, rfl, rfl⟩ := h1
  obtain ⟨b, off, g1, g2, g3⟩ := h6 i cs[i] (List.getElem?_eq_getElem hi)
  exact ⟨rfl, b, off, g1, g2, g3⟩
theorem RowAt.shape {F : Nat → Prop} {w : World} {n : Nat} {v : Value} {cs : List (List Value)} (h : RowAt F w n v cs) : ∃ a cap, v = .slice a cs.length cap ∧ cs.length ≤ cap ∧ cap ≤ maxLen := by
  obtain ⟨a, cap, h1, h2, h3, _⟩ := h
  exact ⟨a, cap, h1, h2, h3⟩

theorem flatten_get {α : Type} (n : Nat) : ∀ (cs : List (List α)) (_ : ∀ c ∈ cs, c.length = n) (i : Nat) (c : List α) (_ : cs[i]? = some c) (j : Nat) (_ : j < n), cs.flatten[i * n + j]? = c[j]?
  | [], _, i, c, hc, _, _ => by simp at hc
  | d :: cs, hl, 0, c, hc, j, hj => by
    simp at hc
    subst hc
    have := hl d List.mem_cons_self
    rw [Nat.zero_mul, Nat.zero_add, List.flatten_cons, List.getElem?_append_left (by omega)]
  | d :: cs, hl, i + 1, c, hc, j, hj => by
    have := hl d List.mem_cons_self
    simp at hc
    rw [List.flatten_cons, Nat.succ_mul, List.getElem?_append_right (by omega), show i * n + n + j - d.length = i * n + j by omega]
    exact flatten_get n cs (fun c hc => hl c (List.mem_cons_of_mem _ hc)) i c hc j hj
theorem flatten_len {α : Type} (n : Nat) : ∀ (cs : List (List α)) (_ : ∀ c ∈ cs, c.length = n), cs.flatten.length = cs.length * n
  | [], _ => by simp
  | d :: cs, hl => by
    rw [List.flatten_cons, List.length_append, flatten_len n cs (fun c hc => hl c (List.mem_cons_of_mem _ hc)), hl d List.mem_cons_self, List.length_cons, Nat.succ_mul, Nat.add_comm]

/-- v is a row of the call's own, of elements of n cells each. -/
def OwnC (e : TypeId) (n base : Nat) (w : World) (v : Value) (cs : List (List Value)) : Prop := w.ownsRow base e n v cs.length cs.flatten ∧ ∀ c ∈ cs, c.length = n
theorem OwnC.nil (e : TypeId) (n base : Nat) (w : World) : OwnC e n base w (.slice none 0 0) [] := ⟨World.ownsRow_nil _ _ _ _, by simp⟩
theorem OwnC.empty (e : TypeId) (n base : Nat) (w : World) (b : Nat) (hb : b = w.heap.size) (hB : base ≤ w.heap.size) : OwnC e n base (w.alloc (.cells #[] e)) (.slice (some ⟨b, 0, none⟩) 0 0) [] := by
  subst hb
  exact ⟨World.ownsRow_made w #[] 0 hB (by unfold maxLen; omega) (by simp), by simp⟩
theorem OwnC.lt {e : TypeId} {n base : Nat} {w : World} {v : Value} {cs : List (List Value)} (h : OwnC e n base w v cs) : ∀ b, v.ownBlock = some b → base ≤ b ∧ b < w.heap.size := World.ownsRow.lt h.1
theorem OwnC.keep {e : TypeId} {n base : Nat} {w w' : World} {v : Value} {cs : List (List Value)} (h : OwnC e n base w v cs) {S : Nat → Prop} (ho : Only S w w') (hs : ∀ b, v.ownBlock = some b → ¬ S b) : OwnC e n base w' v cs := by
  refine ⟨⟨h.1.1, ?_⟩, h.2⟩
  rcases h.1.2 with hn | ⟨g, cap, cur, rfl, hg, hh, r⟩
  · exact .inl hn
  · have hlt : g < w.heap.size := (h.lt g rfl).2
    exact .inr ⟨g, cap, cur, rfl, hg, by rw [ho.block g hlt (hs g rfl)]; exact hh, r⟩
theorem OwnC.alloc {e : TypeId} {n base : Nat} {w : World} {v : Value} {cs : List (List Value)} (h : OwnC e n base w v cs) (o : Obj) : OwnC e n base (w.alloc o) v cs := ⟨World.ownsRow.alloc h.1 o, h.2⟩
theorem OwnC.drew {e : TypeId} {n base : Nat} {w : World} {v : Value} {cs : List (List Value)} (h : OwnC e n base w v cs) : OwnC e n base w.drew v cs := h
/-- How it is read: it lies from base on. -/
theorem OwnC.row {e : TypeId} {n base : Nat} {w : World} {v : Value} {cs : List (List Value)} (h : OwnC e n base w v cs) : RowAt (fun b => base ≤ b ∧ v.ownBlock = some b) w n v cs := by
  obtain ⟨h1, hl⟩ := h
  rcases h1.2 with ⟨hv, h0⟩ | ⟨g, cap, cur, hv, hg, hh, hc1, hc2, hc3, hc4⟩
  · have : cs = [] := List.eq_nil_of_length_eq_zero h0
    subst this
    subst hv
    exact RowAt.nil _ _ _
  · subst hv
    refine ⟨_, cap, rfl, hc1, hc2, by simp, hl, fun i c hc => ⟨g, 0, rfl, ⟨hg, rfl⟩, fun j u hu => ?_⟩⟩
    have hci : c.length = n := hl c (List.mem_of_getElem? hc)
    have hj : j < n := by
      rcases Nat.lt_or_ge j c.length with q | q
      · omega
      · rw [List.getElem?_eq_none q] at hu; cases hu
    have hi : i < cs.length := by
      rcases Nat.lt_or_ge i cs.length with q | q
      · exact q
      · rw [List.getElem?_eq_none q] at hc; cases hc
    have hlt : i * n + j < cs.length * n := by
      have : (i + 1) * n ≤ cs.length * n := Nat.mul_le_mul_right n (by omega)
      rw [Nat.succ_mul] at this
      omega
    rw [Nat.zero_add, h1.cellAt _ hlt, flatten_get n cs hl i c hc j hj, hu]

section
variable {P : Program} {w w0 : World} {ops : Array Oper} {rest : List Oper} {o : Oper} {a : Act} {Q : Exit → Act → World → Prop}
/-- append(v, x...), v a row of the call's own, x whatever row of such elements. -/
theorem app_row (hgd : o.guard = none) (s x : Operand) (t : TypeId) (ho : o.op = .call { callee := .builtin .append, args := #[s, x], argTypes := #[t, t] })
    (e : TypeId) (i : TypeInfo) (z : Value) (size bytes : Nat) (ht : P.underlying t = some (.slice e)) (hi : P.info? e = some i) (hz : i.zero = some z) (hsize : i.size = size) (hby : i.bytes = bytes) (hzs : z.cells.size = size) (hsz : 0 < size) (hb8 : bytes ≤ 1000)
    (base : Nat) (v : Value) (cs : List (List Value)) (hs : a.eval s = v) (hown : OwnC e size base w v cs) (F : Nat → Prop) (vx : Value) (ds : List (List Value)) (hx : a.eval x = vx) (hrow : RowAt F w size vx ds)
    (h1 : ∀ c ∈ ds, ∀ u ∈ c, u.oneCell' = true) (hb : cs.length + ds.length ≤ 1000000) (hbase : base ≤ w.heap.size)
    (h : ∀ v' w', OwnC e size base w' v' (cs ++ ds) → Only (fun k => v.ownBlock = some k) w w' → wpList P ops Q rest (a.put o.dst v') w') : wpList P ops Q (o :: rest) a w := by
  obtain ⟨ao, cap, rfl, hc1, hc2, hc3, hl, hcell⟩ := hrow
  cases ao with
  | none =>
    have hcap := hc3 rfl
    subst hcap
    have hd : ds = [] := List.eq_nil_of_length_eq_zero (by omega)
    subst hd
    exact wpList_append_own_none hgd s x t ho base e i size ht hi v cs.length cs.flatten hs hown.1 hx (h v w (by simpa using hown) (Only.refl _ _))
  | some ad =>
    refine wpList_append_own w hgd s x t ho base e i z size bytes ht hi hz hsize hby hzs hsz v cs.length cs.flatten hs hown.1 ad ds.length cap ds.flatten hx (flatten_len size ds hl) ?_ ?_ (by unfold maxLen; omega) ?_ hbase ?_
    · intro j u hu
      have hj : j < ds.length * size := by
        rw [← flatten_len size ds hl]
        rcases Nat.lt_or_ge j ds.flatten.length with q | q
        · exact q
        · rw [List.getElem?_eq_none q] at hu; cases hu
      have hq : j / size < ds.length := Nat.div_lt_of_lt_mul (by rw [Nat.mul_comm]; exact hj)
      have hm : j % size < size := Nat.mod_lt _ hsz
      have e1 : j = (j / size) * size + j % size := by rw [Nat.mul_comm]; exact (Nat.div_add_mod j size).symm
      obtain ⟨b, off, hab, _, hc⟩ := hcell (j / size) ds[j / size] (List.getElem?_eq_getElem hq)
      obtain rfl := Option.some.inj hab
      rw [e1] at hu ⊢
      rw [flatten_get size ds hl _ _ (List.getElem?_eq_getElem hq) _ hm] at hu
      rw [addr_add]
      exact hc _ u hu
    · intro u hu
      obtain ⟨c, hc, huc⟩ := List.mem_flatten.1 hu
      exact h1 c hc u huc
    · have : (cs.length + ds.length) * bytes ≤ 1000000 * 1000 := Nat.mul_le_mul hb hb8
      omega
    · intro v' w' hown' hgrow _
      refine h v' w' ⟨?_, ?_⟩ ⟨hgrow.os, hgrow.tape, hgrow.output, hgrow.size, fun k hk hn => hgrow.block k hk (fun q => hn q.symm)⟩
      · rw [List.length_append, List.flatten_append]
        exact hown'
      · intro c hc
        rcases List.mem_append.1 hc with q | q
        · exact hown.2 c q
        · exact hl c q
end
end Go.Proofs.Ytjdcmeclmaljeaa.Mem
