/- Histories in memory: rows of transactions, each with a row of operations, each with a row of numbers: how they are read, and what keeps them. -/
import Derived.Test.YtjdcmeclmaljeaaCells
import Derived.Deep.Slices
namespace Go.Proofs.Ytjdcmeclmaljeaa.Mem
open Go.RowKit Go.Proofs.Ytjdcmeclmaljeaa.Dig Go.ChangeShapes Go.WideShapes Go.Deep
set_option linter.unusedVariables false
set_option linter.unusedSimpArgs false

/-- An operation, a transaction. -/
structure OpM where
  read : Bool
  key : Int
  value : Int
  list : List Int
structure TxnM where
  id : Int
  ab : Bool
  ops : List OpM

/-- Element by element. -/
def AllAt {α : Type} (R : List Value → α → Prop) (cs : List (List Value)) (xs : List α) : Prop := cs.length = xs.length ∧ ∀ (i : Nat) (c : List Value) (x : α), cs[i]? = some c → xs[i]? = some x → R c x
theorem AllAt.nil {α : Type} (R : List Value → α → Prop) : AllAt R [] [] := ⟨rfl, by simp⟩
theorem AllAt.mono {α : Type} {R R' : List Value → α → Prop} {cs : List (List Value)} {xs : List α} (h : AllAt R cs xs) (hr : ∀ c x, R c x → R' c x) : AllAt R' cs xs := ⟨h.1, fun i c x h1 h2 => hr _ _ (h.2 i c x h1 h2)⟩
theorem AllAt.one {α : Type} {R : List Value → α → Prop} {c : List Value} {x : α} (h : R c x) : AllAt R [c] [x] := by
  refine ⟨rfl, fun i c' x' h1 h2 => ?_⟩
  cases i with
  | zero => simp at h1 h2; subst h1; subst h2; exact h
  | succ i => simp at h1
theorem AllAt.append {α : Type} {R : List Value → α → Prop} {cs ds : List (List Value)} {xs ys : List α} (h : AllAt R cs xs) (k : AllAt R ds ys) : AllAt R (cs ++ ds) (xs ++ ys) := by
  refine ⟨by rw [List.length_append, List.length_append, h.1, k.1], fun i c x h1 h2 => ?_⟩
  rcases Nat.lt_or_ge i cs.length with q | q
  · rw [List.getElem?_append_left q] at h1
    rw [List.getElem?_append_left (by rw [← h.1]; exact q)] at h2
    exact h.2 i c x h1 h2
  · rw [List.getElem?_append_right q] at h1
    rw [List.getElem?_append_right (by rw [← h.1]; exact q), ← h.1] at h2
    exact k.2 _ c x h1 h2
theorem AllAt.get {α : Type} {R : List Value → α → Prop} {cs : List (List Value)} {xs : List α} (h : AllAt R cs xs) {i : Nat} (hi : i < xs.length) : ∃ hc : i < cs.length, R cs[i] xs[i] :=
  ⟨by rw [h.1]; exact hi, h.2 i _ _ (List.getElem?_eq_getElem (by rw [h.1]; exact hi)) (List.getElem?_eq_getElem hi)⟩

def IntsAt (F : Nat → Prop) (w : World) (v : Value) (l : List Int) : Prop := RowAt F w 1 v (l.map fun n => [.int .i64 n]) ∧ ∀ n ∈ l, (Lit.int .i64 n).wf = true
def OpAt (F : Nat → Prop) (w : World) (c : List Value) (o : OpM) : Prop := ∃ v, c = [.bool o.read, .int .i64 o.key, .int .i64 o.value, v] ∧ IntsAt F w v o.list ∧ (Lit.int .i64 o.key).wf = true ∧ (Lit.int .i64 o.value).wf = true
def OpsAt (F : Nat → Prop) (w : World) (v : Value) (os : List OpM) : Prop := ∃ cs, RowAt F w 4 v cs ∧ AllAt (OpAt F w) cs os
def TxnAt (F : Nat → Prop) (w : World) (c : List Value) (t : TxnM) : Prop := ∃ v, c = [.int .i64 t.id, .bool t.ab, v] ∧ OpsAt F w v t.ops ∧ (Lit.int .i64 t.id).wf = true
def TxnsAt (F : Nat → Prop) (w : World) (v : Value) (ts : List TxnM) : Prop := ∃ cs, RowAt F w 3 v cs ∧ AllAt (TxnAt F w) cs ts

section
variable {F F' S : Nat → Prop} {w w' : World}
theorem IntsAt.mono {v : Value} {l : List Int} (h : IntsAt F w v l) (hf : ∀ b, F b → F' b) : IntsAt F' w v l := ⟨h.1.mono hf, h.2⟩
theorem OpAt.mono {c : List Value} {o : OpM} (h : OpAt F w c o) (hf : ∀ b, F b → F' b) : OpAt F' w c o := let ⟨v, h1, h2, h3⟩ := h; ⟨v, h1, h2.mono hf, h3⟩
theorem OpsAt.mono {v : Value} {os : List OpM} (h : OpsAt F w v os) (hf : ∀ b, F b → F' b) : OpsAt F' w v os := let ⟨cs, h1, h2⟩ := h; ⟨cs, h1.mono hf, h2.mono fun _ _ q => q.mono hf⟩
theorem TxnAt.mono {c : List Value} {t : TxnM} (h : TxnAt F w c t) (hf : ∀ b, F b → F' b) : TxnAt F' w c t := let ⟨v, h1, h2, h3⟩ := h; ⟨v, h1, h2.mono hf, h3⟩
theorem TxnsAt.mono {v : Value} {ts : List TxnM} (h : TxnsAt F w v ts) (hf : ∀ b, F b → F' b) : TxnsAt F' w v ts := let ⟨cs, h1, h2⟩ := h; ⟨cs, h1.mono hf, h2.mono fun _ _ q => q.mono hf⟩
theorem IntsAt.only {v : Value} {l : List Int} (h : IntsAt F w v l) (ho : Only S w w') (hs : ∀ b, F b → ¬ S b) : IntsAt F w' v l := ⟨h.1.only ho hs, h.2⟩
theorem OpAt.only {c : List Value} {o : OpM} (h : OpAt F w c o) (ho : Only S w w') (hs : ∀ b, F b → ¬ S b) : OpAt F w' c o := let ⟨v, h1, h2, h3⟩ := h; ⟨v, h1, h2.only ho hs, h3⟩
theorem OpsAt.only {v : Value} {os : List OpM} (h : OpsAt F w v os) (ho : Only S w w') (hs : ∀ b, F b → ¬ S b) : OpsAt F w' v os := let ⟨cs, h1, h2⟩ := h; ⟨cs, h1.only ho hs, h2.mono fun _ _ q => q.only ho hs⟩
theorem TxnAt.only {c : List Value} {t : TxnM} (h : TxnAt F w c t) (ho : Only S w w') (hs : ∀ b, F b → ¬ S b) : TxnAt F w' c t := let ⟨v, h1, h2, h3⟩ := h; ⟨v, h1, h2.only ho hs, h3⟩
theorem TxnsAt.only {v : Value} {ts : List TxnM} (h : TxnsAt F w v ts) (ho : Only S w w') (hs : ∀ b, F b → ¬ S b) : TxnsAt F w' v ts := let ⟨cs, h1, h2⟩ := h; ⟨cs, h1.only ho hs, h2.mono fun _ _ q => q.only ho hs⟩
theorem IntsAt.keep {v : Value} {l : List Int} (h : IntsAt F w v l) (ho : Below w.heap.size w w') : IntsAt F w' v l := h.only (Only.of_below (S := fun _ => False) ho) (fun _ _ q => q)
theorem OpsAt.keep {v : Value} {os : List OpM} (h : OpsAt F w v os) (ho : Below w.heap.size w w') : OpsAt F w' v os := h.only (Only.of_below (S := fun _ => False) ho) (fun _ _ q => q)
theorem TxnsAt.keep {v : Value} {ts : List TxnM} (h : TxnsAt F w v ts) (ho : Below w.heap.size w w') : TxnsAt F w' v ts := h.only (Only.of_below (S := fun _ => False) ho) (fun _ _ q => q)
theorem IntsAt.lt {v : Value} {l : List Int} (h : IntsAt F w v l) : IntsAt (fun b => F b ∧ b < w.heap.size) w v l := ⟨h.1.lt (by omega), h.2⟩
theorem OpAt.lt {c : List Value} {o : OpM} (h : OpAt F w c o) : OpAt (fun b => F b ∧ b < w.heap.size) w c o := let ⟨v, h1, h2, h3⟩ := h; ⟨v, h1, h2.lt, h3⟩
theorem OpsAt.lt {v : Value} {os : List OpM} (h : OpsAt F w v os) : OpsAt (fun b => F b ∧ b < w.heap.size) w v os := let ⟨cs, h1, h2⟩ := h; ⟨cs, h1.lt (by omega), h2.mono fun _ _ q => q.lt⟩
theorem TxnAt.lt {c : List Value} {t : TxnM} (h : TxnAt F w c t) : TxnAt (fun b => F b ∧ b < w.heap.size) w c t := let ⟨v, h1, h2, h3⟩ := h; ⟨v, h1, h2.lt, h3⟩
theorem TxnsAt.lt {v : Value} {ts : List TxnM} (h : TxnsAt F w v ts) : TxnsAt (fun b => F b ∧ b < w.heap.size) w v ts := let ⟨cs, h1, h2⟩ := h; ⟨cs, h1.lt (by omega), h2.mono fun _ _ q => q.lt⟩

theorem IntsAt.nil : IntsAt F w (.slice none 0 0) [] := ⟨RowAt.nil _ _ _, by simp⟩
theorem OpsAt.nil : OpsAt F w (.slice none 0 0) [] := ⟨[], RowAt.nil _ _ _, AllAt.nil _⟩
theorem TxnsAt.nil : TxnsAt F w (.slice none 0 0) [] := ⟨[], RowAt.nil _ _ _, AllAt.nil _⟩
/-- A row of numbers, as it is read. -/
theorem IntsAt.rd {v : Value} {l : List Int} (h : IntsAt F w v l) (hl : l.length ≤ 1000000000000) : ∃ a cap, v = .slice a l.length cap ∧ l.length ≤ cap ∧ Rd .i64 w a l.length (fun i => l.getD i 0) := by
  obtain ⟨⟨a, cap, h1, h2, h3, h4, h5, h6⟩, hw⟩ := h
  rw [List.length_map] at h1 h2
  refine ⟨a, cap, h1, h2, hl, fun i hi => ?_⟩
  obtain ⟨b, off, g1, _, g3⟩ := h6 i [.int .i64 l[i]] (by simp [List.getElem?_map, List.getElem?_eq_getElem hi])
  have e : l.getD i 0 = l[i] := by simp [List.getD_eq_getElem?_getD, List.getElem?_eq_getElem hi]
  refine ⟨b, off, g1, ?_, ?_⟩
  · have := g3 0 (.int .i64 l[i]) rfl
    rw [Nat.mul_one, Nat.add_zero] at this
    show _ = some (Value.int .i64 (l.getD i 0))
    rw [e]
    exact this
  · show (Lit.int .i64 (l.getD i 0)).wf = true
    rw [e]
    exact hw _ (List.getElem_mem hi)
/-- .. and back. -/
theorem IntsAt.of_rd {a : Option Addr} {cap : Nat} {l : List Int} (h : Rd .i64 w a l.length (fun i => l.getD i 0)) (hc : l.length ≤ cap) (hm : cap ≤ maxLen) (hn : a = none → cap = 0) (hf : ∀ x, a = some x → F x.block) : IntsAt F w (.slice a l.length cap) l := by
  have e : ∀ i (hi : i < l.length), l.getD i 0 = l[i] := fun i hi => by simp [List.getD_eq_getElem?_getD, List.getElem?_eq_getElem hi]
  refine ⟨⟨a, cap, by rw [List.length_map], by rw [List.length_map]; exact hc, hm, hn, by simp, fun i c hci => ?_⟩, fun n hn => ?_⟩
  · have hi : i < l.length := by
      rcases Nat.lt_or_ge i l.length with q | q
      · exact q
      · rw [List.getElem?_eq_none (by rw [List.length_map]; exact q)] at hci; cases hci
    rw [List.getElem?_map, List.getElem?_eq_getElem hi] at hci
    obtain rfl := Option.some.inj hci
    obtain ⟨b, off, g1, g2, g3⟩ := h.2 i hi
    refine ⟨b, off, g1, hf _ g1, fun j u hu => ?_⟩
    cases j with
    | zero =>
      simp at hu
      subst hu
      rw [Nat.mul_one, Nat.add_zero, g2]
      show some (Value.int .i64 (l.getD i 0)) = _
      rw [e i hi]
    | succ j => simp at hu
  · obtain ⟨i, hi, rfl⟩ := List.mem_iff_getElem.1 hn
    obtain ⟨b, off, g1, g2, g3⟩ := h.2 i hi
    have g3' : (Lit.int .i64 (l.getD i 0)).wf = true := g3
    rw [e i hi] at g3'
    exact g3'
end

/-! ### Arguments -/
section
variable {H : Type} {enc : TypeId × Value → H} {P : Program} {w : World} {held : Bool}
theorem open_row {t e : TypeId} {n fuel : Nat} {cs : List Value} {x : DataW H × List MemPlace} (ht : P.underlying t = some (.slice e)) (ce : P.cellsOf e = n) (hn : 0 < n) (h : DataW.trod enc P w 0 (fun _ => true) held fuel t cs = some x) :
    ∃ v rows, cs = [v] ∧ RowAt (fun _ => True) w n v rows ∧ ∀ c ∈ rows, ∃ m y, DataW.trod enc P w 0 (fun _ => true) held m e c = some y := by
  rcases open_slice ht h with ⟨h0, _⟩ | ⟨a, len, cap, m, k, D, Pl, rfl, hb, hl, hm, hmm, rfl, hx⟩
  · exact ⟨.slice none 0 0, [], h0, RowAt.nil _ _ _, by simp⟩
  · simp only [if_true] at hmm
    subst hmm
    rw [ce] at hx
    obtain ⟨f, hf⟩ := choose_lt (α := List Value) (n := m) (p := fun i c => w.cells? 0 (a.add (i * n)) n = some c ∧ ∃ k y, DataW.trod enc P w 0 (fun _ => true) held k e c = some y) (fun i hi => by
      obtain ⟨c, h1, h2⟩ := hx i hi
      exact ⟨c, h1, k, _, h2⟩)
    have hlen : ((List.range len).map f).length = len := by simp
    refine ⟨_, (List.range len).map f, rfl, ⟨some a, m, by rw [hlen], by rw [hlen]; exact hl, hm, by simp, ?_, ?_⟩, ?_⟩
    · intro c hc
      obtain ⟨i, hi, rfl⟩ := List.mem_map.1 hc
      exact (World.cells?_some (hf i (by have := List.mem_range.1 hi; omega)).1).2.1
    · intro i c hc
      have hi : i < len := by
        rcases Nat.lt_or_ge i len with q | q
        · exact q
        · rw [List.getElem?_eq_none (by rw [hlen]; exact q)] at hc; cases hc
      rw [List.getElem?_map, List.getElem?_range hi] at hc
      obtain rfl := Option.some.inj hc
      obtain ⟨_, h2, h3⟩ := World.cells?_some (hf i (by omega)).1
      have h00 := (World.cells?_some (hf 0 (by omega)).1)
      obtain ⟨b, off, spot⟩ := a
      have hs : spot = none := by
        have c0 := h00.2.2 0 hn
        rw [List.getElem?_eq_getElem (by rw [h00.2.1]; exact hn)] at c0
        simpa [Addr.add] using World.cell?_spot c0
      subst hs
      refine ⟨b, off, rfl, trivial, fun j u hu => ?_⟩
      have hj : j < n := by
        rcases Nat.lt_or_ge j (f i).length with q | q
        · omega
        · rw [List.getElem?_eq_none q] at hu; cases hu
      have := h3 j hj
      rw [add_add, addr_add] at this
      rw [this, hu]
    · intro c hc
      obtain ⟨i, hi, rfl⟩ := List.mem_map.1 hc
      exact (hf i (by have := List.mem_range.1 hi; omega)).2
theorem open_all {α : Type} [Inhabited α] {R : List Value → α → Prop} : ∀ (rows : List (List Value)), (∀ c ∈ rows, ∃ x, R c x) → ∃ xs, AllAt R rows xs
  | [], _ => ⟨[], AllAt.nil _⟩
  | c :: rows, h => by
    obtain ⟨x, hx⟩ := h c List.mem_cons_self
    obtain ⟨xs, hxs⟩ := open_all rows (fun c hc => h c (List.mem_cons_of_mem _ hc))
    exact ⟨x :: xs, (AllAt.one hx).append hxs⟩
theorem open_intsAt {t e : TypeId} {fuel : Nat} {cs : List Value} {x : DataW H × List MemPlace} (ht : P.underlying t = some (.slice e)) (he : P.underlying e = some (.int .i64)) (ce : P.cellsOf e = 1) (h : DataW.trod enc P w 0 (fun _ => true) held fuel t cs = some x) :
    ∃ v l, cs = [v] ∧ IntsAt (fun _ => True) w v l := by
  obtain ⟨v, rows, rfl, hr, hc⟩ := open_row ht ce (by omega) h
  obtain ⟨l, hl⟩ := open_all (α := Int) (R := fun c n => c = [.int .i64 n] ∧ (Lit.int .i64 n).wf = true) rows (fun c hcm => by
    obtain ⟨m, y, hy⟩ := hc c hcm
    obtain ⟨n, h1, _, h3⟩ := DataW.trod_int he hy
    exact ⟨n, h1, h3⟩)
  have e : rows = l.map fun n => [.int .i64 n] := by
    apply List.ext_getElem?
    intro i
    rcases Nat.lt_or_ge i l.length with q | q
    · obtain ⟨hc, h1, _⟩ := hl.get q
      rw [List.getElem?_eq_getElem hc, List.getElem?_map, List.getElem?_eq_getElem q, h1]
      rfl
    · rw [List.getElem?_eq_none (by rw [hl.1]; exact q), List.getElem?_eq_none (by rw [List.length_map]; exact q)]
  refine ⟨v, l, rfl, e ▸ hr, fun n hn => ?_⟩
  obtain ⟨i, hi, rfl⟩ := List.mem_iff_getElem.1 hn
  exact (hl.get hi).2.2
/-- The types of a history, as a program has them. -/
structure HistTypes (P : Program) (tops top ttxns ttxn tints tint tbool : TypeId) (r k v l i a o : Field) : Prop where
  ops : P.underlying tops = some (.slice top)
  op : P.underlying top = some (.struct #[r, k, v, l])
  opc : P.cellsOf top = 4
  txns : P.underlying ttxns = some (.slice ttxn)
  txn : P.underlying ttxn = some (.struct #[i, a, o])
  txnc : P.cellsOf ttxn = 3
  ints : P.underlying tints = some (.slice tint)
  int : P.underlying tint = some (.int .i64)
  intc : P.cellsOf tint = 1
  bool : P.underlying tbool = some .bool
  boolc : P.cellsOf tbool = 1
  intsc : P.cellsOf tints = 1
  opsc : P.cellsOf tops = 1
  rt : r.type = tbool ∧ r.offset = 0
  kt : k.type = tint ∧ k.offset = 1
  vt : v.type = tint ∧ v.offset = 2
  lt : l.type = tints ∧ l.offset = 3
  it : i.type = tint ∧ i.offset = 0
  at_ : a.type = tbool ∧ a.offset = 1
  ot : o.type = tops ∧ o.offset = 2
instance : Inhabited OpM := ⟨⟨false, 0, 0, []⟩⟩
instance : Inhabited TxnM := ⟨⟨0, false, []⟩⟩
variable {tops top ttxns ttxn tints tint tbool : TypeId} {fr fk fv fl fi fa fo : Field}
theorem open_opsAt (T : HistTypes P tops top ttxns ttxn tints tint tbool fr fk fv fl fi fa fo) {fuel : Nat} {cs : List Value} {x : DataW H × List MemPlace} (h : DataW.trod enc P w 0 (fun _ => true) held fuel tops cs = some x) :
    ∃ v os, cs = [v] ∧ OpsAt (fun _ => True) w v os := by
  obtain ⟨v, rows, rfl, hr, hc⟩ := open_row T.ops T.opc (by omega) h
  obtain ⟨os, hos⟩ := open_all (α := OpM) (R := OpAt (fun _ => True) w) rows (fun c hcm => by
    obtain ⟨m, y, hy⟩ := hc c hcm
    obtain ⟨xs, n, _, _, hl, hxl, hf⟩ := DataW.trod_struct T.op hy
    have g0 := hf 0 fr rfl
    have g1 := hf 1 fk rfl
    have g2 := hf 2 fv rfl
    have g3 := hf 3 fl rfl
    rw [T.opc] at hl
    rw [T.rt.1, T.rt.2, T.boolc] at g0
    rw [T.kt.1, T.kt.2, T.intc] at g1
    rw [T.vt.1, T.vt.2, T.intc] at g2
    rw [T.lt.1, T.lt.2, T.intsc] at g3
    match c, hl, xs, hxl with
    | [c0, c1, c2, c3], _, [x0, x1, x2, x3], _ =>
      obtain ⟨b, e0, _⟩ := DataW.trod_bool T.bool g0
      obtain ⟨k, e1, _, w1⟩ := DataW.trod_int T.int g1
      obtain ⟨v, e2, _, w2⟩ := DataW.trod_int T.int g2
      obtain ⟨vl, l, e3, hl⟩ := open_intsAt T.ints T.int T.intc g3
      simp at e0 e1 e2 e3
      subst e0 e1 e2 e3
      exact ⟨⟨b, k, v, l⟩, _, rfl, hl, w1, w2⟩)
  exact ⟨v, os, rfl, rows, hr, hos⟩
theorem open_txnsAt (T : HistTypes P tops top ttxns ttxn tints tint tbool fr fk fv fl fi fa fo) {fuel : Nat} {cs : List Value} {x : DataW H × List MemPlace} (h : DataW.trod enc P w 0 (fun _ => true) held fuel ttxns cs = some x) :
    ∃ v ts, cs = [v] ∧ TxnsAt (fun _ => True) w v ts := by
  obtain ⟨v, rows, rfl, hr, hc⟩ := open_row T.txns T.txnc (by omega) h
  obtain ⟨ts, hts⟩ := open_all (α := TxnM) (R := TxnAt (fun _ => True) w) rows (fun c hcm => by
    obtain ⟨m, y, hy⟩ := hc c hcm
    obtain ⟨xs, n, _, _, hl, hxl, hf⟩ := DataW.trod_struct T.txn hy
    have g0 := hf 0 fi rfl
    have g1 := hf 1 fa rfl
    have g2 := hf 2 fo rfl
    rw [T.txnc] at hl
    rw [T.it.1, T.it.2, T.intc] at g0
    rw [T.at_.1, T.at_.2, T.boolc] at g1
    rw [T.ot.1, T.ot.2, T.opsc] at g2
    match c, hl, xs, hxl with
    | [c0, c1, c2], _, [x0, x1, x2], _ =>
      obtain ⟨k, e0, _, w1⟩ := DataW.trod_int T.int g0
      obtain ⟨b, e1, _⟩ := DataW.trod_bool T.bool g1
      obtain ⟨vl, os, e2, hl⟩ := open_opsAt T g2
      simp at e0 e1 e2
      subst e0 e1 e2
      exact ⟨⟨k, b, os⟩, _, rfl, hl, w1⟩)
  exact ⟨v, ts, rfl, rows, hr, hts⟩
/-- A history by value, as an argument. -/
theorem open_hist (T : HistTypes P tops top ttxns ttxn tints tint tbool fr fk fv fl fi fa fo) {thist : TypeId} {fh : Field} (hh : P.underlying thist = some (.struct #[fh])) (hc : P.cellsOf thist = 1) (ft : fh.type = ttxns ∧ fh.offset = 0) (ct : P.cellsOf ttxns = 1)
    {v : Value} (hv : ∃ cs, v = .agg cs ∧ cs.size = P.cellsOf thist) {fuel : Nat} {x : DataW H × List MemPlace} (h : DataW.trod enc P w 0 (fun _ => true) held fuel thist v.cells.toList = some x) :
    ∃ a len cap ts, v = .agg #[.slice a len cap] ∧ len = ts.length ∧ len ≤ cap ∧ cap ≤ maxLen ∧ TxnsAt (fun b => b < w.heap.size) w (.slice a len cap) ts := by
  obtain ⟨cs, rfl, hs⟩ := hv
  rw [hc] at hs
  obtain ⟨c, rfl⟩ : ∃ c, cs = #[c] := by
    obtain ⟨l⟩ := cs
    match l, hs with
    | [c], _ => exact ⟨c, rfl⟩
  obtain ⟨xs, n, _, _, _, hxl, hf⟩ := DataW.trod_struct hh h
  have g := hf 0 fh rfl
  rw [ft.1, ft.2, ct] at g
  match xs, hxl with
  | [x0], _ =>
    obtain ⟨u, ts, e, ht⟩ := open_txnsAt T (show DataW.trod enc P w 0 (fun _ => true) held n ttxns [c] = some x0 from by simpa [Value.cells] using g)
    simp at e
    subst e
    obtain ⟨cs, hr, hal⟩ := ht
    obtain ⟨a, cap, rfl, h1, h2⟩ := hr.shape
    refine ⟨a, cs.length, cap, ts, rfl, hal.1, h1, h2, ?_⟩
    have := TxnsAt.lt (F := fun _ => True) ⟨cs, hr, hal⟩
    exact this.mono fun b hb => hb.2
end
end Go.Proofs.Ytjdcmeclmaljeaa.Mem
