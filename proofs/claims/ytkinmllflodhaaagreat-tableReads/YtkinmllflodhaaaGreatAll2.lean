/- Joined out of the texts Hist, HistFrame, KeySets, TabMap, DigBack, DigPrint, ReadsPlain, in that order. -/
import Derived.Test.YtkinmllflodhaaaGreatAll1
import Derived.Deep.Slices
import Derived.Maps.OwnSet
import Derived.Maps.OwnOps
import Derived.DeepKeys4
import Derived.Laws.IdiomStrings
/- Histories in memory: rows of transactions, each with a row of operations, each with a row of numbers: how they are read, and what keeps them. -/
namespace Go.Proofs.YtkinmllflodhaaaGreat.Mem
open Go.RowKit Go.Proofs.YtkinmllflodhaaaGreat.Dig Go.ChangeShapes Go.WideShapes Go.Deep
set_option linter.unusedVariables false
set_option linter.unusedSimpArgs false

/-- An operation, a transaction. -/
structure OpM where
  read : Bool
  key : Int
  value : Int
  list : List Int
structure TxnM where
  id : Int
  ab : Bool
  ops : List OpM

/-- Element by element. -/
def AllAt {α : Type} (R : List Value → α → Prop) (cs : List (List Value)) (xs : List α) : Prop := cs.length = xs.length ∧ ∀ (i : Nat) (c : List Value) (x : α), cs[i]? = some c → xs[i]? = some x → R c x
theorem AllAt.nil {α : Type} (R : List Value → α → Prop) : AllAt R [] [] := ⟨rfl, by simp⟩
theorem AllAt.mono {α : Type} {R R' : List Value → α → Prop} {cs : List (List Value)} {xs : List α} (h : AllAt R cs xs) (hr : ∀ c x, R c x → R' c x) : AllAt R' cs xs := ⟨h.1, fun i c x h1 h2 => hr _ _ (h.2 i c x h1 h2)⟩
theorem AllAt.one {α : Type} {R : List Value → α → Prop} {c : List Value} {x : α} (h : R c x) : AllAt R [c] [x] := by
  refine ⟨rfl, fun i c' x' h1 h2 => ?_⟩
  cases i with
  | zero => simp at h1 h2; subst h1; subst h2; exact h
  | succ i => simp at h1
theorem AllAt.append {α : Type} {R : List Value → α → Prop} {cs ds : List (List Value)} {xs ys : List α} (h : AllAt R cs xs) (k : AllAt R ds ys) : AllAt R (cs ++ ds) (xs ++ ys) := by
  refine ⟨by rw [List.length_append, List.length_append, h.1, k.1], fun i c x h1 h2 => ?_⟩
  rcases Nat.lt_or_ge i cs.length with q | q
  · rw [List.getElem?_append_left q] at h1
    rw [List.getElem?_append_left (by rw [← h.1]; exact q)] at h2
    exact h.2 i c x h1 h2
  · rw [List.getElem?_append_right q] at h1
    rw [List.getElem?_append_right (by rw [← h.1]; exact q), ← h.1] at h2
    exact k.2 _ c x h1 h2
theorem AllAt.get {α : Type} {R : List Value → α → Prop} {cs : List (List Value)} {xs : List α} (h : AllAt R cs xs) {i : Nat} (hi : i < xs.length) : ∃ hc : i < cs.length, R cs[i] xs[i] :=
  ⟨by rw [h.1]; exact hi, h.2 i _ _ (List.getElem?_eq_getElem (by rw [h.1]; exact hi)) (List.getElem?_eq_getElem hi)⟩

def IntsAt (F : Nat → Prop) (w : World) (v : Value) (l : List Int) : Prop := RowAt F w 1 v (l.map fun n => [.int .i64 n]) ∧ ∀ n ∈ l, (Lit.int .i64 n).wf = true
def OpAt (F : Nat → Prop) (w : World) (c : List Value) (o : OpM) : Prop := ∃ v, c = [.bool o.read, .int .i64 o.key, .int .i64 o.value, v] ∧ IntsAt F w v o.list ∧ (Lit.int .i64 o.key).wf = true ∧ (Lit.int .i64 o.value).wf = true
def OpsAt (F : Nat → Prop) (w : World) (v : Value) (os : List OpM) : Prop := ∃ cs, RowAt F w 4 v cs ∧ AllAt (OpAt F w) cs os
def TxnAt (F : Nat → Prop) (w : World) (c : List Value) (t : TxnM) : Prop := ∃ v, c = [.int .i64 t.id, .bool t.ab, v] ∧ OpsAt F w v t.ops ∧ (Lit.int .i64 t.id).wf = true
def TxnsAt (F : Nat → Prop) (w : World) (v : Value) (ts : List TxnM) : Prop := ∃ cs, RowAt F w 3 v cs ∧ AllAt (TxnAt F w) cs ts

section
variable {F F' S : Nat → Prop} {w w' : World}
theorem IntsAt.mono {v : Value} {l : List Int} (h : IntsAt F w v l) (hf : ∀ b, F b → F' b) : IntsAt F' w v l := ⟨h.1.mono hf, h.2⟩
theorem OpAt.mono {c : List Value} {o : OpM} (h : OpAt F w c o) (hf : ∀ b, F b → F' b) : OpAt F' w c o := let ⟨v, h1, h2, h3⟩ := h; ⟨v, h1, h2.mono hf, h3⟩
theorem OpsAt.mono {v : Value} {os : List OpM} (h : OpsAt F w v os) (hf : ∀ b, F b → F' b) : OpsAt F' w v os := let ⟨cs, h1, h2⟩ := h; ⟨cs, h1.mono hf, h2.mono fun _ _ q => q.mono hf⟩
theorem TxnAt.mono {c : List Value} {t : TxnM} (h : TxnAt F w c t) (hf : ∀ b, F b → F' b) : TxnAt F' w c t := let ⟨v, h1, h2, h3⟩ := h; ⟨v, h1, h2.mono hf, h3⟩
theorem TxnsAt.mono {v : Value} {ts : List TxnM} (h : TxnsAt F w v ts) (hf : ∀ b, F b → F' b) : TxnsAt F' w v ts := let ⟨cs, h1, h2⟩ := h; ⟨cs, h1.mono hf, h2.mono fun _ _ q => q.mono hf⟩
theorem IntsAt.only {v : Value} {l : List Int} (h : IntsAt F w v l) (ho : Only S w w') (hs : ∀ b, F b → ¬ S b) : IntsAt F w' v l := ⟨h.1.only ho hs, h.2⟩
theorem OpAt.only {c : List Value} {o : OpM} (h : OpAt F w c o) (ho : Only S w w') (hs : ∀ b, F b → ¬ S b) : OpAt F w' c o := let ⟨v, h1, h2, h3⟩ := h; ⟨v, h1, h2.only ho hs, h3⟩
theorem OpsAt.only {v : Value} {os : List OpM} (h : OpsAt F w v os) (ho : Only S w w') (hs : ∀ b, F b → ¬ S b) : OpsAt F w' v os := let ⟨cs, h1, h2⟩ := h; ⟨cs, h1.only ho hs, h2.mono fun _ _ q => q.only ho hs⟩
theorem TxnAt.only {c : List Value} {t : TxnM} (h : TxnAt F w c t) (ho : Only S w w') (hs : ∀ b, F b → ¬ S b) : TxnAt F w' c t := let ⟨v, h1, h2, h3⟩ := h; ⟨v, h1, h2.only ho hs, h3⟩
theorem TxnsAt.only {v : Value} {ts : List TxnM} (h : TxnsAt F w v ts) (ho : Only S w w') (hs : ∀ b, F b → ¬ S b) : TxnsAt F w' v ts := let ⟨cs, h1, h2⟩ := h; ⟨cs, h1.only ho hs, h2.mono fun _ _ q => q.only ho hs⟩
theorem IntsAt.keep {v : Value} {l : List Int} (h : IntsAt F w v l) (ho : Below w.heap.size w w') : IntsAt F w' v l := h.only (Only.of_below (S := fun _ => False) ho) (fun _ _ q => q)
theorem OpsAt.keep {v : Value} {os : List OpM} (h : OpsAt F w v os) (ho : Below w.heap.size w w') : OpsAt F w' v os := h.only (Only.of_below (S := fun _ => False) ho) (fun _ _ q => q)
theorem TxnsAt.keep {v : Value} {ts : List TxnM} (h : TxnsAt F w v ts) (ho : Below w.heap.size w w') : TxnsAt F w' v ts := h.only (Only.of_below (S := fun _ => False) ho) (fun _ _ q => q)
theorem IntsAt.lt {v : Value} {l : List Int} (h : IntsAt F w v l) : IntsAt (fun b => F b ∧ b < w.heap.size) w v l := ⟨h.1.lt (by omega), h.2⟩
theorem OpAt.lt {c : List Value} {o : OpM} (h : OpAt F w c o) : OpAt (fun b => F b ∧ b < w.heap.size) w c o := let ⟨v, h1, h2, h3⟩ := h; ⟨v, h1, h2.lt, h3⟩
theorem OpsAt.lt {v : Value} {os : List OpM} (h : OpsAt F w v os) : OpsAt (fun b => F b ∧ b < w.heap.size) w v os := let ⟨cs, h1, h2⟩ := h; ⟨cs, h1.lt (by omega), h2.mono fun _ _ q => q.lt⟩
theorem TxnAt.lt {c : List Value} {t : TxnM} (h : TxnAt F w c t) : TxnAt (fun b => F b ∧ b < w.heap.size) w c t := let ⟨v, h1, h2, h3⟩ := h; ⟨v, h1, h2.lt, h3⟩
theorem TxnsAt.lt {v : Value} {ts : List TxnM} (h : TxnsAt F w v ts) : TxnsAt (fun b => F b ∧ b < w.heap.size) w v ts := let ⟨cs, h1, h2⟩ := h; ⟨cs, h1.lt (by omega), h2.mono fun _ _ q => q.lt⟩

theorem IntsAt.nil : IntsAt F w (.slice none 0 0) [] := ⟨RowAt.nil _ _ _, by simp⟩
theorem OpsAt.nil : OpsAt F w (.slice none 0 0) [] := ⟨[], RowAt.nil _ _ _, AllAt.nil _⟩
theorem TxnsAt.nil : TxnsAt F w (.slice none 0 0) [] := ⟨[], RowAt.nil _ _ _, AllAt.nil _⟩
/-- A row of numbers, as it is read. -/
theorem IntsAt.rd {v : Value} {l : List Int} (h : IntsAt F w v l) (hl : l.length ≤ 1000000000000) : ∃ a cap, v = .slice a l.length cap ∧ l.length ≤ cap ∧ Rd .i64 w a l.length (fun i => l.getD i 0) := by
  obtain ⟨⟨a, cap, h1, h2, h3, h4, h5, h6⟩, hw⟩ := h
  rw [List.length_map] at h1 h2
  refine ⟨a, cap, h1, h2, hl, fun i hi => ?_⟩
  obtain ⟨b, off, g1, _, g3⟩ := h6 i [.int .i64 l[i]] (by simp [List.getElem?_map, List.getElem?_eq_getElem hi])
  have e : l.getD i 0 = l[i] := by simp [List.getD_eq_getElem?_getD, List.getElem?_eq_getElem hi]
  refine ⟨b, off, g1, ?_, ?_⟩
  · have := g3 0 (.int .i64 l[i]) rfl
    rw [Nat.mul_one, Nat.add_zero] at this
    show _ = some (Value.int .i64 (l.getD i 0))
    rw [e]
    exact this
  · show (Lit.int .i64 (l.getD i 0)).wf = true
    rw [e]
    exact hw _ (List.getElem_mem hi)
/-- .. and back. -/
theorem IntsAt.of_rd {a : Option Addr} {cap : Nat} {l : List Int} (h : Rd .i64 w a l.length (fun i => l.getD i 0)) (hc : l.length ≤ cap) (hm : cap ≤ maxLen) (hn : a = none → cap = 0) (hf : ∀ x, a = some x → F x.block) : IntsAt F w (.slice a l.length cap) l := by
  have e : ∀ i (hi : i < l.length), l.getD i 0 = l[i] := fun i hi => by simp [List.getD_eq_getElem?_getD, List.getElem?_eq_getElem hi]
  refine ⟨⟨a, cap, by rw [List.length_map], by rw [List.length_map]; exact hc, hm, hn, by simp, fun i c hci => ?_⟩, fun n hn => ?_⟩
  · have hi : i < l.length := by
      rcases Nat.lt_or_ge i l.length with q | q
      · exact q
      · rw [List.getElem?_eq_none (by rw [List.length_map]; exact q)] at hci; cases hci
    rw [List.getElem?_map, List.getElem?_eq_getElem hi] at hci
    obtain rfl := Option.some.inj hci
    obtain ⟨b, off, g1, g2, g3⟩ := h.2 i hi
    refine ⟨b, off, g1, hf _ g1, fun j u hu => ?_⟩
    cases j with
    | zero =>
      simp at hu
      subst hu
      rw [Nat.mul_one, Nat.add_zero, g2]
      show some (Value.int .i64 (l.getD i 0)) = _
      rw [e i hi]
    | succ j => simp at hu
  · obtain ⟨i, hi, rfl⟩ := List.mem_iff_getElem.1 hn
    obtain ⟨b, off, g1, g2, g3⟩ := h.2 i hi
    have g3' : (Lit.int .i64 (l.getD i 0)).wf = true := g3
    rw [e i hi] at g3'
    exact g3'
end

/-! ### Arguments -/
section
variable {H : Type} {enc : TypeId × Value → H} {P : Program} {w : World} {held : Bool}
theorem open_row {t e : TypeId} {n fuel : Nat} {cs : List Value} {x : DataW H × List MemPlace} (ht : P.underlying t = some (.slice e)) (ce : P.cellsOf e = n) (hn : 0 < n) (h : DataW.trod enc P w 0 (fun _ => true) held fuel t cs = some x) :
    ∃ v rows, cs = [v] ∧ RowAt (fun _ => True) w n v rows ∧ ∀ c ∈ rows, ∃ m y, DataW.trod enc P w 0 (fun _ => true) held m e c = some y := by
  rcases open_slice ht h with ⟨h0, _⟩ | ⟨a, len, cap, m, k, D, Pl, rfl, hb, hl, hm, hmm, rfl, hx⟩
  · exact ⟨.slice none 0 0, [], h0, RowAt.nil _ _ _, by simp⟩
  · simp only [if_true] at hmm
    subst hmm
    rw [ce] at hx
    obtain ⟨f, hf⟩ := choose_lt (α := List Value) (n := m) (p := fun i c => w.cells? 0 (a.add (i * n)) n = some c ∧ ∃ k y, DataW.trod enc P w 0 (fun _ => true) held k e c = some y) (fun i hi => by
      obtain ⟨c, h1, h2⟩ := hx i hi
      exact ⟨c, h1, k, _, h2⟩)
    have hlen : ((List.range len).map f).length = len := by simp
    refine ⟨_, (List.range len).map f, rfl, ⟨some a, m, by rw [hlen], by rw [hlen]; exact hl, hm, by simp, ?_, ?_⟩, ?_⟩
    · intro c hc
      obtain ⟨i, hi, rfl⟩ := List.mem_map.1 hc
      exact (World.cells?_some (hf i (by have := List.mem_range.1 hi; omega)).1).2.1
    · intro i c hc
      have hi : i < len := by
        rcases Nat.lt_or_ge i len with q | q
        · exact q
        · rw [List.getElem?_eq_none (by rw [hlen]; exact q)] at hc; cases hc
      rw [List.getElem?_map, List.getElem?_range hi] at hc
      obtain rfl := Option.some.inj hc
      obtain ⟨_, h2, h3⟩ := World.cells?_some (hf i (by omega)).1
      have h00 := (World.cells?_some (hf 0 (by omega)).1)
      obtain ⟨b, off, spot⟩ := a
      have hs : spot = none := by
        have c0 := h00.2.2 0 hn
        rw [List.getElem?_eq_getElem (by rw [h00.2.1]; exact hn)] at c0
        simpa [Addr.add] using World.cell?_spot c0
      subst hs
      refine ⟨b, off, rfl, trivial, fun j u hu => ?_⟩
      have hj : j < n := by
        rcases Nat.lt_or_ge j (f i).length with q | q
        · omega
        · rw [List.getElem?_eq_none q] at hu; cases hu
      have := h3 j hj
      rw [add_add, addr_add] at this
      rw [this, hu]
    · intro c hc
      obtain ⟨i, hi, rfl⟩ := List.mem_map.1 hc
      exact (hf i (by have := List.mem_range.1 hi; omega)).2
theorem open_all {α : Type} [Inhabited α] {R : List Value → α → Prop} : ∀ (rows : List (List Value)), (∀ c ∈ rows, ∃ x, R c x) → ∃ xs, AllAt R rows xs
  | [], _ => ⟨[], AllAt.nil _⟩
  | c :: rows, h => by
    obtain ⟨x, hx⟩ := h c List.mem_cons_self
    obtain ⟨xs, hxs⟩ := open_all rows (fun c hc => h c (List.mem_cons_of_mem _ hc))
    exact ⟨x :: xs, (AllAt.one hx).append hxs⟩
theorem open_intsAt {t e : TypeId} {fuel : Nat} {cs : List Value} {x : DataW H × List MemPlace} (ht : P.underlying t = some (.slice e)) (he : P.underlying e = some (.int .i64)) (ce : P.cellsOf e = 1) (h : DataW.trod enc P w 0 (fun _ => true) held fuel t cs = some x) :
    ∃ v l, cs = [v] ∧ IntsAt (fun _ => True) w v l := by
  obtain ⟨v, rows, rfl, hr, hc⟩ := open_row ht ce (by omega) h
  obtain ⟨l, hl⟩ := open_all (α := Int) (R := fun c n => c = [.int .i64 n] ∧ (Lit.int .i64 n).wf = true) rows (fun c hcm => by
    obtain ⟨m, y, hy⟩ := hc c hcm
    obtain ⟨n, h1, _, h3⟩ := DataW.trod_int he hy
    exact ⟨n, h1, h3⟩)
  have e : rows = l.map fun n => [.int .i64 n] := by
    apply List.ext_getElem?
    intro i
    rcases Nat.lt_or_ge i l.length with q | q
    · obtain ⟨hc, h1, _⟩ := hl.get q
      rw [List.getElem?_eq_getElem hc, List.getElem?_map, List.getElem?_eq_getElem q, h1]
      rfl
    · rw [List.getElem?_eq_none (by rw [hl.1]; exact q), List.getElem?_eq_none (by rw [List.length_map]; exact q)]
  refine ⟨v, l, rfl, e ▸ hr, fun n hn => ?_⟩
  obtain ⟨i, hi, rfl⟩ := List.mem_iff_getElem.1 hn
  exact (hl.get hi).2.2
/-- The types of a history, as a program has them. -/
structure HistTypes (P : Program) (tops top ttxns ttxn tints tint tbool : TypeId) (r k v l i a o : Field) : Prop where
  ops : P.underlying tops = some (.slice top)
  op : P.underlying top = some (.struct #[r, k, v, l])
  opc : P.cellsOf top = 4
  txns : P.underlying ttxns = some (.slice ttxn)
  txn : P.underlying ttxn = some (.struct #[i, a, o])
  txnc : P.cellsOf ttxn = 3
  ints : P.underlying tints = some (.slice tint)
  int : P.underlying tint = some (.int .i64)
  intc : P.cellsOf tint = 1
  bool : P.underlying tbool = some .bool
  boolc : P.cellsOf tbool = 1
  intsc : P.cellsOf tints = 1
  opsc : P.cellsOf tops = 1
  rt : r.type = tbool ∧ r.offset = 0
  kt : k.type = tint ∧ k.offset = 1
  vt : v.type = tint ∧ v.offset = 2
  lt : l.type = tints ∧ l.offset = 3
  it : i.type = tint ∧ i.offset = 0
  at_ : a.type = tbool ∧ a.offset = 1
  ot : o.type = tops ∧ o.offset = 2
instance : Inhabited OpM := ⟨⟨false, 0, 0, []⟩⟩
instance : Inhabited TxnM := ⟨⟨0, false, []⟩⟩
variable {tops top ttxns ttxn tints tint tbool : TypeId} {fr fk fv fl fi fa fo : Field}
theorem open_opsAt (T : HistTypes P tops top ttxns ttxn tints tint tbool fr fk fv fl fi fa fo) {fuel : Nat} {cs : List Value} {x : DataW H × List MemPlace} (h : DataW.trod enc P w 0 (fun _ => true) held fuel tops cs = some x) :
    ∃ v os, cs = [v] ∧ OpsAt (fun _ => True) w v os := by
  obtain ⟨v, rows, rfl, hr, hc⟩ := open_row T.ops T.opc (by omega) h
  obtain ⟨os, hos⟩ := open_all (α := OpM) (R := OpAt (fun _ => True) w) rows (fun c hcm => by
    obtain ⟨m, y, hy⟩ := hc c hcm
    obtain ⟨xs, n, _, _, hl, hxl, hf⟩ := DataW.trod_struct T.op hy
    have g0 := hf 0 fr rfl
    have g1 := hf 1 fk rfl
    have g2 := hf 2 fv rfl
    have g3 := hf 3 fl rfl
    rw [T.opc] at hl
    rw [T.rt.1, T.rt.2, T.boolc] at g0
    rw [T.kt.1, T.kt.2, T.intc] at g1
    rw [T.vt.1, T.vt.2, T.intc] at g2
    rw [T.lt.1, T.lt.2, T.intsc] at g3
    match c, hl, xs, hxl with
    | [c0, c1, c2, c3], _, [x0, x1, x2, x3], _ =>
      obtain ⟨b, e0, _⟩ := DataW.trod_bool T.bool g0
      obtain ⟨k, e1, _, w1⟩ := DataW.trod_int T.int g1
      obtain ⟨v, e2, _, w2⟩ := DataW.trod_int T.int g2
      obtain ⟨vl, l, e3, hl⟩ := open_intsAt T.ints T.int T.intc g3
      simp at e0 e1 e2 e3
      subst e0 e1 e2 e3
      exact ⟨⟨b, k, v, l⟩, _, rfl, hl, w1, w2⟩)
  exact ⟨v, os, rfl, rows, hr, hos⟩
theorem open_txnsAt (T : HistTypes P tops top ttxns ttxn tints tint tbool fr fk fv fl fi fa fo) {fuel : Nat} {cs : List Value} {x : DataW H × List MemPlace} (h : DataW.trod enc P w 0 (fun _ => true) held fuel ttxns cs = some x) :
    ∃ v ts, cs = [v] ∧ TxnsAt (fun _ => True) w v ts := by
  obtain ⟨v, rows, rfl, hr, hc⟩ := open_row T.txns T.txnc (by omega) h
  obtain ⟨ts, hts⟩ := open_all (α := TxnM) (R := TxnAt (fun _ => True) w) rows (fun c hcm => by
    obtain ⟨m, y, hy⟩ := hc c hcm
    obtain ⟨xs, n, _, _, hl, hxl, hf⟩ := DataW.trod_struct T.txn hy
    have g0 := hf 0 fi rfl
    have g1 := hf 1 fa rfl
    have g2 := hf 2 fo rfl
    rw [T.txnc] at hl
    rw [T.it.1, T.it.2, T.intc] at g0
    rw [T.at_.1, T.at_.2, T.boolc] at g1
    rw [T.ot.1, T.ot.2, T.opsc] at g2
    match c, hl, xs, hxl with
    | [c0, c1, c2], _, [x0, x1, x2], _ =>
      obtain ⟨k, e0, _, w1⟩ := DataW.trod_int T.int g0
      obtain ⟨b, e1, _⟩ := DataW.trod_bool T.bool g1
      obtain ⟨vl, os, e2, hl⟩ := open_opsAt T g2
      simp at e0 e1 e2
      subst e0 e1 e2
      exact ⟨⟨k, b, os⟩, _, rfl, hl, w1⟩)
  exact ⟨v, ts, rfl, rows, hr, hts⟩
/-- A history by value, as an argument. -/
theorem open_hist (T : HistTypes P tops top ttxns ttxn tints tint tbool fr fk fv fl fi fa fo) {thist : TypeId} {fh : Field} (hh : P.underlying thist = some (.struct #[fh])) (hc : P.cellsOf thist = 1) (ft : fh.type = ttxns ∧ fh.offset = 0) (ct : P.cellsOf ttxns = 1)
    {v : Value} (hv : ∃ cs, v = .agg cs ∧ cs.size = P.cellsOf thist) {fuel : Nat} {x : DataW H × List MemPlace} (h : DataW.trod enc P w 0 (fun _ => true) held fuel thist v.cells.toList = some x) :
    ∃ a len cap ts, v = .agg #[.slice a len cap] ∧ len = ts.length ∧ len ≤ cap ∧ cap ≤ maxLen ∧ TxnsAt (fun b => b < w.heap.size) w (.slice a len cap) ts := by
  obtain ⟨cs, rfl, hs⟩ := hv
  rw [hc] at hs
  obtain ⟨c, rfl⟩ : ∃ c, cs = #[c] := by
    obtain ⟨l⟩ := cs
    match l, hs with
    | [c], _ => exact ⟨c, rfl⟩
  obtain ⟨xs, n, _, _, _, hxl, hf⟩ := DataW.trod_struct hh h
  have g := hf 0 fh rfl
  rw [ft.1, ft.2, ct] at g
  match xs, hxl with
  | [x0], _ =>
    obtain ⟨u, ts, e, ht⟩ := open_txnsAt T (show DataW.trod enc P w 0 (fun _ => true) held n ttxns [c] = some x0 from by simpa [Value.cells] using g)
    simp at e
    subst e
    obtain ⟨cs, hr, hal⟩ := ht
    obtain ⟨a, cap, rfl, h1, h2⟩ := hr.shape
    refine ⟨a, cs.length, cap, ts, rfl, hal.1, h1, h2, ?_⟩
    have := TxnsAt.lt (F := fun _ => True) ⟨cs, hr, hal⟩
    exact this.mono fun b hb => hb.2
end
end Go.Proofs.YtkinmllflodhaaaGreat.Mem

/- A history as an argument: its types, as this program has them. -/
namespace Go.Proofs.YtkinmllflodhaaaGreat.Frame
open Go.RowKit Go.Proofs.YtkinmllflodhaaaGreat.Dig Go.Proofs.YtkinmllflodhaaaGreat.Mem
set_option linter.unusedVariables false

theorem histTypes : ∃ r k v l i a o, HistTypes Tryz.prog 53 57 22 55 36 3 4 r k v l i a o := ⟨_, _, _, _, _, _, _, {
  ops := Tryz.underlying53
  op := Tryz.underlying57
  opc := by kernel_rfl
  txns := Tryz.underlying22
  txn := Tryz.underlying55
  txnc := by kernel_rfl
  ints := Tryz.underlying36
  int := Tryz.underlying3
  intc := by kernel_rfl
  bool := Tryz.underlying4
  boolc := by kernel_rfl
  intsc := by kernel_rfl
  opsc := by kernel_rfl
  rt := ⟨rfl, rfl⟩
  kt := ⟨rfl, rfl⟩
  vt := ⟨rfl, rfl⟩
  lt := ⟨rfl, rfl⟩
  it := ⟨rfl, rfl⟩
  at_ := ⟨rfl, rfl⟩
  ot := ⟨rfl, rfl⟩ }⟩
theorem openHist {H : Type} {enc : TypeId × Value → H} {w : World} {held : Bool} {v : Value} (hv : ∃ cs, v = .agg cs ∧ cs.size = Tryz.prog.cellsOf 24) {fuel : Nat} {x : DataW H × List MemPlace} (h : DataW.trod enc Tryz.prog w 0 (fun _ => true) held fuel 24 v.cells.toList = some x) :
    ∃ a len cap ts, v = .agg #[.slice a len cap] ∧ len = ts.length ∧ len ≤ cap ∧ cap ≤ maxLen ∧ TxnsAt (fun b => b < w.heap.size) w (.slice a len cap) ts :=
  let ⟨_, _, _, _, _, _, _, T⟩ := histTypes
  open_hist T Tryz.underlying24 (by kernel_rfl) ⟨rfl, rfl⟩ (by kernel_rfl) hv h
end Go.Proofs.YtkinmllflodhaaaGreat.Frame

/- Sets that a reader keeps: maps of struct{} by keys. -/
namespace Go.Proofs.YtkinmllflodhaaaGreat.Keys
open Go.RowKit Go.Proofs.YtkinmllflodhaaaGreat.Dig Go.Proofs.YtkinmllflodhaaaGreat.Mem Go.Maps
set_option linter.unusedVariables false
set_option linter.unusedSimpArgs false

theorem zeroUnit (w : World) : (zeroValue 138).run Tryz.prog w = .ok (.agg #[]) w := by kernel_rfl
set_option maxRecDepth 100000 in
theorem rowInt : (3 : TypeId) < Tryz.prog.types.size := of_decide_eq_true (by kernel_rfl)
set_option maxRecDepth 100000 in
theorem sizes : ∃ m, Tryz.prog.types.size = m + 1 := ⟨Tryz.prog.types.size - 1, (Nat.sub_add_cancel (Nat.lt_of_le_of_lt (Nat.zero_le _) rowInt)).symm⟩
theorem cellsInt : Tryz.prog.cellsOf 3 = 1 := by kernel_rfl
/-- Block b is a set of at most n keys, those of which P says so. -/
def SetAt {α : Type} (K : TypeId) (key : α → Value) (lit : α → Lit) (ok : α → Prop) (w : World) (b n : Nat) (P : α → Bool) : Prop :=
  ∃ D : DataW Unit, w.ownsMap Tryz.prog K unitElem b n D ∧ ∀ x, ok x → Maps.has D (lit x) = P x
/-- What a set's keys are. -/
structure KeyIs {α : Type} (K : TypeId) (key : α → Value) (lit : α → Lit) (ok : α → Prop) : Prop where
  law : Keyed Tryz.prog K
  of : ∀ x, ok x → keyOf Tryz.prog K (key x) = some (lit x)
  inj : ∀ x y, key x = key y → x = y
section
variable {α : Type} {K T : TypeId} {key : α → Value} {lit : α → Lit} {ok : α → Prop} {w w' : World} {b n : Nat} {P : α → Bool}
theorem SetAt.lt (h : SetAt K key lit ok w b n P) : b < w.heap.size := let ⟨_, h1, _⟩ := h; h1.lt
theorem SetAt.made (w : World) (hb : b = w.heap.size) : SetAt K key lit ok (w.alloc (.map #[] 0)) b 0 (fun _ => false) := by
  subst hb
  exact ⟨_, World.ownsMap_made w Tryz.prog K unitElem, fun x _ => by simp [Maps.has]⟩
theorem SetAt.keep {S : Nat → Prop} (h : SetAt K key lit ok w b n P) (ho : Only S w w') (hb : ¬ S b) : SetAt K key lit ok w' b n P := by
  obtain ⟨D, h1, h2⟩ := h
  have hl := h1.lt
  obtain ⟨es, clock, e, r⟩ := h1
  exact ⟨D, ⟨es, clock, by rw [ho.block b hl hb]; exact e, r⟩, h2⟩
theorem SetAt.mono (h : SetAt K key lit ok w b n P) {m : Nat} (hm : n ≤ m) : SetAt K key lit ok w b m P := let ⟨D, h1, h2⟩ := h; ⟨D, h1.mono hm, h2⟩
theorem SetAt.congr (h : SetAt K key lit ok w b n P) {P' : α → Bool} (e : ∀ x, P' x = P x) : SetAt K key lit ok w b n P' := let ⟨D, h1, h2⟩ := h; ⟨D, h1, fun x hx => by rw [e]; exact h2 x hx⟩
theorem SetAt.block (h : SetAt K key lit ok w b n P) (hb : w'.heap[b]? = w.heap[b]?) : SetAt K key lit ok w' b n P := by
  obtain ⟨D, ⟨es, clock, e, r⟩, h2⟩ := h
  exact ⟨D, ⟨es, clock, by rw [hb]; exact e, r⟩, h2⟩
theorem SetAt.look (h : SetAt K key lit ok w b n P) (hk : KeyIs K key lit ok) (ht : Tryz.prog.underlying T = some (.map K 138)) {x : α} (hx : ok x) :
    (Instr.lookup T (.map (some b)) (key x) true).run Tryz.prog w = .ok (.tuple #[.agg #[], .bool (P x)]) w := by
  obtain ⟨D, h1, h2⟩ := h
  obtain ⟨v, ps, hrun, hv⟩ := h1.look_ok hk.law ht (zeroUnit w) unitElem_mk (hk.of x hx)
  obtain ⟨rfl, _⟩ := unitElem_inv hv
  rw [hrun, h2 x hx]
theorem SetAt.store (h : SetAt K key lit ok w b n P) (hk : KeyIs K key lit ok) (ht : Tryz.prog.underlying T = some (.map K 138)) {x : α} (hx : ok x) (hn : n < maxLen) {P' : α → Bool} (h1 : P' x = true) (h2 : ∀ y, y ≠ x → P' y = P y) :
    ∃ w', (Instr.mapUpdate T (.map (some b)) (key x) (.agg #[])).run Tryz.prog w = .ok () w' ∧ SetAt K key lit ok w' b (n + 1) P' ∧ Only (fun k => k = b) w w' := by
  obtain ⟨D, g1, g2⟩ := h
  have hm := g1.isMap
  obtain ⟨w', hrun, hown, hg⟩ := g1.update hk.law ht hn (hk.of x hx) unitElem_mk
  refine ⟨w', hrun, ⟨_, hown, fun y hy => ?_⟩, ⟨hg.os, hg.tape, hg.output, hg.size, fun k hk hn => hg.block k hk (fun q => hn (by simpa using q))⟩⟩
  by_cases e : y = x
  · subst e
    rw [h1]
    exact Maps.has_put_same hm (hk.law.key (hk.of y hy)) _
  · rw [h2 y e, ← g2 y hy]
    refine Maps.has_put_other (fun q => e (hk.inj y x ?_)) _
    have := hk.of y hy
    rw [q] at this
    exact hk.law.inj this (hk.of x hx)
end
def appV (p : Int × Int) : Value := .agg #[.int .i64 p.1, .int .i64 p.2]
def appL (p : Int × Int) : Lit := .string (keyBytes [.int .i64 p.1, .int .i64 p.2])
def appOk (p : Int × Int) : Prop := (Lit.int .i64 p.1).wf = true ∧ (Lit.int .i64 p.2).wf = true
def nameOk (n : Int) : Prop := (Lit.int .i64 n).wf = true
end Go.Proofs.YtkinmllflodhaaaGreat.Keys

/- A map whose elements are read as they are: what stands at each key, as a plain function. -/
namespace Go.Proofs.YtkinmllflodhaaaGreat.Keys
open Go.RowKit Go.Proofs.YtkinmllflodhaaaGreat.Dig Go.Proofs.YtkinmllflodhaaaGreat.Mem Go.Maps
set_option linter.unusedVariables false
set_option linter.unusedSimpArgs false

/-- An element, read as the value that it is. -/
def asIs (v : Value) : Option (DataW Value × List MemPlace) := some (.held v, [])
/-- Block b is a map of at most n keys, in which f says what stands where. -/
def MapAt {α : Type} (K : TypeId) (key : α → Value) (lit : α → Lit) (ok : α → Prop) (w : World) (b n : Nat) (f : α → Option Value) : Prop :=
  ∃ D : DataW Value, w.ownsMap Tryz.prog K asIs b n D ∧ ∀ x, ok x → Maps.has D (lit x) = (f x).isSome ∧ ∀ z, D.atKey (lit x) (.held z) = .held ((f x).getD z)
section
variable {α : Type} {K T E : TypeId} {key : α → Value} {lit : α → Lit} {ok : α → Prop} {w w' : World} {b n : Nat} {f g : α → Option Value} {z : Value}
theorem MapAt.lt (h : MapAt K key lit ok w b n f) : b < w.heap.size := let ⟨_, h1, _⟩ := h; h1.lt
theorem MapAt.made (w : World) (hb : b = w.heap.size) : MapAt K key lit ok (w.alloc (.map #[] 0)) b 0 (fun _ => none) := by
  subst hb
  exact ⟨_, World.ownsMap_made w Tryz.prog K asIs, fun x _ => ⟨by simp [Maps.has], fun z => by simp [DataW.atKey]⟩⟩
theorem MapAt.block (h : MapAt K key lit ok w b n f) (hb : w'.heap[b]? = w.heap[b]?) : MapAt K key lit ok w' b n f := by
  obtain ⟨D, ⟨es, clock, e, r⟩, h2⟩ := h
  exact ⟨D, ⟨es, clock, by rw [hb]; exact e, r⟩, h2⟩
theorem MapAt.keep {S : Nat → Prop} (h : MapAt K key lit ok w b n f) (ho : Only S w w') (hb : ¬ S b) : MapAt K key lit ok w' b n f := h.block (ho.block b h.lt hb)
theorem MapAt.mono (h : MapAt K key lit ok w b n f) {m : Nat} (hm : n ≤ m) : MapAt K key lit ok w b m f := let ⟨D, h1, h2⟩ := h; ⟨D, h1.mono hm, h2⟩
theorem MapAt.congr (h : MapAt K key lit ok w b n f) (e : ∀ x, ok x → g x = f x) : MapAt K key lit ok w b n g := let ⟨D, h1, h2⟩ := h; ⟨D, h1, fun x hx => by rw [e x hx]; exact h2 x hx⟩
theorem MapAt.look (h : MapAt K key lit ok w b n f) (hk : KeyIs K key lit ok) (ht : Tryz.prog.underlying T = some (.map K E)) (hz : (zeroValue E).run Tryz.prog w = .ok z w) {x : α} (hx : ok x) :
    (Instr.lookup T (.map (some b)) (key x) false).run Tryz.prog w = .ok ((f x).getD z) w := by
  obtain ⟨D, h1, h2⟩ := h
  obtain ⟨v, ps, hrun, hv⟩ := h1.lookup hk.law ht hz (zd := .held z) (zp := []) rfl (hk.of x hx)
  rw [(h2 x hx).2 z] at hv
  simp only [asIs, Option.some.injEq, Prod.mk.injEq, DataW.held.injEq] at hv
  rw [hrun, hv.1]
theorem MapAt.look_ok (h : MapAt K key lit ok w b n f) (hk : KeyIs K key lit ok) (ht : Tryz.prog.underlying T = some (.map K E)) (hz : (zeroValue E).run Tryz.prog w = .ok z w) {x : α} (hx : ok x) :
    (Instr.lookup T (.map (some b)) (key x) true).run Tryz.prog w = .ok (.tuple #[(f x).getD z, .bool (f x).isSome]) w := by
  obtain ⟨D, h1, h2⟩ := h
  obtain ⟨v, ps, hrun, hv⟩ := h1.look_ok hk.law ht hz (zd := .held z) (zp := []) rfl (hk.of x hx)
  rw [(h2 x hx).2 z] at hv
  simp only [asIs, Option.some.injEq, Prod.mk.injEq, DataW.held.injEq] at hv
  rw [hrun, hv.1, (h2 x hx).1]
theorem MapAt.store (h : MapAt K key lit ok w b n f) (hk : KeyIs K key lit ok) (ht : Tryz.prog.underlying T = some (.map K E)) {x : α} (hx : ok x) (hn : n < maxLen) (v : Value) (h1 : g x = some v) (h2 : ∀ y, ok y → y ≠ x → g y = f y) :
    ∃ w', (Instr.mapUpdate T (.map (some b)) (key x) v).run Tryz.prog w = .ok () w' ∧ MapAt K key lit ok w' b (n + 1) g ∧ Only (fun k => k = b) w w' := by
  obtain ⟨D, g1, g2⟩ := h
  have hm := g1.isMap
  obtain ⟨w', hrun, hown, hg⟩ := g1.update hk.law ht hn (val := v) (hk.of x hx) (d := .held v) (ps := []) rfl
  refine ⟨w', hrun, ⟨_, hown, fun y hy => ?_⟩, ⟨hg.os, hg.tape, hg.output, hg.size, fun k hk hn => hg.block k hk (fun q => hn (by simpa using q))⟩⟩
  by_cases e : y = x
  · subst e
    rw [h1]
    exact ⟨Maps.has_put_same hm (hk.law.key (hk.of y hy)) _, fun z => Maps.atKey_put_same hm (hk.law.key (hk.of y hy)) _ _⟩
  · have hne : lit y ≠ lit x := fun q => e (hk.inj y x (by
      have := hk.of y hy
      rw [q] at this
      exact hk.law.inj this (hk.of x hx)))
    rw [h2 y hy e]
    refine ⟨by rw [Maps.has_put_other hne]; exact (g2 y hy).1, fun z => by rw [Maps.atKey_put_other hne]; exact (g2 y hy).2 z⟩
end
/-- A nil map. -/
theorem nil_look {α : Type} {K T E : TypeId} {key : α → Value} {lit : α → Lit} {ok : α → Prop} {w : World} {z : Value} (hk : KeyIs K key lit ok) (ht : Tryz.prog.underlying T = some (.map K E)) (hz : (zeroValue E).run Tryz.prog w = .ok z w) {x : α} (hx : ok x) :
    (Instr.lookup T (.map none) (key x) false).run Tryz.prog w = .ok z w := by
  have := Maps.look_nil (P := Tryz.prog) (w := w) false hk.law ht hz (hk.of x hx)
  simpa using this
theorem nil_look_ok {α : Type} {K T E : TypeId} {key : α → Value} {lit : α → Lit} {ok : α → Prop} {w : World} {z : Value} (hk : KeyIs K key lit ok) (ht : Tryz.prog.underlying T = some (.map K E)) (hz : (zeroValue E).run Tryz.prog w = .ok z w) {x : α} (hx : ok x) :
    (Instr.lookup T (.map none) (key x) true).run Tryz.prog w = .ok (.tuple #[z, .bool false]) w := by
  have := Maps.look_nil (P := Tryz.prog) (w := w) true hk.law ht hz (hk.of x hx)
  simpa using this
end Go.Proofs.YtkinmllflodhaaaGreat.Keys

/- Plain mathematics: a number comes back from its text, and a list from its texts with blanks ahead. -/
namespace Go.Proofs.YtkinmllflodhaaaGreat.Dig
open Go.RowKit
set_option linter.unusedVariables false
set_option linter.unusedSimpArgs false

theorem val_mono (z : Nat → Int) (a : Nat) : ∀ m j, j ≤ m → (∀ i, i < m → dgt (z (a + i)) = true) → val z a j ≤ val z a m
  | 0, j, h, _ => by obtain rfl : j = 0 := by omega
                     exact Int.le_refl _
  | m + 1, j, h, hd => by
    by_cases e : j = m + 1
    · subst e; exact Int.le_refl _
    · have h1 := val_mono z a m j (by omega) (fun i hi => hd i (by omega))
      have h2 := (val_bd z a m (fun i hi => hd i (by omega))).1
      have h3 := dgt_iff.1 (hd m (by omega))
      simp only [val]; omega
theorem okm_mono {z : Nat → Int} {a m j : Nat} (h : okm z a m = true) (h1 : 1 ≤ j) (h2 : j ≤ m) (hd : ∀ i, i < m → dgt (z (a + i)) = true) : okm z a j = true := by
  rw [okm_iff] at h ⊢
  obtain ⟨q1, q2, q3, q4⟩ := h
  have := val_mono z a m j h2 hd
  refine ⟨h1, by omega, fun g => q3 ⟨by omega, g.2⟩, by omega⟩
theorem okm_one {z : Nat → Int} {a : Nat} (h : dgt (z a) = true) : okm z a 1 = true := by
  have := dgt_iff.1 h
  rw [okm_iff]; simp [val]; omega
/-- Of digits that end there the number is read to their end, if they are a number's text. -/
theorem parse_to {z : Nat → Int} {len a k : Nat} (hk : a + k ≤ len) (h1 : 1 ≤ k) (hok : okm z a k = true) (hd : ∀ i, i < k → dgt (z (a + i)) = true) (he : ¬ (a + k < len ∧ dgt (z (a + k)) = true)) :
    parse z len (a : Int) = (val z a k, ((a + k : Nat) : Int), true) := by
  rcases parse_spec z len a (by omega) with ⟨q, g1, g2, g3, g4, g5, g6⟩ | ⟨q, g2, g3, g4, g5, g6⟩
  · by_cases e : q < k
    · exact absurd ⟨by omega, hd q e⟩ g5
    · by_cases e' : k < q
      · exact absurd ⟨by omega, g4 k e'⟩ he
      · obtain rfl : q = k := by omega
        exact g6
  · exfalso
    rcases g5 with ⟨e, g⟩ | ⟨q1, q2, q3⟩
    · exact g ⟨by omega, by have := hd 0 (by omega); simpa using this⟩
    · by_cases e : q < k
      · exact q3 (okm_mono hok (by omega) (by omega) hd)
      · by_cases e' : k < q
        · exact he ⟨by omega, g4 k e'⟩
        · obtain rfl : q = k := by omega
          exact he ⟨q1, q2⟩

/-- A number's text, as numbers. -/
def txtI (n : Nat) : List Int := (txt n).map fun b => (b.toNat : Int)
theorem txtI_len (n : Nat) : (txtI n).length = (txt n).length := by simp [txtI]
theorem txtI_small {n : Nat} (h : n ≤ 9) : txtI n = [48 + (n : Int)] := by
  unfold txtI; rw [txt_small h]
  have : (UInt8.ofNat (48 + n)).toNat = 48 + n := by simp only [UInt8.toNat_ofNat']; omega
  simp only [List.map_cons, List.map_nil, this]; rfl
theorem txtI_big {n : Nat} (h : 9 < n) (hm : n ≤ 2147483647) : txtI n = txtI (n / 10) ++ [48 + ((n % 10 : Nat) : Int)] := by
  unfold txtI; rw [txt_big h hm]
  have : (UInt8.ofNat (48 + n % 10)).toNat = 48 + n % 10 := by simp only [UInt8.toNat_ofNat']; omega
  simp only [List.map_append, List.map_cons, List.map_nil, this]; rfl
theorem txt_back (z : Nat → Int) (a : Nat) : ∀ f n : Nat, n ≤ f → n ≤ 2147483647 → (∀ j, j < (txtI n).length → z (a + j) = (txtI n).getD j 0) →
    val z a (txtI n).length = n ∧ (∀ j, j < (txtI n).length → dgt (z (a + j)) = true) ∧ (1 < (txtI n).length → z a ≠ 48) := by
  intro f
  induction f with
  | zero =>
    intro n hn _ hz
    obtain rfl : n = 0 := by omega
    rw [txtI_small (by omega)] at hz ⊢
    have h0 := hz 0 (by simp)
    simp at h0
    refine ⟨by simp [val, h0], fun j hj => ?_, by simp⟩
    obtain rfl : j = 0 := by simpa using hj
    rw [Nat.add_zero, h0, dgt_iff]; omega
  | succ f ih =>
    intro n hn hm hz
    by_cases h9 : n ≤ 9
    · rw [txtI_small h9] at hz ⊢
      have h0 := hz 0 (by simp)
      simp at h0
      refine ⟨by simp [val, h0]; omega, fun j hj => ?_, by simp⟩
      obtain rfl : j = 0 := by simpa using hj
      rw [Nat.add_zero, h0, dgt_iff]; omega
    · have e := txtI_big (n := n) (by omega) hm
      rw [e] at hz ⊢
      have hl : (txtI (n / 10) ++ [48 + ((n % 10 : Nat) : Int)]).length = (txtI (n / 10)).length + 1 := by simp
      rw [hl] at hz ⊢
      obtain ⟨i1, i2, i3⟩ := ih (n / 10) (by omega) (by omega) (fun j hj => by
        rw [hz j (by omega), List.getD_eq_getElem?_getD, List.getD_eq_getElem?_getD, List.getElem?_append_left hj])
      have hlast := hz (txtI (n / 10)).length (by omega)
      rw [List.getD_eq_getElem?_getD, List.getElem?_append_right (by omega)] at hlast
      simp at hlast
      have hlen1 : 1 ≤ (txtI (n / 10)).length := by rw [txtI_len]; exact (txt_len _).1
      refine ⟨?_, fun j hj => ?_, fun _ => ?_⟩
      · rw [val, i1, hlast]; omega
      · by_cases ej : j = (txtI (n / 10)).length
        · rw [ej, hlast, dgt_iff]; omega
        · exact i2 j (by omega)
      · by_cases e1 : 1 < (txtI (n / 10)).length
        · exact i3 e1
        · have e2 : (txtI (n / 10)).length = 1 := by omega
          rw [e2] at i1
          simp [val] at i1
          omega
/-- A number comes back from its text. -/
theorem parse_back {z : Nat → Int} {len a n : Nat} (hn : n ≤ 2147483647) (hl : a + (txtI n).length ≤ len) (hz : ∀ j, j < (txtI n).length → z (a + j) = (txtI n).getD j 0)
    (he : a + (txtI n).length = len ∨ dgt (z (a + (txtI n).length)) = false) : parse z len (a : Int) = ((n : Int), ((a + (txtI n).length : Nat) : Int), true) := by
  obtain ⟨h1, h2, h3⟩ := txt_back z a n n (Nat.le_refl _) hn hz
  have hb := txt_len n
  rw [← txtI_len] at hb
  rw [parse_to hl hb.1 (okm_iff.2 ⟨hb.1, hb.2, fun g => h3 g.1 g.2, by rw [h1]; omega⟩) h2 (by rcases he with g | g <;> simp [g]), h1]

/-- Numbers' texts, a blank ahead of each. -/
def flat : List Int → List Int
  | [] => []
  | n :: l => 32 :: (txtI n.toNat ++ flat l)
theorem flat_append : ∀ l m : List Int, flat (l ++ m) = flat l ++ flat m
  | [], _ => rfl
  | n :: l, m => by simp [flat, flat_append l m]
theorem flat_len : ∀ l : List Int, l.length ≤ (flat l).length ∧ (flat l).length ≤ 11 * l.length
  | [] => by simp [flat]
  | n :: l => by
    have := flat_len l
    have := txt_len n.toNat
    rw [← txtI_len] at this
    simp [flat]; omega
/-- A list comes back from its texts. -/
theorem lscan_back {z : Nat → Int} {len : Nat} : ∀ (l acc : List Int) (p f : Nat), (∀ n ∈ l, 0 ≤ n ∧ n ≤ 2147483647) → p + (flat l).length ≤ len → len - p ≤ f → (∀ j, j < (flat l).length → z (p + j) = (flat l).getD j 0) →
    (p + (flat l).length = len ∨ (dgt (z (p + (flat l).length)) = false ∧ z (p + (flat l).length) ≠ 32)) → lscan z len f p acc = (acc ++ l, ((p + (flat l).length : Nat) : Int), true)
  | [], acc, p, f, _, hp, hf, hz, he => by
    simp only [flat, List.length_nil, Nat.add_zero, List.append_nil] at *
    exact lscan_stop hf (by intro g; rcases he with h | h; omega; exact h.2 g.2)
  | n :: l, acc, p, f, hl, hp, hf, hz, he => by
    have hn := hl n List.mem_cons_self
    obtain ⟨N, rfl⟩ : ∃ N : Nat, n = N := ⟨n.toNat, by omega⟩
    have hlen : (flat ((N : Int) :: l)).length = 1 + (txtI N).length + (flat l).length := by simp [flat]; omega
    have ht := txt_len N
    rw [← txtI_len] at ht
    rw [hlen] at hp hz he ⊢
    have hflat : flat ((N : Int) :: l) = 32 :: (txtI N ++ flat l) := by simp [flat]
    rw [hflat] at hz
    have h0 := hz 0 (by omega)
    simp at h0
    have hz1 : ∀ j, j < (txtI N).length → z (p + 1 + j) = (txtI N).getD j 0 := fun j hj => by
      have := hz (1 + j) (by omega)
      rw [← Nat.add_assoc] at this
      rw [this, List.getD_eq_getElem?_getD, List.getD_eq_getElem?_getD, Nat.add_comm 1 j, List.getElem?_cons_succ, List.getElem?_append_left hj]
    have hz2 : ∀ j, j < (flat l).length → z (p + 1 + (txtI N).length + j) = (flat l).getD j 0 := fun j hj => by
      have := hz ((txtI N).length + j + 1) (by omega)
      rw [show p + 1 + (txtI N).length + j = p + ((txtI N).length + j + 1) by omega, this, List.getD_eq_getElem?_getD, List.getD_eq_getElem?_getD, List.getElem?_cons_succ, List.getElem?_append_right (by omega)]
      simp
    have hpar := parse_back (z := z) (len := len) (a := p + 1) (n := N) (by omega) (by omega) hz1 (by
      cases l with
      | nil =>
        simp only [flat, List.length_nil, Nat.add_zero] at he
        rcases he with h | h
        · left; omega
        · right; rw [show p + 1 + (txtI N).length = p + (1 + (txtI N).length) by omega]; exact h.1
      | cons m l =>
        right
        have := hz2 0 (by simp [flat])
        simp [flat] at this
        rw [this]; rfl)
    rw [lscan_go hf ⟨by omega, h0⟩ (t := p + 1 + (txtI N).length) (n := (N : Int)) (by simpa using hpar)]
    rw [lscan_back l (acc ++ [(N : Int)]) (p + 1 + (txtI N).length) (f - 1) (fun m hm => hl m (List.mem_cons_of_mem _ hm)) (by omega) (by omega) hz2 (by
      rcases he with h | h
      · left; omega
      · right; rw [show p + 1 + (txtI N).length + (flat l).length = p + (1 + (txtI N).length + (flat l).length) by omega]; exact h)]
    simp
    omega
theorem lst_back {z : Nat → Int} {len : Nat} (l : List Int) (p : Nat) (hl : ∀ n ∈ l, 0 ≤ n ∧ n ≤ 2147483647) (hp : p + (flat l).length ≤ len) (hz : ∀ j, j < (flat l).length → z (p + j) = (flat l).getD j 0)
    (he : p + (flat l).length = len ∨ (dgt (z (p + (flat l).length)) = false ∧ z (p + (flat l).length) ≠ 32)) : lst z len (p : Int) = (l, ((p + (flat l).length : Nat) : Int), true) := by
  rw [lst_in (by omega), lscan_back l [] p (len - p) hl hp (Nat.le_refl _) hz he]; simp
end Go.Proofs.YtkinmllflodhaaaGreat.Dig

/- Contracts of the program's and the document's ways to print a number: each answers the number's text, or the error, and writes nothing that was there. -/
namespace Go.Proofs.YtkinmllflodhaaaGreat.Dig
open Go.RowKit
set_option linter.unusedVariables false
set_option linter.unusedSimpArgs false

/-- How wide a number's text is; 0, if it has none. -/
def widthS (n : Int) : Int := if 0 ≤ n ∧ n ≤ 2147483647 then ((txt n.toNat).length : Int) else 0
theorem widthS_out {n : Int} (h : n < 0 ∨ 2147483647 < n) : widthS n = 0 := by unfold widthS; rw [if_neg (by omega)]
theorem widthS_in {n : Nat} (h : n ≤ 2147483647) : widthS (n : Int) = ((txt n).length : Int) := by unfold widthS; rw [if_pos (by omega)]; simp

theorem width_any (n : Int) (w : World) (hn : n < 9223372036854775808) : Calls Tryz.prog 92 #[.int .i64 n] w fun e w' => e = .returned (.int .i64 (widthS n)) ∧ w' = w := by
  by_cases h0 : n < 0
  · go_enter Tryz.func92, Tryz.ntmps92
    go_wp2
    go_ret
    exact ⟨ret1 (widthS_out (.inl h0)).symm, rfl⟩
  by_cases h1 : 2147483647 < n
  · go_enter Tryz.func92, Tryz.ntmps92
    go_wp2
    go_ret
    exact ⟨ret1 (widthS_out (.inr h1)).symm, rfl⟩
  obtain ⟨N, hNn⟩ : ∃ N : Nat, n.toNat = N := ⟨_, rfl⟩
  have HW : Hid (widthS n = ((txt N).length : Int)) := by show _ = _; unfold widthS; rw [if_pos (by omega), hNn]
  have HN : Hid (n.toNat = N) := hNn
  clear hNn
  go_enter Tryz.func92, Tryz.ntmps92
  go_wp2
  go_loop [0, 3] (fun n k => ∃ (q : Int) (c : Nat), n = .int .i64 q ∧ k = .int .i64 c ∧ 0 ≤ q ∧ q ≤ 2147483647 ∧ c ≤ 10 ∧ Hid (c + (txt q.toNat).length = (txt N).length + 1)) (fun n _ => (intOf n).toNat)
  case atStart => exact ⟨n, 1, rfl, rfl, by omega, by omega, by omega, by rw [HN.out]; exact Nat.add_comm _ _⟩
  case round =>
    obtain ⟨q, c, rfl, rfl, hq0, hq, hc, hl⟩ := hrel
    by_cases h9 : 9 < q
    · have hb : Hid ((txt q.toNat).length = (txt (q / 10).toNat).length + 1) := by
        have := txt_big (n := q.toNat) (by omega) (by omega)
        unfold Hid
        rw [this, show (q / 10).toNat = q.toNat / 10 by omega]; simp
      have hbd : c ≤ 9 := by
        have h1 := hl.out; have h2 := hb.out; have h3 := (txt_len N).2; have h4 := (txt_len (q / 10).toNat).1; omega
      go_wp2
      go_round
      case rel => exact ⟨q / 10, c + 1, by go_num, by go_num, by omega, by omega, by omega, by have h1 := hl.out; have h2 := hb.out; show _ = _; omega⟩
      case measure => simp [intOf]; omega
    · have hb : Hid ((txt q.toNat).length = 1) := by have := txt_small (n := q.toNat) (by omega); unfold Hid; rw [this]; rfl
      go_wp2
      go_ret
      exact ⟨ret1 (by rw [HW.out]; have h1 := hl.out; have h2 := hb.out; omega), rfl⟩

def PrRel (N B : Nat) (w : World) (n i : Value) (wr : World) : Prop :=
  ∃ (j : Nat) (q : Int), j ≤ (txt N).length ∧ ((j = 0 ∧ i = .int .i64 (-1)) ∨ ∃ t : Nat, j = t + 1 ∧ i = .int .i64 (t : Int)) ∧ n = .int .i64 q ∧ 0 ≤ q ∧ q ≤ 2147483647 ∧ (0 < j → (txt q.toNat).length = j ∧ txt N = txt q.toNat ++ (txt N).drop j) ∧
    (∃ g : Nat → Int, (∀ t, t < 10 → wr.cell? ⟨B, t, none⟩ = some (.int .u8 (g t))) ∧ (∀ t, t < 10 → wr.frozen? ⟨B, t, none⟩ = false) ∧ (∀ t, j ≤ t → t < (txt N).length → g t = (((txt N).getD t 0).toNat : Int)) ∧ Below B w wr)

theorem toNat_dig (n : Nat) (h : n ≤ 9) : (UInt8.ofNat (48 + n)).toNat = 48 + n := by
  simp only [UInt8.toNat_ofNat']; omega
theorem txt_last {N q t : Nat} (hq : q ≤ 2147483647) (hl : (txt q).length = t + 1) (hN : txt N = txt q ++ (txt N).drop (t + 1)) :
    (((txt N).getD t 0).toNat = 48 + q % 10) ∧ (0 < t → (txt (q / 10)).length = t ∧ txt N = txt (q / 10) ++ (txt N).drop t) := by
  generalize hX : (txt N).drop (t + 1) = X at hN
  by_cases h9 : q ≤ 9
  · rw [txt_small h9] at hl hN
    simp at hl
    subst hl
    rw [hN]
    refine ⟨?_, by omega⟩
    simp
    rw [show 48 + q % 10 = 48 + q by omega, ← toNat_dig q h9]
    simp
  · rw [txt_big (by omega) hq] at hl hN
    simp at hl
    rw [hN]
    refine ⟨?_, fun _ => ⟨hl, ?_⟩⟩
    · rw [← toNat_dig (q % 10) (by omega)]
      simp [List.getD_eq_getElem?_getD, ← hl]
    · simp [← hl]
theorem PrRel.step {N B t : Nat} {q : Int} {w wr : World} {g : Nat → Int} (hj : t + 1 ≤ (txt N).length) (hL : (txt N).length ≤ 10) (hq0 : 0 ≤ q) (hq1 : q ≤ 2147483647)
    (hjq : 0 < t + 1 → (txt q.toNat).length = t + 1 ∧ txt N = txt q.toNat ++ (txt N).drop (t + 1)) (hc : ∀ t, t < 10 → wr.cell? ⟨B, t, none⟩ = some (.int .u8 (g t))) (hf : ∀ t, t < 10 → wr.frozen? ⟨B, t, none⟩ = false)
    (hg : ∀ s, t + 1 ≤ s → s < (txt N).length → g s = (((txt N).getD s 0).toNat : Int)) (hb : Below B w wr) :
    PrRel N B w (.int .i64 (q / 10)) (.int .i64 ((t : Int) - 1)) (wr.setCell ⟨B, t, none⟩ (.int .u8 (48 + q % 10))) := by
  obtain ⟨h1, h2⟩ := hjq (by omega)
  obtain ⟨e1, e2⟩ := txt_last (by omega) h1 h2
  refine ⟨t, q / 10, by omega, ?_, rfl, by omega, by omega, ?_, fun s => if s = t then 48 + q % 10 else g s, ?_, ?_, ?_, hb.setCell (Nat.le_refl _) _⟩
  · by_cases ht : t = 0
    · left; subst ht; exact ⟨rfl, rfl⟩
    · right; exact ⟨t - 1, by omega, by congr 1; omega⟩
  · intro ht
    have := e2 ht
    rw [show (q / 10).toNat = q.toNat / 10 by omega]
    exact this
  · intro s hs
    show _ = some (Value.int .u8 (if s = t then 48 + q % 10 else g s))
    by_cases e : s = t
    · subst e
      rw [World.cell?_setCell_same _ _ _ (hc s hs), if_pos rfl]
    · rw [World.cell?_setCell_other _ _ _ _ (fun q => e ((Addr.mk.inj q).2.1).symm), if_neg e]
      exact hc s hs
  · intro s hs
    rw [World.frozen?_setCell _ _ _ _]
    exact hf s hs
  · intro s hs1 hs2
    show (if s = t then 48 + q % 10 else g s) = _
    by_cases e : s = t
    · subst e
      rw [if_pos rfl, e1]
      omega
    · rw [if_neg e]
      exact hg s (by omega) hs2
theorem zero_cells (k : IntKind) : ∀ t, t < 10 → (#[Value.int k 0, Value.int k 0, Value.int k 0, Value.int k 0, Value.int k 0, Value.int k 0, Value.int k 0, Value.int k 0, Value.int k 0, Value.int k 0] : Array Value)[t]? = some (.int k 0)
  | 0, _ | 1, _ | 2, _ | 3, _ | 4, _ | 5, _ | 6, _ | 7, _ | 8, _ | 9, _ => rfl
  | _ + 10, h => by omega

/-- What Print tells: a text, and an error's number. -/
def printS (n : Int) : List UInt8 := if 0 ≤ n ∧ n ≤ 2147483647 then txt n.toNat else []
def errS (n : Int) : Int := if 0 ≤ n ∧ n ≤ 2147483647 then 0 else 2
theorem printS_in {N : Nat} (h : N ≤ 2147483647) : printS (N : Int) = txt N ∧ errS (N : Int) = 0 := by
  unfold printS errS; rw [if_pos (by omega), if_pos (by omega)]; simp
theorem printS_out {n : Int} (h : ¬ (0 ≤ n ∧ n ≤ 2147483647)) : printS n = [] ∧ errS n = 2 := by
  unfold printS errS; rw [if_neg h, if_neg h]; simp

theorem slice_digits (d : Int) (h0 : 0 ≤ d) (h1 : d ≤ 9) (wx : World) :
    (Instr.slice 9 (.string { data := #[48, 49, 50, 51, 52, 53, 54, 55, 56, 57] }) (some (.int .i64 d)) (some (.int .i64 (d + 1))) none).run Tryz.prog wx = .ok (.string ⟨[UInt8.ofNat (48 + d.toNat)].toArray⟩) wx := by
  obtain rfl | rfl | rfl | rfl | rfl | rfl | rfl | rfl | rfl | rfl : d = 0 ∨ d = 1 ∨ d = 2 ∨ d = 3 ∨ d = 4 ∨ d = 5 ∨ d = 6 ∨ d = 7 ∨ d = 8 ∨ d = 9 := by omega
  all_goals kernel_rfl
theorem add_text (c : UInt8) (l : List UInt8) (hl : l.length ≤ 100) (wx : World) : (Op.stringOp .add ⟨[c].toArray⟩ ⟨l.toArray⟩).run Tryz.prog wx = .ok (.string ⟨(c :: l).toArray⟩) wx :=
  run_string_add_lists wx [c] l (by simp) (by omega)
theorem ret_text {l l' : List UInt8} {k : IntKind} {n n' : Int} (h : l = l') (h' : n = n') : Ending.returned (.tuple #[.string ⟨l.toArray⟩, .int k n]) = .returned (.tuple #[.string ⟨l'.toArray⟩, .int k n']) := by rw [h, h']
set_option maxHeartbeats 800000 in
theorem rprint_in (N : Nat) (w : World) (hN : N ≤ 2147483647) :
    Calls Tryz.prog 76 #[.int .i64 (N : Int)] w fun e w' => e = .returned (.tuple #[.string ⟨(txt N).toArray⟩, .int .i64 0]) ∧ w' = w := by
  obtain ⟨n, hn⟩ : ∃ n : Int, (N : Int) = n := ⟨_, rfl⟩
  rw [hn]
  have h0 : ¬ n < 0 := by omega
  have h1 : ¬ 2147483647 < n := by omega
  have HNn : Hid (n.toNat = N) := by show _ = _; omega
  clear hN hn
  go_enter Tryz.func76, Tryz.ntmps76
  go_wp2
  go_loop [0, 4] (fun n s => ∃ (q : Int) (l : List UInt8), n = .int .i64 q ∧ s = .string ⟨l.toArray⟩ ∧ 0 ≤ q ∧ q ≤ 2147483647 ∧ Hid (txt N = txt q.toNat ++ l)) (fun n _ => (intOf n).toNat)
  case atStart => exact ⟨n, [], rfl, rfl, by omega, by omega, by rw [HNn.out]; show _ = _; simp⟩
  case round =>
    obtain ⟨q, l, rfl, rfl, hq0, hq, hl⟩ := hrel
    have hll : l.length ≤ 100 := by have h1 := (txt_len N).2; rw [hl.out] at h1; simp at h1; omega
    by_cases h9 : 9 < q
    · have hm0 : 0 ≤ q % 10 := by omega
      have hm1 : q % 10 ≤ 9 := by omega
      have hsl := slice_digits (q % 10) hm0 hm1
      obtain ⟨c, hc⟩ : ∃ c, UInt8.ofNat (48 + (q % 10).toNat) = c := ⟨_, rfl⟩
      rw [hc] at hsl
      have HC : Hid (UInt8.ofNat (48 + (q % 10).toNat) = c) := hc
      clear hc
      have had := add_text c l hll
      go_wp2
      go_round
      case rel =>
        refine ⟨q / 10, c :: l, rfl, rfl, by omega, by omega, ?_⟩
        show _ = _
        rw [hl.out, txt_big (n := q.toNat) (by omega) (by omega), show (q / 10).toNat = q.toNat / 10 by omega, ← HC.out, show (q % 10).toNat = q.toNat % 10 by omega]
        simp
      case measure => simp [intOf]; omega
    · have hsl := slice_digits q hq0 (by omega)
      obtain ⟨c, hc⟩ : ∃ c, UInt8.ofNat (48 + q.toNat) = c := ⟨_, rfl⟩
      rw [hc] at hsl
      have HC : Hid (UInt8.ofNat (48 + q.toNat) = c) := hc
      clear hc
      have had := add_text c l hll
      go_wp2
      go_ret2
      exact ⟨ret_text (by rw [hl.out, txt_small (n := q.toNat) (by omega), HC.out]; rfl) rfl, rfl⟩
theorem rprint_any (n : Int) (w : World) :
    Calls Tryz.prog 76 #[.int .i64 n] w fun e w' => e = .returned (.tuple #[.string ⟨(printS n).toArray⟩, .int .i64 (errS n)]) ∧ w' = w := by
  by_cases h : 0 ≤ n ∧ n ≤ 2147483647
  · obtain ⟨N, rfl⟩ : ∃ N : Nat, n = N := ⟨n.toNat, by omega⟩
    rw [(printS_in (by omega)).1, (printS_in (by omega)).2]
    exact rprint_in N w (by omega)
  · rw [(printS_out h).1, (printS_out h).2]
    have h' : n < 0 ∨ 2147483647 < n := by omega
    clear h
    rcases h' with h' | h'
    · go_enter Tryz.func76, Tryz.ntmps76
      go_wp2
      go_ret2
      exact ⟨rfl, rfl⟩
    · have h0 : ¬ n < 0 := by omega
      go_enter Tryz.func76, Tryz.ntmps76
      go_wp2
      go_ret2
      exact ⟨rfl, rfl⟩
end Go.Proofs.YtkinmllflodhaaaGreat.Dig

/- What stands where a number was read is the number's own text; and lists likewise. -/
namespace Go.Proofs.YtkinmllflodhaaaGreat.Dig
open Go.RowKit
set_option linter.unusedVariables false
set_option linter.unusedSimpArgs false

/-- What stands from a on, so many. -/
def sub (z : Nat → Int) (a k : Nat) : List Int := (List.range k).map fun j => z (a + j)
theorem sub_len (z : Nat → Int) (a k : Nat) : (sub z a k).length = k := by simp [sub]
theorem sub_succ (z : Nat → Int) (a k : Nat) : sub z a (k + 1) = sub z a k ++ [z (a + k)] := by simp [sub, List.range_succ]
theorem sub_add (z : Nat → Int) (a k : Nat) : ∀ l, sub z a (k + l) = sub z a k ++ sub z (a + k) l
  | 0 => by simp [sub]
  | l + 1 => by rw [← Nat.add_assoc, sub_succ, sub_add z a k l, sub_succ, List.append_assoc, Nat.add_assoc]
theorem sub_get (z : Nat → Int) (a k j : Nat) (h : j < k) : (sub z a k).getD j 0 = z (a + j) := by
  simp [sub, List.getD_eq_getElem?_getD, List.getElem?_map, h]
theorem text_back (z : Nat → Int) (a : Nat) : ∀ k, okm z a k = true → (∀ j, j < k → dgt (z (a + j)) = true) → txtI (val z a k).toNat = sub z a k
  | 0, h, _ => by rw [okm_iff] at h; omega
  | k + 1, h, hd => by
    have hl := dgt_iff.1 (hd k (by omega))
    have h' := okm_iff.1 h
    have hv : val z a (k + 1) = 10 * val z a k + (z (a + k) - 48) := rfl
    rcases Nat.eq_zero_or_pos k with rfl | hk
    · have h0 : val z a 0 = 0 := rfl
      rw [hv, h0]
      obtain ⟨d, hd0⟩ : ∃ d : Nat, z (a + 0) - 48 = d := ⟨(z (a + 0) - 48).toNat, by omega⟩
      rw [show (10 * (0 : Int) + (z (a + 0) - 48)).toNat = d by omega, txtI_small (by omega), sub_succ]
      simp [sub]
      rw [Nat.add_zero] at hd0
      omega
    · have hok : okm z a k = true := okm_mono h (by omega) (by omega) hd
      have ih := text_back z a k hok (fun j hj => hd j (by omega))
      have hz : 49 ≤ z a := by
        have := dgt_iff.1 (hd 0 (by omega))
        simp at this
        have := h'.2.2.1
        omega
      obtain ⟨m, rfl⟩ : ∃ m, k = m + 1 := ⟨k - 1, by omega⟩
      have hge := val_ge z a m hz (fun j hj => hd j (by omega))
      have h1 : (1 : Int) ≤ 10 ^ m := by have := pow_le_of (Nat.zero_le m); simpa using this
      obtain ⟨v, hv0⟩ : ∃ v : Nat, val z a (m + 1) = v := ⟨(val z a (m + 1)).toNat, by omega⟩
      obtain ⟨d, hd0⟩ : ∃ d : Nat, z (a + (m + 1)) - 48 = d := ⟨(z (a + (m + 1)) - 48).toNat, by omega⟩
      rw [hv0] at ih hge
      have hb := h'.2.2.2
      rw [hv, hv0, hd0] at hb ⊢
      rw [show (10 * (v : Int) + (d : Int)).toNat = 10 * v + d by omega, txtI_big (by omega) (by omega), show (10 * v + d) / 10 = v by omega, show (10 * v + d) % 10 = d by omega, sub_succ, ← ih]
      simp
      omega
theorem parse_text {z : Nat → Int} {len a : Nat} (h : a ≤ len) {n : Int} {t : Nat} (hp : parse z len (a : Int) = (n, (t : Int), true)) :
    a < t ∧ t ≤ len ∧ 0 ≤ n ∧ n ≤ 2147483647 ∧ txtI n.toNat = sub z a (t - a) := by
  rcases parse_spec z len a h with ⟨k, h1, h2, h3, h4, h5, h6⟩ | ⟨k, _, _, _, _, h6⟩
  · rw [hp] at h6
    simp at h6
    obtain ⟨rfl, ht⟩ := h6
    have hb := ok_bd h4 (.inr h3)
    obtain rfl : t = a + k := by omega
    rw [show a + k - a = k by omega]
    exact ⟨by omega, h2, hb.1, hb.2, text_back z a k h3 h4⟩
  · rw [hp] at h6; simp at h6
theorem lscan_text (z : Nat → Int) (len : Nat) : ∀ (f p : Nat) (acc : List Int), p ≤ len → ∀ (m : List Int) (t : Nat), lscan z len f p acc = (m, (t : Int), true) →
    ∃ m', m = acc ++ m' ∧ p ≤ t ∧ t ≤ len ∧ sub z p (t - p) = flat m' ∧ ∀ n ∈ m', 0 ≤ n ∧ n ≤ 2147483647
  | 0, p, acc, h, m, t, he => by
    simp [lscan] at he
    obtain ⟨rfl, ht⟩ := he
    exact ⟨[], by simp, by omega, by omega, by simp [show t - p = 0 by omega, sub, flat], by simp⟩
  | f + 1, p, acc, h, m, t, he => by
    rw [lscan] at he
    split at he
    · rename_i g
      split at he
      · rename_i hb
        rcases parse_two z len (p + 1) (by omega) with ⟨n, u, h1, h2, hn0, hn1, hp⟩ | ⟨u, h1, h2, hp⟩
        · have hp' : parse z len ((p : Int) + 1) = (n, (u : Int), true) := hp
          rw [hp'] at he
          simp at he
          obtain ⟨m', rfl, g1, g2, g3, g4⟩ := lscan_text z len f u (acc ++ [n]) h2 m t he
          have ht := (parse_text (by omega) hp).2.2.2.2
          refine ⟨n :: m', by simp, by omega, g2, ?_, ?_⟩
          · rw [show t - p = 1 + ((u - (p + 1)) + (t - u)) by omega, sub_add, sub_add, show p + 1 + (u - (p + 1)) = u by omega, g3, ← ht]
            simp [sub, flat, g.2]
          · intro x hx
            rcases List.mem_cons.1 hx with rfl | q
            · exact ⟨hn0, hn1⟩
            · exact g4 x q
        · have hp' : parse z len ((p : Int) + 1) = (0, (u : Int), false) := hp
          rw [hp'] at hb
          simp at hb
      · simp at he
    · simp at he
      obtain ⟨rfl, ht⟩ := he
      exact ⟨[], by simp, by omega, by omega, by simp [show t - p = 0 by omega, sub, flat], by simp⟩
theorem lst_text {z : Nat → Int} {len a : Nat} (h : a ≤ len) {m : List Int} {t : Nat} (hp : lst z len (a : Int) = (m, (t : Int), true)) :
    a ≤ t ∧ t ≤ len ∧ sub z a (t - a) = flat m ∧ ∀ n ∈ m, 0 ≤ n ∧ n ≤ 2147483647 := by
  rw [lst_in h] at hp
  obtain ⟨m', rfl, h1, h2, h3, h4⟩ := lscan_text z len _ _ _ h m t hp
  exact ⟨h1, h2, by simpa using h3, by simpa using h4⟩
/-- Bytes as numbers. -/
def bytesI (l : List UInt8) : List Int := l.map fun b => (b.toNat : Int)
theorem bytesI_app (l m : List UInt8) : bytesI (l ++ m) = bytesI l ++ bytesI m := by simp [bytesI]
theorem bytesI_len (l : List UInt8) : (bytesI l).length = l.length := by simp [bytesI]
theorem bytesI_txt (n : Nat) : bytesI (txt n) = txtI n := rfl
/-- Numbers' texts, a blank ahead of each, as bytes. -/
def flatB (l : List Int) : List UInt8 := l.flatMap fun n => 32 :: printS n
theorem flatB_snoc (l : List Int) (n : Int) : flatB (l ++ [n]) = flatB l ++ (32 :: printS n) := by simp [flatB]
theorem flatB_flat : ∀ l : List Int, (∀ n ∈ l, 0 ≤ n ∧ n ≤ 2147483647) → bytesI (flatB l) = flat l
  | [], _ => rfl
  | n :: l, h => by
    have hn := h n List.mem_cons_self
    have ih := flatB_flat l (fun x hx => h x (List.mem_cons_of_mem _ hx))
    have hp : printS n = txt n.toNat := by unfold printS; rw [if_pos hn]
    have e : flatB (n :: l) = 32 :: (printS n ++ flatB l) := by simp [flatB]
    rw [e, hp]
    show _ = 32 :: (txtI n.toNat ++ flat l)
    rw [← ih]
    simp [bytesI, txtI]
theorem flatB_take (l : List Int) (j : Nat) : (flatB (l.take j)).length ≤ (flatB l).length := by
  have : flatB l = flatB (l.take j) ++ flatB (l.drop j) := by
    unfold flatB
    rw [← List.flatMap_append, List.take_append_drop]
  rw [this]; simp
end Go.Proofs.YtkinmllflodhaaaGreat.Dig
