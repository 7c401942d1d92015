/- Joined out of the texts Hist, DigBack, App, DqRow, Lists, ListsFrame, RowApp, in that order. -/
import Derived.Test.YtkjdjmcecjaolaaAll1
import Derived.Deep.Slices
import Derived.Laws.AppendOwnNone
import Derived.Lib.AppendStr
import Derived.Laws.MakeOwn
import Derived.Laws.OwnMore
import Derived.Deep.RegionLaw
import Derived.Deep.DeepMust
import Derived.Maps.AppendAt
/- Histories in memory: rows of transactions, each with a row of operations, each with a row of numbers: how they are read, and what keeps them. -/
namespace Go.Proofs.Ytkjdjmcecjaolaa.Mem
open Go.RowKit Go.Proofs.Ytkjdjmcecjaolaa.Dig Go.ChangeShapes Go.WideShapes Go.Deep
set_option linter.unusedVariables false
set_option linter.unusedSimpArgs false

/-- An operation, a transaction. -/
structure OpM where
  read : Bool
  key : Int
  value : Int
  list : List Int
structure TxnM where
  id : Int
  ab : Bool
  ops : List OpM

/-- Element by element. -/
def AllAt {α : Type} (R : List Value → α → Prop) (cs : List (List Value)) (xs : List α) : Prop := cs.length = xs.length ∧ ∀ (i : Nat) (c : List Value) (x : α), cs[i]? = some c → xs[i]? = some x → R c x
theorem AllAt.nil {α : Type} (R : List Value → α → Prop) : AllAt R [] [] := ⟨rfl, by simp⟩
theorem AllAt.mono {α : Type} {R R' : List Value → α → Prop} {cs : List (List Value)} {xs : List α} (h : AllAt R cs xs) (hr : ∀ c x, R c x → R' c x) : AllAt R' cs xs := ⟨h.1, fun i c x h1 h2 => hr _ _ (h.2 i c x h1 h2)⟩
theorem AllAt.one {α : Type} {R : List Value → α → Prop} {c : List Value} {x : α} (h : R c x) : AllAt R [c] [x] := by
  refine ⟨rfl, fun i c' x' h1 h2 => ?_⟩
  cases i with
  | zero => simp at h1 h2; subst h1; subst h2; exact h
  | succ i => simp at h1
theorem AllAt.append {α : Type} {R : List Value → α → Prop} {cs ds : List (List Value)} {xs ys : List α} (h : AllAt R cs xs) (k : AllAt R ds ys) : AllAt R (cs ++ ds) (xs ++ ys) := by
  refine ⟨by rw [List.length_append, List.length_append, h.1, k.1], fun i c x h1 h2 => ?_⟩
  rcases Nat.lt_or_ge i cs.length with q | q
  · rw [List.getElem?_append_left q] at h1
    rw [List.getElem?_append_left (by rw [← h.1]; exact q)] at h2
    exact h.2 i c x h1 h2
  · rw [List.getElem?_append_right q] at h1
    rw [List.getElem?_append_right (by rw [← h.1]; exact q), ← h.1] at h2
    exact k.2 _ c x h1 h2
theorem AllAt.get {α : Type} {R : List Value → α → Prop} {cs : List (List Value)} {xs : List α} (h : AllAt R cs xs) {i : Nat} (hi : i < xs.length) : ∃ hc : i < cs.length, R cs[i] xs[i] :=
  ⟨by rw [h.1]; exact hi, h.2 i _ _ (List.getElem?_eq_getElem (by rw [h.1]; exact hi)) (List.getElem?_eq_getElem hi)⟩

def IntsAt (F : Nat → Prop) (w : World) (v : Value) (l : List Int) : Prop := RowAt F w 1 v (l.map fun n => [.int .i64 n]) ∧ ∀ n ∈ l, (Lit.int .i64 n).wf = true
def OpAt (F : Nat → Prop) (w : World) (c : List Value) (o : OpM) : Prop := ∃ v, c = [.bool o.read, .int .i64 o.key, .int .i64 o.value, v] ∧ IntsAt F w v o.list ∧ (Lit.int .i64 o.key).wf = true ∧ (Lit.int .i64 o.value).wf = true
def OpsAt (F : Nat → Prop) (w : World) (v : Value) (os : List OpM) : Prop := ∃ cs, RowAt F w 4 v cs ∧ AllAt (OpAt F w) cs os
def TxnAt (F : Nat → Prop) (w : World) (c : List Value) (t : TxnM) : Prop := ∃ v, c = [.int .i64 t.id, .bool t.ab, v] ∧ OpsAt F w v t.ops ∧ (Lit.int .i64 t.id).wf = true
def TxnsAt (F : Nat → Prop) (w : World) (v : Value) (ts : List TxnM) : Prop := ∃ cs, RowAt F w 3 v cs ∧ AllAt (TxnAt F w) cs ts

section
variable {F F' S : Nat → Prop} {w w' : World}
theorem IntsAt.mono {v : Value} {l : List Int} (h : IntsAt F w v l) (hf : ∀ b, F b → F' b) : IntsAt F' w v l := ⟨h.1.mono hf, h.2⟩
theorem OpAt.mono {c : List Value} {o : OpM} (h : OpAt F w c o) (hf : ∀ b, F b → F' b) : OpAt F' w c o := let ⟨v, h1, h2, h3⟩ := h; ⟨v, h1, h2.mono hf, h3⟩
theorem OpsAt.mono {v : Value} {os : List OpM} (h : OpsAt F w v os) (hf : ∀ b, F b → F' b) : OpsAt F' w v os := let ⟨cs, h1, h2⟩ := h; ⟨cs, h1.mono hf, h2.mono fun _ _ q => q.mono hf⟩
theorem TxnAt.mono {c : List Value} {t : TxnM} (h : TxnAt F w c t) (hf : ∀ b, F b → F' b) : TxnAt F' w c t := let ⟨v, h1, h2, h3⟩ := h; ⟨v, h1, h2.mono hf, h3⟩
theorem TxnsAt.mono {v : Value} {ts : List TxnM} (h : TxnsAt F w v ts) (hf : ∀ b, F b → F' b) : TxnsAt F' w v ts := let ⟨cs, h1, h2⟩ := h; ⟨cs, h1.mono hf, h2.mono fun _ _ q => q.mono hf⟩
theorem IntsAt.only {v : Value} {l : List Int} (h : IntsAt F w v l) (ho : Only S w w') (hs : ∀ b, F b → ¬ S b) : IntsAt F w' v l := ⟨h.1.only ho hs, h.2⟩
theorem OpAt.only {c : List Value} {o : OpM} (h : OpAt F w c o) (ho : Only S w w') (hs : ∀ b, F b → ¬ S b) : OpAt F w' c o := let ⟨v, h1, h2, h3⟩ := h; ⟨v, h1, h2.only ho hs, h3⟩
theorem OpsAt.only {v : Value} {os : List OpM} (h : OpsAt F w v os) (ho : Only S w w') (hs : ∀ b, F b → ¬ S b) : OpsAt F w' v os := let ⟨cs, h1, h2⟩ := h; ⟨cs, h1.only ho hs, h2.mono fun _ _ q => q.only ho hs⟩
theorem TxnAt.only {c : List Value} {t : TxnM} (h : TxnAt F w c t) (ho : Only S w w') (hs : ∀ b, F b → ¬ S b) : TxnAt F w' c t := let ⟨v, h1, h2, h3⟩ := h; ⟨v, h1, h2.only ho hs, h3⟩
theorem TxnsAt.only {v : Value} {ts : List TxnM} (h : TxnsAt F w v ts) (ho : Only S w w') (hs : ∀ b, F b → ¬ S b) : TxnsAt F w' v ts := let ⟨cs, h1, h2⟩ := h; ⟨cs, h1.only ho hs, h2.mono fun _ _ q => q.only ho hs⟩
theorem IntsAt.keep {v : Value} {l : List Int} (h : IntsAt F w v l) (ho : Below w.heap.size w w') : IntsAt F w' v l := h.only (Only.of_below (S := fun _ => False) ho) (fun _ _ q => q)
theorem OpsAt.keep {v : Value} {os : List OpM} (h : OpsAt F w v os) (ho : Below w.heap.size w w') : OpsAt F w' v os := h.only (Only.of_below (S := fun _ => False) ho) (fun _ _ q => q)
theorem TxnsAt.keep {v : Value} {ts : List TxnM} (h : TxnsAt F w v ts) (ho : Below w.heap.size w w') : TxnsAt F w' v ts := h.only (Only.of_below (S := fun _ => False) ho) (fun _ _ q => q)
theorem IntsAt.lt {v : Value} {l : List Int} (h : IntsAt F w v l) : IntsAt (fun b => F b ∧ b < w.heap.size) w v l := ⟨h.1.lt (by omega), h.2⟩
theorem OpAt.lt {c : List Value} {o : OpM} (h : OpAt F w c o) : OpAt (fun b => F b ∧ b < w.heap.size) w c o := let ⟨v, h1, h2, h3⟩ := h; ⟨v, h1, h2.lt, h3⟩
theorem OpsAt.lt {v : Value} {os : List OpM} (h : OpsAt F w v os) : OpsAt (fun b => F b ∧ b < w.heap.size) w v os := let ⟨cs, h1, h2⟩ := h; ⟨cs, h1.lt (by omega), h2.mono fun _ _ q => q.lt⟩
theorem TxnAt.lt {c : List Value} {t : TxnM} (h : TxnAt F w c t) : TxnAt (fun b => F b ∧ b < w.heap.size) w c t := let ⟨v, h1, h2, h3⟩ := h; ⟨v, h1, h2.lt, h3⟩
theorem TxnsAt.lt {v : Value} {ts : List TxnM} (h : TxnsAt F w v ts) : TxnsAt (fun b => F b ∧ b < w.heap.size) w v ts := let ⟨cs, h1, h2⟩ := h; ⟨cs, h1.lt (by omega), h2.mono fun _ _ q => q.lt⟩

theorem IntsAt.nil : IntsAt F w (.slice none 0 0) [] := ⟨RowAt.nil _ _ _, by simp⟩
theorem OpsAt.nil : OpsAt F w (.slice none 0 0) [] := ⟨[], RowAt.nil _ _ _, AllAt.nil _⟩
theorem TxnsAt.nil : TxnsAt F w (.slice none 0 0) [] := ⟨[], RowAt.nil _ _ _, AllAt.nil _⟩
/-- A row of numbers, as it is read. -/
theorem IntsAt.rd {v : Value} {l : List Int} (h : IntsAt F w v l) (hl : l.length ≤ 1000000000000) : ∃ a cap, v = .slice a l.length cap ∧ l.length ≤ cap ∧ Rd .i64 w a l.length (fun i => l.getD i 0) := by
  obtain ⟨⟨a, cap, h1, h2, h3, h4, h5, h6⟩, hw⟩ := h
  rw [List.length_map] at h1 h2
  refine ⟨a, cap, h1, h2, hl, fun i hi => ?_⟩
  obtain ⟨b, off, g1, _, g3⟩ := h6 i [.int .i64 l[i]] (by simp [List.getElem?_map, List.getElem?_eq_getElem hi])
  have e : l.getD i 0 = l[i] := by simp [List.getD_eq_getElem?_getD, List.getElem?_eq_getElem hi]
  refine ⟨b, off, g1, ?_, ?_⟩
  · have := g3 0 (.int .i64 l[i]) rfl
    rw [Nat.mul_one, Nat.add_zero] at this
    show _ = some (Value.int .i64 (l.getD i 0))
    rw [e]
    exact this
  · show (Lit.int .i64 (l.getD i 0)).wf = true
    rw [e]
    exact hw _ (List.getElem_mem hi)
/-- .. and back. -/
theorem IntsAt.of_rd {a : Option Addr} {cap : Nat} {l : List Int} (h : Rd .i64 w a l.length (fun i => l.getD i 0)) (hc : l.length ≤ cap) (hm : cap ≤ maxLen) (hn : a = none → cap = 0) (hf : ∀ x, a = some x → F x.block) : IntsAt F w (.slice a l.length cap) l := by
  have e : ∀ i (hi : i < l.length), l.getD i 0 = l[i] := fun i hi => by simp [List.getD_eq_getElem?_getD, List.getElem?_eq_getElem hi]
  refine ⟨⟨a, cap, by rw [List.length_map], by rw [List.length_map]; exact hc, hm, hn, by simp, fun i c hci => ?_⟩, fun n hn => ?_⟩
  · have hi : i < l.length := by
      rcases Nat.lt_or_ge i l.length with q | q
      · exact q
      · rw [List.getElem?_eq_none (by rw [List.length_map]; exact q)] at hci; cases hci
    rw [List.getElem?_map, List.getElem?_eq_getElem hi] at hci
    obtain rfl := Option.some.inj hci
    obtain ⟨b, off, g1, g2, g3⟩ := h.2 i hi
    refine ⟨b, off, g1, hf _ g1, fun j u hu => ?_⟩
    cases j with
    | zero =>
      simp at hu
      subst hu
      rw [Nat.mul_one, Nat.add_zero, g2]
      show some (Value.int .i64 (l.getD i 0)) = _
      rw [e i hi]
    | succ j => simp at hu
  · obtain ⟨i, hi, rfl⟩ := List.mem_iff_getElem.1 hn
    obtain ⟨b, off, g1, g2, g3⟩ := h.2 i hi
    have g3' : (Lit.int .i64 (l.getD i 0)).wf = true := g3
    rw [e i hi] at g3'
    exact g3'
end

/-! ### Arguments -/
section
variable {H : Type} {enc : TypeId × Value → H} {P : Program} {w : World} {held : Bool}
theorem open_row {t e : TypeId} {n fuel : Nat} {cs : List Value} {x : DataW H × List MemPlace} (ht : P.underlying t = some (.slice e)) (ce : P.cellsOf e = n) (hn : 0 < n) (h : DataW.trod enc P w 0 (fun _ => true) held fuel t cs = some x) :
    ∃ v rows, cs = [v] ∧ RowAt (fun _ => True) w n v rows ∧ ∀ c ∈ rows, ∃ m y, DataW.trod enc P w 0 (fun _ => true) held m e c = some y := by
  rcases open_slice ht h with ⟨h0, _⟩ | ⟨a, len, cap, m, k, D, Pl, rfl, hb, hl, hm, hmm, rfl, hx⟩
  · exact ⟨.slice none 0 0, [], h0, RowAt.nil _ _ _, by simp⟩
  · simp only [if_true] at hmm
    subst hmm
    rw [ce] at hx
    obtain ⟨f, hf⟩ := choose_lt (α := List Value) (n := m) (p := fun i c => w.cells? 0 (a.add (i * n)) n = some c ∧ ∃ k y, DataW.trod enc P w 0 (fun _ => true) held k e c = some y) (fun i hi => by
      obtain ⟨c, h1, h2⟩ := hx i hi
      exact ⟨c, h1, k, _, h2⟩)
    have hlen : ((List.range len).map f).length = len := by simp
    refine ⟨_, (List.range len).map f, rfl, ⟨some a, m, by rw [hlen], by rw [hlen]; exact hl, hm, by simp, ?_, ?_⟩, ?_⟩
    · intro c hc
      obtain ⟨i, hi, rfl⟩ := List.mem_map.1 hc
      exact (World.cells?_some (hf i (by have := List.mem_range.1 hi; omega)).1).2.1
    · intro i c hc
      have hi : i < len := by
        rcases Nat.lt_or_ge i len with q | q
        · exact q
        · rw [List.getElem?_eq_none (by rw [hlen]; exact q)] at hc; cases hc
      rw [List.getElem?_map, List.getElem?_range hi] at hc
      obtain rfl := Option.some.inj hc
      obtain ⟨_, h2, h3⟩ := World.cells?_some (hf i (by omega)).1
      have h00 := (World.cells?_some (hf 0 (by omega)).1)
      obtain ⟨b, off, spot⟩ := a
      have hs : spot = none := by
        have c0 := h00.2.2 0 hn
        rw [List.getElem?_eq_getElem (by rw [h00.2.1]; exact hn)] at c0
        simpa [Addr.add] using World.cell?_spot c0
      subst hs
      refine ⟨b, off, rfl, trivial, fun j u hu => ?_⟩
      have hj : j < n := by
        rcases Nat.lt_or_ge j (f i).length with q | q
        · omega
        · rw [List.getElem?_eq_none q] at hu; cases hu
      have := h3 j hj
      rw [add_add, addr_add] at this
      rw [this, hu]
    · intro c hc
      obtain ⟨i, hi, rfl⟩ := List.mem_map.1 hc
      exact (hf i (by have := List.mem_range.1 hi; omega)).2
theorem open_all {α : Type} [Inhabited α] {R : List Value → α → Prop} : ∀ (rows : List (List Value)), (∀ c ∈ rows, ∃ x, R c x) → ∃ xs, AllAt R rows xs
  | [], _ => ⟨[], AllAt.nil _⟩
  | c :: rows, h => by
    obtain ⟨x, hx⟩ := h c List.mem_cons_self
    obtain ⟨xs, hxs⟩ := open_all rows (fun c hc => h c (List.mem_cons_of_mem _ hc))
    exact ⟨x :: xs, (AllAt.one hx).append hxs⟩
theorem open_intsAt {t e : TypeId} {fuel : Nat} {cs : List Value} {x : DataW H × List MemPlace} (ht : P.underlying t = some (.slice e)) (he : P.underlying e = some (.int .i64)) (ce : P.cellsOf e = 1) (h : DataW.trod enc P w 0 (fun _ => true) held fuel t cs = some x) :
    ∃ v l, cs = [v] ∧ IntsAt (fun _ => True) w v l := by
  obtain ⟨v, rows, rfl, hr, hc⟩ := open_row ht ce (by omega) h
  obtain ⟨l, hl⟩ := open_all (α := Int) (R := fun c n => c = [.int .i64 n] ∧ (Lit.int .i64 n).wf = true) rows (fun c hcm => by
    obtain ⟨m, y, hy⟩ := hc c hcm
    obtain ⟨n, h1, _, h3⟩ := DataW.trod_int he hy
    exact ⟨n, h1, h3⟩)
  have e : rows = l.map fun n => [.int .i64 n] := by
    apply List.ext_getElem?
    intro i
    rcases Nat.lt_or_ge i l.length with q | q
    · obtain ⟨hc, h1, _⟩ := hl.get q
      rw [List.getElem?_eq_getElem hc, List.getElem?_map, List.getElem?_eq_getElem q, h1]
      rfl
    · rw [List.getElem?_eq_none (by rw [hl.1]; exact q), List.getElem?_eq_none (by rw [List.length_map]; exact q)]
  refine ⟨v, l, rfl, e ▸ hr, fun n hn => ?_⟩
  obtain ⟨i, hi, rfl⟩ := List.mem_iff_getElem.1 hn
  exact (hl.get hi).2.2
/-- The types of a history, as a program has them. -/
structure HistTypes (P : Program) (tops top ttxns ttxn tints tint tbool : TypeId) (r k v l i a o : Field) : Prop where
  ops : P.underlying tops = some (.slice top)
  op : P.underlying top = some (.struct #[r, k, v, l])
  opc : P.cellsOf top = 4
  txns : P.underlying ttxns = some (.slice ttxn)
  txn : P.underlying ttxn = some (.struct #[i, a, o])
  txnc : P.cellsOf ttxn = 3
  ints : P.underlying tints = some (.slice tint)
  int : P.underlying tint = some (.int .i64)
  intc : P.cellsOf tint = 1
  bool : P.underlying tbool = some .bool
  boolc : P.cellsOf tbool = 1
  intsc : P.cellsOf tints = 1
  opsc : P.cellsOf tops = 1
  rt : r.type = tbool ∧ r.offset = 0
  kt : k.type = tint ∧ k.offset = 1
  vt : v.type = tint ∧ v.offset = 2
  lt : l.type = tints ∧ l.offset = 3
  it : i.type = tint ∧ i.offset = 0
  at_ : a.type = tbool ∧ a.offset = 1
  ot : o.type = tops ∧ o.offset = 2
instance : Inhabited OpM := ⟨⟨false, 0, 0, []⟩⟩
instance : Inhabited TxnM := ⟨⟨0, false, []⟩⟩
variable {tops top ttxns ttxn tints tint tbool : TypeId} {fr fk fv fl fi fa fo : Field}
theorem open_opsAt (T : HistTypes P tops top ttxns ttxn tints tint tbool fr fk fv fl fi fa fo) {fuel : Nat} {cs : List Value} {x : DataW H × List MemPlace} (h : DataW.trod enc P w 0 (fun _ => true) held fuel tops cs = some x) :
    ∃ v os, cs = [v] ∧ OpsAt (fun _ => True) w v os := by
  obtain ⟨v, rows, rfl, hr, hc⟩ := open_row T.ops T.opc (by omega) h
  obtain ⟨os, hos⟩ := open_all (α := OpM) (R := OpAt (fun _ => True) w) rows (fun c hcm => by
    obtain ⟨m, y, hy⟩ := hc c hcm
    obtain ⟨xs, n, _, _, hl, hxl, hf⟩ := DataW.trod_struct T.op hy
    have g0 := hf 0 fr rfl
    have g1 := hf 1 fk rfl
    have g2 := hf 2 fv rfl
    have g3 := hf 3 fl rfl
    rw [T.opc] at hl
    rw [T.rt.1, T.rt.2, T.boolc] at g0
    rw [T.kt.1, T.kt.2, T.intc] at g1
    rw [T.vt.1, T.vt.2, T.intc] at g2
    rw [T.lt.1, T.lt.2, T.intsc] at g3
    match c, hl, xs, hxl with
    | [c0, c1, c2, c3], _, [x0, x1, x2, x3], _ =>
      obtain ⟨b, e0, _⟩ := DataW.trod_bool T.bool g0
      obtain ⟨k, e1, _, w1⟩ := DataW.trod_int T.int g1
      obtain ⟨v, e2, _, w2⟩ := DataW.trod_int T.int g2
      obtain ⟨vl, l, e3, hl⟩ := open_intsAt T.ints T.int T.intc g3
      simp at e0 e1 e2 e3
      subst e0 e1 e2 e3
      exact ⟨⟨b, k, v, l⟩, _, rfl, hl, w1, w2⟩)
  exact ⟨v, os, rfl, rows, hr, hos⟩
theorem open_txnsAt (T : HistTypes P tops top ttxns ttxn tints tint tbool fr fk fv fl fi fa fo) {fuel : Nat} {cs : List Value} {x : DataW H × List MemPlace} (h : DataW.trod enc P w 0 (fun _ => true) held fuel ttxns cs = some x) :
    ∃ v ts, cs = [v] ∧ TxnsAt (fun _ => True) w v ts := by
  obtain ⟨v, rows, rfl, hr, hc⟩ := open_row T.txns T.txnc (by omega) h
  obtain ⟨ts, hts⟩ := open_all (α := TxnM) (R := TxnAt (fun _ => True) w) rows (fun c hcm => by
    obtain ⟨m, y, hy⟩ := hc c hcm
    obtain ⟨xs, n, _, _, hl, hxl, hf⟩ := DataW.trod_struct T.txn hy
    have g0 := hf 0 fi rfl
    have g1 := hf 1 fa rfl
    have g2 := hf 2 fo rfl
    rw [T.txnc] at hl
    rw [T.it.1, T.it.2, T.intc] at g0
    rw [T.at_.1, T.at_.2, T.boolc] at g1
    rw [T.ot.1, T.ot.2, T.opsc] at g2
    match c, hl, xs, hxl with
    | [c0, c1, c2], _, [x0, x1, x2], _ =>
      obtain ⟨k, e0, _, w1⟩ := DataW.trod_int T.int g0
      obtain ⟨b, e1, _⟩ := DataW.trod_bool T.bool g1
      obtain ⟨vl, os, e2, hl⟩ := open_opsAt T g2
      simp at e0 e1 e2
      subst e0 e1 e2
      exact ⟨⟨k, b, os⟩, _, rfl, hl, w1⟩)
  exact ⟨v, ts, rfl, rows, hr, hts⟩
/-- A history by value, as an argument. -/
theorem open_hist (T : HistTypes P tops top ttxns ttxn tints tint tbool fr fk fv fl fi fa fo) {thist : TypeId} {fh : Field} (hh : P.underlying thist = some (.struct #[fh])) (hc : P.cellsOf thist = 1) (ft : fh.type = ttxns ∧ fh.offset = 0) (ct : P.cellsOf ttxns = 1)
    {v : Value} (hv : ∃ cs, v = .agg cs ∧ cs.size = P.cellsOf thist) {fuel : Nat} {x : DataW H × List MemPlace} (h : DataW.trod enc P w 0 (fun _ => true) held fuel thist v.cells.toList = some x) :
    ∃ a len cap ts, v = .agg #[.slice a len cap] ∧ len = ts.length ∧ len ≤ cap ∧ cap ≤ maxLen ∧ TxnsAt (fun b => b < w.heap.size) w (.slice a len cap) ts := by
  obtain ⟨cs, rfl, hs⟩ := hv
  rw [hc] at hs
  obtain ⟨c, rfl⟩ : ∃ c, cs = #[c] := by
    obtain ⟨l⟩ := cs
    match l, hs with
    | [c], _ => exact ⟨c, rfl⟩
  obtain ⟨xs, n, _, _, _, hxl, hf⟩ := DataW.trod_struct hh h
  have g := hf 0 fh rfl
  rw [ft.1, ft.2, ct] at g
  match xs, hxl with
  | [x0], _ =>
    obtain ⟨u, ts, e, ht⟩ := open_txnsAt T (show DataW.trod enc P w 0 (fun _ => true) held n ttxns [c] = some x0 from by simpa [Value.cells] using g)
    simp at e
    subst e
    obtain ⟨cs, hr, hal⟩ := ht
    obtain ⟨a, cap, rfl, h1, h2⟩ := hr.shape
    refine ⟨a, cs.length, cap, ts, rfl, hal.1, h1, h2, ?_⟩
    have := TxnsAt.lt (F := fun _ => True) ⟨cs, hr, hal⟩
    exact this.mono fun b hb => hb.2
end
end Go.Proofs.Ytkjdjmcecjaolaa.Mem

/- Plain mathematics: a number comes back from its text, and a list from its texts with blanks ahead. -/
namespace Go.Proofs.Ytkjdjmcecjaolaa.Dig
open Go.RowKit
set_option linter.unusedVariables false
set_option linter.unusedSimpArgs false

theorem val_mono (z : Nat → Int) (a : Nat) : ∀ m j, j ≤ m → (∀ i, i < m → dgt (z (a + i)) = true) → val z a j ≤ val z a m
  | 0, j, h, _ => by obtain rfl : j = 0 := by omega
                     exact Int.le_refl _
  | m + 1, j, h, hd => by
    by_cases e : j = m + 1
    · subst e; exact Int.le_refl _
    · have h1 := val_mono z a m j (by omega) (fun i hi => hd i (by omega))
      have h2 := (val_bd z a m (fun i hi => hd i (by omega))).1
      have h3 := dgt_iff.1 (hd m (by omega))
      simp only [val]; omega
theorem okm_mono {z : Nat → Int} {a m j : Nat} (h : okm z a m = true) (h1 : 1 ≤ j) (h2 : j ≤ m) (hd : ∀ i, i < m → dgt (z (a + i)) = true) : okm z a j = true := by
  rw [okm_iff] at h ⊢
  obtain ⟨q1, q2, q3, q4⟩ := h
  have := val_mono z a m j h2 hd
  refine ⟨h1, by omega, fun g => q3 ⟨by omega, g.2⟩, by omega⟩
theorem okm_one {z : Nat → Int} {a : Nat} (h : dgt (z a) = true) : okm z a 1 = true := by
  have := dgt_iff.1 h
  rw [okm_iff]; simp [val]; omega
/-- Of digits that end there the number is read to their end, if they are a number's text. -/
theorem parse_to {z : Nat → Int} {len a k : Nat} (hk : a + k ≤ len) (h1 : 1 ≤ k) (hok : okm z a k = true) (hd : ∀ i, i < k → dgt (z (a + i)) = true) (he : ¬ (a + k < len ∧ dgt (z (a + k)) = true)) :
    parse z len (a : Int) = (val z a k, ((a + k : Nat) : Int), true) := by
  rcases parse_spec z len a (by omega) with ⟨q, g1, g2, g3, g4, g5, g6⟩ | ⟨q, g2, g3, g4, g5, g6⟩
  · by_cases e : q < k
    · exact absurd ⟨by omega, hd q e⟩ g5
    · by_cases e' : k < q
      · exact absurd ⟨by omega, g4 k e'⟩ he
      · obtain rfl : q = k := by omega
        exact g6
  · exfalso
    rcases g5 with ⟨e, g⟩ | ⟨q1, q2, q3⟩
    · exact g ⟨by omega, by have := hd 0 (by omega); simpa using this⟩
    · by_cases e : q < k
      · exact q3 (okm_mono hok (by omega) (by omega) hd)
      · by_cases e' : k < q
        · exact he ⟨by omega, g4 k e'⟩
        · obtain rfl : q = k := by omega
          exact he ⟨q1, q2⟩

/-- A number's text, as numbers. -/
def txtI (n : Nat) : List Int := (txt n).map fun b => (b.toNat : Int)
theorem txtI_len (n : Nat) : (txtI n).length = (txt n).length := by simp [txtI]
theorem txtI_small {n : Nat} (h : n ≤ 9) : txtI n = [48 + (n : Int)] := by
  unfold txtI; rw [txt_small h]
  have : (UInt8.ofNat (48 + n)).toNat = 48 + n := by simp only [UInt8.toNat_ofNat']; omega
  simp only [List.map_cons, List.map_nil, this]; rfl
theorem txtI_big {n : Nat} (h : 9 < n) (hm : n ≤ 2147483647) : txtI n = txtI (n / 10) ++ [48 + ((n % 10 : Nat) : Int)] := by
  unfold txtI; rw [txt_big h hm]
  have : (UInt8.ofNat (48 + n % 10)).toNat = 48 + n % 10 := by simp only [UInt8.toNat_ofNat']; omega
  simp only [List.map_append, List.map_cons, List.map_nil, this]; rfl
theorem txt_back (z : Nat → Int) (a : Nat) : ∀ f n : Nat, n ≤ f → n ≤ 2147483647 → (∀ j, j < (txtI n).length → z (a + j) = (txtI n).getD j 0) →
    val z a (txtI n).length = n ∧ (∀ j, j < (txtI n).length → dgt (z (a + j)) = true) ∧ (1 < (txtI n).length → z a ≠ 48) := by
  intro f
  induction f with
  | zero =>
    intro n hn _ hz
    obtain rfl : n = 0 := by omega
    rw [txtI_small (by omega)] at hz ⊢
    have h0 := hz 0 (by simp)
    simp at h0
    refine ⟨by simp [val, h0], fun j hj => ?_, by simp⟩
    obtain rfl : j = 0 := by simpa using hj
    rw [Nat.add_zero, h0, dgt_iff]; omega
  | succ f ih =>
    intro n hn hm hz
    by_cases h9 : n ≤ 9
    · rw [txtI_small h9] at hz ⊢
      have h0 := hz 0 (by simp)
      simp at h0
      refine ⟨by simp [val, h0]; omega, fun j hj => ?_, by simp⟩
      obtain rfl : j = 0 := by simpa using hj
      rw [Nat.add_zero, h0, dgt_iff]; omega
    · have e := txtI_big (n := n) (by omega) hm
      rw [e] at hz ⊢
      have hl : (txtI (n / 10) ++ [48 + ((n % 10 : Nat) : Int)]).length = (txtI (n / 10)).length + 1 := by simp
      rw [hl] at hz ⊢
      obtain ⟨i1, i2, i3⟩ := ih (n / 10) (by omega) (by omega) (fun j hj => by
        rw [hz j (by omega), List.getD_eq_getElem?_getD, List.getD_eq_getElem?_getD, List.getElem?_append_left hj])
      have hlast := hz (txtI (n / 10)).length (by omega)
      rw [List.getD_eq_getElem?_getD, List.getElem?_append_right (by omega)] at hlast
      simp at hlast
      have hlen1 : 1 ≤ (txtI (n / 10)).length := by rw [txtI_len]; exact (txt_len _).1
      refine ⟨?_, fun j hj => ?_, fun _ => ?_⟩
      · rw [val, i1, hlast]; omega
      · by_cases ej : j = (txtI (n / 10)).length
        · rw [ej, hlast, dgt_iff]; omega
        · exact i2 j (by omega)
      · by_cases e1 : 1 < (txtI (n / 10)).length
        · exact i3 e1
        · have e2 : (txtI (n / 10)).length = 1 := by omega
          rw [e2] at i1
          simp [val] at i1
          omega
/-- A number comes back from its text. -/
theorem parse_back {z : Nat → Int} {len a n : Nat} (hn : n ≤ 2147483647) (hl : a + (txtI n).length ≤ len) (hz : ∀ j, j < (txtI n).length → z (a + j) = (txtI n).getD j 0)
    (he : a + (txtI n).length = len ∨ dgt (z (a + (txtI n).length)) = false) : parse z len (a : Int) = ((n : Int), ((a + (txtI n).length : Nat) : Int), true) := by
  obtain ⟨h1, h2, h3⟩ := txt_back z a n n (Nat.le_refl _) hn hz
  have hb := txt_len n
  rw [← txtI_len] at hb
  rw [parse_to hl hb.1 (okm_iff.2 ⟨hb.1, hb.2, fun g => h3 g.1 g.2, by rw [h1]; omega⟩) h2 (by rcases he with g | g <;> simp [g]), h1]

/-- Numbers' texts, a blank ahead of each. -/
def flat : List Int → List Int
  | [] => []
  | n :: l => 32 :: (txtI n.toNat ++ flat l)
theorem flat_append : ∀ l m : List Int, flat (l ++ m) = flat l ++ flat m
  | [], _ => rfl
  | n :: l, m => by simp [flat, flat_append l m]
theorem flat_len : ∀ l : List Int, l.length ≤ (flat l).length ∧ (flat l).length ≤ 11 * l.length
  | [] => by simp [flat]
  | n :: l => by
    have := flat_len l
    have := txt_len n.toNat
    rw [← txtI_len] at this
    simp [flat]; omega
/-- A list comes back from its texts. -/
theorem lscan_back {z : Nat → Int} {len : Nat} : ∀ (l acc : List Int) (p f : Nat), (∀ n ∈ l, 0 ≤ n ∧ n ≤ 2147483647) → p + (flat l).length ≤ len → len - p ≤ f → (∀ j, j < (flat l).length → z (p + j) = (flat l).getD j 0) →
    (p + (flat l).length = len ∨ (dgt (z (p + (flat l).length)) = false ∧ z (p + (flat l).length) ≠ 32)) → lscan z len f p acc = (acc ++ l, ((p + (flat l).length : Nat) : Int), true)
  | [], acc, p, f, _, hp, hf, hz, he => by
    simp only [flat, List.length_nil, Nat.add_zero, List.append_nil] at *
    exact lscan_stop hf (by intro g; rcases he with h | h; omega; exact h.2 g.2)
  | n :: l, acc, p, f, hl, hp, hf, hz, he => by
    have hn := hl n List.mem_cons_self
    obtain ⟨N, rfl⟩ : ∃ N : Nat, n = N := ⟨n.toNat, by omega⟩
    have hlen : (flat ((N : Int) :: l)).length = 1 + (txtI N).length + (flat l).length := by simp [flat]; omega
    have ht := txt_len N
    rw [← txtI_len] at ht
    rw [hlen] at hp hz he ⊢
    have hflat : flat ((N : Int) :: l) = 32 :: (txtI N ++ flat l) := by simp [flat]
    rw [hflat] at hz
    have h0 := hz 0 (by omega)
    simp at h0
    have hz1 : ∀ j, j < (txtI N).length → z (p + 1 + j) = (txtI N).getD j 0 := fun j hj => by
      have := hz (1 + j) (by omega)
      rw [← Nat.add_assoc] at this
      rw [this, List.getD_eq_getElem?_getD, List.getD_eq_getElem?_getD, Nat.add_comm 1 j, List.getElem?_cons_succ, List.getElem?_append_left hj]
    have hz2 : ∀ j, j < (flat l).length → z (p + 1 + (txtI N).length + j) = (flat l).getD j 0 := fun j hj => by
      have := hz ((txtI N).length + j + 1) (by omega)
      rw [show p + 1 + (txtI N).length + j = p + ((txtI N).length + j + 1) by omega, this, List.getD_eq_getElem?_getD, List.getD_eq_getElem?_getD, List.getElem?_cons_succ, List.getElem?_append_right (by omega)]
      simp
    have hpar := parse_back (z := z) (len := len) (a := p + 1) (n := N) (by omega) (by omega) hz1 (by
      cases l with
      | nil =>
        simp only [flat, List.length_nil, Nat.add_zero] at he
        rcases he with h | h
        · left; omega
        · right; rw [show p + 1 + (txtI N).length = p + (1 + (txtI N).length) by omega]; exact h.1
      | cons m l =>
        right
        have := hz2 0 (by simp [flat])
        simp [flat] at this
        rw [this]; rfl)
    rw [lscan_go hf ⟨by omega, h0⟩ (t := p + 1 + (txtI N).length) (n := (N : Int)) (by simpa using hpar)]
    rw [lscan_back l (acc ++ [(N : Int)]) (p + 1 + (txtI N).length) (f - 1) (fun m hm => hl m (List.mem_cons_of_mem _ hm)) (by omega) (by omega) hz2 (by
      rcases he with h | h
      · left; omega
      · right; rw [show p + 1 + (txtI N).length + (flat l).length = p + (1 + (txtI N).length + (flat l).length) by omega]; exact h)]
    simp
    omega
theorem lst_back {z : Nat → Int} {len : Nat} (l : List Int) (p : Nat) (hl : ∀ n ∈ l, 0 ≤ n ∧ n ≤ 2147483647) (hp : p + (flat l).length ≤ len) (hz : ∀ j, j < (flat l).length → z (p + j) = (flat l).getD j 0)
    (he : p + (flat l).length = len ∨ (dgt (z (p + (flat l).length)) = false ∧ z (p + (flat l).length) ≠ 32)) : lst z len (p : Int) = (l, ((p + (flat l).length : Nat) : Int), true) := by
  rw [lst_in (by omega), lscan_back l [] p (len - p) hl hp (Nat.le_refl _) hz he]; simp
end Go.Proofs.Ytkjdjmcecjaolaa.Dig

/- A row of numbers that a call made itself, and what an append to it leaves: of another row, whatever its address, and of a string's bytes. -/
namespace Go.Proofs.Ytkjdjmcecjaolaa.Dig
open Go.RowKit
set_option linter.unusedVariables false
set_option linter.unusedSimpArgs false

/-- v is a row of the call's own (its blocks are numbered from base on) that holds the numbers l. -/
def Own (e : TypeId) (k : IntKind) (base : Nat) (w : World) (v : Value) (l : List Int) : Prop := w.ownsRow base e 1 v l.length (l.map (Value.int k))

theorem Own.nil (e : TypeId) (k : IntKind) (base : Nat) (w : World) : Own e k base w (.slice none 0 0) [] := World.ownsRow_nil _ _ _ _
theorem Own.empty (e : TypeId) (k : IntKind) (base : Nat) (w : World) (n : Nat) (hn : n = w.heap.size) (hb : base ≤ w.heap.size) : Own e k base (w.alloc (.cells #[] e)) (.slice (some ⟨n, 0, none⟩) 0 0) [] := by
  subst hn
  exact World.ownsRow_made w #[] 0 hb (by unfold maxLen; omega) (by simp)
theorem Own.lt {e : TypeId} {k : IntKind} {base : Nat} {w : World} {v : Value} {l : List Int} (h : Own e k base w v l) : ∀ b, v.ownBlock = some b → base ≤ b ∧ b < w.heap.size := World.ownsRow.lt h
theorem Own.keep {e : TypeId} {k : IntKind} {base : Nat} {w w' : World} {v : Value} {l : List Int} (h : Own e k base w v l) (hb : Below w.heap.size w w') : Own e k base w' v l := by
  refine ⟨h.1, ?_⟩
  rcases h.2 with hn | ⟨g, cap, cur, rfl, hg, hh, r⟩
  · exact .inl hn
  · have hlt : g < w.heap.size := by
      rcases Nat.lt_or_ge g w.heap.size with q | q
      · exact q
      · simp [Array.getElem?_eq_none q] at hh
    exact .inr ⟨g, cap, cur, rfl, hg, by rw [hb.block g hlt]; exact hh, r⟩
theorem Own.alloc {e : TypeId} {k : IntKind} {base : Nat} {w : World} {v : Value} {l : List Int} (h : Own e k base w v l) (o : Obj) : Own e k base (w.alloc o) v l := World.ownsRow.alloc h o
/-- Its shape, and how it is read. -/
theorem Own.shape {e : TypeId} {k : IntKind} {base : Nat} {w : World} {v : Value} {l : List Int} (h : Own e k base w v l) (hl : l.length ≤ 1000000000000) (hw : ∀ n ∈ l, (Lit.int k n).wf = true) :
    ∃ a cap, v = .slice a l.length cap ∧ l.length ≤ cap ∧ Rd k w a l.length (fun i => l.getD i 0) := by
  have h' := h
  unfold Own at h'
  rcases h.2 with ⟨hv, h0⟩ | ⟨g, cap, cur, hv, hg, hh, hc1, hc2, hc3, hc4⟩
  · have : l = [] := by cases l with
      | nil => rfl
      | cons x l => simp at h0
    subst this
    exact ⟨none, 0, hv, by simp, by simp, fun i hi => by simp at hi⟩
  · refine ⟨_, cap, hv, hc1, hl, fun i hi => ⟨g, 0, rfl, ?_, ?_⟩⟩
    · subst hv
      rw [Nat.zero_add, h'.cellAt i (by omega)]
      simp [List.getD_eq_getElem?_getD, List.getElem?_eq_getElem hi]
    · simp only [List.getD_eq_getElem?_getD, List.getElem?_eq_getElem hi, Option.getD_some]
      exact hw _ (List.getElem_mem hi)

/-- The same with its length and its elements named. -/
theorem Own.view {e : TypeId} {k : IntKind} {base : Nat} {w : World} {v : Value} {l : List Int} (h : Own e k base w v l) (hl : l.length ≤ 1000000000000) (hw : ∀ n ∈ l, (Lit.int k n).wf = true) :
    ∃ a cap n z, v = .slice a n cap ∧ Hid (n = l.length) ∧ Hid (z = fun i => l.getD i 0) ∧ n ≤ cap ∧ Rd k w a n z := by
  obtain ⟨a, cap, rfl, h1, h2⟩ := h.shape hl hw
  exact ⟨a, cap, _, _, rfl, rfl, rfl, h1, h2⟩
theorem wf_u8 {n : Int} (h0 : 0 ≤ n) (h1 : n ≤ 255) : (Lit.int .u8 n).wf = true := WalkArith.wf_u8 (by omega)
theorem wf_txtI (n : Nat) : ∀ x ∈ (txt n).map (fun b : UInt8 => (b.toNat : Int)), (Lit.int .u8 x).wf = true := by
  intro x hx
  obtain ⟨b, _, rfl⟩ := List.mem_map.1 hx
  have := b.toNat_lt
  exact wf_u8 (by omega) (by omega)

section
variable {P : Program} {w w0 : World} {ops : Array Oper} {rest : List Oper} {o : Oper} {a : Act} {Q : Exit → Act → World → Prop}
/-- append(v, x...), x whatever row of numbers. -/
theorem app_slice (hgd : o.guard = none) (s x : Operand) (t : TypeId) (ho : o.op = .call { callee := .builtin .append, args := #[s, x], argTypes := #[t, t] })
    (e : TypeId) (i : TypeInfo) (z : Value) (bytes : Nat) (ht : P.underlying t = some (.slice e)) (hi : P.info? e = some i) (hz : i.zero = some z) (hsize : i.size = 1) (hby : i.bytes = bytes) (hzs : z.cells.size = 1) (hb8 : bytes ≤ 8)
    (k : IntKind) (base : Nat) (v : Value) (l : List Int) (hs : a.eval s = v) (hown : Own e k base w v l) (ao : Option Addr) (m c : Nat) (ns : List Int) (hx : a.eval x = .slice ao m c) (hm : ns.length = m)
    (hr : Rd k w ao m (fun i => ns.getD i 0)) (hnil : ao = none → m = 0 ∧ c = 0) (hb : l.length + m ≤ 1000000) (hbase : base ≤ w.heap.size) (B : Nat) (hB : B ≤ base) (hbel : Below B w0 w)
    (h : ∀ v' w', Own e k base w' v' (l ++ ns) → Below B w0 w' → w.heap.size ≤ w'.heap.size → wpList P ops Q rest (a.put o.dst v') w') : wpList P ops Q (o :: rest) a w := by
  cases ao with
  | none =>
    obtain ⟨rfl, rfl⟩ := hnil rfl
    have : ns = [] := List.eq_nil_of_length_eq_zero hm
    subst this
    exact wpList_append_own_none hgd s x t ho base e i 1 ht hi v l.length (l.map (Value.int k)) hs hown hx (h v w (by simpa using hown) hbel (Nat.le_refl _))
  | some ad =>
    refine wpList_append_own w hgd s x t ho base e i z 1 bytes ht hi hz hsize hby hzs (by omega) v l.length (l.map (Value.int k)) hs hown ad m c (ns.map (Value.int k)) hx (by simp [hm]) ?_ ?_ (by unfold maxLen; omega) ?_ hbase ?_
    · intro j u hu
      rw [List.getElem?_map] at hu
      have hj : j < ns.length := by
        rcases Nat.lt_or_ge j ns.length with q | q
        · exact q
        · rw [List.getElem?_eq_none q] at hu; simp at hu
      obtain ⟨b, off, hab, hc, _⟩ := hr.2 j (by omega)
      obtain rfl := Option.some.inj hab
      rw [Addr.add_lit, hc, ← hu]
      simp [List.getD_eq_getElem?_getD, List.getElem?_eq_getElem hj]
    · intro u hu
      obtain ⟨n, _, rfl⟩ := List.mem_map.1 hu
      rfl
    · have : (l.length + m) * bytes ≤ (l.length + m) * 8 := Nat.mul_le_mul_left _ hb8
      omega
    · intro v' w' hown' hgrow _
      refine h v' w' ?_ (hbel.grown hgrow (Nat.le_trans hB hbase) (fun k hk => Nat.le_trans hB (hown.lt k hk).1)) hgrow.size
      unfold Own
      rw [List.length_append, List.map_append, hm]
      exact hown'
theorem strCells_of (l : List UInt8) : Lib.strCells ⟨l.toArray⟩ = (l.map fun b => (b.toNat : Int)).map (Value.int .u8) := by simp [Lib.strCells, Function.comp_def]
/-- append(v, s...), s a string. -/
theorem app_string (hgd : o.guard = none) (s x : Operand) (t u : TypeId) (ho : o.op = .call { callee := .builtin .append, args := #[s, x], argTypes := #[t, u] })
    (e : TypeId) (i : TypeInfo) (ht : P.underlying t = some (.slice e)) (hu : P.underlying u = some .string) (hi : P.info? e = some i) (hz : i.zero = some (.int .u8 0)) (hsize : i.size = 1) (hby : i.bytes = 1)
    (base : Nat) (v : Value) (l : List Int) (hs : a.eval s = v) (hown : Own e .u8 base w v l) (ns : List UInt8) (hx : a.eval x = .string ⟨ns.toArray⟩)
    (hb : l.length + ns.length ≤ 1000000) (hbase : base ≤ w.heap.size) (B : Nat) (hB : B ≤ base) (hbel : Below B w0 w)
    (h : ∀ v' w', Own e .u8 base w' v' (l ++ ns.map fun b => (b.toNat : Int)) → Below B w0 w' → w.heap.size ≤ w'.heap.size → wpList P ops Q rest (a.put o.dst v') w') : wpList P ops Q (o :: rest) a w := by
  have hsz : ByteArray.size ⟨ns.toArray⟩ = ns.length := by simp [ByteArray.size]
  refine Lib.wpList_append_own_string w hgd s x t u ho base e i ht hu hi hz hsize hby v l.length (l.map (Value.int .u8)) hs hown ⟨ns.toArray⟩ hx (by rw [hsz]; unfold maxLen; omega) (by rw [hsz]; omega) hbase ?_
  intro v' w' hown' hgrow _
  refine h v' w' ?_ (hbel.grown hgrow (Nat.le_trans hB hbase) (fun k hk => Nat.le_trans hB (hown.lt k hk).1)) hgrow.size
  unfold Own
  rw [List.length_append, List.map_append, List.length_map, ← strCells_of]
  rw [hsz] at hown'
  exact hown'
end
end Go.Proofs.Ytkjdjmcecjaolaa.Dig

/- Rows of numbers that are read, or that are a call's own; parts of them; append; the document's Same. -/
namespace Go.Proofs.Ytkjdjmcecjaolaa.Dq
open Go.RowKit Go.Proofs.Ytkjdjmcecjaolaa.Dig Go.Proofs.Ytkjdjmcecjaolaa.Mem
set_option linter.unusedVariables false
set_option linter.unusedSimpArgs false

/-- A slice value that reads a list of numbers. -/
structure RowI (w : World) (a : Option Addr) (c : Nat) (l : List Int) : Prop where
  cap : l.length ≤ c
  rd : Rd .i64 w a l.length (fun i => l.getD i 0)
  nil : a = none → c = 0
theorem RowI.keep {w w' : World} {a : Option Addr} {c : Nat} {l : List Int} (h : RowI w a c l) (hb : Below w.heap.size w w') : RowI w' a c l := ⟨h.cap, h.rd.keep hb, h.nil⟩
theorem RowI.at {w : World} {a : Option Addr} {c : Nat} {l : List Int} (h : RowI w a c l) {i : Nat} (hi : i < l.length) : ∃ b off, a = some ⟨b, off, none⟩ ∧ w.cell? ⟨b, off + i, none⟩ = some (.int .i64 (l.getD i 0)) := by
  obtain ⟨b, off, e, hc, _⟩ := h.rd.2 i hi
  exact ⟨b, off, e, hc⟩
theorem RowI.wf {w : World} {a : Option Addr} {c : Nat} {l : List Int} (h : RowI w a c l) : ∀ n ∈ l, (Lit.int .i64 n).wf = true := fun n hn => by
  obtain ⟨i, hi, e⟩ := List.getElem_of_mem hn
  obtain ⟨_, _, _, _, hw⟩ := h.rd.2 i hi
  have : (fun i => l.getD i 0) i = n := by show l.getD i 0 = n; rw [List.getD_eq_getElem?_getD, List.getElem?_eq_getElem hi]; exact e
  rw [this] at hw
  exact hw
theorem Try.infoInt : (Try.prog.info? 3).map (fun i => (i.zero, i.size, i.bytes)) = some (some (.int .i64 0), 1, 8) := by kernel_rfl
def OwnI (base : Nat) (w : World) (v : Value) (l : List Int) : Prop := w.ownsRow base 3 1 v l.length (l.map (Value.int .i64))
/-- A row that lies in no block older than B. -/
def Fresh (B : Nat) (a : Option Addr) : Prop := ∀ x, a = some x → B ≤ x.block
theorem fresh_own {w : World} {base e : TypeId} {a : Option Addr} {n c : Nat} {xs : List Value} (h : w.ownsRow base e 1 (.slice a n c) n xs) : Fresh base a := fun x e => by
  subst e
  exact (World.ownsRow.lt h x.block rfl).1
theorem OwnI.row {base : Nat} {w : World} {v : Value} {l : List Int} (h : OwnI base w v l) (hl : l.length ≤ 1000000000000) (hw : ∀ n ∈ l, (Lit.int .i64 n).wf = true) : ∃ a c, v = .slice a l.length c ∧ RowI w a c l ∧ Fresh base a := by
  obtain ⟨a, cap, e, h1, h2⟩ := Rd.own h hl hw
  refine ⟨a, cap, e, ⟨h1, h2, fun q => ?_⟩, by subst e; exact fresh_own h⟩
  subst q
  rcases h.2 with ⟨hv, _⟩ | ⟨g, cap', cur, hv, _⟩
  · rw [hv] at e; injection e with e1 e2 e3; exact e3.symm
  · rw [hv] at e; injection e with e1; cases e1
theorem own_form {w : World} {base e : TypeId} {v : Value} {n : Nat} {xs : List Value} (h : w.ownsRow base e 1 v n xs) : ∃ a c, v = .slice a n c := by
  rcases h.2 with ⟨rfl, h0⟩ | ⟨g, cap, cur, rfl, _⟩
  · have : n = 0 := by omega
    exact ⟨none, 0, by rw [this]⟩
  · exact ⟨_, _, rfl⟩
theorem owns_below {w w' : World} {e base : TypeId} {v : Value} {n : Nat} {xs : List Value} (h : w.ownsRow base e 1 v n xs) (hb : Below w.heap.size w w') : w'.ownsRow base e 1 v n xs := by
  refine ⟨h.1, ?_⟩
  rcases h.2 with hn | ⟨g, cap, cur, rfl, hg, hh, r⟩
  · exact .inl hn
  · have hlt : g < w.heap.size := by
      rcases Nat.lt_or_ge g w.heap.size with q | q
      · exact q
      · simp [Array.getElem?_eq_none q] at hh
    exact .inr ⟨g, cap, cur, rfl, hg, by rw [hb.block g hlt]; exact hh, r⟩
/-- A row, up to a place. -/
theorem rowi_take {w : World} {a : Option Addr} {c : Nat} {l : List Int} (hW : RowI w a c l) (m : Nat) : RowI w a c (l.take m) := by
  refine ⟨by have := hW.cap; rw [List.length_take]; omega, ⟨by have := hW.rd.1; rw [List.length_take]; omega, fun i hi => ?_⟩, fun e => ?_⟩
  · rw [List.length_take] at hi
    obtain ⟨b, off, rfl, hcell, hwf⟩ := hW.rd.2 i (by omega)
    have him : i < m := by omega
    have e : (l.take m).getD i 0 = l.getD i 0 := by simp [List.getD_eq_getElem?_getD, List.getElem?_take, him]
    refine ⟨b, off, rfl, ?_, ?_⟩
    · show _ = some (Value.int .i64 ((l.take m).getD i 0))
      rw [e]
      exact hcell
    · show (Lit.int .i64 ((l.take m).getD i 0)).wf = true
      rw [e]
      exact hwf
  · have := hW.nil e
    omega
/-- A row, from a place on. -/
theorem slice_from {w : World} {a : Option Addr} {c : Nat} {l : List Int} (h : RowI w a c l) (m : Nat) (hm : m ≤ l.length) :
    ∃ a2 c2, (∀ W : World, (Instr.slice 23 (.slice a l.length c) (some (.int .i64 (m : Int))) none none).run Try.prog W = .ok (.slice a2 (l.drop m).length c2) W) ∧ ∀ W, RowI W a c l → RowI W a2 c2 (l.drop m) := by
  have hel : Try.prog.elem 23 = 3 := by kernel_rfl
  have hu : Try.prog.underlying 23 = some (.slice (Try.prog.elem 23)) := by rw [hel]; exact Try.underlying23
  have hr : ∀ W : World, (Instr.slice 23 (.slice a l.length c) (some (.int .i64 (m : Int))) none none).run Try.prog W = .ok (sliced a m l.length c 1) W := fun W => by
    rw [run_slice_l (t := 23) (a := a) (len := l.length) (cap := c) (w := W) hu .i64 (m : Int) (by omega) (by omega), hel, Try.sizeOf3]
    simp [Result.andThen]
  refine ⟨if c = m then a else a.map (·.add (m * 1)), c - m, fun W => by rw [hr W, List.length_drop]; rfl, fun W hW => ⟨by have := hW.cap; rw [List.length_drop]; omega, ⟨by have := hW.rd.1; rw [List.length_drop]; omega, fun i hi => ?_⟩, fun e => ?_⟩⟩
  · rw [List.length_drop] at hi
    have hc := hW.cap
    obtain ⟨b, off, rfl, hcell, hwf⟩ := hW.rd.2 (m + i) (by omega)
    have e : (l.drop m).getD i 0 = l.getD (m + i) 0 := by simp [List.getD_eq_getElem?_getD]
    refine ⟨b, off + m, ?_, ?_, ?_⟩
    · rw [if_neg (by omega), Nat.mul_one]
      simp [Addr.add_lit]
    · show _ = some (Value.int .i64 ((l.drop m).getD i 0))
      rw [e, Nat.add_assoc]
      exact hcell
    · show (Lit.int .i64 ((l.drop m).getD i 0)).wf = true
      rw [e]
      exact hwf
  · have : a = none := by
      split at e
      · exact e
      · cases a with
        | none => rfl
        | some x => simp at e
    have := hW.nil this
    omega
/-- append of a row that is read. -/
theorem app_rowi {w w0 : World} {ops : Array Oper} {rest : List Oper} {o : Oper} {a : Act} {Q : Exit → Act → World → Prop} (hgd : o.guard = none) (s x : Operand)
    (ho : o.op = .call { callee := .builtin .append, args := #[s, x], argTypes := #[23, 23] }) (base : Nat) (v : Value) (l : List Int) (hs : a.eval s = v) (hown : Dig.Own 3 .i64 base w v l)
    (ao : Option Addr) (c m : Nat) (r : List Int) (hx : a.eval x = .slice ao m c) (hm : m = r.length) (hr : RowI w ao c r) (hb : l.length + r.length ≤ 1000000) (hbase : base ≤ w.heap.size) (hbel : Below base w0 w)
    (h : ∀ v' w', Dig.Own 3 .i64 base w' v' (l ++ r) → Below base w0 w' → w.heap.size ≤ w'.heap.size → wpList Try.prog ops Q rest (a.put o.dst v') w') : wpList Try.prog ops Q (o :: rest) a w := by
  obtain ⟨i0, hi, hz0, hz1, hz2⟩ := info_parts Try.infoInt
  subst hm
  refine app_slice hgd s x 23 ho 3 i0 (.int .i64 0) 8 Try.underlying23 hi hz0 hz1 hz2 rfl (by decide) .i64 base v l hs hown ao r.length c r hx rfl hr.rd (fun e => ⟨?_, hr.nil e⟩) (by omega) hbase base (Nat.le_refl _) hbel h
  cases r with
  | nil => rfl
  | cons y r => obtain ⟨b, off, e', _⟩ := hr.at (i := 0) (by simp); rw [e] at e'; cases e'
theorem ext_getI {a b : List Int} (hl : a.length = b.length) (h : ∀ k, k < a.length → a.getD k 0 = b.getD k 0) : a = b := by
  apply List.ext_getElem hl
  intro i h1 h2
  have := h i h1
  rw [List.getD_eq_getElem?_getD, List.getD_eq_getElem?_getD, List.getElem?_eq_getElem h1, List.getElem?_eq_getElem h2] at this
  exact this
set_option maxHeartbeats 1000000 in
theorem same_is (x y : Option Addr) (c d : Nat) (a b : List Int) (w : World) (ha : RowI w x c a) (hb : RowI w y d b) :
    Calls Try.prog 14 #[.slice x a.length c, .slice y b.length d] w fun e w' => e = .returned (.bool (decide (a = b))) ∧ Below w.heap.size w w' := by
  have l1 := ha.rd.le
  have l2 := hb.rd.le
  by_cases hl : a.length = b.length
  · have HA := hide ha
    have HB := hide hb
    have HX := hide (ext_getI hl)
    obtain ⟨n, hn⟩ : ∃ n, n = a.length := ⟨_, rfl⟩
    have hnb : b.length = n := by rw [hn]; omega
    have HN := hide hn
    have HNB := hide hnb
    rw [← hn, hnb]
    rw [← hn] at l1 HX
    have g0 : ((n : Int) != n) = false := by simp
    clear ha hb hl hn hnb l2
    go_enter Try.func14, Try.ntmps14
    go_wp2
    go_loopw [5] (fun i wr => (∃ k : Nat, k ≤ n ∧ i = .int .i64 (k : Int) ∧ Hid (∀ j, j < k → a.getD j 0 = b.getD j 0)) ∧ Hid (Below w.heap.size w wr)) (fun i _ => n - (intOf i).toNat)
    case atStart => exact ⟨⟨0, by omega, rfl, fun j hj => by omega⟩, Below.refl _ _⟩
    case round =>
      obtain ⟨⟨k, hk, rfl, hx⟩, hbel⟩ := hrel
      by_cases hlt : k < n
      · obtain ⟨b1, o1, rfl, hc1⟩ := (HA.out.keep hbel.out).at (show k < a.length by rw [← HN.out]; exact hlt)
        obtain ⟨b2, o2, rfl, hc2⟩ := (HB.out.keep hbel.out).at (show k < b.length by rw [HNB.out]; exact hlt)
        obtain ⟨p, hp⟩ : ∃ p, p = a.getD k 0 := ⟨_, rfl⟩
        obtain ⟨q, hq⟩ : ∃ q, q = b.getD k 0 := ⟨_, rfl⟩
        rw [← hp] at hc1
        rw [← hq] at hc2
        have HP := hide hp
        have HQ := hide hq
        clear hp hq
        by_cases hpq : p = q
        · have g1 : (p != q) = false := by simp [hpq]
          have HE := hide hpq
          clear hpq
          go_wp2
          go_region
          all_goals
            go_wp2
            go_roundw
            case rel => exact ⟨⟨k + 1, by omega, by go_num, fun j hj => by
              by_cases e : j = k
              · subst e; rw [← HP.out, ← HQ.out]; exact HE.out
              · exact hx.out j (by omega)⟩, by (repeat (first | exact hbel.out | apply Below.drew))⟩
            case measure => simp [intOf]; omega
        · have g1 : (p != q) = true := by simp [hpq]
          have HE : Hid (decide (a = b) = false) := by
            show _ = _
            rw [decide_eq_false_iff_not]
            intro e
            exact hpq (by rw [HP.out, HQ.out, e])
          clear hpq
          go_wp2
          go_region
          all_goals
            go_wp2
            go_ret
            rw [HE.out]
            exact ⟨rfl, by (repeat (first | exact hbel.out | apply Below.drew))⟩
      · obtain rfl : n = k := by omega
        have HE : Hid (decide (a = b) = true) := hide (decide_eq_true (HX.out hx.out))
        have hge : ¬ (n : Int) < n := by omega
        go_wp2
        go_ret
        rw [HE.out]
        exact ⟨rfl, hbel.out⟩
  · have HE : Hid (decide (a = b) = false) := by
      show _ = _
      rw [decide_eq_false_iff_not]
      intro e
      exact hl (by rw [e])
    obtain ⟨n, hn⟩ : ∃ n, n = a.length := ⟨_, rfl⟩
    obtain ⟨m, hm⟩ : ∃ m, m = b.length := ⟨_, rfl⟩
    rw [← hn, ← hm] at hl ⊢
    have g0 : ((n : Int) != m) = true := by simp; omega
    clear ha hb hl hn hm l1 l2
    go_enter Try.func14, Try.ntmps14
    go_wp2
    go_ret
    rw [HE.out]
    exact ⟨rfl, Below.refl _ _⟩
end Go.Proofs.Ytkjdjmcecjaolaa.Dq

/- Rows of rows of numbers in memory, and as an argument. -/
namespace Go.Proofs.Ytkjdjmcecjaolaa.Mem
open Go.RowKit Go.Proofs.Ytkjdjmcecjaolaa.Dig Go.ChangeShapes Go.WideShapes Go.Deep Go.Proofs.Ytkjdjmcecjaolaa.Dq
set_option linter.unusedVariables false
set_option linter.unusedSimpArgs false

def ListAt (F : Nat → Prop) (w : World) (c : List Value) (l : List Int) : Prop := ∃ v, c = [v] ∧ IntsAt F w v l
def ListsAt (F : Nat → Prop) (w : World) (v : Value) (ls : List (List Int)) : Prop := ∃ cs, RowAt F w 1 v cs ∧ AllAt (ListAt F w) cs ls
section
variable {F : Nat → Prop} {w w' : World}
theorem ListsAt.keep {v : Value} {ls : List (List Int)} (h : ListsAt F w v ls) (ho : Below w.heap.size w w') : ListsAt F w' v ls := by
  obtain ⟨cs, h1, h2⟩ := h
  exact ⟨cs, h1.keep ho, h2.mono fun _ _ ⟨v, g1, g2⟩ => ⟨v, g1, g2.keep ho⟩⟩
theorem ListsAt.lt {v : Value} {ls : List (List Int)} (h : ListsAt F w v ls) : ListsAt (fun b => F b ∧ b < w.heap.size) w v ls := by
  obtain ⟨cs, h1, h2⟩ := h
  exact ⟨cs, h1.lt (by omega), h2.mono fun _ _ ⟨v, g1, g2⟩ => ⟨v, g1, g2.lt⟩⟩
theorem ListsAt.shape {v : Value} {ls : List (List Int)} (h : ListsAt F w v ls) : ∃ a cap, v = .slice a ls.length cap ∧ ls.length ≤ cap ∧ cap ≤ maxLen := by
  obtain ⟨cs, h1, h2⟩ := h
  have := h1.shape
  rw [h2.1] at this
  exact this
/-- A row of numbers whose blocks are of F, as it is read. -/
theorem IntsAt.row {a : Option Addr} {n c : Nat} {l : List Int} (h : IntsAt F w (.slice a n c) l) (hl : l.length ≤ 1000000000000) : RowI w a c l := by
  obtain ⟨a', c', e, h1, h2⟩ := h.rd hl
  injection e with e1 e2 e3
  subst e1 e3
  obtain ⟨⟨a2, c2, g1, g2, g3, g4, g5, g6⟩, hw⟩ := h
  injection g1 with f1 f2 f3
  subst f1 f3
  exact ⟨h1, h2, g4⟩
/-- Row i. -/
theorem ListsAt.at {a : Option Addr} {len cap : Nat} {ls : List (List Int)} (h : ListsAt F w (.slice a len cap) ls) {i : Nat} (hi : i < ls.length) :
    ∃ b off la lc, a = some ⟨b, off, none⟩ ∧ w.cell? ⟨b, off + i, none⟩ = some (.slice la (ls.getD i []).length lc) ∧ IntsAt F w (.slice la (ls.getD i []).length lc) (ls.getD i []) ∧ (ls.getD i []).length ≤ maxLen := by
  obtain ⟨cs, hr, ha⟩ := h
  obtain ⟨hc, v, e, hl⟩ := ha.get hi
  obtain ⟨_, b, off, ea, hF, hcell⟩ := hr.at hc
  obtain ⟨la, lc, rfl, g1, g2⟩ := hl.1.shape
  have hg : ls.getD i [] = ls[i] := by rw [List.getD_eq_getElem?_getD, List.getElem?_eq_getElem hi]; rfl
  rw [List.length_map] at hl e g1
  rw [e] at hcell
  rw [hg]
  have := hcell 0 _ rfl
  rw [Nat.mul_one, Nat.add_zero] at this
  exact ⟨b, off, la, lc, ea, this, hl, by omega⟩
end
section
variable {H : Type} {enc : TypeId × Value → H} {P : Program} {w : World} {held : Bool}
/-- An argument of rows of numbers. -/
theorem open_lists {tls tints tint : TypeId} (ht : P.underlying tls = some (.slice tints)) (hints : P.underlying tints = some (.slice tint)) (hint : P.underlying tint = some (.int .i64)) (ci : P.cellsOf tint = 1) (cs' : P.cellsOf tints = 1)
    {fuel : Nat} {cs : List Value} {x : DataW H × List MemPlace} (h : DataW.trod enc P w 0 (fun _ => true) held fuel tls cs = some x) : ∃ v ls, cs = [v] ∧ ListsAt (fun b => b < w.heap.size) w v ls := by
  obtain ⟨v, rows, rfl, hr, hcr⟩ := open_row ht cs' (by omega) h
  obtain ⟨ls, hls⟩ := open_all (α := List Int) (R := ListAt (fun _ => True) w) rows (fun c hcm => by
    obtain ⟨m, y, hy⟩ := hcr c hcm
    obtain ⟨vl, l, e1, hl⟩ := open_intsAt hints hint ci hy
    subst e1
    exact ⟨l, _, rfl, hl⟩)
  have h2 : ListsAt (fun _ => True) w v ls := ⟨rows, hr, hls⟩
  refine ⟨v, ls, rfl, ?_⟩
  obtain ⟨cs, g1, g2⟩ := h2.lt
  exact ⟨cs, g1.mono (fun b q => q.2), g2.mono fun _ _ ⟨v, k1, k2⟩ => ⟨v, k1, k2.mono (fun b q => q.2)⟩⟩
end
end Go.Proofs.Ytkjdjmcecjaolaa.Mem

/- A row of rows of numbers as an argument: its types, as this program has them. -/
namespace Go.Proofs.Ytkjdjmcecjaolaa.Frame
open Go.RowKit Go.Proofs.Ytkjdjmcecjaolaa.Mem
set_option linter.unusedVariables false

theorem openLists {H : Type} {enc : TypeId × Value → H} {w : World} {held : Bool} {fuel : Nat} {cs : List Value} {x : DataW H × List MemPlace} (h : DataW.trod enc Try.prog w 0 (fun _ => true) held fuel 22 cs = some x) : ∃ v ls, cs = [v] ∧ ListsAt (fun b => b < w.heap.size) w v ls :=
  open_lists Try.underlying22 Try.underlying23 Try.underlying3 (by kernel_rfl) (by kernel_rfl) h
end Go.Proofs.Ytkjdjmcecjaolaa.Frame

/- append to a row of numbers of the call's own, within a region that draws; a row that is laid. -/
namespace Go.Proofs.Ytkjdjmcecjaolaa.Dq
open Go.RowKit Go.Proofs.Ytkjdjmcecjaolaa.Dig Go.Proofs.Ytkjdjmcecjaolaa.Mem
set_option linter.unusedVariables false
set_option linter.unusedSimpArgs false

def WfL (l : List Int) : Prop := ∀ x ∈ l, (Lit.int .i64 x).wf = true
/-- A row of numbers is laid. -/
theorem rowi_made (wx : World) (zs : List Int) (T : TypeId) {p n : Nat} (hp : p = wx.heap.size) (hn : n = zs.length) (hl : zs.length ≤ 100) (hw : WfL zs) : RowI (wx.alloc (.cells (zs.map (Value.int .i64)).toArray T)) (some ⟨p, 0, none⟩) n zs :=
  ⟨by omega, ⟨by omega, fun i hi => ⟨p, 0, rfl, (Is.made wx _ T hp).cell _ (by simp [List.getD_eq_getElem?_getD, List.getElem?_eq_getElem hi]), by
    show (Lit.int .i64 (zs.getD i 0)).wf = true
    rw [List.getD_eq_getElem?_getD, List.getElem?_eq_getElem hi]
    exact hw _ (List.getElem_mem hi)⟩⟩, fun e => by cases e⟩
theorem OwnI.empty {base b : Nat} {w : World} (hb : b = w.heap.size) (hB : base ≤ w.heap.size) : OwnI base (w.alloc (.cells #[] 3)) (.slice (some ⟨b, 0, none⟩) 0 0) [] := by
  subst hb
  exact World.ownsRow_made (e := 3) (size := 1) w #[] 0 hB (by unfold maxLen; omega) rfl
theorem OwnI.keep {base : Nat} {w w' : World} {v : Value} {l : List Int} (h : OwnI base w v l) (hb : Below w.heap.size w w') : OwnI base w' v l := owns_below h hb
/-- append of a row that is read, at a step of a region that draws. -/
theorem step_app_rowi {w w0 : World} {ops : Array Oper} {o : Oper} {a : Act} {K : Act → World → Prop} {Q : Exit → Act → World → Prop} {E : Prop} (hgd : o.guard = none) (s x : Operand)
    (ho : o.op = .call { callee := .builtin .append, args := #[s, x], argTypes := #[23, 23] }) (base : Nat) (v : Value) (l : List Int) (hs : a.eval s = v) (hown : OwnI base w v l)
    (ao : Option Addr) (c m : Nat) (r : List Int) (hx : a.eval x = .slice ao m c) (hm : m = r.length) (hr : RowI w ao c r) (hb : l.length + r.length ≤ 1000000) (hbase : base ≤ w.heap.size) (hbel : Below base w0 w)
    (h : ∀ v' w', OwnI base w' v' (l ++ r) → Below base w0 w' → w.heap.size ≤ w'.heap.size → K (a.put o.dst v') w') :
    if Region.wanted o (yielded ops a.tmps) = true then Oper.wp Try.prog o a w K Q else E := by
  have hw : Region.wanted o (yielded ops a.tmps) = true := by simp [Region.wanted, hgd]
  rw [if_pos hw]
  obtain ⟨i0, hi, hz0, hz1, hz2⟩ := info_parts Try.infoInt
  subst hm
  cases ao with
  | none =>
    have hr0 : r = [] := by
      cases r with
      | nil => rfl
      | cons y r => obtain ⟨b, off, e', _⟩ := hr.at (i := 0) (by simp); cases e'
    subst hr0
    have hc : c = 0 := hr.nil rfl
    subst hc
    have hrun := run_append_owned_none (P := Try.prog) (w := w) base 23 o.type 3 i0 1 Try.underlying23 hi v l.length _ hown
    simp only [List.length_nil] at hx
    unfold Oper.wp
    simp [execOp, ho, resolve, invoke, builtin, hs, hx, hrun, Result.andThen]
    exact h v w (by simpa using hown) hbel (Nat.le_refl _)
  | some ad =>
    refine wp_append_own w s x 23 ho base 3 i0 (.int .i64 0) 1 8 Try.underlying23 hi hz0 hz1 hz2 rfl (by decide) v l.length (l.map (Value.int .i64)) hs hown ad r.length c (r.map (Value.int .i64)) hx (by simp) ?_ ?_ (by unfold maxLen; omega) (by omega) hbase ?_
    · intro j u hu
      rw [List.getElem?_map] at hu
      have hj : j < r.length := by
        rcases Nat.lt_or_ge j r.length with q | q
        · exact q
        · rw [List.getElem?_eq_none q] at hu; simp at hu
      obtain ⟨b, off, hab, hc⟩ := hr.at hj
      obtain rfl := Option.some.inj hab
      rw [Addr.add_lit, hc, ← hu]
      simp [List.getD_eq_getElem?_getD, List.getElem?_eq_getElem hj]
    · intro u hu
      obtain ⟨n, _, rfl⟩ := List.mem_map.1 hu
      rfl
    · intro v' w' hown' hgrow _
      refine h v' w' ?_ (hbel.grown hgrow hbase (fun k hk => (World.ownsRow.lt hown k hk).1)) hgrow.size
      unfold OwnI
      rw [List.length_append, List.map_append]
      exact hown'
/-- append of a row that is read, at a step of a region that draws: nothing else than the own row has turned. -/
theorem step_app_g {w : World} {ops : Array Oper} {o : Oper} {a : Act} {K : Act → World → Prop} {Q : Exit → Act → World → Prop} {E : Prop} (hgd : o.guard = none) (s x : Operand)
    (ho : o.op = .call { callee := .builtin .append, args := #[s, x], argTypes := #[23, 23] }) (base : Nat) (v : Value) (l : List Int) (hs : a.eval s = v) (hown : OwnI base w v l)
    (ao : Option Addr) (c m : Nat) (r : List Int) (hx : a.eval x = .slice ao m c) (hm : m = r.length) (hr : RowI w ao c r) (hb : l.length + r.length ≤ 1000000) (hbase : base ≤ w.heap.size)
    (h : ∀ v' w', OwnI base w' v' (l ++ r) → w.grownBy w' v.ownBlock → K (a.put o.dst v') w') :
    if Region.wanted o (yielded ops a.tmps) = true then Oper.wp Try.prog o a w K Q else E := by
  have hw : Region.wanted o (yielded ops a.tmps) = true := by simp [Region.wanted, hgd]
  rw [if_pos hw]
  obtain ⟨i0, hi, hz0, hz1, hz2⟩ := info_parts Try.infoInt
  subst hm
  cases ao with
  | none =>
    have hr0 : r = [] := by
      cases r with
      | nil => rfl
      | cons y r => obtain ⟨b, off, e', _⟩ := hr.at (i := 0) (by simp); cases e'
    subst hr0
    have hc : c = 0 := hr.nil rfl
    subst hc
    have hrun := run_append_owned_none (P := Try.prog) (w := w) base 23 o.type 3 i0 1 Try.underlying23 hi v l.length _ hown
    simp only [List.length_nil] at hx
    unfold Oper.wp
    simp [execOp, ho, resolve, invoke, builtin, hs, hx, hrun, Result.andThen]
    exact h v w (by simpa using hown) ⟨rfl, rfl, rfl, Nat.le_refl _, fun _ _ _ => rfl⟩
  | some ad =>
    refine wp_append_own w s x 23 ho base 3 i0 (.int .i64 0) 1 8 Try.underlying23 hi hz0 hz1 hz2 rfl (by decide) v l.length (l.map (Value.int .i64)) hs hown ad r.length c (r.map (Value.int .i64)) hx (by simp) ?_ ?_ (by unfold maxLen; omega) (by omega) hbase ?_
    · intro j u hu
      rw [List.getElem?_map] at hu
      have hj : j < r.length := by
        rcases Nat.lt_or_ge j r.length with q | q
        · exact q
        · rw [List.getElem?_eq_none q] at hu; simp at hu
      obtain ⟨b, off, hab, hc⟩ := hr.at hj
      obtain rfl := Option.some.inj hab
      rw [Addr.add_lit, hc, ← hu]
      simp [List.getD_eq_getElem?_getD, List.getElem?_eq_getElem hj]
    · intro u hu
      obtain ⟨n, _, rfl⟩ := List.mem_map.1 hu
      rfl
    · intro v' w' hown' hgrow _
      refine h v' w' ?_ hgrow
      unfold OwnI
      rw [List.length_append, List.map_append]
      exact hown'
/-- What is known of memory in the region: from W on nothing older has turned; the own row; the row of the one number, if it lies already. -/
structure StepK (W : World) (v : Value) (l : List Int) (wx : World) : Prop where
  own : OwnI W.heap.size wx v l
  below : Below W.heap.size W wx
theorem StepK.alloc {W : World} {v : Value} {l : List Int} {wx : World} (h : StepK W v l wx) (o : Obj) : StepK W v l (wx.alloc o) := ⟨owns_below h.own ((Below.refl _ _).alloc (Nat.le_refl _) _), h.below.alloc h.below.size _⟩
theorem StepK.next {W : World} {v v' : Value} {l l' : List Int} {wx wy : World} (h : StepK W v l wx) (ho : OwnI W.heap.size wy v' l') (hg : wx.grownBy wy v.ownBlock) : StepK W v' l' wy := ⟨ho, h.below.grown hg h.below.size (fun k hk => (World.ownsRow.lt h.own k hk).1)⟩
theorem rowi_grown {w w' : World} {a : Option Addr} {c : Nat} {l : List Int} {row : Option Nat} (h : RowI w a c l) (hg : w.grownBy w' row) (hn : ∀ x, a = some x → row ≠ some x.block) : RowI w' a c l :=
  ⟨h.cap, h.rd.only' (S := fun k => row = some k) ⟨hg.os, hg.tape, hg.output, hg.size, fun k hk hn => hg.block k hk (fun e => hn e.symm)⟩ (fun _ x ex q => hn x ex q), h.nil⟩
end Go.Proofs.Ytkjdjmcecjaolaa.Dq
