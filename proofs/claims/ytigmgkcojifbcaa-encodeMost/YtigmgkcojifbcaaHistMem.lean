/- Histories in memory, element by element; a history that a call builds in rows of its own. -/
import Derived.Test.YtigmgkcojifbcaaHistPlain
import Derived.Laws.OwnMore
namespace Go.Proofs.Ytigmgkcojifbcaa.Mem
open Go.RowKit Go.Proofs.Ytigmgkcojifbcaa.Dig Go.Proofs.Ytigmgkcojifbcaa.Hist
set_option linter.unusedVariables false
set_option linter.unusedSimpArgs false

deriving instance DecidableEq for OpM
deriving instance DecidableEq for TxnM

theorem AllAt.len {α : Type} {R : List Value → α → Prop} {cs : List (List Value)} {xs : List α} (h : AllAt R cs xs) : cs.length = xs.length := h.1
section
variable {F F' S : Nat → Prop} {w w' : World}
theorem IntsAt.shape {v : Value} {l : List Int} (h : IntsAt F w v l) : ∃ a cap, v = .slice a l.length cap ∧ l.length ≤ cap ∧ cap ≤ maxLen := by
  obtain ⟨a, cap, h1, h2, h3⟩ := h.1.shape
  rw [List.length_map] at h1 h2
  exact ⟨a, cap, h1, h2, h3⟩
theorem OpsAt.shape {v : Value} {os : List OpM} (h : OpsAt F w v os) : ∃ a cap, v = .slice a os.length cap ∧ os.length ≤ cap ∧ cap ≤ maxLen := by
  obtain ⟨cs, hr, ha⟩ := h
  obtain ⟨a, cap, h1, h2, h3⟩ := hr.shape
  rw [ha.1] at h1 h2
  exact ⟨a, cap, h1, h2, h3⟩
theorem TxnsAt.shape {v : Value} {ts : List TxnM} (h : TxnsAt F w v ts) : ∃ a cap, v = .slice a ts.length cap ∧ ts.length ≤ cap ∧ cap ≤ maxLen := by
  obtain ⟨cs, hr, ha⟩ := h
  obtain ⟨a, cap, h1, h2, h3⟩ := hr.shape
  rw [ha.1] at h1 h2
  exact ⟨a, cap, h1, h2, h3⟩
/-- Operation i, cell by cell. -/
theorem OpsAt.at {a : Option Addr} {len cap : Nat} {os : List OpM} (h : OpsAt F w (.slice a len cap) os) {i : Nat} (hi : i < os.length) :
    ∃ b off la lcap, a = some ⟨b, off, none⟩ ∧ F b ∧ b < w.heap.size ∧ w.cell? ⟨b, off + i * 4, none⟩ = some (.bool os[i].read) ∧ w.cell? ⟨b, off + i * 4 + 1, none⟩ = some (.int .i64 os[i].key) ∧
      w.cell? ⟨b, off + i * 4 + 2, none⟩ = some (.int .i64 os[i].value) ∧ w.cell? ⟨b, off + i * 4 + 3, none⟩ = some (.slice la os[i].list.length lcap) ∧ IntsAt F w (.slice la os[i].list.length lcap) os[i].list ∧
      (Lit.int .i64 os[i].key).wf = true ∧ (Lit.int .i64 os[i].value).wf = true := by
  obtain ⟨cs, hr, ha⟩ := h
  obtain ⟨hc, v, e, hl, hw1, hw2⟩ := ha.get hi
  obtain ⟨_, b, off, ea, hF, hcell⟩ := hr.at hc
  obtain ⟨la, lcap, rfl, _, _⟩ := hl.shape
  rw [e] at hcell
  have c0 := hcell 0 _ rfl
  exact ⟨b, off, la, lcap, ea, hF, lt_of_cell c0, c0, hcell 1 _ rfl, hcell 2 _ rfl, hcell 3 _ rfl, hl, hw1, hw2⟩
/-- Transaction i, cell by cell. -/
theorem TxnsAt.at {a : Option Addr} {len cap : Nat} {ts : List TxnM} (h : TxnsAt F w (.slice a len cap) ts) {i : Nat} (hi : i < ts.length) :
    ∃ b off oa ocap, a = some ⟨b, off, none⟩ ∧ F b ∧ b < w.heap.size ∧ w.cell? ⟨b, off + i * 3, none⟩ = some (.int .i64 ts[i].id) ∧ w.cell? ⟨b, off + i * 3 + 1, none⟩ = some (.bool ts[i].ab) ∧
      w.cell? ⟨b, off + i * 3 + 2, none⟩ = some (.slice oa ts[i].ops.length ocap) ∧ OpsAt F w (.slice oa ts[i].ops.length ocap) ts[i].ops ∧ (Lit.int .i64 ts[i].id).wf = true := by
  obtain ⟨cs, hr, ha⟩ := h
  obtain ⟨hc, v, e, hl, hw1⟩ := ha.get hi
  obtain ⟨_, b, off, ea, hF, hcell⟩ := hr.at hc
  obtain ⟨oa, ocap, rfl, _, _⟩ := hl.shape
  rw [e] at hcell
  have c0 := hcell 0 _ rfl
  exact ⟨b, off, oa, ocap, ea, hF, lt_of_cell c0, c0, hcell 1 _ rfl, hcell 2 _ rfl, hl, hw1⟩
end

/-! ### Sums -/
theorem opsN_take {ts : List TxnM} {k : Nat} (h : k < ts.length) : opsN (ts.take (k + 1)) = opsN (ts.take k) + ts[k].ops.length := by
  rw [List.take_succ_eq_append_getElem h, opsN_app]; simp [opsN]
theorem opsN_take_le (ts : List TxnM) (k : Nat) : opsN (ts.take k) ≤ opsN ts := by
  have := opsN_app (ts.take k) (ts.drop k)
  rw [List.take_append_drop] at this
  omega
theorem ops_le {ts : List TxnM} {k : Nat} (h : k < ts.length) : ts[k].ops.length ≤ opsN ts := by
  have h1 := opsN_take h
  have h2 := opsN_take_le ts (k + 1)
  omega

/-! ### A history in rows of a call's own -/
/-- The row of the last transaction's operations, ov; all else lies in other blocks of G than tv's and ov's. -/
def LastOwn (G : Nat → Prop) (B : Nat) (w : World) (tv ov : Value) (pre : List TxnM) (last : TxnM) (cs ocs : List (List Value)) : Prop :=
  (Lit.int .i64 last.id).wf = true ∧ AllAt (TxnAt (fun b => G b ∧ tv.ownBlock ≠ some b ∧ ov.ownBlock ≠ some b) w) cs pre ∧ OwnC 45 4 B w ov ocs ∧
  AllAt (OpAt (fun b => G b ∧ tv.ownBlock ≠ some b ∧ ov.ownBlock ≠ some b) w) ocs last.ops ∧ (∀ b, ov.ownBlock = some b → G b ∧ tv.ownBlock ≠ some b)
/-- Two rows of the call's own: that of the transactions, and that of the last one's operations; those of the other ones lie in other blocks of G. -/
def HistOwn (G : Nat → Prop) (B : Nat) (w : World) (tv : Value) (ts : List TxnM) (cs : List (List Value)) : Prop :=
  (∀ b, tv.ownBlock = some b → G b) ∧ OwnC 48 3 B w tv cs ∧
  ((ts = [] ∧ cs = []) ∨ ∃ pre last cs0 ov ocs, ts = pre ++ [last] ∧ cs = cs0 ++ [[.int .i64 last.id, .bool last.ab, ov]] ∧ LastOwn G B w tv ov pre last cs0 ocs)

theorem LastOwn.keep {G S : Nat → Prop} {B : Nat} {w w' : World} {tv ov : Value} {pre : List TxnM} {last : TxnM} {cs ocs : List (List Value)} (h : LastOwn G B w tv ov pre last cs ocs) (ho : Only S w w') (hs : ∀ b, (G b ∧ tv.ownBlock ≠ some b) → ¬ S b) : LastOwn G B w' tv ov pre last cs ocs := by
  obtain ⟨h3, h4, h5, h6, h7⟩ := h
  exact ⟨h3, h4.mono (fun _ _ q => q.only ho (fun b hb => hs b ⟨hb.1, hb.2.1⟩)), h5.keep ho (fun b hb => hs b (h7 b hb)), h6.mono (fun _ _ q => q.only ho (fun b hb => hs b ⟨hb.1, hb.2.1⟩)), h7⟩
theorem HistOwn.keep {G S : Nat → Prop} {B : Nat} {w w' : World} {tv : Value} {ts : List TxnM} {cs : List (List Value)} (h : HistOwn G B w tv ts cs) (ho : Only S w w') (hs : ∀ b, G b → ¬ S b) : HistOwn G B w' tv ts cs := by
  obtain ⟨hg, hown, h⟩ := h
  refine ⟨hg, hown.keep ho (fun b hb => hs b (hg b hb)), ?_⟩
  rcases h with h | ⟨pre, last, cs0, ov, ocs, h1, h2, hl⟩
  · exact .inl h
  · exact .inr ⟨pre, last, cs0, ov, ocs, h1, h2, hl.keep ho (fun b hb => hs b hb.1)⟩
theorem HistOwn.nil (G : Nat → Prop) (B : Nat) (w : World) : HistOwn G B w (.slice none 0 0) [] [] := ⟨by simp [Value.ownBlock], OwnC.nil _ _ _ _, .inl ⟨rfl, rfl⟩⟩
/-- How it is read. -/
theorem HistOwn.txns {G : Nat → Prop} {B : Nat} {w : World} {tv : Value} {ts : List TxnM} {cs : List (List Value)} (h : HistOwn G B w tv ts cs) : TxnsAt G w tv ts := by
  obtain ⟨hg, hown, h⟩ := h
  refine ⟨cs, hown.row.mono (fun b q => hg b q.2), ?_⟩
  rcases h with ⟨rfl, rfl⟩ | ⟨pre, last, cs0, ov, ocs, rfl, rfl, h3, h4, h5, h6, h7⟩
  · exact AllAt.nil _
  · exact (h4.mono fun _ _ q => q.mono fun b hb => hb.1).append (AllAt.one ⟨ov, rfl, ⟨ocs, h5.row.mono (fun b q => (h7 b q.2).1), h6.mono fun _ _ q => q.mono fun b hb => hb.1⟩, h3⟩)
theorem HistOwn.len {G : Nat → Prop} {B : Nat} {w : World} {tv : Value} {ts : List TxnM} {cs : List (List Value)} (h : HistOwn G B w tv ts cs) : cs.length = ts.length := by
  obtain ⟨_, _, h⟩ := h
  rcases h with ⟨rfl, rfl⟩ | ⟨pre, last, cs0, ov, ocs, rfl, rfl, h3, h4, _⟩
  · rfl
  · simp [h4.1]
theorem HistOwn.shape {G : Nat → Prop} {B : Nat} {w : World} {tv : Value} {ts : List TxnM} {cs : List (List Value)} (h : HistOwn G B w tv ts cs) : ∃ a cap, tv = .slice a ts.length cap ∧ ts.length ≤ cap ∧ cap ≤ maxLen := h.txns.shape

/-- A new transaction, behind the others. -/
theorem HistOwn.push {G : Nat → Prop} {B : Nat} {w w' : World} {tv tv' : Value} {ts : List TxnM} {cs : List (List Value)} {id : Int} {ab : Bool} (h : HistOwn G B w tv ts cs)
    (hown : OwnC 48 3 B w' tv' (cs ++ [[.int .i64 id, .bool ab, .slice none 0 0]])) (ho : Only (fun k => tv.ownBlock = some k) w w')
    (hb : ∀ b, tv'.ownBlock = some b → tv.ownBlock = some b ∨ (w.heap.size ≤ b ∧ G b)) (hw : (Lit.int .i64 id).wf = true) : HistOwn G B w' tv' (ts ++ [⟨id, ab, []⟩]) (cs ++ [[.int .i64 id, .bool ab, .slice none 0 0]]) := by
  obtain ⟨hg, _, h⟩ := h
  refine ⟨fun b q => (hb b q).elim (hg b) (fun r => r.2), hown, .inr ⟨ts, ⟨id, ab, []⟩, cs, .slice none 0 0, [], rfl, rfl, hw, ?_, OwnC.nil _ _ _ _, AllAt.nil _, by simp [Value.ownBlock]⟩⟩
  rcases h with ⟨rfl, rfl⟩ | ⟨pre, last, cs0, ov, ocs, rfl, rfl, h3, h4, h5, h6, h7⟩
  · exact AllAt.nil _
  · have hF : ∀ b, ((G b ∧ tv.ownBlock ≠ some b ∧ ov.ownBlock ≠ some b) ∧ b < w.heap.size) → (G b ∧ tv'.ownBlock ≠ some b ∧ (Value.slice none 0 0).ownBlock ≠ some b) := by
      rintro b ⟨⟨q1, q2, q3⟩, q4⟩
      refine ⟨q1, fun q => ?_, by simp [Value.ownBlock]⟩
      rcases hb b q with r | r
      · exact q2 r
      · omega
    have hF2 : ∀ b, (B ≤ b ∧ ov.ownBlock = some b) → (G b ∧ tv'.ownBlock ≠ some b ∧ (Value.slice none 0 0).ownBlock ≠ some b) := by
      rintro b ⟨q1, q2⟩
      refine ⟨(h7 b q2).1, fun q => ?_, by simp [Value.ownBlock]⟩
      rcases hb b q with r | r
      · exact (h7 b q2).2 r
      · have := (h5.lt b q2).2; omega
    refine AllAt.append (h4.mono fun c x q => (q.lt.only ho (fun b hb => hb.1.2.1)).mono hF) (AllAt.one ⟨ov, rfl, ⟨ocs, (h5.row.only ho (fun b hb q => (h7 b hb.2).2 q)).mono hF2, ?_⟩, h3⟩)
    exact h6.mono fun c x q => (q.lt.only ho (fun b hb => hb.1.2.1)).mono hF
/-- The cells of the last one. -/
theorem OwnC.cell {e : TypeId} {n base : Nat} {w : World} {g len cap : Nat} {cs : List (List Value)} (h : OwnC e n base w (.slice (some ⟨g, 0, none⟩) len cap) cs) {i : Nat} (hi : i < cs.length) {j : Nat} {u : Value} (hu : cs[i][j]? = some u) : w.cell? ⟨g, i * n + j, none⟩ = some u := by
  obtain ⟨_, b, off, e1, _, hc⟩ := h.row.at hi
  have hr := h.1.2
  rcases hr with ⟨e, _⟩ | ⟨g', cap', cur, e, _⟩
  · simp at e
  · simp at e1
    obtain ⟨rfl, rfl⟩ := e1
    have := hc j u hu
    rwa [Nat.zero_add] at this
/-- A cell of the last one is written. -/
theorem flatten_set {α : Type} (n : Nat) : ∀ (cs : List (List α)) (_ : ∀ c ∈ cs, c.length = n) (i j : Nat) (_ : i < cs.length) (_ : j < n) (u : α), cs.flatten.set (i * n + j) u = (cs.set i ((cs[i]?.getD []).set j u)).flatten
  | [], _, i, j, hi, _, u => by simp at hi
  | d :: cs, hl, 0, j, _, hj, u => by
    have := hl d List.mem_cons_self
    simp [List.set_append, this, hj]
  | d :: cs, hl, i + 1, j, hi, hj, u => by
    have hd := hl d List.mem_cons_self
    rw [List.flatten_cons, Nat.succ_mul, List.set_append, if_neg (by omega), show i * n + n + j - d.length = i * n + j by omega, flatten_set n cs (fun c hc => hl c (List.mem_cons_of_mem _ hc)) i j (by simpa using hi) hj u]
    simp
theorem OwnC.set {e : TypeId} {n base : Nat} {w : World} {g len cap : Nat} {cs : List (List Value)} (h : OwnC e n base w (.slice (some ⟨g, 0, none⟩) len cap) cs) {i : Nat} (hi : i < cs.length) {j : Nat} (hj : j < n) (u : Value) :
    OwnC e n base (w.setCell ⟨g, i * n + j, none⟩ u) (.slice (some ⟨g, 0, none⟩) len cap) (cs.set i (cs[i].set j u)) := by
  have hlen : len = cs.length := by
    rcases h.1.2 with ⟨e, _⟩ | ⟨g', cap', cur, e, _⟩
    · simp at e
    · simp at e; exact e.2.1
  subst hlen
  refine ⟨?_, ?_⟩
  · have := (h.1.stored (i * n + j) u).1
    rw [flatten_set n cs h.2 i j hi hj u, List.getElem?_eq_getElem hi] at this
    simpa using this
  · intro c hc
    rcases List.mem_or_eq_of_mem_set hc with q | q
    · exact h.2 c q
    · rw [q, List.length_set]; exact h.2 _ (List.getElem_mem hi)
/-- An operation, behind those of the last transaction: an append to its row, and the new row laid into its cell. -/
theorem HistOwn.add {G : Nat → Prop} {B : Nat} {w w1 w2 : World} {tv ov ov' : Value} {pre : List TxnM} {last : TxnM} {cs0 ocs : List (List Value)} {o : OpM} {c : List Value}
    (hg : ∀ b, tv.ownBlock = some b → G b) (hl : LastOwn G B w tv ov pre last cs0 ocs)
    (hc : OpAt (fun b => G b ∧ tv.ownBlock ≠ some b ∧ ov.ownBlock ≠ some b ∧ b < w.heap.size) w c o)
    (hown1 : OwnC 45 4 B w1 ov' (ocs ++ [c])) (ho1 : Only (fun k => ov.ownBlock = some k) w w1) (hb : ∀ b, ov'.ownBlock = some b → ov.ownBlock = some b ∨ (w.heap.size ≤ b ∧ G b))
    (htv : ∀ b, tv.ownBlock = some b → b < w.heap.size)
    (hown2 : OwnC 48 3 B w2 tv (cs0 ++ [[.int .i64 last.id, .bool last.ab, ov']])) (ho2 : Only (fun k => tv.ownBlock = some k) w1 w2) :
    HistOwn G B w2 tv (pre ++ [⟨last.id, last.ab, last.ops ++ [o]⟩]) (cs0 ++ [[.int .i64 last.id, .bool last.ab, ov']]) := by
  obtain ⟨h3, h4, h5, h6, h7⟩ := hl
  have hF : ∀ b, ((G b ∧ tv.ownBlock ≠ some b ∧ ov.ownBlock ≠ some b) ∧ b < w.heap.size) → (G b ∧ tv.ownBlock ≠ some b ∧ ov'.ownBlock ≠ some b) := by
    rintro b ⟨⟨q1, q2, q3⟩, q4⟩
    refine ⟨q1, q2, fun q => ?_⟩
    rcases hb b q with r | r
    · exact q3 r
    · omega
  have h7' : ∀ b, ov'.ownBlock = some b → G b ∧ tv.ownBlock ≠ some b := by
    intro b q
    rcases hb b q with r | r
    · exact h7 b r
    · exact ⟨r.2, fun q2 => by have := htv b q2; omega⟩
  refine ⟨hg, hown2, .inr ⟨pre, ⟨last.id, last.ab, last.ops ++ [o]⟩, cs0, ov', ocs ++ [c], rfl, rfl, h3, ?_, hown1.keep ho2 (fun b q => (h7' b q).2), ?_, h7'⟩⟩
  · exact h4.mono fun _ _ q => (((q.lt.only ho1 (fun b hb => hb.1.2.2)).only ho2 (fun b hb => hb.1.2.1)).mono hF)
  · refine AllAt.append (h6.mono fun _ _ q => (((q.lt.only ho1 (fun b hb => hb.1.2.2)).only ho2 (fun b hb => hb.1.2.1)).mono hF)) (AllAt.one ?_)
    exact ((hc.only ho1 (fun b hb => hb.2.2.1)).only ho2 (fun b hb => hb.2.1)).mono fun b hb => hF b ⟨⟨hb.1, hb.2.1, hb.2.2.1⟩, hb.2.2.2⟩
theorem addOp_snoc (pre : List TxnM) (last : TxnM) (o : OpM) : addOp (pre ++ [last]) o = pre ++ [⟨last.id, last.ab, last.ops ++ [o]⟩] := by simp [addOp]
end Go.Proofs.Ytigmgkcojifbcaa.Mem
