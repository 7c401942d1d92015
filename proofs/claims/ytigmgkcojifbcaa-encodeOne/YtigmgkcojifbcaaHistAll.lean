/- A reader with all that it keeps, and what an append to its rows leaves of it. -/
import Derived.Test.YtigmgkcojifbcaaHistName
import Derived.Test.YtigmgkcojifbcaaHistMem
import Derived.Deep.AppendLies
namespace Go.Proofs.Ytigmgkcojifbcaa.Hist
open Go.RowKit Go.Proofs.Ytigmgkcojifbcaa.Dig Go.Proofs.Ytigmgkcojifbcaa.Mem Go.Proofs.Ytigmgkcojifbcaa.Cur Go.Proofs.Ytigmgkcojifbcaa.Keys
set_option linter.unusedVariables false
set_option linter.unusedSimpArgs false

/-- The blocks from B on that are none of a reader's four objects. -/
def Gb (B rb cb nb vb : Nat) (b : Nat) : Prop := B ≤ b ∧ b ≠ rb ∧ b ≠ cb ∧ b ≠ nb ∧ b ≠ vb
/-- Where a reader's objects lie. -/
structure Lay (B rb cb nb vb : Nat) (a : Option Addr) (len : Nat) : Prop where
  rc : rb ≠ cb
  rn : rb ≠ nb
  rv : rb ≠ vb
  cn : cb ≠ nb
  cv : cb ≠ vb
  nv : nb ≠ vb
  r : B ≤ rb
  c : B ≤ cb
  n : B ≤ nb
  v : B ≤ vb
  a : 0 < len → ∀ x, a = some x → x.block < B
theorem Lay.an {B rb cb nb vb : Nat} {a : Option Addr} {len : Nat} (h : Lay B rb cb nb vb a len) : 0 < len → ∀ x, a = some x → x.block ≠ nb := fun h0 x hx q => by have := h.a h0 x hx; have := h.n; omega
theorem Lay.av {B rb cb nb vb : Nat} {a : Option Addr} {len : Nat} (h : Lay B rb cb nb vb a len) : 0 < len → ∀ x, a = some x → x.block ≠ vb := fun h0 x hx q => by have := h.a h0 x hx; have := h.v; omega
/-- .. but for the values that were met. -/
structure RCore (w : World) (B rb cb nb vb : Nat) (most : Int) (a : Option Addr) (len cap : Nat) (z : Nat → Int) (s : St) (ts : List TxnM) (tv : Value) (cs : List (List Value)) : Prop where
  rdr : Rdr w rb cb most (opsN ts : Int) nb vb tv
  live : Live w cb a len cap z s
  names : Names w nb ts.length (twinB ts)
  own : HistOwn (Gb B rb cb nb vb) B w tv ts cs
  lay : Lay B rb cb nb vb a len
  few : ts.length ≤ 1024 ∧ opsN ts ≤ 5000
def RAll (w : World) (B rb cb nb vb : Nat) (most : Int) (a : Option Addr) (len cap : Nat) (z : Nat → Int) (s : St) (ts : List TxnM) (tv : Value) (cs : List (List Value)) : Prop :=
  RCore w B rb cb nb vb most a len cap z s ts tv cs ∧ Vals w vb (opsN ts) (fun p => appB ts p.1 p.2)

section
variable {w w' w1 w5 : World} {B rb cb nb vb : Nat} {most : Int} {a : Option Addr} {len cap : Nat} {z : Nat → Int} {s s' : St} {ts : List TxnM} {tv : Value} {cs : List (List Value)}
theorem RCore.hi (h : RCore w B rb cb nb vb most a len cap z s ts tv cs) : B ≤ w.heap.size ∧ rb < w.heap.size ∧ cb < w.heap.size ∧ nb < w.heap.size :=
  ⟨by have := Is.lt h.rdr; have := h.lay.r; omega, Is.lt h.rdr, h.live.cur.lt, SetAt.lt h.names⟩
/-- Only the cursor has gone on. -/
theorem RCore.went (h : RCore w B rb cb nb vb most a len cap z s ts tv cs) (ho : Only (fun k => k = cb) w w') (hl : Live w' cb a len cap z s') : RCore w' B rb cb nb vb most a len cap z s' ts tv cs :=
  ⟨h.rdr.keep ho h.lay.rc, hl, SetAt.keep h.names ho (Ne.symm h.lay.cn), h.own.keep ho (fun b q => q.2.2.1), h.lay, h.few⟩
theorem RAll.went (h : RAll w B rb cb nb vb most a len cap z s ts tv cs) (ho : Only (fun k => k = cb) w w') (hl : Live w' cb a len cap z s') : RAll w' B rb cb nb vb most a len cap z s' ts tv cs :=
  ⟨h.1.went ho hl, SetAt.keep h.2 ho (Ne.symm h.1.lay.cv)⟩
theorem own_snoc {e : TypeId} {n base : Nat} {v v' : Value} {c : List Value} (h : OwnC e n base w v cs) (hc : c.length = n) (h' : w1.ownsRow base e n v' (cs.length + 1) (cs.flatten ++ c)) : OwnC e n base w1 v' (cs ++ [c]) :=
  ⟨by rw [List.length_append, List.flatten_append]; simpa using h', fun d hd => (List.mem_append.1 hd).elim (h.2 d) (fun q => by simp at q; subst q; exact hc)⟩
theorem grown_only {row : Option Nat} (h : w.grownBy w' row) : Only (fun k => row = some k) w w' := ⟨h.os, h.tape, h.output, h.size, fun k hk hn => h.block k hk (fun q => hn q.symm)⟩
theorem gb_new (hL : Lay B rb cb nb vb a len) {g : Nat} (hB : B ≤ g) (h1 : rb < g) (h2 : cb < g) (h3 : nb < g) (h4 : vb < g) : Gb B rb cb nb vb g := ⟨hB, by omega, by omega, by omega, by omega⟩
theorem twin_snoc (ts : List TxnM) (t : TxnM) (i : Int) : twinB (ts ++ [t]) i = (twinB ts i || t.id == i) := by simp [twinB, List.any_append]
/-- The transaction's line has been read, and the transaction was appended; its row is laid into the reader. -/
theorem RAll.pushed {id : Int} {ab : Bool} {T : TypeId} {g gcap : Nat} (h : RAll w B rb cb nb vb most a len cap z s ts tv cs) (ho : Only (fun k => k = cb ∨ k = nb) w w5) (hl : Live w5 cb a len cap z s')
    (hn : Names w5 nb (ts.length + 1) (fun y => twinB ts y || id == y)) (h24 : ts.length < 1024) (hw : (Lit.int .i64 id).wf = true)
    (hgrow : (w5.alloc (.cells #[.int .i64 id, .bool ab, .slice none 0 0] T)).drew.grownBy w1 tv.ownBlock)
    (hown : w1.ownsRow B 48 3 (.slice (some ⟨g, 0, none⟩) (ts.length + 1) gcap) (ts.length + 1) (cs.flatten ++ [.int .i64 id, .bool ab, .slice none 0 0])) (hat : tv.ownBlock = some g ∨ g = w5.heap.size + 1) :
    RAll (w1.setCell ⟨rb, 5, none⟩ (.slice (some ⟨g, 0, none⟩) (ts.length + 1) gcap)) B rb cb nb vb most a len cap z s' (ts ++ [⟨id, ab, []⟩]) (.slice (some ⟨g, 0, none⟩) (ts.length + 1) gcap) (cs ++ [[.int .i64 id, .bool ab, .slice none 0 0]]) ∧
      Only (fun k => B ≤ k) w (w1.setCell ⟨rb, 5, none⟩ (.slice (some ⟨g, 0, none⟩) (ts.length + 1) gcap)) := by
  obtain ⟨⟨hr, _, _, hown0, hL, hf⟩, hv⟩ := h
  have hs5 := ho.size
  have hrl : rb < w.heap.size := Is.lt hr
  have hvl := SetAt.lt hv
  have hcl := hl.cur.lt
  have hnl := SetAt.lt hn
  have hB5 : Below w5.heap.size w5 (w5.alloc (.cells #[.int .i64 id, .bool ab, .slice none 0 0] T)).drew := ((Below.refl _ _).alloc (Nat.le_refl _) _).drew
  have hO1 : Only (fun k => tv.ownBlock = some k) w5 w1 := (Only.of_below hB5).trans (grown_only hgrow)
  have ho5 : HistOwn (Gb B rb cb nb vb) B w5 tv ts cs := hown0.keep ho (fun b q r => r.elim q.2.2.1 q.2.2.2.1)
  have hr5 : Rdr w5 rb cb most (opsN ts) nb vb tv := hr.keep ho (fun q => q.elim hL.rc hL.rn)
  have hv5 : Vals w5 vb (opsN ts) (fun p => appB ts p.1 p.2) := SetAt.keep hv ho (fun q => q.elim (Ne.symm hL.cv) (Ne.symm hL.nv))
  have hG : ∀ {b : Nat}, tv.ownBlock = some b → Gb B rb cb nb vb b := fun {b} q => ho5.1 b q
  have hlr := hL.r
  have hp := ho5.push (own_snoc ho5.2.1 rfl (by rw [ho5.len]; exact hown)) hO1 (fun b q => by
    simp [Value.ownBlock] at q
    subst q
    rcases hat with r | r
    · exact .inl r
    · exact .inr ⟨by omega, gb_new hL (by omega) (by omega) (by omega) (by omega) (by omega)⟩) hw
  have hO2 : Only (fun k => k = rb) w1 (w1.setCell ⟨rb, 5, none⟩ (.slice (some ⟨g, 0, none⟩) (ts.length + 1) gcap)) := (Only.refl _ _).put 5 _
  have hrl1 : Rdr w1 rb cb most (opsN ts) nb vb tv := hr5.keep hO1 (fun q => (hG q).2.1 rfl)
  have hops : opsN (ts ++ [⟨id, ab, []⟩]) = opsN ts := by rw [opsN_app]; rfl
  refine ⟨⟨⟨?_, ?_, ?_, hp.keep hO2 (fun b q => q.2.1), hL, by rw [hops]; simp; omega⟩, ?_⟩, ?_⟩
  · rw [hops]
    exact Is.set hrl1 5 _
  · exact (hl.other hO1 (fun q => (hG q).2.2.1 rfl) (fun h0 x hx q => by have := hL.a h0 x hx; have := (hG q).1; omega)).other hO2 (Ne.symm hL.rc) (fun h0 x hx q => by have := hL.a h0 x hx; omega)
  · refine SetAt.congr (SetAt.mono (SetAt.keep (SetAt.keep hn hO1 (fun q => (hG q).2.2.2.1 rfl)) hO2 (Ne.symm hL.rn)) (by simp)) (fun x => ?_)
    rw [twin_snoc]
  · rw [hops]
    refine SetAt.congr (SetAt.keep (SetAt.keep hv5 hO1 (fun q => (hG q).2.2.2.2 rfl)) hO2 (Ne.symm hL.rv)) (fun p => ?_)
    simp [appB, List.any_append]
  · exact ((ho.mono (S' := fun k => B ≤ k) (fun k q => by have := hL.c; have := hL.n; rcases q with q | q <;> omega)).trans (hO1.mono fun k q => (hG q).1)).trans (hO2.mono fun k q => by have := hL.r; omega)
theorem opsN_addOp (pre : List TxnM) (last : TxnM) (o : OpM) : opsN (addOp (pre ++ [last]) o) = opsN (pre ++ [last]) + 1 := addOp_ops _ _ (by simp)
theorem twin_addOp (pre : List TxnM) (last : TxnM) (o : OpM) (i : Int) : twinB (addOp (pre ++ [last]) o) i = twinB (pre ++ [last]) i := by rw [addOp_snoc]; simp [twinB, List.any_append]
theorem app_addOp (pre : List TxnM) (last : TxnM) (o : OpM) (k v : Int) : appB (addOp (pre ++ [last]) o) k v = (appB (pre ++ [last]) k v || (!o.read && o.key == k && o.value == v)) := by
  rw [addOp_snoc]
  simp only [appB, List.any_append, List.any_cons, List.any_nil, Bool.or_false]
  rw [Bool.or_assoc]
theorem _root_.Go.Proofs.Ytigmgkcojifbcaa.Mem.HistOwn.lt {G : Nat → Prop} (h : HistOwn G B w tv ts cs) : (∀ b, tv.ownBlock = some b → b < w.heap.size) ∧ ∀ cs0 x y ov, cs = cs0 ++ [[x, y, ov]] → ∀ b, ov.ownBlock = some b → b < w.heap.size := by
  obtain ⟨_, h2, h3⟩ := h
  refine ⟨fun b q => (h2.lt b q).2, ?_⟩
  rintro cs0 x y ov rfl b q
  rcases h3 with ⟨_, e⟩ | ⟨pre, last, cs0', ov', ocs, _, e, _, _, h5, _, _⟩
  · simp at e
  · have := List.append_inj' e rfl
    simp at this
    obtain ⟨_, _, _, rfl⟩ := this
    exact (h5.lt b q).2
/-- An operation was appended to the last one's row, that row laid into its cell, and the count raised. -/
theorem RAll.added {wa w3 : World} {o : OpM} {lv ov : Value} {pre : List TxnM} {last : TxnM} {cs0 ocs : List (List Value)} {M tg tcap g gcap H : Nat}
    (h : RCore w B rb cb nb vb most a len cap z s (pre ++ [last]) (.slice (some ⟨tg, 0, none⟩) (pre.length + 1) tcap) (cs0 ++ [[.int .i64 last.id, .bool last.ab, ov]]))
    (hlast : LastOwn (Gb B rb cb nb vb) B w (.slice (some ⟨tg, 0, none⟩) (pre.length + 1) tcap) ov pre last cs0 ocs)
    (hv : Vals w vb (opsN (pre ++ [last]) + 1) (fun p => appB (addOp (pre ++ [last]) o) p.1 p.2)) (hi : IntsAt (fun b => Gb B rb cb nb vb b ∧ M ≤ b) w lv o.list) (hk : (Lit.int .i64 o.key).wf = true) (hval : (Lit.int .i64 o.value).wf = true)
    (hM : tg < M ∧ ∀ b, ov.ownBlock = some b → b < M) (hwa : Only (fun _ => False) w wa) (hgrow : wa.grownBy w3 ov.ownBlock)
    (hown : w3.ownsRow B 45 4 (.slice (some ⟨g, 0, none⟩) (last.ops.length + 1) gcap) (last.ops.length + 1) (ocs.flatten ++ [.bool o.read, .int .i64 o.key, .int .i64 o.value, lv]))
    (hat : ov.ownBlock = some g ∨ g = H) (hH : w.heap.size ≤ H) (hN : opsN (pre ++ [last]) < 5000) (n1 : Int) (hn1 : n1 = ((opsN (pre ++ [last]) + 1 : Nat) : Int)) :
    RAll ((w3.setCell ⟨tg, pre.length * 3 + 2, none⟩ (.slice (some ⟨g, 0, none⟩) (last.ops.length + 1) gcap)).setCell ⟨rb, 2, none⟩ (.int .i64 n1)) B rb cb nb vb most a len cap z s (addOp (pre ++ [last]) o)
        (.slice (some ⟨tg, 0, none⟩) (pre.length + 1) tcap) (cs0 ++ [[.int .i64 last.id, .bool last.ab, .slice (some ⟨g, 0, none⟩) (last.ops.length + 1) gcap]]) ∧
      Only (fun k => B ≤ k) w ((w3.setCell ⟨tg, pre.length * 3 + 2, none⟩ (.slice (some ⟨g, 0, none⟩) (last.ops.length + 1) gcap)).setCell ⟨rb, 2, none⟩ (.int .i64 n1)) := by
  obtain ⟨hr, hl, hn, hown0, hL, hf⟩ := h
  have hrl : rb < w.heap.size := Is.lt hr
  have hvl := SetAt.lt hv
  have hcl := hl.cur.lt
  have hnl := SetAt.lt hn
  have hlr := hL.r
  have hlen0 : cs0.length = pre.length := hlast.2.1.1
  have hO1 : Only (fun k => ov.ownBlock = some k) w w3 := (hwa.mono (fun _ q => q.elim)).trans (grown_only hgrow)
  have hGo : ∀ {b : Nat}, ov.ownBlock = some b → Gb B rb cb nb vb b := fun {b} q => (hlast.2.2.2.2 b q).1
  have hGt : Gb B rb cb nb vb tg := hown0.1 tg rfl
  have hto : ov.ownBlock ≠ some tg := fun q => (hlast.2.2.2.2 tg q).2 rfl
  have htl : tg < w.heap.size := (hown0.2.1.lt tg rfl).2
  have hO2 : Only (fun k => k = tg) w3 (w3.setCell ⟨tg, pre.length * 3 + 2, none⟩ (.slice (some ⟨g, 0, none⟩) (last.ops.length + 1) gcap)) := (Only.refl _ _).put _ _
  have hO3 : ∀ w', Only (fun k => k = rb) w' (w'.setCell ⟨rb, 2, none⟩ (.int .i64 n1)) := fun w' => (Only.refl _ _).put 2 _
  have hc3 : OwnC 48 3 B w3 (.slice (some ⟨tg, 0, none⟩) (pre.length + 1) tcap) (cs0 ++ [[.int .i64 last.id, .bool last.ab, ov]]) := hown0.2.1.keep hO1 (fun b q r => by
    simp [Value.ownBlock] at q
    subst q
    exact hto r)
  have hset := hc3.set (i := pre.length) (by simp [hlen0]) (j := 2) (by omega) (.slice (some ⟨g, 0, none⟩) (last.ops.length + 1) gcap)
  have e1 : (cs0 ++ [[.int .i64 last.id, .bool last.ab, ov]]).set pre.length ((cs0 ++ [[.int .i64 last.id, .bool last.ab, ov]])[pre.length]'(by simp [hlen0]) |>.set 2 (.slice (some ⟨g, 0, none⟩) (last.ops.length + 1) gcap)) = cs0 ++ [[.int .i64 last.id, .bool last.ab, .slice (some ⟨g, 0, none⟩) (last.ops.length + 1) gcap]] := by
    have : (cs0 ++ [[Value.int .i64 last.id, .bool last.ab, ov]])[pre.length]'(by simp [hlen0]) = [.int .i64 last.id, .bool last.ab, ov] := by
      rw [List.getElem_append_right (by omega)]; simp [hlen0]
    rw [this, List.set_append_right _ _ (by omega)]
    simp [hlen0]
  rw [e1] at hset
  have hadd := HistOwn.add (o := o) (c := [.bool o.read, .int .i64 o.key, .int .i64 o.value, lv]) (w1 := w3) hown0.1 hlast ⟨lv, rfl, hi.lt.mono (fun b q => ⟨q.1.1, fun r => by simp [Value.ownBlock] at r; have := hM.1; have := q.1.2; omega, fun r => by have := hM.2 b r; have := q.1.2; omega, q.2⟩), hk, hval⟩
    (own_snoc hlast.2.2.1 rfl (by rw [hlast.2.2.2.1.1]; exact hown)) hO1 (fun b q => by
      simp [Value.ownBlock] at q
      subst q
      rcases hat with r | r
      · exact .inl r
      · have := hL.r; exact .inr ⟨by omega, gb_new hL (by omega) (by omega) (by omega) (by omega) (by omega)⟩) (fun b q => by simp [Value.ownBlock] at q; omega) hset (hO2.mono (fun k q => by subst q; rfl))
  rw [← addOp_snoc pre last o] at hadd
  have hops := opsN_addOp pre last o
  have hr2 : Rdr (w3.setCell ⟨tg, pre.length * 3 + 2, none⟩ (.slice (some ⟨g, 0, none⟩) (last.ops.length + 1) gcap)) rb cb most (opsN (pre ++ [last])) nb vb (.slice (some ⟨tg, 0, none⟩) (pre.length + 1) tcap) := (hr.keep hO1 (fun q => (hGo q).2.1 rfl)).keep hO2 (fun q => hGt.2.1 q.symm)
  have hla : (addOp (pre ++ [last]) o).length = (pre ++ [last]).length := addOp_len _ _
  refine ⟨⟨⟨?_, ?_, ?_, hadd.keep (hO3 _) (fun b q => q.2.1), hL, by rw [hops, hla]; exact ⟨hf.1, by omega⟩⟩, ?_⟩, ?_⟩
  · rw [hops, ← hn1]
    exact Is.set hr2 2 _
  · refine ((hl.other hO1 (fun q => (hGo q).2.2.1 rfl) (fun h0 x hx q => by have := hL.a h0 x hx; have := (hGo q).1; omega)).other hO2 (fun q => hGt.2.2.1 q.symm) (fun h0 x hx q => by have := hL.a h0 x hx; have := hGt.1; omega)).other (hO3 _) (Ne.symm hL.rc) (fun h0 x hx q => by have := hL.a h0 x hx; omega)
  · rw [hla]
    exact SetAt.congr (SetAt.keep (SetAt.keep (SetAt.keep hn hO1 (fun q => (hGo q).2.2.2.1 rfl)) hO2 (fun q => hGt.2.2.2.1 q.symm)) (hO3 _) (Ne.symm hL.rn)) (fun x => twin_addOp pre last o x)
  · rw [hops]
    exact SetAt.keep (SetAt.keep (SetAt.keep hv hO1 (fun q => (hGo q).2.2.2.2 rfl)) hO2 (fun q => hGt.2.2.2.2 q.symm)) (hO3 _) (Ne.symm hL.rv)
  · exact ((hO1.mono fun k q => (hGo q).1).trans (hO2.mono fun k q => by have := hGt.1; omega)).trans ((hO3 _).mono fun k q => by omega)
end
end Go.Proofs.Ytigmgkcojifbcaa.Hist
