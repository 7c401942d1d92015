/- Joined out of the texts HistRefOp, HistRefEnd, HistRefRead, in that order. -/
import Derived.Test.YtigmgkcojifbcaaAll10
import Derived.Test.YtigmgkcojifbcaaAll11
import Derived.Test.YtigmgkcojifbcaaAll13
import Derived.Deep.DeepCutAuto
import Derived.Deep.RegionWith
/- The document's op: an operation's line. -/
namespace Go.Proofs.Ytigmgkcojifbcaa.Hist
open Go.RowKit Go.Proofs.Ytigmgkcojifbcaa.Dig Go.Proofs.Ytigmgkcojifbcaa.Mem
set_option linter.unusedVariables false
set_option linter.unusedSimpArgs false

/-- What stays in an operation's line, whatever is called: the history, its variable, and the answer's. -/
structure OpSt (w : World) (F : Nat → Prop) (tv : Value) (ts : List TxnM) (a : Option Addr) (len : Nat) (z : Nat → Int) (wx : World) : Prop where
  below : Below w.heap.size w wx
  hi : Is wx w.heap.size #[tv]
  hj : Is wx (w.heap.size + 1) #[.slice none 0 0]
  t : TxnsAt (fun b => F b ∧ b < w.heap.size) wx tv ts
  r : Rd .u8 wx a len z
  al : 0 < len → ∀ x, a = some x → x.block < w.heap.size
section
variable {w wx wy : World} {F : Nat → Prop} {tv : Value} {ts : List TxnM} {a : Option Addr} {len : Nat} {z : Nat → Int}
theorem OpSt.start (T : TypeId) (ht : TxnsAt F w tv ts) (hr : Rd .u8 w a len z) : OpSt w F tv ts a len z ((w.alloc (.cells #[tv] T)).alloc (.cells #[.slice none 0 0] T)) := by
  obtain ⟨h1, h2, h3, h4, h5⟩ := two_mid (T := T) (U := T) ht.lt hr (Below.refl _ _)
  exact ⟨h3, h1, h2, h4, h5, fun h0 => hr.lt h0⟩
theorem OpSt.keep (h : OpSt w F tv ts a len z wx) (hb : Below wx.heap.size wx wy) : OpSt w F tv ts a len z wy :=
  ⟨h.below.trans (hb.mono h.below.size), h.hi.below hb, h.hj.below hb, h.t.keep hb, h.r.only (Only.of_below (S := fun _ => False) hb) (fun _ _ q => q), h.al⟩
theorem OpSt.alloc (h : OpSt w F tv ts a len z wx) (o : Obj) : OpSt w F tv ts a len z (wx.alloc o) := h.keep ((Below.refl _ _).alloc (Nat.le_refl _) _)
theorem OpSt.put (h : OpSt w F tv ts a len z wx) {ob : Nat} (hob : w.heap.size + 1 < ob) (hl : ob < wx.heap.size) (j : Nat) (v : Value) : OpSt w F tv ts a len z (wx.setCell ⟨ob, j, none⟩ v) := by
  have hO : Only (fun k => k = ob) wx (wx.setCell ⟨ob, j, none⟩ v) := (Only.refl _ _).put j _
  exact ⟨h.below.only hO (fun i q => by omega) (by have := h.hi.lt; omega), h.hi.keep hO (by omega), h.hj.keep hO (by omega), h.t.only hO (fun b q => by omega), h.r.only' hO (fun h0 x hx q => by have := h.al h0 x hx; omega), h.al⟩
theorem OpSt.leaf (h : OpSt w F tv ts a len z wx) :
    TxnsAt (fun b => F b ∧ b < w.heap.size) (wx.setCell ⟨w.heap.size + 1, 0, none⟩ tv) tv ts ∧ Below w.heap.size w (wx.setCell ⟨w.heap.size + 1, 0, none⟩ tv) ∧ (wx.setCell ⟨w.heap.size + 1, 0, none⟩ tv).cell? ⟨w.heap.size + 1, 0, none⟩ = some tv :=
  ref_leaf h.below h.hj h.t (fun b q => .inl q.2)
end
set_option maxRecDepth 20000 in
set_option maxHeartbeats 4000000 in
/-- Ahead of the key. -/
theorem rop_head (F : Nat → Prop) (tv : Value) (ts : List TxnM) (a : Option Addr) (len cap : Nat) (z : Nat → Int) (i : Nat) (most : Int) (w : World) (ht : TxnsAt F w tv ts) (hr : Rd .u8 w a len z) (hc : len ≤ cap) (hi : i < len) (hl : len ≤ 1000000) (hts : ts.length ≤ 100000) (hops : opsN ts ≤ 100000)
    (hbad : ts.length = 0 ∨ most ≤ (opsN ts : Int) ∨ isB z len (i + 1) 32 = false ∨ (isB z len (i + 1) 32 = true ∧ (parse z len ((i + 2 : Nat) : Int)).2.2 = false)) :
    Calls Try.prog 34 #[.agg #[tv], .slice a len cap, .int .i64 (i : Int), .int .i64 most] w fun e w' => ∃ tv', e = .returned (.tuple #[.agg #[tv'], .int .i64 ((opS z len most ts i).nx : Int), .int .i64 (opS z len most ts i).e, .int .i64 (opS z len most ts i).wh]) ∧ TxnsAt (fun b => F b ∨ w.heap.size ≤ b) w' tv' (opS z len most ts i).ts ∧ Below w.heap.size w w' := by
  obtain ⟨ta, tcap, rfl, hc1, hc2⟩ := ht.shape
  have hit : (i : Int) < (len : Int) := by omega
  have ST0 := hide (OpSt.start 24 ht hr)
  obtain ⟨hc0, -⟩ := Is.one ST0.out.hi
  obtain ⟨n, hn⟩ : ∃ n, (opsN ts : Int) = n := ⟨_, rfl⟩
  have HN := hide hn
  have H0 := hide ht
  clear ht hr
  by_cases h0 : ts.length = 0
  · have HS : Hid (opS z len most ts i = ⟨ts, 0, 4, i⟩) := if_pos h0
    have h0' : ((ts.length : Int) == 0) = true := by rw [h0]; rfl
    clear h0 hbad
    go_enter Try.func34, Try.ntmps34
    go_wp2
    refine bodyPost_ret (v := .tuple #[.agg #[.slice ta ts.length tcap], .int .i64 0, .int .i64 4, .int .i64 (i : Int)]) (by simp [results, Try.results34, go_sem]) rfl ⟨_, by rw [HS.out]; rfl, ?_, two_below _ _ _ _ _⟩
    rw [HS.out]
    exact (H0.out.keep (two_below _ _ _ _ _)).mono (fun b q => .inl q)
  have h0' : ((ts.length : Int) == 0) = false := by simp; simpa using h0
  by_cases h3 : most ≤ (opsN ts : Int)
  · have HS : Hid (opS z len most ts i = ⟨ts, 0, 3, i⟩) := by show _ = _; unfold opS; rw [if_neg h0, if_pos h3]
    have h3' : most ≤ n := by rw [← hn]; exact h3
    clear h0 h3 hn hbad
    go_enter Try.func34, Try.ntmps34
    go_wp2_with (go_at_call 25; go_must ((with_reducible refine (rops_any _ _ ts _ ST0.out.t (by omega) (by omega)).mono ?_); rw [HN.out]; rintro e w3 ⟨rfl, hb3⟩; have ST3 := hide (ST0.out.keep hb3); obtain ⟨hc3, hg3⟩ := Is.one ST3.out.hi; obtain ⟨hd3, hf3⟩ := Is.one ST3.out.hj; clear hb3))
    obtain ⟨k1, k2, k3⟩ := OpSt.leaf ST3.out
    refine bodyPost_ret (v := .tuple #[.agg #[.slice ta ts.length tcap], .int .i64 0, .int .i64 3, .int .i64 (i : Int)]) (by simp [results, Try.results34, go_sem, k3]) rfl ⟨_, by rw [HS.out]; rfl, ?_, k2⟩
    rw [HS.out]
    exact k1.mono (fun b q => .inl q.1)
  have h3' : ¬ most ≤ n := by rw [← hn]; exact h3
  by_cases h1 : isB z len (i + 1) 32 = false
  · have B1 := hide h1
    have HS : Hid (opS z len most ts i = ⟨ts, 0, 4, ((i + 1 : Nat) : Int)⟩) := by show _ = _; unfold opS; rw [if_neg h0, if_neg h3, if_pos h1]
    clear h0 h3 hn h1 hbad
    go_enter Try.func34, Try.ntmps34
    go_wp2_with (first | (go_at_call 25; go_must ((with_reducible refine (rops_any _ _ ts _ ST0.out.t (by omega) (by omega)).mono ?_); rw [HN.out]; rintro e w3 ⟨rfl, hb3⟩; have ST3 := hide (ST0.out.keep hb3); obtain ⟨hc3, hg3⟩ := Is.one ST3.out.hi; obtain ⟨hd3, hf3⟩ := Is.one ST3.out.hj; clear hb3)) | (go_at_call 47; (with_reducible refine (ris_at _ len cap z (i + 1) _ 32 _ ST3.out.r (by omega) (by omega) B1).mono ?_); rintro e w' ⟨rfl, hw⟩; replace hw := hw.symm; subst hw))
    obtain ⟨k1, k2, k3⟩ := OpSt.leaf ST3.out
    refine bodyPost_ret (v := .tuple #[.agg #[.slice ta ts.length tcap], .int .i64 0, .int .i64 4, .int .i64 ((i : Int) + 1)]) (by simp [results, Try.results34, go_sem, k3]) rfl ⟨_, by rw [HS.out]; rfl, ?_, k2⟩
    rw [HS.out]
    exact k1.mono (fun b q => .inl q.1)
  have h1t : isB z len (i + 1) 32 = true := by simpa using h1
  have B1 := hide h1t
  have e2 : ((i + 2 : Nat) : Int) = (i : Int) + 2 := by push_cast; rfl
  rcases parse_two z len (i + 2) (by have := (isB_iff.1 h1t).1; omega) with ⟨n', t, g1, g2, g3, g4, hp⟩ | ⟨t, g1, g2, hp⟩
  · exfalso
    rcases hbad with q | q | q | q
    · exact h0 q
    · exact h3 q
    · exact h1 q
    · rw [hp] at q; simp at q
  · have HS : Hid (opS z len most ts i = ⟨ts, 0, 4, (t : Int)⟩) := by show _ = _; unfold opS; rw [if_neg h0, if_neg h3, if_neg h1, hp]; rfl
    rw [e2] at hp
    have HP := hide hp
    clear h0 h3 hn h1 h1t hp hbad
    go_enter Try.func34, Try.ntmps34
    go_wp2_with (first | (go_at_call 25; go_must ((with_reducible refine (rops_any _ _ ts _ ST0.out.t (by omega) (by omega)).mono ?_); rw [HN.out]; rintro e w3 ⟨rfl, hb3⟩; have ST3 := hide (ST0.out.keep hb3); obtain ⟨hc3, hg3⟩ := Is.one ST3.out.hi; obtain ⟨hd3, hf3⟩ := Is.one ST3.out.hj; clear hb3)) | (go_at_call 47; (with_reducible refine (ris_at _ len cap z (i + 1) _ 32 _ ST3.out.r (by omega) (by omega) B1).mono ?_); rintro e w' ⟨rfl, hw⟩; replace hw := hw.symm; subst hw) | (go_at_call 48; (with_reducible refine (rparse_eq _ len cap z _ _ ST3.out.r hc HP).mono ?_); rintro e w' ⟨rfl, hw⟩; replace hw := hw.symm; subst hw))
    obtain ⟨k1, k2, k3⟩ := OpSt.leaf ST3.out
    refine bodyPost_ret (v := .tuple #[.agg #[.slice ta ts.length tcap], .int .i64 0, .int .i64 4, .int .i64 (t : Int)]) (by simp [results, Try.results34, go_sem, k3]) rfl ⟨_, by rw [HS.out]; rfl, ?_, k2⟩
    rw [HS.out]
    exact k1.mono (fun b q => .inl q.1)
end Go.Proofs.Ytigmgkcojifbcaa.Hist

/- What the document's op leaves in memory: an operation behind those of the last transaction, in rows of the call's own. -/
namespace Go.Proofs.Ytigmgkcojifbcaa.Hist
open Go.RowKit Go.Proofs.Ytigmgkcojifbcaa.Dig Go.Proofs.Ytigmgkcojifbcaa.Mem
set_option linter.unusedVariables false
set_option linter.unusedSimpArgs false

theorem AllAt.set {α : Type} {R : List Value → α → Prop} {cs : List (List Value)} {xs : List α} (h : AllAt R cs xs) {c : List Value} {x : α} (i : Nat) (hr : R c x) : AllAt R (cs.set i c) (xs.set i x) := by
  refine ⟨by rw [List.length_set, List.length_set, h.1], fun j d y h1 h2 => ?_⟩
  rw [List.getElem?_set] at h1 h2
  by_cases e : i = j
  · rw [if_pos e] at h1 h2
    split at h1
    · split at h2
      · cases h1; cases h2; exact hr
      · cases h2
    · cases h1
  · rw [if_neg e] at h1 h2
    exact h.2 j d y h1 h2
theorem addOp_set {ts : List TxnM} {m : Nat} (h : ts.length = m + 1) (o : OpM) : addOp ts o = ts.set m ⟨(ts[m]'(by omega)).id, (ts[m]'(by omega)).ab, (ts[m]'(by omega)).ops ++ [o]⟩ := by
  have hne : ts ≠ [] := fun q => by rw [q] at h; simp at h
  obtain ⟨pre, last, rfl⟩ : ∃ us t, ts = us ++ [t] := ⟨_, _, (List.dropLast_concat_getLast hne).symm⟩
  have hm : pre.length = m := by simpa using h
  subst hm
  rw [addOp_snoc]
  simp
/-- The copy of the transactions, and the last one's cells. -/
theorem copy_last {w : World} {F : Nat → Prop} {B lg cap m : Nat} {rows : List (List Value)} {ts : List TxnM} (hown : OwnC 48 3 B w (.slice (some ⟨lg, 0, none⟩) (m + 1) cap) rows) (hall : AllAt (TxnAt F w) rows ts) (hm : ts.length = m + 1) :
    ∃ oa ocap ocs, ∃ (hr : m < rows.length) (ht : m < ts.length), rows[m] = [.int .i64 ts[m].id, .bool ts[m].ab, .slice oa ts[m].ops.length ocap] ∧ w.cell? ⟨lg, m * 3 + 2, none⟩ = some (.slice oa ts[m].ops.length ocap) ∧
      RowAt F w 4 (.slice oa ts[m].ops.length ocap) ocs ∧ AllAt (OpAt F w) ocs ts[m].ops ∧ (Lit.int .i64 ts[m].id).wf = true := by
  have ht : m < ts.length := by omega
  obtain ⟨hr, v, e, ⟨ocs, hrow, ho⟩, hw⟩ := hall.get ht
  obtain ⟨oa, ocap, rfl, _, _⟩ := hrow.shape
  rw [ho.1] at hrow e
  refine ⟨oa, ocap, ocs, hr, ht, e, OwnC.cell hown hr (by rw [e]; rfl), hrow, ho, hw⟩
theorem op_one {F : Nat → Prop} {w : World} {cs : List (List Value)} {os : List OpM} (h : AllAt (OpAt F w) cs os) : ∀ c ∈ cs, ∀ u ∈ c, u.oneCell' = true := by
  intro c hc u hu
  obtain ⟨i, hi, rfl⟩ := List.mem_iff_getElem.1 hc
  obtain ⟨_, v, e, hv, _⟩ := h.get (i := i) (by rw [← h.1]; exact hi)
  obtain ⟨a, cap, rfl, _⟩ := hv.shape
  rw [e] at hu
  simp at hu
  rcases hu with rfl | rfl | rfl | rfl <;> rfl
theorem ref_op_end {w w6 w7 w9 : World} {F : Nat → Prop} {tv : Value} {ts : List TxnM} {a : Option Addr} {len m : Nat} {z : Nat → Int} {rows ocs : List (List Value)} {o : OpM} {lv : Value} {lg cap g9 c9 : Nat} {oa : Option Addr} {ocap : Nat}
    (hst : OpSt w F tv ts a len z w7) (hown : OwnC 48 3 (w.heap.size + 2) w7 (.slice (some ⟨lg, 0, none⟩) (m + 1) cap) rows) (hall : AllAt (TxnAt (fun b => F b ∧ b < w.heap.size) w7) rows ts) (hm : ts.length = m + 1)
    (hlg : w6.heap.size ≤ lg) (hs6 : w.heap.size + 1 < w6.heap.size) (h67 : Below w6.heap.size w6 w7) (hi : IntsAt (fun b => w.heap.size + 1 < b ∧ b < w6.heap.size) w6 lv o.list) (hk : (Lit.int .i64 o.key).wf = true) (hv : (Lit.int .i64 o.value).wf = true)
    (hrm : ∃ (hr : m < rows.length) (ht : m < ts.length), rows[m] = [.int .i64 ts[m].id, .bool ts[m].ab, .slice oa ts[m].ops.length ocap] ∧ AllAt (OpAt (fun b => F b ∧ b < w.heap.size) w7) ocs ts[m].ops ∧ (Lit.int .i64 ts[m].id).wf = true)
    (h79 : Below w7.heap.size w7 w9) (hown9 : OwnC 45 4 w7.heap.size w9 (.slice (some ⟨g9, 0, none⟩) (ocs.length + 1) c9) (ocs ++ [[.bool o.read, .int .i64 o.key, .int .i64 o.value, lv]])) :
    TxnsAt (fun b => F b ∨ w.heap.size ≤ b) (((w9.setCell ⟨lg, m * 3 + 2, none⟩ (.slice (some ⟨g9, 0, none⟩) (ocs.length + 1) c9)).setCell ⟨w.heap.size, 0, none⟩ (.slice (some ⟨lg, 0, none⟩) (m + 1) cap)).setCell ⟨w.heap.size + 1, 0, none⟩ (.slice (some ⟨lg, 0, none⟩) (m + 1) cap)) (.slice (some ⟨lg, 0, none⟩) (m + 1) cap) (addOp ts o) ∧
    Below w.heap.size w (((w9.setCell ⟨lg, m * 3 + 2, none⟩ (.slice (some ⟨g9, 0, none⟩) (ocs.length + 1) c9)).setCell ⟨w.heap.size, 0, none⟩ (.slice (some ⟨lg, 0, none⟩) (m + 1) cap)).setCell ⟨w.heap.size + 1, 0, none⟩ (.slice (some ⟨lg, 0, none⟩) (m + 1) cap)) ∧
    (((w9.setCell ⟨lg, m * 3 + 2, none⟩ (.slice (some ⟨g9, 0, none⟩) (ocs.length + 1) c9)).setCell ⟨w.heap.size, 0, none⟩ (.slice (some ⟨lg, 0, none⟩) (m + 1) cap)).setCell ⟨w.heap.size + 1, 0, none⟩ (.slice (some ⟨lg, 0, none⟩) (m + 1) cap)).cell? ⟨w.heap.size + 1, 0, none⟩ = some (.slice (some ⟨lg, 0, none⟩) (m + 1) cap) := by
  obtain ⟨hr, ht, hrow, hops, hid⟩ := hrm
  have hs67 := h67.size
  have hs79 := h79.size
  have hlg7 : lg < w7.heap.size := (hown.lt lg rfl).2
  have hO1 : Only (fun k => k = lg) w9 (w9.setCell ⟨lg, m * 3 + 2, none⟩ (.slice (some ⟨g9, 0, none⟩) (ocs.length + 1) c9)) := (Only.refl _ _).put _ _
  have hO2 : ∀ wx : World, Only (fun k => k = w.heap.size) wx (wx.setCell ⟨w.heap.size, 0, none⟩ (.slice (some ⟨lg, 0, none⟩) (m + 1) cap)) := fun wx => (Only.refl _ _).put 0 _
  have hO3 : ∀ wx : World, Only (fun k => k = w.heap.size + 1) wx (wx.setCell ⟨w.heap.size + 1, 0, none⟩ (.slice (some ⟨lg, 0, none⟩) (m + 1) cap)) := fun wx => (Only.refl _ _).put 0 _
  have hset := (hown.keep (Only.of_below (S := fun _ => False) h79) (fun _ _ q => q)).set (i := m) hr (j := 2) (by omega) (.slice (some ⟨g9, 0, none⟩) (ocs.length + 1) c9)
  rw [hrow] at hset
  have hO : Only (fun k => k = lg ∨ k = w.heap.size ∨ k = w.heap.size + 1) w9 _ := ((hO1.mono fun _ q => .inl q).trans ((hO2 _).mono fun _ q => .inr (.inl q))).trans ((hO3 _).mono fun _ q => .inr (.inr q))
  have hO23 : Only (fun k => k = w.heap.size ∨ k = w.heap.size + 1) (w9.setCell ⟨lg, m * 3 + 2, none⟩ (.slice (some ⟨g9, 0, none⟩) (ocs.length + 1) c9)) _ := ((hO2 _).mono fun _ q => .inl q).trans ((hO3 _).mono fun _ q => .inr q)
  have hF7 : ∀ {S : Nat → Prop}, Only (fun _ => False) w7 w9 := Only.of_below h79
  refine ⟨⟨_, (hset.row.only hO23 (fun b q => by have := q.1; omega)).mono (fun b q => .inr (by have := q.1; omega)), ?_⟩, ?_, ?_⟩
  · rw [addOp_set hm]
    refine AllAt.set (hall.mono fun c x q => ((q.only (hF7 (S := fun _ => False)) (fun _ _ r => r)).only hO (fun b q => by omega)).mono fun b q => .inl q.1) m ⟨_, rfl, ⟨_, (hown9.row.only hO (fun b q => by have := q.1; omega)).mono (fun b q => .inr (by have := q.1; omega)), ?_⟩, hid⟩
    refine AllAt.append (hops.mono fun c x q => ((q.only (hF7 (S := fun _ => False)) (fun _ _ r => r)).only hO (fun b q => by omega)).mono fun b q => .inl q.1) (AllAt.one ⟨lv, rfl, ?_, hk, hv⟩)
    exact (((hi.keep h67).only (hF7 (S := fun _ => False)) (fun _ _ r => r)).only hO (fun b q => by omega)).mono fun b q => .inr (by omega)
  · exact (hst.below.trans (h79.mono hst.below.size)).only hO (fun i q => by omega) (by have := hst.below.size; omega)
  · have hj : Is w9 (w.heap.size + 1) #[.slice none 0 0] := hst.hj.below h79
    exact Is.cell (cs := #[.slice (some ⟨lg, 0, none⟩) (m + 1) cap]) (((hj.keep hO1 (by omega)).keep (hO2 _) (by omega)).set 0 _) 0 rfl
end Go.Proofs.Ytigmgkcojifbcaa.Hist

/- The document's op, whole. -/
namespace Go.Proofs.Ytigmgkcojifbcaa.Hist
open Go.RowKit Go.Proofs.Ytigmgkcojifbcaa.Dig Go.Proofs.Ytigmgkcojifbcaa.Mem Go.Proofs.Ytigmgkcojifbcaa.Cur
set_option linter.unusedVariables false
set_option linter.unusedSimpArgs false

theorem Try.infoOp : (Try.prog.info? 45).map (fun i => (i.zero, i.size, i.bytes)) = some (some (.agg #[.bool false, .int .i64 0, .int .i64 0, .slice none 0 0]), 4, 48) := by kernel_rfl
/-- Behind the operation's own part. -/
def OpMid (w : World) (F : Nat → Prop) (tv : Value) (ts : List TxnM) (a : Option Addr) (len : Nat) (z : Nat → Int) (ob : Nat) (o : OpM) (t : Int) (x : Value) (wx : World) : Prop :=
  ∃ lv, x = .int .i64 t ∧ OpSt w F tv ts a len z wx ∧ Is wx ob #[.bool o.read, .int .i64 o.key, .int .i64 o.value, lv] ∧ IntsAt (fun b => w.heap.size + 1 < b) wx lv o.list
set_option maxRecDepth 20000 in
set_option maxHeartbeats 4000000 in
theorem rop_read (F : Nat → Prop) (tv : Value) (ts : List TxnM) (a : Option Addr) (len cap : Nat) (z : Nat → Int) (i : Nat) (most : Int) (w : World) (ht : TxnsAt F w tv ts) (hr : Rd .u8 w a len z) (hc : len ≤ cap) (hi : i < len) (hl : len ≤ 1000000) (hts : ts.length ≤ 100000) (hops : opsN ts ≤ 100000)
    (h0 : ¬ ts.length = 0) (h3 : ¬ most ≤ (opsN ts : Int)) (h1 : isB z len (i + 1) 32 = true) {n' : Int} {t : Nat} (g2 : t ≤ len) (g3 : 0 ≤ n') (g4 : n' ≤ 2147483647) (hp : parse z len ((i + 2 : Nat) : Int) = (n', (t : Int), true)) (hz : z i = 114) :
    Calls Try.prog 34 #[.agg #[tv], .slice a len cap, .int .i64 (i : Int), .int .i64 most] w fun e w' => ∃ tv', e = .returned (.tuple #[.agg #[tv'], .int .i64 ((opS z len most ts i).nx : Int), .int .i64 (opS z len most ts i).e, .int .i64 (opS z len most ts i).wh]) ∧ TxnsAt (fun b => F b ∨ w.heap.size ≤ b) w' tv' (opS z len most ts i).ts ∧ Below w.heap.size w w' := by
  obtain ⟨ta, tcap, rfl, hc1, hc2⟩ := ht.shape
  obtain ⟨m, hm⟩ : ∃ m, ts.length = m + 1 := ⟨ts.length - 1, by omega⟩
  have HM := hide hm
  rw [hm] at ht hc1 ⊢
  have hit : (i : Int) < (len : Int) := by omega
  have ST0 := hide (OpSt.start 24 ht hr)
  obtain ⟨hc0, -⟩ := Is.one ST0.out.hi
  obtain ⟨n, hn⟩ : ∃ n, (opsN ts : Int) = n := ⟨_, rfl⟩
  have HN := hide hn
  have B1 := hide h1
  have e2 : ((i + 2 : Nat) : Int) = (i : Int) + 2 := by push_cast; rfl
  have h0' : (((m + 1 : Nat) : Int) == 0) = false := by simp; omega
  have h0'' : (((m : Int) + 1) == 0) = false := by simp; omega
  have h3' : ¬ most ≤ n := by rw [← hn]; exact h3
  have HS0 : opS z len most ts i = readT z len ts n' t := by unfold opS; rw [if_neg h0, if_neg h3, if_neg (by rw [h1]; decide), hp, if_neg (by simp), if_pos hz]; rfl
  have hz114 : (z i == 114) = true := by simpa using hz
  obtain ⟨bb, off, rfl, hcl, hzz1, hzz2⟩ := hr.u8 hi
  rw [e2] at hp
  have HP := hide hp
  rcases Cur.lst_two z len t g2 with ⟨l, t', q1, q2, hll⟩ | ⟨t', q2, hll⟩
  rotate_left
  · have HL := hide hll
    have HS : Hid (opS z len most ts i = ⟨ts, 0, 4, (t' : Int)⟩) := by show _ = _; rw [HS0]; unfold readT; rw [hll]; rfl
    clear HS0 hll hp h0 h3 h1 hn hz ht hr hc1 hc2 hm
    go_enter Try.func34, Try.ntmps34
    go_wp2_with (first | (go_at_call 25; go_must ((with_reducible refine (rops_any _ _ ts _ ST0.out.t (by omega) (by omega)).mono ?_); rw [HN.out]; rintro e w3 ⟨rfl, hb3⟩; have ST3 := hide (ST0.out.keep hb3); obtain ⟨hc3, hg3⟩ := Is.one ST3.out.hi; obtain ⟨hd3, hf3⟩ := Is.one ST3.out.hj; have hcz := bel_cell ST3.out.below hcl; have ST4 := hide (ST3.out.alloc (.cells #[.bool true, .int .i64 n', .int .i64 0, .slice none 0 0] 45)); have HO4 := hide (Is.made w3 #[.bool true, .int .i64 n', .int .i64 0, .slice none 0 0] 45 rfl); have hz3 : w.heap.size + 1 < w3.heap.size := ST3.out.hj.lt; have hh3 : w.heap.size < w3.heap.size := ST3.out.hi.lt; have hbl3 : bb < w3.heap.size := lt_of_cell hcz; clear hb3)) | (go_at_call 47; (with_reducible refine (ris_at _ len cap z (i + 1) _ 32 _ ST3.out.r (by omega) (by omega) B1).mono ?_); rintro e w' ⟨rfl, hw⟩; replace hw := hw.symm; subst hw) | (go_at_call 48; (with_reducible refine (rparse_eq _ len cap z _ _ ST3.out.r hc HP).mono ?_); rintro e w' ⟨rfl, hw⟩; replace hw := hw.symm; subst hw) | (go_at_call 50; go_must ((with_reducible refine (rlist_ints _ len cap z _ _ ST4.out.r hc HL).mono ?_); rintro e w5 ⟨v5, rfl, hb5, hi5⟩; obtain ⟨la, lcap, rfl, -, -⟩ := IntsAt.shape hi5; have ST5 := hide (ST4.out.keep hb5); have HO5 := hide (HO4.out.below hb5); have HI5 := hide hi5; obtain ⟨⟨d0, d1, d2, d3⟩, f0, f1, f2, f3⟩ := HO5.out.four; obtain ⟨hc5, hg5⟩ := Is.one ST5.out.hi; obtain ⟨hd5, hf5⟩ := Is.one ST5.out.hj; clear hb5 hi5)))
    obtain ⟨k1, k2, k3⟩ := OpSt.leaf ST5.out
    refine bodyPost_ret (v := .tuple #[.agg #[.slice ta (m + 1) tcap], .int .i64 0, .int .i64 4, .int .i64 (t' : Int)]) (by simp [results, Try.results34, go_sem, k3]) rfl ⟨_, by rw [HS.out]; rfl, ?_, k2⟩
    rw [HS.out]
    exact k1.mono (fun b q => .inl q.1)
  have HL := hide hll
  have HS1 : opS z len most ts i = endL z len ts ⟨true, n', 0, l⟩ t' := by rw [HS0]; unfold readT; rw [hll]; rfl
  clear HS0 hll hp h0 h3 h1 hn hz ht hr hc1 hc2 hm
  go_enter Try.func34, Try.ntmps34
  go_upto_region 26 with (first | (go_at_call 25; go_must ((with_reducible refine (rops_any _ _ ts _ ST0.out.t (by omega) (by omega)).mono ?_); rw [HN.out]; rintro e w3 ⟨rfl, hb3⟩; have ST3 := hide (ST0.out.keep hb3); obtain ⟨hc3, hg3⟩ := Is.one ST3.out.hi; obtain ⟨hd3, hf3⟩ := Is.one ST3.out.hj; have hcz := bel_cell ST3.out.below hcl; have ST4 := hide (ST3.out.alloc (.cells #[.bool true, .int .i64 n', .int .i64 0, .slice none 0 0] 45)); have HO4 := hide (Is.made w3 #[.bool true, .int .i64 n', .int .i64 0, .slice none 0 0] 45 rfl); have hz3 : w.heap.size + 1 < w3.heap.size := ST3.out.hj.lt; have hh3 : w.heap.size < w3.heap.size := ST3.out.hi.lt; have hbl3 : bb < w3.heap.size := lt_of_cell hcz; clear hb3)) | (go_at_call 47; (with_reducible refine (ris_at _ len cap z (i + 1) _ 32 _ ST3.out.r (by omega) (by omega) B1).mono ?_); rintro e w' ⟨rfl, hw⟩; replace hw := hw.symm; subst hw) | (go_at_call 48; (with_reducible refine (rparse_eq _ len cap z _ _ ST3.out.r hc HP).mono ?_); rintro e w' ⟨rfl, hw⟩; replace hw := hw.symm; subst hw) | (go_at_call 50; go_must ((with_reducible refine (rlist_ints _ len cap z _ _ ST4.out.r hc HL).mono ?_); rintro e w5 ⟨v5, rfl, hb5, hi5⟩; obtain ⟨la, lcap, rfl, -, -⟩ := IntsAt.shape hi5; have ST5 := hide (ST4.out.keep hb5); have HO5 := hide (HO4.out.below hb5); have HI5 := hide hi5; obtain ⟨⟨d0, d1, d2, d3⟩, f0, f1, f2, f3⟩ := HO5.out.four; obtain ⟨hc5, hg5⟩ := Is.one ST5.out.hi; obtain ⟨hd5, hf5⟩ := Is.one ST5.out.hj; clear hb5 hi5)))
  have hz5 : w3.heap.size < w5.heap.size := HO5.out.lt
  have hO6 : Only (fun k => k = w3.heap.size) w5 (w5.setCell ⟨w3.heap.size, 3, none⟩ (.slice la l.length lcap)) := (Only.refl _ _).put 3 _
  have ST6 := hide (ST5.out.put hz3 hz5 3 (.slice la l.length lcap))
  have HO6 : Hid (Is (w5.setCell ⟨w3.heap.size, 3, none⟩ (.slice la l.length lcap)) w3.heap.size #[.bool true, .int .i64 n', .int .i64 0, .slice la l.length lcap]) := HO5.out.set 3 _
  have HI6 : Hid (IntsAt (fun b => w.heap.size + 1 < b) (w5.setCell ⟨w3.heap.size, 3, none⟩ (.slice la l.length lcap)) (.slice la l.length lcap) l) := (HI5.out.only hO6 (fun b q => by simp at q; omega)).mono (fun b q => by simp at q; omega)
  have HZ6 : Hid (w.heap.size + 1 < (w5.setCell ⟨w3.heap.size, 3, none⟩ (.slice la l.length lcap)).heap.size) := hide (by have := HO6.out.lt; omega)
  clear hO6 d0 d1 d2 d3 f0 f1 f2 f3 hc5 hg5 hd5 hf5 HO5 HI5 hz5
  have HWV : Hid ((Lit.int .i64 0).wf = true) := hide (by decide)
  generalize w5.setCell ⟨w3.heap.size, 3, none⟩ (.slice la l.length lcap) = w6 at *
  clear ST5
  have HWF : Hid ((Lit.int .i64 n').wf = true ∧ (Lit.int .i64 ((⟨true, n', 0, l⟩ : OpM)).value).wf = true) := hide ⟨wf_of_i64 (by omega) (by omega), HWV.out⟩
  obtain ⟨b10, hb10⟩ : ∃ b, isB z len t' 10 = b := ⟨_, rfl⟩
  have B5 := hide hb10
  cases b10 with
  | false =>
    have HS : Hid (opS z len most ts i = ⟨ts, 0, 4, (t' : Int)⟩) := by show _ = _; rw [HS1]; unfold endL; rw [if_pos hb10]
    clear HS1 hb10
    obtain ⟨hc6, hg6⟩ := Is.one ST6.out.hi
    obtain ⟨hd6, hf6⟩ := Is.one ST6.out.hj
    go_wp2_with (go_at_call 47; (with_reducible refine (ris_at _ len cap z (t') _ 10 _ ST6.out.r (by omega) (by omega) B5).mono ?_); rintro e w' ⟨rfl, hw⟩; replace hw := hw.symm; subst hw)
    obtain ⟨k1, k2, k3⟩ := OpSt.leaf ST6.out
    refine bodyPost_ret (v := .tuple #[.agg #[.slice ta (m + 1) tcap], .int .i64 0, .int .i64 4, .int .i64 (t' : Int)]) (by simp [results, Try.results34, go_sem, k3]) rfl ⟨_, by rw [HS.out]; rfl, ?_, k2⟩
    rw [HS.out]
    exact k1.mono (fun b q => .inl q.1)
  | true =>
  have HS : Hid (opS z len most ts i = ⟨addOp ts (⟨true, n', 0, l⟩ : OpM), t' + 1, 0, 0⟩) := by show _ = _; rw [HS1]; unfold endL; rw [if_neg (by rw [hb10]; decide)]
  have ht1 : t' < len := (isB_iff.1 hb10).1
  clear HS1 hb10
  obtain ⟨hc6, hg6⟩ := Is.one ST6.out.hi
  have hh6 : w.heap.size < w6.heap.size := ST6.out.hi.lt
  obtain ⟨rows, ROW0, ALL0⟩ := ST6.out.t
  have hrl : rows.length = m + 1 := by rw [ALL0.1, HM.out]
  have hrl2 : rows.length ≤ 100000 := by rw [ALL0.1]; exact hts
  have ONE : Hid (∀ c ∈ rows, ∀ u ∈ c, u.oneCell' = true) := hide (txn_one ALL0)
  have HE6 : Hid (OwnC 48 3 (w.heap.size + 2) (w6.alloc (.cells #[] 48)) (.slice (some ⟨w6.heap.size, 0, none⟩) 0 0) []) := hide (own_empty 3 (at_new _ _ rfl) (by have := HZ6.out; omega))
  have HB6 : Hid (w.heap.size + 2 ≤ (w6.alloc (.cells #[] 48)).heap.size) := hide (by have := HZ6.out; simp; omega)
  have ROW := hide (ROW0.only (Only.of_below (S := fun _ => False) ((Below.refl w6.heap.size w6).alloc (Nat.le_refl _) (.cells #[] 48))) (fun _ _ q => q))
  have ALL := hide ALL0
  obtain ⟨j0, hj0, hjz0, hjz1, hjz2⟩ := info_parts Try.infoTxn
  have HJ0 : Hid (Try.prog.info? 48 = some j0 ∧ j0.zero = some (.agg #[.int .i64 0, .bool false, .slice none 0 0]) ∧ j0.size = 3 ∧ j0.bytes = 40) := ⟨hj0, hjz0, hjz1, hjz2⟩
  obtain ⟨i0, hi0, hiz0, hiz1, hiz2⟩ := info_parts Try.infoOp
  have HI0 : Hid (Try.prog.info? 45 = some i0 ∧ i0.zero = some (.agg #[.bool false, .int .i64 0, .int .i64 0, .slice none 0 0]) ∧ i0.size = 4 ∧ i0.bytes = 48) := ⟨hi0, hiz0, hiz1, hiz2⟩
  clear hj0 hjz0 hjz1 hjz2 hi0 hiz0 hiz1 hiz2 ROW0 ALL0
  go_wp2_with (first | (go_at_call 47; (with_reducible refine (ris_at _ len cap z (t') _ 10 _ ST6.out.r (by omega) (by omega) B5).mono ?_); rintro e w' ⟨rfl, hw⟩; replace hw := hw.symm; subst hw) | (at_builtin; (refine list_app_row rfl (.tmp 113) (.tmp 115) _ rfl 48 j0 _ 3 40 Try.underlying22 HJ0.out.1 HJ0.out.2.1 HJ0.out.2.2.1 HJ0.out.2.2.2 rfl (by omega) (by omega) (w.heap.size + 2) (.slice (some ⟨w6.heap.size, 0, none⟩) 0 0) [] rfl HE6.out _ (.slice ta (m + 1) tcap) rows rfl ROW.out ONE.out (by simp; omega) HB6.out ?_); intro v7 w7 hown7 ho7 hat7; go_must (obtain ⟨lg, lc7, rfl, -, -⟩ := own_len hown7 hrl; have HB7 : Hid (Below w6.heap.size w6 w7) := hide (Below.only ((Below.refl _ _).alloc (Nat.le_refl _) _) ho7 (fun k q => (by simp [Value.ownBlock] at q; omega)) (by simp)); have hlg6 : w6.heap.size ≤ lg := (by simp [Value.ownBlock] at hat7; omega); have HO7 : Hid (OwnC 48 3 (w.heap.size + 2) w7 (.slice (some ⟨lg, 0, none⟩) (m + 1) lc7) rows) := hide hown7; have ST7 := hide (ST6.out.keep HB7.out); have HOB7 := hide (HO6.out.below HB7.out); obtain ⟨⟨x0, x1, x2, x3⟩, -, -, -, -⟩ := HOB7.out.four; obtain ⟨hc7, hg7⟩ := Is.one ST7.out.hi; obtain ⟨hd7, hf7⟩ := Is.one ST7.out.hj; clear hown7 ho7 hat7)))
  have ALL7 := hide (ALL.out.mono (fun _ _ q => q.only (Only.of_below (S := fun _ => False) HB7.out) (fun _ _ r => r)))
  obtain ⟨oa, ocap, ocs, hr7, ht7, e7, ct, orow, oall, oid⟩ := copy_last HO7.out ALL7.out HM.out
  have HRM : Hid (∃ (hr : m < rows.length) (ht : m < ts.length), rows[m] = [.int .i64 ts[m].id, .bool ts[m].ab, .slice oa ts[m].ops.length ocap] ∧ AllAt (OpAt (fun b => F b ∧ b < w.heap.size) w7) ocs ts[m].ops ∧ (Lit.int .i64 ts[m].id).wf = true) := hide ⟨hr7, ht7, e7, oall, oid⟩
  have OROW := hide orow
  have OONE := hide (op_one oall)
  have hol : ocs.length ≤ 100000 := by rw [oall.1]; have := ops_le ht7; omega
  have hlg7 : lg < w7.heap.size := (HO7.out.lt lg rfl).2
  have hob7 : w3.heap.size < w7.heap.size := HOB7.out.lt
  have hhb7 : w.heap.size < w7.heap.size := ST7.out.hi.lt
  have hrb7 : w.heap.size + 1 < w7.heap.size := ST7.out.hj.lt
  have hmm1 : (m : Int) < (m : Int) + 1 := by omega
  have hn1 : lg ≠ w.heap.size := by have := HZ6.out; omega
  have hn2 : w.heap.size ≠ lg := by have := HZ6.out; omega
  have hn3 : lg ≠ w.heap.size + 1 := by have := HZ6.out; omega
  have hn4 : w.heap.size + 1 ≠ lg := by have := HZ6.out; omega
  clear orow oall oid e7
  have HS0 : (fun w' : World => w'.cell? ⟨lg, m * 3 + 2, none⟩ = some (.slice oa ts[m].ops.length ocap) ∧ w'.cell? ⟨w3.heap.size, 0, none⟩ = some (.bool true) ∧ w'.cell? ⟨w3.heap.size, 1, none⟩ = some (.int .i64 n') ∧ w'.cell? ⟨w3.heap.size, 2, none⟩ = some (.int .i64 0) ∧ w'.cell? ⟨w3.heap.size, 3, none⟩ = some (.slice la l.length lcap)) w7.drew := ⟨ct, x0, x1, x2, x3⟩
  refine Last.region_last (k := 14) (S := fun w' : World => w'.cell? ⟨lg, m * 3 + 2, none⟩ = some (.slice oa ts[m].ops.length ocap) ∧ w'.cell? ⟨w3.heap.size, 0, none⟩ = some (.bool true) ∧ w'.cell? ⟨w3.heap.size, 1, none⟩ = some (.int .i64 n') ∧ w'.cell? ⟨w3.heap.size, 2, none⟩ = some (.int .i64 0) ∧ w'.cell? ⟨w3.heap.size, 3, none⟩ = some (.slice la l.length lcap)) (by kernel_rfl) rfl rfl (by kernel_rfl) (by kernel_rfl) ?_
  refine wpAnyH_take (i := 0) (v := ?_) rfl (by kernel_rfl) (by kernel_rfl) (by kernel_rfl) (fun _ _ _ h => h) (Or.inl ⟨by rfl, ?_⟩) HS0 ?_
  rotate_left
  · intro w' hSw
    try dsimp only at hSw
    simp only [List.getElem_toArray, List.getElem_cons_zero, List.getElem_cons_succ]
    go_simp
    try with_reducible rfl
  try simp only [Act.put, List.getElem_toArray, List.getElem_cons_zero, List.getElem_cons_succ, List.setIfInBounds_toArray, List.set_cons_zero, List.set_cons_succ]
  refine wpAnyH_take (i := 1) (v := ?_) rfl (by kernel_rfl) (by kernel_rfl) (by kernel_rfl) (fun _ _ _ h => h) (Or.inl ⟨by rfl, ?_⟩) HS0 ?_
  rotate_left
  · intro w' hSw
    try dsimp only at hSw
    simp only [List.getElem_toArray, List.getElem_cons_zero, List.getElem_cons_succ]
    go_simp
    try with_reducible rfl
  try simp only [Act.put, List.getElem_toArray, List.getElem_cons_zero, List.getElem_cons_succ, List.setIfInBounds_toArray, List.set_cons_zero, List.set_cons_succ]
  refine wpAnyH_take (i := 3) (v := ?_) rfl (by kernel_rfl) (by kernel_rfl) (by kernel_rfl) (fun _ _ _ h => h) (Or.inl ⟨by rfl, ?_⟩) HS0 ?_
  rotate_left
  · intro w' hSw
    try dsimp only at hSw
    simp only [List.getElem_toArray, List.getElem_cons_zero, List.getElem_cons_succ]
    go_simp
    try with_reducible rfl
  try simp only [Act.put, List.getElem_toArray, List.getElem_cons_zero, List.getElem_cons_succ, List.setIfInBounds_toArray, List.set_cons_zero, List.set_cons_succ]
  refine wpAnyH_take (i := 4) (v := ?_) rfl (by kernel_rfl) (by kernel_rfl) (by kernel_rfl) (fun _ _ _ h => h) (Or.inl ⟨by rfl, ?_⟩) HS0 ?_
  rotate_left
  · intro w' hSw
    try dsimp only at hSw
    simp only [List.getElem_toArray, List.getElem_cons_zero, List.getElem_cons_succ]
    go_simp
    try with_reducible rfl
  try simp only [Act.put, List.getElem_toArray, List.getElem_cons_zero, List.getElem_cons_succ, List.setIfInBounds_toArray, List.set_cons_zero, List.set_cons_succ]
  refine wpAnyH_take (i := 5) (v := ?_) rfl (by kernel_rfl) (by kernel_rfl) (by kernel_rfl) (fun _ _ _ h => h) (Or.inl ⟨by rfl, ?_⟩) HS0 ?_
  rotate_left
  · intro w' hSw
    try dsimp only at hSw
    simp only [List.getElem_toArray, List.getElem_cons_zero, List.getElem_cons_succ]
    go_simp
    try with_reducible rfl
  try simp only [Act.put, List.getElem_toArray, List.getElem_cons_zero, List.getElem_cons_succ, List.setIfInBounds_toArray, List.set_cons_zero, List.set_cons_succ]
  refine wpAnyH_take (i := 6) (v := ?_) rfl (by kernel_rfl) (by kernel_rfl) (by kernel_rfl) (fun _ _ _ h => h) (Or.inl ⟨by rfl, ?_⟩) HS0 ?_
  rotate_left
  · intro w' hSw
    try dsimp only at hSw
    simp only [List.getElem_toArray, List.getElem_cons_zero, List.getElem_cons_succ]
    go_simp
    try with_reducible rfl
  try simp only [Act.put, List.getElem_toArray, List.getElem_cons_zero, List.getElem_cons_succ, List.setIfInBounds_toArray, List.set_cons_zero, List.set_cons_succ]
  refine wpAnyH_take (i := 7) (v := ?_) rfl (by kernel_rfl) (by kernel_rfl) (by kernel_rfl) (fun _ _ _ h => h) (Or.inl ⟨by rfl, ?_⟩) HS0 ?_
  rotate_left
  · intro w' hSw
    try dsimp only at hSw
    simp only [List.getElem_toArray, List.getElem_cons_zero, List.getElem_cons_succ]
    go_simp
    try with_reducible rfl
  try simp only [Act.put, List.getElem_toArray, List.getElem_cons_zero, List.getElem_cons_succ, List.setIfInBounds_toArray, List.set_cons_zero, List.set_cons_succ]
  refine wpAnyH_take (i := 9) (v := ?_) rfl (by kernel_rfl) (by kernel_rfl) (by kernel_rfl) (fun _ _ _ h => h) (Or.inl ⟨by rfl, ?_⟩) HS0 ?_
  rotate_left
  · intro w' hSw
    try dsimp only at hSw
    simp only [List.getElem_toArray, List.getElem_cons_zero, List.getElem_cons_succ]
    go_simp
    try with_reducible rfl
  try simp only [Act.put, List.getElem_toArray, List.getElem_cons_zero, List.getElem_cons_succ, List.setIfInBounds_toArray, List.set_cons_zero, List.set_cons_succ]
  refine wpAnyH_ready (rs := [2, 10]) (by kernel_rfl) (by simp) ?_
  refine AllReadyH.cons rfl (fun K hK => ?_) (AllReadyH.cons rfl (fun K hK => ?_) AllReadyH.nil)
  · skip
    (simp only [List.getElem_toArray, List.getElem_cons_zero, List.getElem_cons_succ])
    go_simp
    refine hK.out _ _ ⟨bel_cell (by repeat (first | exact Below.refl _ _ | exact BB8.out | refine Below.drew ?_ | refine Below.alloc ?_ (by first | omega | (simp; done) | (simp; omega)) _)) ct, bel_cell (by repeat (first | exact Below.refl _ _ | exact BB8.out | refine Below.drew ?_ | refine Below.alloc ?_ (by first | omega | (simp; done) | (simp; omega)) _)) x0, bel_cell (by repeat (first | exact Below.refl _ _ | exact BB8.out | refine Below.drew ?_ | refine Below.alloc ?_ (by first | omega | (simp; done) | (simp; omega)) _)) x1, bel_cell (by repeat (first | exact Below.refl _ _ | exact BB8.out | refine Below.drew ?_ | refine Below.alloc ?_ (by first | omega | (simp; done) | (simp; omega)) _)) x2, bel_cell (by repeat (first | exact Below.refl _ _ | exact BB8.out | refine Below.drew ?_ | refine Below.alloc ?_ (by first | omega | (simp; done) | (simp; omega)) _)) x3⟩ (fun HS1 => ?_)
    clear hK K
    try simp only [Act.put, List.getElem_toArray, List.getElem_cons_zero, List.getElem_cons_succ, List.setIfInBounds_toArray, List.set_cons_zero, List.set_cons_succ]
    refine wpAnyH_ready (rs := [8, 10]) (by kernel_rfl) (by simp) ?_
    refine AllReadyH.cons rfl (fun K hK => ?_) (AllReadyH.cons rfl (fun K hK => ?_) AllReadyH.nil)
    · skip
      ((refine step_app_row (by rfl) (.tmp 122) (.tmp 127) _ (by rfl) 45 i0 _ 4 48 Try.underlying46 HI0.out.1 HI0.out.2.1 HI0.out.2.2.1 HI0.out.2.2.2 rfl (by omega) (by omega) w7.heap.size _ [] (by rfl) (own_empty 4 (by first | exact at_new _ _ (by first | rfl | simp) | exact at_old _ _ _ (by first | rfl | simp) | (show (World.alloc _ _).heap[_]? = _; first | exact at_new _ _ (by first | rfl | simp) | exact at_old _ _ _ (by first | rfl | simp))) (by first | omega | (simp; done) | (simp; omega))) _ _ ocs (by rfl) (OROW.out.only (Only.of_below (S := fun _ => False) (by repeat (first | exact Below.refl _ _ | exact BB8.out | refine Below.drew ?_ | refine Below.alloc ?_ (by first | omega | (simp; done) | (simp; omega)) _))) (fun _ _ q => q)) OONE.out (by simp; omega) (by first | omega | (simp; done) | (simp; omega)) ?_); intro v8 w8 hown8 ho8 hat8; go_must (have BB8 : Hid (Below w7.heap.size w7 w8) := hide (Below.only (by repeat (first | exact Below.refl _ _ | exact BB8.out | refine Below.drew ?_ | refine Below.alloc ?_ (by first | omega | (simp; done) | (simp; omega)) _)) ho8 (fun k q => (by simp [Value.ownBlock] at q; omega)) (by first | omega | (simp; done) | (simp; omega))); have OW8 := hide hown8; have hz8 := BB8.out.size; (first | (have IB : Hid (Is w8 (w7.heap.size + 1) #[.bool true, .int .i64 n', .int .i64 0, .slice la l.length lcap]) := hide ((Is.drew (Is.made _ _ 45 (by first | rfl | simp))).keep ho8 (fun q => (by simp [Value.ownBlock] at q)))) | (have IB : Hid (Is w8 w7.heap.size #[.bool true, .int .i64 n', .int .i64 0, .slice la l.length lcap]) := hide ((Is.drew ((Is.made _ _ 45 (by first | rfl | simp)).alloc _)).keep ho8 (fun q => (by simp [Value.ownBlock] at q)))) | skip); clear hown8 ho8))
      refine hK.out _ _ ⟨bel_cell (by repeat (first | exact Below.refl _ _ | exact BB8.out | refine Below.drew ?_ | refine Below.alloc ?_ (by first | omega | (simp; done) | (simp; omega)) _)) ct, bel_cell (by repeat (first | exact Below.refl _ _ | exact BB8.out | refine Below.drew ?_ | refine Below.alloc ?_ (by first | omega | (simp; done) | (simp; omega)) _)) x0, bel_cell (by repeat (first | exact Below.refl _ _ | exact BB8.out | refine Below.drew ?_ | refine Below.alloc ?_ (by first | omega | (simp; done) | (simp; omega)) _)) x1, bel_cell (by repeat (first | exact Below.refl _ _ | exact BB8.out | refine Below.drew ?_ | refine Below.alloc ?_ (by first | omega | (simp; done) | (simp; omega)) _)) x2, bel_cell (by repeat (first | exact Below.refl _ _ | exact BB8.out | refine Below.drew ?_ | refine Below.alloc ?_ (by first | omega | (simp; done) | (simp; omega)) _)) x3⟩ (fun HS2 => ?_)
      clear hK K
      try simp only [Act.put, List.getElem_toArray, List.getElem_cons_zero, List.getElem_cons_succ, List.setIfInBounds_toArray, List.set_cons_zero, List.set_cons_succ]
      refine wpAnyH_ready (rs := [10]) (by kernel_rfl) (by simp) ?_
      refine AllReadyH.cons rfl (fun K hK => ?_) AllReadyH.nil
      (simp only [List.getElem_toArray, List.getElem_cons_zero, List.getElem_cons_succ])
      go_simp
      refine hK.out _ _ ⟨bel_cell (by repeat (first | exact Below.refl _ _ | exact BB8.out | refine Below.drew ?_ | refine Below.alloc ?_ (by first | omega | (simp; done) | (simp; omega)) _)) ct, bel_cell (by repeat (first | exact Below.refl _ _ | exact BB8.out | refine Below.drew ?_ | refine Below.alloc ?_ (by first | omega | (simp; done) | (simp; omega)) _)) x0, bel_cell (by repeat (first | exact Below.refl _ _ | exact BB8.out | refine Below.drew ?_ | refine Below.alloc ?_ (by first | omega | (simp; done) | (simp; omega)) _)) x1, bel_cell (by repeat (first | exact Below.refl _ _ | exact BB8.out | refine Below.drew ?_ | refine Below.alloc ?_ (by first | omega | (simp; done) | (simp; omega)) _)) x2, bel_cell (by repeat (first | exact Below.refl _ _ | exact BB8.out | refine Below.drew ?_ | refine Below.alloc ?_ (by first | omega | (simp; done) | (simp; omega)) _)) x3⟩ (fun HS3 => ?_)
      clear hK K
      try simp only [Act.put, List.getElem_toArray, List.getElem_cons_zero, List.getElem_cons_succ, List.setIfInBounds_toArray, List.set_cons_zero, List.set_cons_succ]
      refine wpAnyH_ready (rs := [11]) (by kernel_rfl) (by simp) ?_
      refine AllReadyH.cons rfl (fun K hK => ?_) AllReadyH.nil
      ((refine step_app_row (by rfl) (.tmp 128) (.tmp 130) _ (by rfl) 45 i0 _ 4 48 Try.underlying46 HI0.out.1 HI0.out.2.1 HI0.out.2.2.1 HI0.out.2.2.2 rfl (by omega) (by omega) w7.heap.size v8 ocs (by rfl) (by first | exact OW8.out | exact OW8.out.alloc _) _ _ [[.bool true, .int .i64 n', .int .i64 0, .slice la l.length lcap]] (by rfl) (RowAt.one rfl (by first | exact IB.out | exact Is.made _ _ _ rfl) (by omega) (by unfold maxLen; omega)) (by simp [Value.oneCell']) (by simp; omega) (by first | omega | (simp; done) | (simp; omega)) ?_); intro v9 w9 hown9 ho9 hat9; go_must (obtain ⟨g9, c9, rfl, -, -⟩ := own_snoc_some hown9 rfl; have BB9 : Hid (Below w7.heap.size w7 w9) := hide (Below.only (by repeat (first | exact Below.refl _ _ | exact BB8.out | refine Below.drew ?_ | refine Below.alloc ?_ (by first | omega | (simp; done) | (simp; omega)) _)) ho9 (fun k q => (OW8.out.lt k q).1) (by first | omega | (simp; done) | (simp; omega))); have ST9 := hide (ST7.out.keep BB9.out); have ct9 := bel_cell BB9.out ct; have y0 := bel_cell BB9.out x0; have y1 := bel_cell BB9.out x1; have y2 := bel_cell BB9.out x2; have y3 := bel_cell BB9.out x3; have ft9 := own_frozen (HO7.out.keep (Only.of_below (S := fun _ => False) BB9.out) (fun _ _ q => q)) (m * 3 + 2); obtain ⟨hc9, hg9⟩ := Is.one ST9.out.hi; obtain ⟨hd9, hf9⟩ := Is.one ST9.out.hj; have M := hide (ref_op_end (o := (⟨true, n', 0, l⟩ : OpM)) ST7.out HO7.out ALL7.out HM.out hlg6 HZ6.out HB7.out HI6.out.lt (by exact HWF.out.1) (by exact HWF.out.2) HRM.out BB9.out hown9); clear hown9 ho9 hat9))
      refine hK.out _ _ ⟨ct9, y0, y1, y2, y3⟩ (fun HS4 => ?_)
      clear hK K
      try simp only [Act.put, List.getElem_toArray, List.getElem_cons_zero, List.getElem_cons_succ, List.setIfInBounds_toArray, List.set_cons_zero, List.set_cons_succ]
      refine wpAnyH_take (i := 12) (v := ?_) rfl (by kernel_rfl) (by kernel_rfl) (by kernel_rfl) (fun _ _ _ h => h) (Or.inl ⟨by rfl, ?_⟩) HS4 ?_
      rotate_left
      · intro w' hSw
        try dsimp only at hSw
        simp only [List.getElem_toArray, List.getElem_cons_zero, List.getElem_cons_succ]
        go_simp
        try with_reducible rfl
      try simp only [Act.put, List.getElem_toArray, List.getElem_cons_zero, List.getElem_cons_succ, List.setIfInBounds_toArray, List.set_cons_zero, List.set_cons_succ]
      refine wpAnyH_take (i := 13) (v := ?_) rfl (by kernel_rfl) (by kernel_rfl) (by kernel_rfl) (fun _ _ _ h => h) (Or.inl ⟨by rfl, ?_⟩) HS4 ?_
      rotate_left
      · intro w' hSw
        try dsimp only at hSw
        simp only [List.getElem_toArray, List.getElem_cons_zero, List.getElem_cons_succ]
        go_simp
        try with_reducible rfl
      try simp only [Act.put, List.getElem_toArray, List.getElem_cons_zero, List.getElem_cons_succ, List.setIfInBounds_toArray, List.set_cons_zero, List.set_cons_succ]
      refine wpAnyH_done (by kernel_rfl) ?_ _
      refine Last.done_last ?_
      refine wpOp_step rfl (fun K hK => ?_)
      simp only [List.getElem_toArray, List.getElem_cons_zero, List.getElem_cons_succ]
      go_simp
      refine hK _ _ ?_
      clear hK
      go_simp
      go_wp2
      obtain ⟨k1, k2, k3⟩ := M.out
      refine bodyPost_ret (v := .tuple #[.agg #[.slice (some ⟨lg, 0, none⟩) (m + 1) lc7], .int .i64 ((t' : Int) + 1), .int .i64 0, .int .i64 0]) (by simp [results, Try.results34, go_sem, k3]) rfl ⟨_, by rw [HS.out]; rfl, ?_, k2⟩
      rw [HS.out]
      exact k1.mono (fun b q => q)
    · skip
      (simp only [List.getElem_toArray, List.getElem_cons_zero, List.getElem_cons_succ])
      go_simp
      refine hK.out _ _ ⟨bel_cell (by repeat (first | exact Below.refl _ _ | exact BB8.out | refine Below.drew ?_ | refine Below.alloc ?_ (by first | omega | (simp; done) | (simp; omega)) _)) ct, bel_cell (by repeat (first | exact Below.refl _ _ | exact BB8.out | refine Below.drew ?_ | refine Below.alloc ?_ (by first | omega | (simp; done) | (simp; omega)) _)) x0, bel_cell (by repeat (first | exact Below.refl _ _ | exact BB8.out | refine Below.drew ?_ | refine Below.alloc ?_ (by first | omega | (simp; done) | (simp; omega)) _)) x1, bel_cell (by repeat (first | exact Below.refl _ _ | exact BB8.out | refine Below.drew ?_ | refine Below.alloc ?_ (by first | omega | (simp; done) | (simp; omega)) _)) x2, bel_cell (by repeat (first | exact Below.refl _ _ | exact BB8.out | refine Below.drew ?_ | refine Below.alloc ?_ (by first | omega | (simp; done) | (simp; omega)) _)) x3⟩ (fun HS2 => ?_)
      clear hK K
      try simp only [Act.put, List.getElem_toArray, List.getElem_cons_zero, List.getElem_cons_succ, List.setIfInBounds_toArray, List.set_cons_zero, List.set_cons_succ]
      refine wpAnyH_ready (rs := [8]) (by kernel_rfl) (by simp) ?_
      refine AllReadyH.cons rfl (fun K hK => ?_) AllReadyH.nil
      ((refine step_app_row (by rfl) (.tmp 122) (.tmp 127) _ (by rfl) 45 i0 _ 4 48 Try.underlying46 HI0.out.1 HI0.out.2.1 HI0.out.2.2.1 HI0.out.2.2.2 rfl (by omega) (by omega) w7.heap.size _ [] (by rfl) (own_empty 4 (by first | exact at_new _ _ (by first | rfl | simp) | exact at_old _ _ _ (by first | rfl | simp) | (show (World.alloc _ _).heap[_]? = _; first | exact at_new _ _ (by first | rfl | simp) | exact at_old _ _ _ (by first | rfl | simp))) (by first | omega | (simp; done) | (simp; omega))) _ _ ocs (by rfl) (OROW.out.only (Only.of_below (S := fun _ => False) (by repeat (first | exact Below.refl _ _ | exact BB8.out | refine Below.drew ?_ | refine Below.alloc ?_ (by first | omega | (simp; done) | (simp; omega)) _))) (fun _ _ q => q)) OONE.out (by simp; omega) (by first | omega | (simp; done) | (simp; omega)) ?_); intro v8 w8 hown8 ho8 hat8; go_must (have BB8 : Hid (Below w7.heap.size w7 w8) := hide (Below.only (by repeat (first | exact Below.refl _ _ | exact BB8.out | refine Below.drew ?_ | refine Below.alloc ?_ (by first | omega | (simp; done) | (simp; omega)) _)) ho8 (fun k q => (by simp [Value.ownBlock] at q; omega)) (by first | omega | (simp; done) | (simp; omega))); have OW8 := hide hown8; have hz8 := BB8.out.size; (first | (have IB : Hid (Is w8 (w7.heap.size + 1) #[.bool true, .int .i64 n', .int .i64 0, .slice la l.length lcap]) := hide ((Is.drew (Is.made _ _ 45 (by first | rfl | simp))).keep ho8 (fun q => (by simp [Value.ownBlock] at q)))) | (have IB : Hid (Is w8 w7.heap.size #[.bool true, .int .i64 n', .int .i64 0, .slice la l.length lcap]) := hide ((Is.drew ((Is.made _ _ 45 (by first | rfl | simp)).alloc _)).keep ho8 (fun q => (by simp [Value.ownBlock] at q)))) | skip); clear hown8 ho8))
      refine hK.out _ _ ⟨bel_cell (by repeat (first | exact Below.refl _ _ | exact BB8.out | refine Below.drew ?_ | refine Below.alloc ?_ (by first | omega | (simp; done) | (simp; omega)) _)) ct, bel_cell (by repeat (first | exact Below.refl _ _ | exact BB8.out | refine Below.drew ?_ | refine Below.alloc ?_ (by first | omega | (simp; done) | (simp; omega)) _)) x0, bel_cell (by repeat (first | exact Below.refl _ _ | exact BB8.out | refine Below.drew ?_ | refine Below.alloc ?_ (by first | omega | (simp; done) | (simp; omega)) _)) x1, bel_cell (by repeat (first | exact Below.refl _ _ | exact BB8.out | refine Below.drew ?_ | refine Below.alloc ?_ (by first | omega | (simp; done) | (simp; omega)) _)) x2, bel_cell (by repeat (first | exact Below.refl _ _ | exact BB8.out | refine Below.drew ?_ | refine Below.alloc ?_ (by first | omega | (simp; done) | (simp; omega)) _)) x3⟩ (fun HS3 => ?_)
      clear hK K
      try simp only [Act.put, List.getElem_toArray, List.getElem_cons_zero, List.getElem_cons_succ, List.setIfInBounds_toArray, List.set_cons_zero, List.set_cons_succ]
      refine wpAnyH_ready (rs := [11]) (by kernel_rfl) (by simp) ?_
      refine AllReadyH.cons rfl (fun K hK => ?_) AllReadyH.nil
      ((refine step_app_row (by rfl) (.tmp 128) (.tmp 130) _ (by rfl) 45 i0 _ 4 48 Try.underlying46 HI0.out.1 HI0.out.2.1 HI0.out.2.2.1 HI0.out.2.2.2 rfl (by omega) (by omega) w7.heap.size v8 ocs (by rfl) (by first | exact OW8.out | exact OW8.out.alloc _) _ _ [[.bool true, .int .i64 n', .int .i64 0, .slice la l.length lcap]] (by rfl) (RowAt.one rfl (by first | exact IB.out | exact Is.made _ _ _ rfl) (by omega) (by unfold maxLen; omega)) (by simp [Value.oneCell']) (by simp; omega) (by first | omega | (simp; done) | (simp; omega)) ?_); intro v9 w9 hown9 ho9 hat9; go_must (obtain ⟨g9, c9, rfl, -, -⟩ := own_snoc_some hown9 rfl; have BB9 : Hid (Below w7.heap.size w7 w9) := hide (Below.only (by repeat (first | exact Below.refl _ _ | exact BB8.out | refine Below.drew ?_ | refine Below.alloc ?_ (by first | omega | (simp; done) | (simp; omega)) _)) ho9 (fun k q => (OW8.out.lt k q).1) (by first | omega | (simp; done) | (simp; omega))); have ST9 := hide (ST7.out.keep BB9.out); have ct9 := bel_cell BB9.out ct; have y0 := bel_cell BB9.out x0; have y1 := bel_cell BB9.out x1; have y2 := bel_cell BB9.out x2; have y3 := bel_cell BB9.out x3; have ft9 := own_frozen (HO7.out.keep (Only.of_below (S := fun _ => False) BB9.out) (fun _ _ q => q)) (m * 3 + 2); obtain ⟨hc9, hg9⟩ := Is.one ST9.out.hi; obtain ⟨hd9, hf9⟩ := Is.one ST9.out.hj; have M := hide (ref_op_end (o := (⟨true, n', 0, l⟩ : OpM)) ST7.out HO7.out ALL7.out HM.out hlg6 HZ6.out HB7.out HI6.out.lt (by exact HWF.out.1) (by exact HWF.out.2) HRM.out BB9.out hown9); clear hown9 ho9 hat9))
      refine hK.out _ _ ⟨ct9, y0, y1, y2, y3⟩ (fun HS4 => ?_)
      clear hK K
      try simp only [Act.put, List.getElem_toArray, List.getElem_cons_zero, List.getElem_cons_succ, List.setIfInBounds_toArray, List.set_cons_zero, List.set_cons_succ]
      refine wpAnyH_take (i := 12) (v := ?_) rfl (by kernel_rfl) (by kernel_rfl) (by kernel_rfl) (fun _ _ _ h => h) (Or.inl ⟨by rfl, ?_⟩) HS4 ?_
      rotate_left
      · intro w' hSw
        try dsimp only at hSw
        simp only [List.getElem_toArray, List.getElem_cons_zero, List.getElem_cons_succ]
        go_simp
        try with_reducible rfl
      try simp only [Act.put, List.getElem_toArray, List.getElem_cons_zero, List.getElem_cons_succ, List.setIfInBounds_toArray, List.set_cons_zero, List.set_cons_succ]
      refine wpAnyH_take (i := 13) (v := ?_) rfl (by kernel_rfl) (by kernel_rfl) (by kernel_rfl) (fun _ _ _ h => h) (Or.inl ⟨by rfl, ?_⟩) HS4 ?_
      rotate_left
      · intro w' hSw
        try dsimp only at hSw
        simp only [List.getElem_toArray, List.getElem_cons_zero, List.getElem_cons_succ]
        go_simp
        try with_reducible rfl
      try simp only [Act.put, List.getElem_toArray, List.getElem_cons_zero, List.getElem_cons_succ, List.setIfInBounds_toArray, List.set_cons_zero, List.set_cons_succ]
      refine wpAnyH_done (by kernel_rfl) ?_ _
      refine Last.done_last ?_
      refine wpOp_step rfl (fun K hK => ?_)
      simp only [List.getElem_toArray, List.getElem_cons_zero, List.getElem_cons_succ]
      go_simp
      refine hK _ _ ?_
      clear hK
      go_simp
      go_wp2
      obtain ⟨k1, k2, k3⟩ := M.out
      refine bodyPost_ret (v := .tuple #[.agg #[.slice (some ⟨lg, 0, none⟩) (m + 1) lc7], .int .i64 ((t' : Int) + 1), .int .i64 0, .int .i64 0]) (by simp [results, Try.results34, go_sem, k3]) rfl ⟨_, by rw [HS.out]; rfl, ?_, k2⟩
      rw [HS.out]
      exact k1.mono (fun b q => q)
  · skip
    (simp only [List.getElem_toArray, List.getElem_cons_zero, List.getElem_cons_succ])
    go_simp
    refine hK.out _ _ ⟨bel_cell (by repeat (first | exact Below.refl _ _ | exact BB8.out | refine Below.drew ?_ | refine Below.alloc ?_ (by first | omega | (simp; done) | (simp; omega)) _)) ct, bel_cell (by repeat (first | exact Below.refl _ _ | exact BB8.out | refine Below.drew ?_ | refine Below.alloc ?_ (by first | omega | (simp; done) | (simp; omega)) _)) x0, bel_cell (by repeat (first | exact Below.refl _ _ | exact BB8.out | refine Below.drew ?_ | refine Below.alloc ?_ (by first | omega | (simp; done) | (simp; omega)) _)) x1, bel_cell (by repeat (first | exact Below.refl _ _ | exact BB8.out | refine Below.drew ?_ | refine Below.alloc ?_ (by first | omega | (simp; done) | (simp; omega)) _)) x2, bel_cell (by repeat (first | exact Below.refl _ _ | exact BB8.out | refine Below.drew ?_ | refine Below.alloc ?_ (by first | omega | (simp; done) | (simp; omega)) _)) x3⟩ (fun HS1 => ?_)
    clear hK K
    try simp only [Act.put, List.getElem_toArray, List.getElem_cons_zero, List.getElem_cons_succ, List.setIfInBounds_toArray, List.set_cons_zero, List.set_cons_succ]
    refine wpAnyH_ready (rs := [2]) (by kernel_rfl) (by simp) ?_
    refine AllReadyH.cons rfl (fun K hK => ?_) AllReadyH.nil
    (simp only [List.getElem_toArray, List.getElem_cons_zero, List.getElem_cons_succ])
    go_simp
    refine hK.out _ _ ⟨bel_cell (by repeat (first | exact Below.refl _ _ | exact BB8.out | refine Below.drew ?_ | refine Below.alloc ?_ (by first | omega | (simp; done) | (simp; omega)) _)) ct, bel_cell (by repeat (first | exact Below.refl _ _ | exact BB8.out | refine Below.drew ?_ | refine Below.alloc ?_ (by first | omega | (simp; done) | (simp; omega)) _)) x0, bel_cell (by repeat (first | exact Below.refl _ _ | exact BB8.out | refine Below.drew ?_ | refine Below.alloc ?_ (by first | omega | (simp; done) | (simp; omega)) _)) x1, bel_cell (by repeat (first | exact Below.refl _ _ | exact BB8.out | refine Below.drew ?_ | refine Below.alloc ?_ (by first | omega | (simp; done) | (simp; omega)) _)) x2, bel_cell (by repeat (first | exact Below.refl _ _ | exact BB8.out | refine Below.drew ?_ | refine Below.alloc ?_ (by first | omega | (simp; done) | (simp; omega)) _)) x3⟩ (fun HS2 => ?_)
    clear hK K
    try simp only [Act.put, List.getElem_toArray, List.getElem_cons_zero, List.getElem_cons_succ, List.setIfInBounds_toArray, List.set_cons_zero, List.set_cons_succ]
    refine wpAnyH_ready (rs := [8]) (by kernel_rfl) (by simp) ?_
    refine AllReadyH.cons rfl (fun K hK => ?_) AllReadyH.nil
    ((refine step_app_row (by rfl) (.tmp 122) (.tmp 127) _ (by rfl) 45 i0 _ 4 48 Try.underlying46 HI0.out.1 HI0.out.2.1 HI0.out.2.2.1 HI0.out.2.2.2 rfl (by omega) (by omega) w7.heap.size _ [] (by rfl) (own_empty 4 (by first | exact at_new _ _ (by first | rfl | simp) | exact at_old _ _ _ (by first | rfl | simp) | (show (World.alloc _ _).heap[_]? = _; first | exact at_new _ _ (by first | rfl | simp) | exact at_old _ _ _ (by first | rfl | simp))) (by first | omega | (simp; done) | (simp; omega))) _ _ ocs (by rfl) (OROW.out.only (Only.of_below (S := fun _ => False) (by repeat (first | exact Below.refl _ _ | exact BB8.out | refine Below.drew ?_ | refine Below.alloc ?_ (by first | omega | (simp; done) | (simp; omega)) _))) (fun _ _ q => q)) OONE.out (by simp; omega) (by first | omega | (simp; done) | (simp; omega)) ?_); intro v8 w8 hown8 ho8 hat8; go_must (have BB8 : Hid (Below w7.heap.size w7 w8) := hide (Below.only (by repeat (first | exact Below.refl _ _ | exact BB8.out | refine Below.drew ?_ | refine Below.alloc ?_ (by first | omega | (simp; done) | (simp; omega)) _)) ho8 (fun k q => (by simp [Value.ownBlock] at q; omega)) (by first | omega | (simp; done) | (simp; omega))); have OW8 := hide hown8; have hz8 := BB8.out.size; (first | (have IB : Hid (Is w8 (w7.heap.size + 1) #[.bool true, .int .i64 n', .int .i64 0, .slice la l.length lcap]) := hide ((Is.drew (Is.made _ _ 45 (by first | rfl | simp))).keep ho8 (fun q => (by simp [Value.ownBlock] at q)))) | (have IB : Hid (Is w8 w7.heap.size #[.bool true, .int .i64 n', .int .i64 0, .slice la l.length lcap]) := hide ((Is.drew ((Is.made _ _ 45 (by first | rfl | simp)).alloc _)).keep ho8 (fun q => (by simp [Value.ownBlock] at q)))) | skip); clear hown8 ho8))
    refine hK.out _ _ ⟨bel_cell (by repeat (first | exact Below.refl _ _ | exact BB8.out | refine Below.drew ?_ | refine Below.alloc ?_ (by first | omega | (simp; done) | (simp; omega)) _)) ct, bel_cell (by repeat (first | exact Below.refl _ _ | exact BB8.out | refine Below.drew ?_ | refine Below.alloc ?_ (by first | omega | (simp; done) | (simp; omega)) _)) x0, bel_cell (by repeat (first | exact Below.refl _ _ | exact BB8.out | refine Below.drew ?_ | refine Below.alloc ?_ (by first | omega | (simp; done) | (simp; omega)) _)) x1, bel_cell (by repeat (first | exact Below.refl _ _ | exact BB8.out | refine Below.drew ?_ | refine Below.alloc ?_ (by first | omega | (simp; done) | (simp; omega)) _)) x2, bel_cell (by repeat (first | exact Below.refl _ _ | exact BB8.out | refine Below.drew ?_ | refine Below.alloc ?_ (by first | omega | (simp; done) | (simp; omega)) _)) x3⟩ (fun HS3 => ?_)
    clear hK K
    try simp only [Act.put, List.getElem_toArray, List.getElem_cons_zero, List.getElem_cons_succ, List.setIfInBounds_toArray, List.set_cons_zero, List.set_cons_succ]
    refine wpAnyH_ready (rs := [11]) (by kernel_rfl) (by simp) ?_
    refine AllReadyH.cons rfl (fun K hK => ?_) AllReadyH.nil
    ((refine step_app_row (by rfl) (.tmp 128) (.tmp 130) _ (by rfl) 45 i0 _ 4 48 Try.underlying46 HI0.out.1 HI0.out.2.1 HI0.out.2.2.1 HI0.out.2.2.2 rfl (by omega) (by omega) w7.heap.size v8 ocs (by rfl) (by first | exact OW8.out | exact OW8.out.alloc _) _ _ [[.bool true, .int .i64 n', .int .i64 0, .slice la l.length lcap]] (by rfl) (RowAt.one rfl (by first | exact IB.out | exact Is.made _ _ _ rfl) (by omega) (by unfold maxLen; omega)) (by simp [Value.oneCell']) (by simp; omega) (by first | omega | (simp; done) | (simp; omega)) ?_); intro v9 w9 hown9 ho9 hat9; go_must (obtain ⟨g9, c9, rfl, -, -⟩ := own_snoc_some hown9 rfl; have BB9 : Hid (Below w7.heap.size w7 w9) := hide (Below.only (by repeat (first | exact Below.refl _ _ | exact BB8.out | refine Below.drew ?_ | refine Below.alloc ?_ (by first | omega | (simp; done) | (simp; omega)) _)) ho9 (fun k q => (OW8.out.lt k q).1) (by first | omega | (simp; done) | (simp; omega))); have ST9 := hide (ST7.out.keep BB9.out); have ct9 := bel_cell BB9.out ct; have y0 := bel_cell BB9.out x0; have y1 := bel_cell BB9.out x1; have y2 := bel_cell BB9.out x2; have y3 := bel_cell BB9.out x3; have ft9 := own_frozen (HO7.out.keep (Only.of_below (S := fun _ => False) BB9.out) (fun _ _ q => q)) (m * 3 + 2); obtain ⟨hc9, hg9⟩ := Is.one ST9.out.hi; obtain ⟨hd9, hf9⟩ := Is.one ST9.out.hj; have M := hide (ref_op_end (o := (⟨true, n', 0, l⟩ : OpM)) ST7.out HO7.out ALL7.out HM.out hlg6 HZ6.out HB7.out HI6.out.lt (by exact HWF.out.1) (by exact HWF.out.2) HRM.out BB9.out hown9); clear hown9 ho9 hat9))
    refine hK.out _ _ ⟨ct9, y0, y1, y2, y3⟩ (fun HS4 => ?_)
    clear hK K
    try simp only [Act.put, List.getElem_toArray, List.getElem_cons_zero, List.getElem_cons_succ, List.setIfInBounds_toArray, List.set_cons_zero, List.set_cons_succ]
    refine wpAnyH_take (i := 12) (v := ?_) rfl (by kernel_rfl) (by kernel_rfl) (by kernel_rfl) (fun _ _ _ h => h) (Or.inl ⟨by rfl, ?_⟩) HS4 ?_
    rotate_left
    · intro w' hSw
      try dsimp only at hSw
      simp only [List.getElem_toArray, List.getElem_cons_zero, List.getElem_cons_succ]
      go_simp
      try with_reducible rfl
    try simp only [Act.put, List.getElem_toArray, List.getElem_cons_zero, List.getElem_cons_succ, List.setIfInBounds_toArray, List.set_cons_zero, List.set_cons_succ]
    refine wpAnyH_take (i := 13) (v := ?_) rfl (by kernel_rfl) (by kernel_rfl) (by kernel_rfl) (fun _ _ _ h => h) (Or.inl ⟨by rfl, ?_⟩) HS4 ?_
    rotate_left
    · intro w' hSw
      try dsimp only at hSw
      simp only [List.getElem_toArray, List.getElem_cons_zero, List.getElem_cons_succ]
      go_simp
      try with_reducible rfl
    try simp only [Act.put, List.getElem_toArray, List.getElem_cons_zero, List.getElem_cons_succ, List.setIfInBounds_toArray, List.set_cons_zero, List.set_cons_succ]
    refine wpAnyH_done (by kernel_rfl) ?_ _
    refine Last.done_last ?_
    refine wpOp_step rfl (fun K hK => ?_)
    simp only [List.getElem_toArray, List.getElem_cons_zero, List.getElem_cons_succ]
    go_simp
    refine hK _ _ ?_
    clear hK
    go_simp
    go_wp2
    obtain ⟨k1, k2, k3⟩ := M.out
    refine bodyPost_ret (v := .tuple #[.agg #[.slice (some ⟨lg, 0, none⟩) (m + 1) lc7], .int .i64 ((t' : Int) + 1), .int .i64 0, .int .i64 0]) (by simp [results, Try.results34, go_sem, k3]) rfl ⟨_, by rw [HS.out]; rfl, ?_, k2⟩
    rw [HS.out]
    exact k1.mono (fun b q => q)
end Go.Proofs.Ytigmgkcojifbcaa.Hist
