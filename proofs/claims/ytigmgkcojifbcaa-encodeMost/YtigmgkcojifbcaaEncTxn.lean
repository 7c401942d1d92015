/- The contract of met.txn. -/
import Derived.Test.YtigmgkcojifbcaaEncOp
namespace Go.Proofs.Ytigmgkcojifbcaa.Hist
open Go.RowKit Go.Proofs.Ytigmgkcojifbcaa.Dig Go.Proofs.Ytigmgkcojifbcaa.Mem Go.Proofs.Ytigmgkcojifbcaa.Keys
set_option linter.unusedVariables false
set_option linter.unusedSimpArgs false

theorem twinB_snoc (pre : List TxnM) (t : TxnM) (y : Int) : twinB (pre ++ [t]) y = (twinB pre y || t.id == y) := by simp [twinB]
theorem appB_snoc_nil (pre : List TxnM) (id : Int) (ab : Bool) (k v : Int) : appB (pre ++ [⟨id, ab, []⟩]) k v = appB pre k v := by simp [appB]
def OpsFew' (os : List OpM) : Prop := os.length ≤ 100000 ∧ ∀ o ∈ os, o.list.length ≤ 1000000
theorem OpsFew'.at {os : List OpM} (h : OpsFew' os) {j : Nat} (hj : j < os.length) : os[j].list.length ≤ 1000000 := h.2 _ (List.getElem_mem hj)
/-- The sets, and the box that names them, behind the transactions pre and so many operations. -/
structure MetS (w : World) (bi bv mb ni nv : Nat) (pre : List TxnM) (wr : World) : Prop where
  only : Only (fun k => k = bi ∨ k = bv) w wr
  ids : Ids wr bi ni (fun y => twinB pre y)
  vals : EVals wr bv nv (fun p => appB pre p.1 p.2)
  box : Is wr mb #[.map (some bi), .map (some bv)]
def TxRel (w : World) (bi bv ni nv : Nat) (pre : List TxnM) (t : TxnM) (i : Value) (wr : World) : Prop :=
  ∃ j : Nat, j ≤ t.ops.length ∧ i = .int .i64 (j : Int) ∧ Hid (chkOs (pre ++ [⟨t.id, t.ab, []⟩]) (t.ops.take j) = 0) ∧ Hid (MetS w bi bv w.heap.size (ni + 1) (nv + j) (pre ++ [⟨t.id, t.ab, t.ops.take j⟩]) wr)
theorem MetS.next {w wr w7 : World} {bi bv mb ni nv : Nat} {pre : List TxnM} {id : Int} {ab : Bool} {os : List OpM} {o : OpM} {T : TypeId} {C : Array Value} (h : MetS w bi bv mb ni nv (pre ++ [⟨id, ab, os⟩]) wr) (hne : bi ≠ bv) (hmb : mb ≠ bv)
    (ho : Only (fun k => k = bv) (wr.alloc (.cells C T)) w7) (hv : EVals w7 bv (nv + 1) (addP (fun p => appB (pre ++ [⟨id, ab, os⟩]) p.1 p.2) o)) : MetS w bi bv mb ni (nv + 1) (pre ++ [⟨id, ab, os ++ [o]⟩]) w7 := by
  have h1 : Only (fun k => k = bv) wr w7 := (Only.of_below (S := fun k => k = bv) ((Below.refl _ _).alloc (Nat.le_refl _) (.cells C T))).trans ho
  exact ⟨h.only.trans (h1.mono fun _ q => .inr q), (SetAt.keep h.ids h1 hne).congr (fun y => by simp [twinB]), SetAt.congr hv (fun p => (addP_eq pre id ab os o p).symm), h.box.keep h1 hmb⟩
theorem MetS.world {w wr : World} {bi bv mb ni nv : Nat} {pre : List TxnM} (h : MetS w bi bv mb ni nv pre wr) : Only (fun k => k = bi ∨ k = bv) w wr := h.only
theorem only_three {S : Nat → Prop} {w : World} (c d e : Array Value) (T U V : TypeId) : Only S w (((w.alloc (.cells c T)).alloc (.cells d U)).alloc (.cells e V)) := (((Only.refl S w).alloc _).alloc _).alloc _
set_option maxRecDepth 20000 in
set_option maxHeartbeats 1000000 in
theorem mettxn_any (F : Nat → Prop) (t : TxnM) (ov : Value) (bi bv ni nv : Nat) (pre : List TxnM) (w : World) (hi : Ids w bi ni (fun y => twinB pre y)) (hv : EVals w bv nv (fun p => appB pre p.1 p.2)) (hne : bi ≠ bv) (h : OpsAt F w ov t.ops) (hF : ∀ b, F b → b ≠ bi ∧ b ≠ bv)
    (hf : OpsFew' t.ops) (hid : (Lit.int .i64 t.id).wf = true) (hni : ni < 100000) (hnv : nv + t.ops.length < 1000000) :
    Calls Try.prog 24 #[.agg #[.map (some bi), .map (some bv)], .agg #[.int .i64 t.id, .bool t.ab, ov]] w fun e w' => e = .returned (.int .i64 (chkT pre t)) ∧ Only (fun k => k = bi ∨ k = bv) w w' ∧
      (chkT pre t = 0 → Ids w' bi (ni + 1) (fun y => twinB (pre ++ [t]) y) ∧ EVals w' bv (nv + t.ops.length) (fun p => appB (pre ++ [t]) p.1 p.2)) := by
  obtain ⟨a, c, rfl, _, _⟩ := h.shape
  have H := hide h
  have VI := hide hi
  have VV := hide hv
  have W1 := hide hid
  have FF := hide hF
  have FW := hide hf
  have hlen := hf.1
  have hbi := SetAt.lt hi
  have hbv := SetAt.lt hv
  clear h hi hv hid hF hf
  obtain ⟨b1, hb1⟩ : ∃ b, mayB t.id = b := ⟨_, rfl⟩
  have B1 := hide hb1
  cases b1 with
  | false =>
    have T : Hid (chkT pre t = 2) := hide (by unfold chkT; rw [if_pos hb1])
    clear hb1
    go_enter Try.func24, Try.ntmps24
    go_wp2_with (first | (go_at_call 41; (with_reducible refine (maybe1 t.id _ _ (Is.made _ _ _ (by first | rfl | simp)) W1.out B1).mono ?_); rintro e w1 ⟨rfl, hq⟩; replace hq := hq.symm; subst hq))
    go_ret
    exact ⟨by rw [T.out]; rfl, only_three _ _ _ _ _ _, fun q => by rw [T.out] at q; cases q⟩
  | true =>
  obtain ⟨b2, hb2⟩ : ∃ b, twinB pre t.id = b := ⟨_, rfl⟩
  have B2 := hide hb2
  have HO3 := fun (C D : Array Value) => only_three (S := fun _ => False) (w := w) C D #[.int .i64 t.id] 59 48 3
  cases b2 with
  | true =>
    have T : Hid (chkT pre t = 5) := hide (by unfold chkT; rw [if_neg (by simp [hb1]), if_pos hb2])
    clear hb1 hb2
    have L1 := Ids.look (SetAt.keep VI.out (HO3 #[.map (some bi), .map (some bv)] #[.int .i64 t.id, .bool t.ab, .slice a t.ops.length c]) (fun q => q)) W1.out
    rw [B2.out] at L1
    clear HO3
    go_enter Try.func24, Try.ntmps24
    go_wp2_with (first | (go_at_call 41; (with_reducible refine (maybe1 t.id _ _ (Is.made _ _ _ (by first | rfl | simp)) W1.out B1).mono ?_); rintro e w1 ⟨rfl, hq⟩; replace hq := hq.symm; subst hq))
    go_ret
    exact ⟨by rw [T.out]; rfl, (only_three _ _ _ _ _ _).alloc _, fun q => by rw [T.out] at q; cases q⟩
  | false =>
    have T : Hid (chkT pre t = chkOs (pre ++ [⟨t.id, t.ab, []⟩]) t.ops) := hide (by unfold chkT; rw [if_neg (by simp [hb1]), if_neg (by simp [hb2])])
    clear hb1 hb2
    have L1 := Ids.look (SetAt.keep VI.out (HO3 #[.map (some bi), .map (some bv)] #[.int .i64 t.id, .bool t.ab, .slice a t.ops.length c]) (fun q => q)) W1.out
    rw [B2.out] at L1
    have ho5 := (HO3 #[.map (some bi), .map (some bv)] #[.int .i64 t.id, .bool t.ab, .slice a t.ops.length c]).alloc (.cells #[] 83)
    obtain ⟨w6, hput, hi6, ho6⟩ := Ids.store (SetAt.keep VI.out ho5 (fun q => q)) W1.out (show ni < 1000000 by omega)
    have x1 : Is w6 w.heap.size #[.map (some bi), .map (some bv)] := (((Is.made w #[.map (some bi), .map (some bv)] 59 rfl).alloc _).alloc _).alloc (.cells #[] 83) |>.keep ho6 (by omega)
    have x2 : Is w6 (w.heap.size + 1) #[.int .i64 t.id, .bool t.ab, .slice a t.ops.length c] := (((Is.made (w.alloc (.cells #[.map (some bi), .map (some bv)] 59)) #[.int .i64 t.id, .bool t.ab, .slice a t.ops.length c] 48 (by simp)).alloc _).alloc (.cells #[] 83)).keep ho6 (by omega)
    have d2 : w6.cell? ⟨w.heap.size + 1, 2, none⟩ = some (.slice a t.ops.length c) := x2.cell 2 rfl
    have hz6 := x2.lt
    have M6 : Hid (MetS w bi bv w.heap.size (ni + 1) (nv + 0) (pre ++ [⟨t.id, t.ab, t.ops.take 0⟩]) w6) := hide ⟨(ho5.mono fun _ q => q.elim).trans (ho6.mono fun _ q => .inl q), SetAt.congr hi6 (fun y => by simp [twinB]), ((SetAt.keep VV.out ho5 (fun q => q)).keep ho6 (Ne.symm hne)).congr (fun p => by simp [appB]), x1⟩
    clear HO3 hi6 ho6 ho5 x1 x2
    go_enter Try.func24, Try.ntmps24
    go_wp2_with (first | (go_at_call 41; (with_reducible refine (maybe1 t.id _ _ (Is.made _ _ _ (by first | rfl | simp)) W1.out B1).mono ?_); rintro e w1 ⟨rfl, hq⟩; replace hq := hq.symm; subst hq))
    go_loopw [32] (fun i wr => TxRel w bi bv ni nv pre t i wr) (fun i _ => t.ops.length - (intOf i).toNat)
    case atStart => exact ⟨0, by omega, rfl, hide rfl, M6⟩
    case round =>
      obtain ⟨j, hj, rfl, hc0, hM⟩ := hrel
      by_cases hlt : j < t.ops.length
      · have hol := FW.out.at hlt
        have HR := hide (H.out.only hM.out.only (fun b q => by have := FF.out b q; omega))
        obtain ⟨b1, o1, l1, q1, rfl, hf1, hb1, c0, c1, c2, c3, hi1, wk, wv⟩ := HR.out.at hlt
        have HI := hide (hi1.keep ((Below.refl wr.heap.size wr).alloc (Nat.le_refl _) (.cells #[.bool t.ops[j].read, .int .i64 t.ops[j].key, .int .i64 t.ops[j].value, .slice l1 t.ops[j].list.length q1] 45)))
        have HV := hide (EVals.keep hM.out.vals (Only.of_below (S := fun _ => False) ((Below.refl wr.heap.size wr).alloc (Nat.le_refl _) (.cells #[.bool t.ops[j].read, .int .i64 t.ops[j].key, .int .i64 t.ops[j].value, .slice l1 t.ops[j].list.length q1] 45))) (fun q => q))
        have m0 : wr.cell? ⟨w.heap.size, 0, none⟩ = some (.map (some bi)) := hM.out.box.cell 0 rfl
        have m1 : wr.cell? ⟨w.heap.size, 1, none⟩ = some (.map (some bv)) := hM.out.box.cell 1 rfl
        have hz : w.heap.size < wr.heap.size := hM.out.box.lt
        have hnj : nv + j < 1000000 := by omega
        have hmb : w.heap.size ≠ bv := by omega
        have WK := hide wk
        have WV := hide wv
        clear hi1 wk wv
        have HT : Hid (chkOs (pre ++ [⟨t.id, t.ab, []⟩]) (t.ops.take (j + 1)) = chkO (pre ++ [⟨t.id, t.ab, t.ops.take j⟩]) t.ops[j]) := hide (chkOs_next hlt hc0.out)
        obtain ⟨e, he⟩ : ∃ e, chkO (pre ++ [⟨t.id, t.ab, t.ops.take j⟩]) t.ops[j] = e := ⟨_, rfl⟩
        have HE := hide he
        by_cases e0 : e = 0
        · subst e0
          clear he
          go_wp2_with (first | (go_at_call 42; go_must ((with_reducible refine (metop_any F t.ops[j] _ bi bv (nv + j) _ _ HV.out HI.out hol WK.out WV.out hnj).mono ?_); rw [chkP_eq, HE.out]; rintro e' w7 ⟨rfl, ho7, hv7⟩; have M7 := MetS.next hM.out hne hmb ho7 (hv7 rfl); replace M7 := hide M7; clear ho7 hv7)))
          go_roundw
          case rel => exact ⟨j + 1, by omega, by go_num, hide (HT.out.trans HE.out), by rw [List.take_succ_eq_append_getElem hlt]; exact M7⟩
          case measure => simp [intOf]; omega
        · have e1 : (e != 0) = true := by simpa using e0
          have TE : Hid (chkT pre t = e) := hide (by rw [T.out]; exact chkOs_stop (HT.out.trans he) e0)
          have HN0 := hide e0
          clear he e0
          go_wp2_with (first | (go_at_call 42; go_must ((with_reducible refine (metop_any F t.ops[j] _ bi bv (nv + j) _ _ HV.out HI.out hol WK.out WV.out hnj).mono ?_); rw [chkP_eq, HE.out]; rintro e' w7 ⟨rfl, ho7, hv7⟩; have O7 := hide (hM.out.only.trans ((((Only.refl (fun _ => False) wr).alloc _).mono (fun _ q => q.elim)).trans (ho7.mono fun _ q => .inr q))); clear ho7 hv7)))
          go_ret
          exact ⟨by rw [TE.out]; rfl, O7.out, fun q => by rw [TE.out] at q; exact absurd q HN0.out⟩
      · have e : j = t.ops.length := by omega
        subst e
        have TE : Hid (chkT pre t = 0) := hide (by rw [T.out]; have := hc0.out; rwa [List.take_length] at this)
        have M8 := hM.out
        rw [List.take_length] at M8
        have HM8 := hide M8
        clear M8
        go_wp2
        go_ret
        exact ⟨by rw [TE.out]; rfl, HM8.out.only, fun _ => ⟨HM8.out.ids, HM8.out.vals⟩⟩
end Go.Proofs.Ytigmgkcojifbcaa.Hist
