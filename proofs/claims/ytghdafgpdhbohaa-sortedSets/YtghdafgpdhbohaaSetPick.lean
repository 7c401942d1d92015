/- The document's Pick: of the set of two rows what is so in the one and the other. -/
import Derived.Test.YtghdafgpdhbohaaSetRef
import Derived.BigQuiet
namespace Go.Proofs.Ytghdafgpdhbohaa.Sets
open Go.RowKit Go.Proofs.Ytghdafgpdhbohaa.Dig Go.Proofs.Ytghdafgpdhbohaa.Mem
set_option linter.unusedVariables false
set_option linter.unusedSimpArgs false

def pickP (one both other : Bool) (a b : List Int) (x : Int) : Bool := (decide (x ∈ a) && decide (x ∈ b) && both) || (decide (x ∈ a) && !decide (x ∈ b) && one) || (!decide (x ∈ a) && decide (x ∈ b) && other)
def pickL (one both other : Bool) (a b : List Int) : List Int := (setL ltI (a ++ b)).filter (pickP one both other a b)
/-- append of a row that is read. -/
theorem app_rowv {w w0 : World} {ops : Array Oper} {rest : List Oper} {o : Oper} {a : Act} {Q : Exit → Act → World → Prop} (hgd : o.guard = none) (s x : Operand)
    (ho : o.op = .call { callee := .builtin .append, args := #[s, x], argTypes := #[22, 22] }) (base : Nat) (v : Value) (l : List Int) (hs : a.eval s = v) (hown : Dig.Own 3 .i64 base w v l)
    (ao : Option Addr) (c m : Nat) (r : List Int) (hx : a.eval x = .slice ao m c) (hm : m = r.length) (hr : RowV w ao c r) (hb : l.length + r.length ≤ 1000000) (hbase : base ≤ w.heap.size) (hbel : Below base w0 w)
    (h : ∀ v' w', Dig.Own 3 .i64 base w' v' (l ++ r) → Below base w0 w' → w.heap.size ≤ w'.heap.size → wpList Try.prog ops Q rest (a.put o.dst v') w') : wpList Try.prog ops Q (o :: rest) a w := by
  obtain ⟨i0, hi, hz0, hz1, hz2⟩ := info_parts Try.infoSetInt
  subst hm
  refine app_slice hgd s x 22 ho 3 i0 (.int .i64 0) 8 Try.underlying22 hi hz0 hz1 hz2 rfl (by decide) .i64 base v l hs hown ao r.length c r hx rfl hr.rd (fun e => ⟨?_, hr.nil e⟩) (by omega) hbase base (Nat.le_refl _) hbel h
  cases r with
  | nil => rfl
  | cons y r => obtain ⟨b, off, e', _⟩ := hr.at (i := 0) (by simp); rw [e] at e'; cases e'
def PickR (w : World) (S : List Int) (p : Int → Bool) (ov kv : Value) (wr : World) : Prop :=
  ∃ (k : Nat), k ≤ S.length ∧ kv = .int .i64 (k : Int) ∧ Hid (wr.ownsRow w.heap.size 3 1 ov ((S.take k).filter p).length (((S.take k).filter p).map (Value.int .i64))) ∧ Hid (Below w.heap.size w wr)
theorem take_hit {S : List Int} {p : Int → Bool} {k : Nat} (h : k < S.length) (hp : p (S.getD k 0) = true) : (S.take (k + 1)).filter p = (S.take k).filter p ++ [S.getD k 0] := by
  rw [List.take_add_one, List.getElem?_eq_getElem h, List.filter_append]
  rw [List.getD_eq_getElem?_getD, List.getElem?_eq_getElem h] at hp ⊢
  simp at hp
  simp [hp]
theorem take_miss {S : List Int} {p : Int → Bool} {k : Nat} (h : k < S.length) (hp : p (S.getD k 0) = false) : (S.take (k + 1)).filter p = (S.take k).filter p := by
  rw [List.take_add_one, List.getElem?_eq_getElem h, List.filter_append]
  rw [List.getD_eq_getElem?_getD, List.getElem?_eq_getElem h] at hp
  simp at hp
  simp [hp]
set_option maxHeartbeats 400000 in
set_option maxRecDepth 20000 in
theorem pick_all (a b : Option Addr) (c d : Nat) (la lb : List Int) (w : World) (ha : RowV w a c la) (hb : RowV w b d lb) (hla : la.length ≤ 400) (hlb : lb.length ≤ 400) :
    Calls Try.prog 16 #[.slice a la.length c, .slice b lb.length d, .bool true, .bool true, .bool true] w fun e w' => (∃ a' c', e = .returned (.slice a' (pickL true true true la lb).length c') ∧ RowV w' a' c' (pickL true true true la lb)) ∧ Below w.heap.size w w' := by
  obtain ⟨i0, hi, hz0, hz1, hz2⟩ := info_parts Try.infoSetInt
  have HA := hide ha
  have HB := hide hb
  have HLA := hide hla
  have HLB := hide hlb
  have HWF : Hid (∀ x ∈ la ++ lb, (Lit.int .i64 x).wf = true) := fun x hx => (List.mem_append.1 hx).elim (ha.wf x) (hb.wf x)
  have HO1 : Hid (Dig.Own 3 .i64 w.heap.size (w.alloc (.cells #[] 3)) (.slice (some ⟨w.heap.size, 0, none⟩) 0 0) []) := Dig.Own.empty _ _ _ _ _ rfl (Nat.le_refl _)
  have HBA : Hid (Below w.heap.size w (w.alloc (.cells #[] 3))) := (Below.refl _ _).alloc (Nat.le_refl _) _
  obtain ⟨n, hn⟩ : ∃ n, n = la.length := ⟨_, rfl⟩
  obtain ⟨m, hm⟩ : ∃ m, m = lb.length := ⟨_, rfl⟩
  obtain ⟨S, hS⟩ : ∃ S, S = setL ltI (la ++ lb) := ⟨_, rfl⟩
  have HE : Hid (pickL true true true la lb = S.filter (pickP true true true la lb)) := by rw [hS]; rfl
  have HSL : Hid (S.length ≤ 800) := by
    have := setL_length (lt := ltI) (la ++ lb)
    rw [hS]
    rw [List.length_append] at this
    exact hide (by omega)
  have HSW : Hid (∀ x ∈ S, (Lit.int .i64 x).wf = true) := fun x hx => HWF.out x (by rw [hS] at hx; exact (mem_setL totI _ x).1 hx)
  obtain ⟨ab, hab⟩ : ∃ ab, ab = la ++ lb := ⟨_, rfl⟩
  obtain ⟨N, hNN⟩ : ∃ N, N = ab.length := ⟨_, rfl⟩
  have HLAB : Hid (ab.length ≤ 800) := hide (by rw [hab, List.length_append]; omega)
  rw [← hab] at hS
  have HAB := hide hab
  have HNN := hide hNN
  have HN := hide hn
  have HM := hide hm
  have HS := hide hS
  rw [HE.out, ← hn, ← hm]
  clear hn hm hS ha hb hla hlb hab hNN
  go_enter Try.func16, Try.ntmps16
  go_wp2_with (first
    | (at_builtin; (refine app_rowv (w0 := w) rfl _ _ rfl w.heap.size v1 la rfl HO2.out b d m lb rfl HM.out (HB.out.keep HB1.out) (by have := HLA.out; have := HLB.out; omega) HZ1.out HB1.out ?_); intro v2 w2 hown2 hb2 hs2; unfold Dig.Own at hown2; rw [← HAB.out] at hown2; have hf2 := own_form hown2; rw [← HNN.out] at hf2; obtain ⟨a3, c3, rfl⟩ := hf2; have HR3 := hide (rowv_of_own (l := ab) hown2 (by have := HLAB.out; omega) (by rw [HAB.out]; exact HWF.out)).2; have HB2 := hide hb2; clear hown2 hb2 hs2)
    | (at_builtin; (refine app_rowv (w0 := w) rfl _ _ rfl w.heap.size (.slice (some ⟨w.heap.size, 0, none⟩) 0 0) [] rfl HO1.out a c n la rfl HN.out (HA.out.keep HBA.out) (by have := HLA.out; simp; omega) (by simp) HBA.out ?_); intro v1 w1 hown1 hb1 hs1; have HO2 : Hid (Dig.Own 3 .i64 w.heap.size w1 v1 la) := hown1; have HB1 := hide hb1; have HZ1 := hide hb1.size; clear hown1 hb1 hs1)
    | (go_at_call 17; go_must ((refine (show Calls Try.prog 17 #[.slice a3 N c3] _ _ from by rw [HNN.out]; exact rof_any a3 c3 ab _ HR3.out (by have := HLAB.out; omega)).mono ?_); rw [← HS.out]; rintro e w4 ⟨⟨a4, c4, rfl, hr4⟩, hb4⟩; have HR4 := hide hr4; have HB4 := hide (HB2.out.trans (hb4.mono HB2.out.size)); clear hr4 hb4)))
  have HSZ := hide HB4.out.size
  go_loopw [12, 13] (fun ov kv wr => PickR w4 S (pickP true true true la lb) ov kv wr) (fun _ kv _ => S.length - (intOf kv).toNat)
  case atStart => exact ⟨0, by omega, rfl, World.ownsRow_nil _ _ _ _, Below.refl _ _⟩
  case round =>
    obtain ⟨k, hk, rfl, hown, hbel⟩ := hrel
    obtain ⟨W, hW⟩ : ∃ W, W = wr := ⟨_, rfl⟩
    subst hW
    have HBW : Hid (Below w.heap.size w W) := hide (HB4.out.trans (hbel.out.mono HSZ.out))
    by_cases hlt : k < S.length
    · obtain ⟨b1, o1, rfl, hc1⟩ := (HR4.out.keep hbel.out).at hlt
      have HHIT := hide (take_hit (p := pickP true true true la lb) hlt)
      have HMISS := hide (take_miss (p := pickP true true true la lb) hlt)
      obtain ⟨x, hx⟩ : ∃ x, x = S.getD k 0 := ⟨_, rfl⟩
      rw [← hx] at hc1 HHIT HMISS
      clear hx
      have HP : Hid (pickP true true true la lb x = ((decide (x ∈ la) && decide (x ∈ lb) && true) || (decide (x ∈ la) && !decide (x ∈ lb) && true) || (!decide (x ∈ la) && decide (x ∈ lb) && true))) := rfl
      have H1 : Hid (∀ q, Calls Try.prog 20 #[.slice a n c, .int .i64 x] (W.drewN q) fun e w' => e = .returned (.bool (decide (x ∈ la))) ∧ w' = W.drewN q) := fun q => by
        have := rhas_any a c la x (W.drewN q) (HA.out.keep (HBW.out.trans ⟨rfl, rfl, rfl, Nat.le_refl _, fun _ _ => rfl⟩))
        rw [← HN.out] at this
        exact this
      have H2 : Hid (∀ q, Calls Try.prog 20 #[.slice b m d, .int .i64 x] (W.drewN q) fun e w' => e = .returned (.bool (decide (x ∈ lb))) ∧ w' = W.drewN q) := fun q => by
        have := rhas_any b d lb x (W.drewN q) (HB.out.keep (HBW.out.trans ⟨rfl, rfl, rfl, Nat.le_refl _, fun _ _ => rfl⟩))
        rw [← HM.out] at this
        exact this
      obtain ⟨r1, hr1⟩ : ∃ r1, r1 = decide (x ∈ la) := ⟨_, rfl⟩
      obtain ⟨r2, hr2⟩ : ∃ r2, r2 = decide (x ∈ lb) := ⟨_, rfl⟩
      rw [← hr1] at HP H1
      rw [← hr2] at HP H2
      clear hr1 hr2
      obtain ⟨K, hK⟩ : ∃ K, K = ((S.take k).filter (pickP true true true la lb)).length := ⟨_, rfl⟩
      have HKL := hide hK
      have HK8 : Hid (K ≤ 800) := hide (by have := List.length_filter_le (pickP true true true la lb) (S.take k); have := HSL.out; rw [List.length_take] at *; omega)
      have hrow0 := hown.out
      rw [← hK] at hrow0
      have HROW := hide hrow0
      clear hK hrow0 hown
      have hz4 : w4.heap.size ≤ W.heap.size := hbel.out.size
      have hs8 := HSL.out
      cases r1 <;> cases r2
      all_goals
        go_wp2
        go_quiet ((go_at_call 20; exact Calls.quiet_of_same (by first | (with_reducible exact H1.out _) | (with_reducible exact H2.out _))))
        go_simp
        have HBQ : Hid (Below w4.heap.size w4 (W.drewN nq)) := hide (hbel.out.trans ⟨rfl, rfl, rfl, Nat.le_refl _, fun _ _ => rfl⟩)
        have hcq : (W.drewN nq).cell? ⟨b1, o1 + k, none⟩ = some (.int .i64 x) := hc1
        have hrq : (W.drewN nq).ownsRow w4.heap.size 3 1 _ K _ := HROW.out
        have hzq : w4.heap.size ≤ (W.drewN nq).heap.size := hz4
        generalize W.drewN nq = Wq at *
        go_wp2_with (at_builtin; go_loud (refine wpList_append_own _ rfl _ _ 22 rfl w4.heap.size 3 i0 (.int .i64 0) 1 8 Try.underlying22 hi hz0 hz1 hz2 rfl (by decide) _ _ _ rfl (hrq.alloc _) ⟨Wq.heap.size, 0, none⟩ 1 1 [.int .i64 x] rfl rfl (one_new _ _ _) (by simp [Value.oneCell']) (by have := HK8.out; unfold maxLen; omega) (by have := HK8.out; omega) (by simp; omega) ?_); intro v5 w5 hown5 hgrow5 _; have HOWN5 := hide hown5; have HB5 := hide ((HBQ.out.alloc hzq (.cells #[.int .i64 x] 3)).grown hgrow5 (by simp; omega) (fun q e => (World.ownsRow.lt hrq q e).1)); clear hown5 hgrow5)
        go_roundw
        case rel => first
          | exact ⟨k + 1, by omega, by simp, by rw [HHIT.out (HP.out.trans rfl), List.length_append, List.map_append, ← HKL.out]; exact HOWN5.out, HB5.out⟩
          | exact ⟨k + 1, by omega, by simp, by rw [HMISS.out (HP.out.trans rfl), ← HKL.out]; exact hrq, HBQ.out⟩
        case measure => simp [intOf]; omega
    · obtain rfl : k = S.length := by omega
      obtain ⟨a6, c6, rfl⟩ := own_form hown.out
      have HF : Hid (RowV W a6 c6 (S.filter (pickP true true true la lb))) := by
        have ho := hown.out
        rw [List.take_length] at ho
        exact (rowv_of_own ho (by have := List.length_filter_le (pickP true true true la lb) S; have := HSL.out; omega) (fun z hz => HSW.out z (List.mem_filter.1 hz).1)).2
      have HL : Hid ((List.filter (pickP true true true la lb) (S.take S.length)).length = (S.filter (pickP true true true la lb)).length) := by show _ = _; rw [List.take_length]
      obtain ⟨q, hq⟩ : ∃ q, q = (List.filter (pickP true true true la lb) (S.take S.length)).length := ⟨_, rfl⟩
      rw [← hq] at HL ⊢
      clear hq hown
      go_wp2
      go_ret
      exact ⟨⟨a6, c6, by rw [← HL.out]; rfl, HF.out⟩, HBW.out⟩
set_option maxHeartbeats 400000 in
set_option maxRecDepth 20000 in
theorem pick_both (a b : Option Addr) (c d : Nat) (la lb : List Int) (w : World) (ha : RowV w a c la) (hb : RowV w b d lb) (hla : la.length ≤ 400) (hlb : lb.length ≤ 400) :
    Calls Try.prog 16 #[.slice a la.length c, .slice b lb.length d, .bool false, .bool true, .bool false] w fun e w' => (∃ a' c', e = .returned (.slice a' (pickL false true false la lb).length c') ∧ RowV w' a' c' (pickL false true false la lb)) ∧ Below w.heap.size w w' := by
  obtain ⟨i0, hi, hz0, hz1, hz2⟩ := info_parts Try.infoSetInt
  have HA := hide ha
  have HB := hide hb
  have HLA := hide hla
  have HLB := hide hlb
  have HWF : Hid (∀ x ∈ la ++ lb, (Lit.int .i64 x).wf = true) := fun x hx => (List.mem_append.1 hx).elim (ha.wf x) (hb.wf x)
  have HO1 : Hid (Dig.Own 3 .i64 w.heap.size (w.alloc (.cells #[] 3)) (.slice (some ⟨w.heap.size, 0, none⟩) 0 0) []) := Dig.Own.empty _ _ _ _ _ rfl (Nat.le_refl _)
  have HBA : Hid (Below w.heap.size w (w.alloc (.cells #[] 3))) := (Below.refl _ _).alloc (Nat.le_refl _) _
  obtain ⟨n, hn⟩ : ∃ n, n = la.length := ⟨_, rfl⟩
  obtain ⟨m, hm⟩ : ∃ m, m = lb.length := ⟨_, rfl⟩
  obtain ⟨S, hS⟩ : ∃ S, S = setL ltI (la ++ lb) := ⟨_, rfl⟩
  have HE : Hid (pickL false true false la lb = S.filter (pickP false true false la lb)) := by rw [hS]; rfl
  have HSL : Hid (S.length ≤ 800) := by
    have := setL_length (lt := ltI) (la ++ lb)
    rw [hS]
    rw [List.length_append] at this
    exact hide (by omega)
  have HSW : Hid (∀ x ∈ S, (Lit.int .i64 x).wf = true) := fun x hx => HWF.out x (by rw [hS] at hx; exact (mem_setL totI _ x).1 hx)
  obtain ⟨ab, hab⟩ : ∃ ab, ab = la ++ lb := ⟨_, rfl⟩
  obtain ⟨N, hNN⟩ : ∃ N, N = ab.length := ⟨_, rfl⟩
  have HLAB : Hid (ab.length ≤ 800) := hide (by rw [hab, List.length_append]; omega)
  rw [← hab] at hS
  have HAB := hide hab
  have HNN := hide hNN
  have HN := hide hn
  have HM := hide hm
  have HS := hide hS
  rw [HE.out, ← hn, ← hm]
  clear hn hm hS ha hb hla hlb hab hNN
  go_enter Try.func16, Try.ntmps16
  go_wp2_with (first
    | (at_builtin; (refine app_rowv (w0 := w) rfl _ _ rfl w.heap.size v1 la rfl HO2.out b d m lb rfl HM.out (HB.out.keep HB1.out) (by have := HLA.out; have := HLB.out; omega) HZ1.out HB1.out ?_); intro v2 w2 hown2 hb2 hs2; unfold Dig.Own at hown2; rw [← HAB.out] at hown2; have hf2 := own_form hown2; rw [← HNN.out] at hf2; obtain ⟨a3, c3, rfl⟩ := hf2; have HR3 := hide (rowv_of_own (l := ab) hown2 (by have := HLAB.out; omega) (by rw [HAB.out]; exact HWF.out)).2; have HB2 := hide hb2; clear hown2 hb2 hs2)
    | (at_builtin; (refine app_rowv (w0 := w) rfl _ _ rfl w.heap.size (.slice (some ⟨w.heap.size, 0, none⟩) 0 0) [] rfl HO1.out a c n la rfl HN.out (HA.out.keep HBA.out) (by have := HLA.out; simp; omega) (by simp) HBA.out ?_); intro v1 w1 hown1 hb1 hs1; have HO2 : Hid (Dig.Own 3 .i64 w.heap.size w1 v1 la) := hown1; have HB1 := hide hb1; have HZ1 := hide hb1.size; clear hown1 hb1 hs1)
    | (go_at_call 17; go_must ((refine (show Calls Try.prog 17 #[.slice a3 N c3] _ _ from by rw [HNN.out]; exact rof_any a3 c3 ab _ HR3.out (by have := HLAB.out; omega)).mono ?_); rw [← HS.out]; rintro e w4 ⟨⟨a4, c4, rfl, hr4⟩, hb4⟩; have HR4 := hide hr4; have HB4 := hide (HB2.out.trans (hb4.mono HB2.out.size)); clear hr4 hb4)))
  have HSZ := hide HB4.out.size
  go_loopw [12, 13] (fun ov kv wr => PickR w4 S (pickP false true false la lb) ov kv wr) (fun _ kv _ => S.length - (intOf kv).toNat)
  case atStart => exact ⟨0, by omega, rfl, World.ownsRow_nil _ _ _ _, Below.refl _ _⟩
  case round =>
    obtain ⟨k, hk, rfl, hown, hbel⟩ := hrel
    obtain ⟨W, hW⟩ : ∃ W, W = wr := ⟨_, rfl⟩
    subst hW
    have HBW : Hid (Below w.heap.size w W) := hide (HB4.out.trans (hbel.out.mono HSZ.out))
    by_cases hlt : k < S.length
    · obtain ⟨b1, o1, rfl, hc1⟩ := (HR4.out.keep hbel.out).at hlt
      have HHIT := hide (take_hit (p := pickP false true false la lb) hlt)
      have HMISS := hide (take_miss (p := pickP false true false la lb) hlt)
      obtain ⟨x, hx⟩ : ∃ x, x = S.getD k 0 := ⟨_, rfl⟩
      rw [← hx] at hc1 HHIT HMISS
      clear hx
      have HP : Hid (pickP false true false la lb x = ((decide (x ∈ la) && decide (x ∈ lb) && true) || (decide (x ∈ la) && !decide (x ∈ lb) && false) || (!decide (x ∈ la) && decide (x ∈ lb) && false))) := rfl
      have H1 : Hid (∀ q, Calls Try.prog 20 #[.slice a n c, .int .i64 x] (W.drewN q) fun e w' => e = .returned (.bool (decide (x ∈ la))) ∧ w' = W.drewN q) := fun q => by
        have := rhas_any a c la x (W.drewN q) (HA.out.keep (HBW.out.trans ⟨rfl, rfl, rfl, Nat.le_refl _, fun _ _ => rfl⟩))
        rw [← HN.out] at this
        exact this
      have H2 : Hid (∀ q, Calls Try.prog 20 #[.slice b m d, .int .i64 x] (W.drewN q) fun e w' => e = .returned (.bool (decide (x ∈ lb))) ∧ w' = W.drewN q) := fun q => by
        have := rhas_any b d lb x (W.drewN q) (HB.out.keep (HBW.out.trans ⟨rfl, rfl, rfl, Nat.le_refl _, fun _ _ => rfl⟩))
        rw [← HM.out] at this
        exact this
      obtain ⟨r1, hr1⟩ : ∃ r1, r1 = decide (x ∈ la) := ⟨_, rfl⟩
      obtain ⟨r2, hr2⟩ : ∃ r2, r2 = decide (x ∈ lb) := ⟨_, rfl⟩
      rw [← hr1] at HP H1
      rw [← hr2] at HP H2
      clear hr1 hr2
      obtain ⟨K, hK⟩ : ∃ K, K = ((S.take k).filter (pickP false true false la lb)).length := ⟨_, rfl⟩
      have HKL := hide hK
      have HK8 : Hid (K ≤ 800) := hide (by have := List.length_filter_le (pickP false true false la lb) (S.take k); have := HSL.out; rw [List.length_take] at *; omega)
      have hrow0 := hown.out
      rw [← hK] at hrow0
      have HROW := hide hrow0
      clear hK hrow0 hown
      have hz4 : w4.heap.size ≤ W.heap.size := hbel.out.size
      have hs8 := HSL.out
      cases r1 <;> cases r2
      all_goals
        go_wp2
        go_quiet ((go_at_call 20; exact Calls.quiet_of_same (by first | (with_reducible exact H1.out _) | (with_reducible exact H2.out _))))
        go_simp
        have HBQ : Hid (Below w4.heap.size w4 (W.drewN nq)) := hide (hbel.out.trans ⟨rfl, rfl, rfl, Nat.le_refl _, fun _ _ => rfl⟩)
        have hcq : (W.drewN nq).cell? ⟨b1, o1 + k, none⟩ = some (.int .i64 x) := hc1
        have hrq : (W.drewN nq).ownsRow w4.heap.size 3 1 _ K _ := HROW.out
        have hzq : w4.heap.size ≤ (W.drewN nq).heap.size := hz4
        generalize W.drewN nq = Wq at *
        go_wp2_with (at_builtin; go_loud (refine wpList_append_own _ rfl _ _ 22 rfl w4.heap.size 3 i0 (.int .i64 0) 1 8 Try.underlying22 hi hz0 hz1 hz2 rfl (by decide) _ _ _ rfl (hrq.alloc _) ⟨Wq.heap.size, 0, none⟩ 1 1 [.int .i64 x] rfl rfl (one_new _ _ _) (by simp [Value.oneCell']) (by have := HK8.out; unfold maxLen; omega) (by have := HK8.out; omega) (by simp; omega) ?_); intro v5 w5 hown5 hgrow5 _; have HOWN5 := hide hown5; have HB5 := hide ((HBQ.out.alloc hzq (.cells #[.int .i64 x] 3)).grown hgrow5 (by simp; omega) (fun q e => (World.ownsRow.lt hrq q e).1)); clear hown5 hgrow5)
        go_roundw
        case rel => first
          | exact ⟨k + 1, by omega, by simp, by rw [HHIT.out (HP.out.trans rfl), List.length_append, List.map_append, ← HKL.out]; exact HOWN5.out, HB5.out⟩
          | exact ⟨k + 1, by omega, by simp, by rw [HMISS.out (HP.out.trans rfl), ← HKL.out]; exact hrq, HBQ.out⟩
        case measure => simp [intOf]; omega
    · obtain rfl : k = S.length := by omega
      obtain ⟨a6, c6, rfl⟩ := own_form hown.out
      have HF : Hid (RowV W a6 c6 (S.filter (pickP false true false la lb))) := by
        have ho := hown.out
        rw [List.take_length] at ho
        exact (rowv_of_own ho (by have := List.length_filter_le (pickP false true false la lb) S; have := HSL.out; omega) (fun z hz => HSW.out z (List.mem_filter.1 hz).1)).2
      have HL : Hid ((List.filter (pickP false true false la lb) (S.take S.length)).length = (S.filter (pickP false true false la lb)).length) := by show _ = _; rw [List.take_length]
      obtain ⟨q, hq⟩ : ∃ q, q = (List.filter (pickP false true false la lb) (S.take S.length)).length := ⟨_, rfl⟩
      rw [← hq] at HL ⊢
      clear hq hown
      go_wp2
      go_ret
      exact ⟨⟨a6, c6, by rw [← HL.out]; rfl, HF.out⟩, HBW.out⟩
set_option maxHeartbeats 400000 in
set_option maxRecDepth 20000 in
theorem pick_one (a b : Option Addr) (c d : Nat) (la lb : List Int) (w : World) (ha : RowV w a c la) (hb : RowV w b d lb) (hla : la.length ≤ 400) (hlb : lb.length ≤ 400) :
    Calls Try.prog 16 #[.slice a la.length c, .slice b lb.length d, .bool true, .bool false, .bool false] w fun e w' => (∃ a' c', e = .returned (.slice a' (pickL true false false la lb).length c') ∧ RowV w' a' c' (pickL true false false la lb)) ∧ Below w.heap.size w w' := by
  obtain ⟨i0, hi, hz0, hz1, hz2⟩ := info_parts Try.infoSetInt
  have HA := hide ha
  have HB := hide hb
  have HLA := hide hla
  have HLB := hide hlb
  have HWF : Hid (∀ x ∈ la ++ lb, (Lit.int .i64 x).wf = true) := fun x hx => (List.mem_append.1 hx).elim (ha.wf x) (hb.wf x)
  have HO1 : Hid (Dig.Own 3 .i64 w.heap.size (w.alloc (.cells #[] 3)) (.slice (some ⟨w.heap.size, 0, none⟩) 0 0) []) := Dig.Own.empty _ _ _ _ _ rfl (Nat.le_refl _)
  have HBA : Hid (Below w.heap.size w (w.alloc (.cells #[] 3))) := (Below.refl _ _).alloc (Nat.le_refl _) _
  obtain ⟨n, hn⟩ : ∃ n, n = la.length := ⟨_, rfl⟩
  obtain ⟨m, hm⟩ : ∃ m, m = lb.length := ⟨_, rfl⟩
  obtain ⟨S, hS⟩ : ∃ S, S = setL ltI (la ++ lb) := ⟨_, rfl⟩
  have HE : Hid (pickL true false false la lb = S.filter (pickP true false false la lb)) := by rw [hS]; rfl
  have HSL : Hid (S.length ≤ 800) := by
    have := setL_length (lt := ltI) (la ++ lb)
    rw [hS]
    rw [List.length_append] at this
    exact hide (by omega)
  have HSW : Hid (∀ x ∈ S, (Lit.int .i64 x).wf = true) := fun x hx => HWF.out x (by rw [hS] at hx; exact (mem_setL totI _ x).1 hx)
  obtain ⟨ab, hab⟩ : ∃ ab, ab = la ++ lb := ⟨_, rfl⟩
  obtain ⟨N, hNN⟩ : ∃ N, N = ab.length := ⟨_, rfl⟩
  have HLAB : Hid (ab.length ≤ 800) := hide (by rw [hab, List.length_append]; omega)
  rw [← hab] at hS
  have HAB := hide hab
  have HNN := hide hNN
  have HN := hide hn
  have HM := hide hm
  have HS := hide hS
  rw [HE.out, ← hn, ← hm]
  clear hn hm hS ha hb hla hlb hab hNN
  go_enter Try.func16, Try.ntmps16
  go_wp2_with (first
    | (at_builtin; (refine app_rowv (w0 := w) rfl _ _ rfl w.heap.size v1 la rfl HO2.out b d m lb rfl HM.out (HB.out.keep HB1.out) (by have := HLA.out; have := HLB.out; omega) HZ1.out HB1.out ?_); intro v2 w2 hown2 hb2 hs2; unfold Dig.Own at hown2; rw [← HAB.out] at hown2; have hf2 := own_form hown2; rw [← HNN.out] at hf2; obtain ⟨a3, c3, rfl⟩ := hf2; have HR3 := hide (rowv_of_own (l := ab) hown2 (by have := HLAB.out; omega) (by rw [HAB.out]; exact HWF.out)).2; have HB2 := hide hb2; clear hown2 hb2 hs2)
    | (at_builtin; (refine app_rowv (w0 := w) rfl _ _ rfl w.heap.size (.slice (some ⟨w.heap.size, 0, none⟩) 0 0) [] rfl HO1.out a c n la rfl HN.out (HA.out.keep HBA.out) (by have := HLA.out; simp; omega) (by simp) HBA.out ?_); intro v1 w1 hown1 hb1 hs1; have HO2 : Hid (Dig.Own 3 .i64 w.heap.size w1 v1 la) := hown1; have HB1 := hide hb1; have HZ1 := hide hb1.size; clear hown1 hb1 hs1)
    | (go_at_call 17; go_must ((refine (show Calls Try.prog 17 #[.slice a3 N c3] _ _ from by rw [HNN.out]; exact rof_any a3 c3 ab _ HR3.out (by have := HLAB.out; omega)).mono ?_); rw [← HS.out]; rintro e w4 ⟨⟨a4, c4, rfl, hr4⟩, hb4⟩; have HR4 := hide hr4; have HB4 := hide (HB2.out.trans (hb4.mono HB2.out.size)); clear hr4 hb4)))
  have HSZ := hide HB4.out.size
  go_loopw [12, 13] (fun ov kv wr => PickR w4 S (pickP true false false la lb) ov kv wr) (fun _ kv _ => S.length - (intOf kv).toNat)
  case atStart => exact ⟨0, by omega, rfl, World.ownsRow_nil _ _ _ _, Below.refl _ _⟩
  case round =>
    obtain ⟨k, hk, rfl, hown, hbel⟩ := hrel
    obtain ⟨W, hW⟩ : ∃ W, W = wr := ⟨_, rfl⟩
    subst hW
    have HBW : Hid (Below w.heap.size w W) := hide (HB4.out.trans (hbel.out.mono HSZ.out))
    by_cases hlt : k < S.length
    · obtain ⟨b1, o1, rfl, hc1⟩ := (HR4.out.keep hbel.out).at hlt
      have HHIT := hide (take_hit (p := pickP true false false la lb) hlt)
      have HMISS := hide (take_miss (p := pickP true false false la lb) hlt)
      obtain ⟨x, hx⟩ : ∃ x, x = S.getD k 0 := ⟨_, rfl⟩
      rw [← hx] at hc1 HHIT HMISS
      clear hx
      have HP : Hid (pickP true false false la lb x = ((decide (x ∈ la) && decide (x ∈ lb) && false) || (decide (x ∈ la) && !decide (x ∈ lb) && true) || (!decide (x ∈ la) && decide (x ∈ lb) && false))) := rfl
      have H1 : Hid (∀ q, Calls Try.prog 20 #[.slice a n c, .int .i64 x] (W.drewN q) fun e w' => e = .returned (.bool (decide (x ∈ la))) ∧ w' = W.drewN q) := fun q => by
        have := rhas_any a c la x (W.drewN q) (HA.out.keep (HBW.out.trans ⟨rfl, rfl, rfl, Nat.le_refl _, fun _ _ => rfl⟩))
        rw [← HN.out] at this
        exact this
      have H2 : Hid (∀ q, Calls Try.prog 20 #[.slice b m d, .int .i64 x] (W.drewN q) fun e w' => e = .returned (.bool (decide (x ∈ lb))) ∧ w' = W.drewN q) := fun q => by
        have := rhas_any b d lb x (W.drewN q) (HB.out.keep (HBW.out.trans ⟨rfl, rfl, rfl, Nat.le_refl _, fun _ _ => rfl⟩))
        rw [← HM.out] at this
        exact this
      obtain ⟨r1, hr1⟩ : ∃ r1, r1 = decide (x ∈ la) := ⟨_, rfl⟩
      obtain ⟨r2, hr2⟩ : ∃ r2, r2 = decide (x ∈ lb) := ⟨_, rfl⟩
      rw [← hr1] at HP H1
      rw [← hr2] at HP H2
      clear hr1 hr2
      obtain ⟨K, hK⟩ : ∃ K, K = ((S.take k).filter (pickP true false false la lb)).length := ⟨_, rfl⟩
      have HKL := hide hK
      have HK8 : Hid (K ≤ 800) := hide (by have := List.length_filter_le (pickP true false false la lb) (S.take k); have := HSL.out; rw [List.length_take] at *; omega)
      have hrow0 := hown.out
      rw [← hK] at hrow0
      have HROW := hide hrow0
      clear hK hrow0 hown
      have hz4 : w4.heap.size ≤ W.heap.size := hbel.out.size
      have hs8 := HSL.out
      cases r1 <;> cases r2
      all_goals
        go_wp2
        go_quiet ((go_at_call 20; exact Calls.quiet_of_same (by first | (with_reducible exact H1.out _) | (with_reducible exact H2.out _))))
        go_simp
        have HBQ : Hid (Below w4.heap.size w4 (W.drewN nq)) := hide (hbel.out.trans ⟨rfl, rfl, rfl, Nat.le_refl _, fun _ _ => rfl⟩)
        have hcq : (W.drewN nq).cell? ⟨b1, o1 + k, none⟩ = some (.int .i64 x) := hc1
        have hrq : (W.drewN nq).ownsRow w4.heap.size 3 1 _ K _ := HROW.out
        have hzq : w4.heap.size ≤ (W.drewN nq).heap.size := hz4
        generalize W.drewN nq = Wq at *
        go_wp2_with (at_builtin; go_loud (refine wpList_append_own _ rfl _ _ 22 rfl w4.heap.size 3 i0 (.int .i64 0) 1 8 Try.underlying22 hi hz0 hz1 hz2 rfl (by decide) _ _ _ rfl (hrq.alloc _) ⟨Wq.heap.size, 0, none⟩ 1 1 [.int .i64 x] rfl rfl (one_new _ _ _) (by simp [Value.oneCell']) (by have := HK8.out; unfold maxLen; omega) (by have := HK8.out; omega) (by simp; omega) ?_); intro v5 w5 hown5 hgrow5 _; have HOWN5 := hide hown5; have HB5 := hide ((HBQ.out.alloc hzq (.cells #[.int .i64 x] 3)).grown hgrow5 (by simp; omega) (fun q e => (World.ownsRow.lt hrq q e).1)); clear hown5 hgrow5)
        go_roundw
        case rel => first
          | exact ⟨k + 1, by omega, by simp, by rw [HHIT.out (HP.out.trans rfl), List.length_append, List.map_append, ← HKL.out]; exact HOWN5.out, HB5.out⟩
          | exact ⟨k + 1, by omega, by simp, by rw [HMISS.out (HP.out.trans rfl), ← HKL.out]; exact hrq, HBQ.out⟩
        case measure => simp [intOf]; omega
    · obtain rfl : k = S.length := by omega
      obtain ⟨a6, c6, rfl⟩ := own_form hown.out
      have HF : Hid (RowV W a6 c6 (S.filter (pickP true false false la lb))) := by
        have ho := hown.out
        rw [List.take_length] at ho
        exact (rowv_of_own ho (by have := List.length_filter_le (pickP true false false la lb) S; have := HSL.out; omega) (fun z hz => HSW.out z (List.mem_filter.1 hz).1)).2
      have HL : Hid ((List.filter (pickP true false false la lb) (S.take S.length)).length = (S.filter (pickP true false false la lb)).length) := by show _ = _; rw [List.take_length]
      obtain ⟨q, hq⟩ : ∃ q, q = (List.filter (pickP true false false la lb) (S.take S.length)).length := ⟨_, rfl⟩
      rw [← hq] at HL ⊢
      clear hq hown
      go_wp2
      go_ret
      exact ⟨⟨a6, c6, by rw [← HL.out]; rfl, HF.out⟩, HBW.out⟩
end Go.Proofs.Ytghdafgpdhbohaa.Sets
