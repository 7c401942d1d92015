/- The program's Same, over slices.EqualFunc. -/
import Derived.Test.YtkdggnfjefgonaaHistSame
namespace Go.Proofs.Ytkdggnfjefgonaa.Hist
open Go.RowKit Go.Proofs.Ytkdggnfjefgonaa.Dig Go.Proofs.Ytkdggnfjefgonaa.Mem
set_option linter.unusedVariables false
set_option linter.unusedSimpArgs false

def OpsFew (os : List OpM) : Prop := os.length ≤ 1000000 ∧ ∀ o ∈ os, o.list.length ≤ 1000000
def TxnsFew (ts : List TxnM) : Prop := ts.length ≤ 1000000 ∧ ∀ t ∈ ts, OpsFew t.ops
theorem OpsFew.at {os : List OpM} (h : OpsFew os) {i : Nat} (hi : i < os.length) : os[i].list.length ≤ 1000000 := h.2 _ (List.getElem_mem hi)
theorem TxnsFew.at {ts : List TxnM} (h : TxnsFew ts) {i : Nat} (hi : i < ts.length) : OpsFew ts[i].ops := h.2 _ (List.getElem_mem hi)

def EqRel {α : Type} (w : World) (xs ys : List α) (i : Value) (wr : World) : Prop :=
  ∃ k : Nat, k ≤ xs.length ∧ i = .int .i64 (k : Int) ∧ Hid (xs.take k = ys.take k) ∧ Below w.heap.size w wr
theorem EqRel.next {α : Type} {w w' : World} {xs ys : List α} {k : Nat} {i : Value} (hx : k < xs.length) (hy : k < ys.length) (he : xs[k] = ys[k]) (h : Hid (xs.take k = ys.take k)) (hi : i = .int .i64 ((k + 1 : Nat) : Int)) (hb : Below w.heap.size w w') : EqRel w xs ys i w' :=
  ⟨k + 1, by omega, hi, hide (by rw [List.take_succ_eq_append_getElem hx, List.take_succ_eq_append_getElem hy, h.out, he]), hb⟩
theorem eq_of_take {α : Type} {xs ys : List α} (hl : xs.length = ys.length) {k : Nat} (hk : ¬ k < xs.length) (h : xs.take k = ys.take k) : xs = ys := by
  rwa [List.take_of_length_le (by omega), List.take_of_length_le (by omega)] at h
theorem ne_at {α : Type} {xs ys : List α} {k : Nat} (hx : k < xs.length) (hy : k < ys.length) (he : ¬ xs[k] = ys[k]) : ¬ xs = ys := by
  intro q; subst q; exact he rfl

theorem eqo_any (F F' : Nat → Prop) (v v' : Value) (os ps : List OpM) (w : World) (h : OpsAt F w v os) (h' : OpsAt F' w v' ps) (ho : OpsFew os) (hp : OpsFew ps) :
    Calls Try.prog 33 #[v, v', .func (.func 34) #[] #[]] w fun e w' => e = .returned (.bool (decide (os = ps))) ∧ Below w.heap.size w w' := by
  obtain ⟨a, c, rfl, _, _⟩ := h.shape
  obtain ⟨b, d, rfl, _, _⟩ := h'.shape
  have H : Hid (OpsAt F w (.slice a os.length c) os ∧ OpsAt F' w (.slice b ps.length d) ps) := ⟨h, h'⟩
  have L : Hid (OpsFew os ∧ OpsFew ps) := ⟨ho, hp⟩
  have ho1 := ho.1
  have hp1 := hp.1
  clear h h' ho hp
  by_cases hnm : os.length = ps.length
  · have g0 : ((os.length : Int) != ps.length) = false := by simp [hnm]
    have HN : Hid (os.length = ps.length) := hnm
    clear hnm
    go_enter Try.func33, Try.ntmps33
    go_wp2
    go_loopw [17] (fun i wr => EqRel w os ps i wr) (fun i _ => os.length - (intOf i).toNat)
    case atStart => exact ⟨0, by omega, rfl, hide rfl, Below.refl _ _⟩
    case round =>
      obtain ⟨k, hk, rfl, hj, hbel⟩ := hrel
      have hs := hbel.size
      by_cases hlt : k < os.length
      · have hlt2 : k < ps.length := by rw [← HN.out]; exact hlt
        have i2 : (k : Int) < (ps.length : Int) := by omega
        obtain ⟨b1, o1, l1, q1, rfl, _, hb1, c0, c1, c2, c3, hi1, _, _⟩ := (H.out.1.keep hbel).at hlt
        obtain ⟨b2, o2, l2, q2, rfl, _, hb2, d0, d1, d2, d3, hi2, _, _⟩ := (H.out.2.keep hbel).at hlt2
        have HI : Hid (IntsAt F wr _ os[k].list ∧ IntsAt F' wr _ ps[k].list) := ⟨hi1, hi2⟩
        have hl1 := L.out.1.at hlt
        have hl2 := L.out.2.at hlt2
        clear hi1 hi2
        by_cases he : os[k] = ps[k]
        · have hd : decide (os[k] = ps[k]) = true := by simpa using he
          have HE : Hid (os[k] = ps[k]) := he
          have HD : Hid (decide (os[k] = ps[k]) = true) := hd
          clear he hd
          go_wp2_with (go_at_call 34; (with_reducible refine (sop_any F F' os[k] ps[k] _ _ _ (HI.out.1.keep (((Below.refl _ _).alloc (Nat.le_refl _) _).alloc (by simp) _)) (HI.out.2.keep (((Below.refl _ _).alloc (Nat.le_refl _) _).alloc (by simp) _)) hl1 hl2).mono ?_); rw [HD.out]; rintro e w1 ⟨rfl, hb⟩; replace hb := hide hb)
          go_roundw
          case rel => exact EqRel.next hlt hlt2 HE.out hj (by go_num) (((hbel.alloc hs _).alloc (by simp; omega) _).trans (hb.out.mono (by simp; omega)))
          case measure => simp [intOf]; omega
        · have HD : Hid (decide (os[k] = ps[k]) = false) := by show _ = _; simpa using he
          have HE : Hid (decide (os = ps) = false) := by show _ = _; simpa using ne_at hlt hlt2 he
          clear he
          go_wp2_with (go_at_call 34; (with_reducible refine (sop_any F F' os[k] ps[k] _ _ _ (HI.out.1.keep (((Below.refl _ _).alloc (Nat.le_refl _) _).alloc (by simp) _)) (HI.out.2.keep (((Below.refl _ _).alloc (Nat.le_refl _) _).alloc (by simp) _)) hl1 hl2).mono ?_); rw [HD.out]; rintro e w1 ⟨rfl, hb⟩; replace hb := hide hb)
          go_ret
          exact ⟨by rw [HE.out]; rfl, (((hbel.alloc hs _).alloc (by simp; omega) _).trans (hb.out.mono (by simp; omega)))⟩
      · have HE : Hid (decide (os = ps) = true) := by show _ = _; simpa using eq_of_take HN.out hlt hj.out
        go_wp2
        go_ret
        exact ⟨by rw [HE.out]; rfl, hbel⟩
  · have g0 : ((os.length : Int) != ps.length) = true := by simp; omega
    have HE : Hid (decide (os = ps) = false) := by show _ = _; simp; intro q; exact hnm (by rw [q])
    clear hnm
    go_enter Try.func33, Try.ntmps33
    go_wp2
    go_ret
    exact ⟨by rw [HE.out]; rfl, Below.refl _ _⟩
theorem stx_any (F F' : Nat → Prop) (t u : TxnM) (tv uv : Value) (w : World) (h : OpsAt F w tv t.ops) (h' : OpsAt F' w uv u.ops) (ht : OpsFew t.ops) (hu : OpsFew u.ops) :
    Calls Try.prog 22 #[.agg #[.int .i64 t.id, .bool t.ab, tv], .agg #[.int .i64 u.id, .bool u.ab, uv]] w fun e w' => e = .returned (.bool (decide (t = u))) ∧ Below w.heap.size w w' := by
  have H : Hid (OpsAt F w tv t.ops ∧ OpsAt F' w uv u.ops) := ⟨h, h'⟩
  have L : Hid (OpsFew t.ops ∧ OpsFew u.ops) := ⟨ht, hu⟩
  clear h h' ht hu
  by_cases h1 : (t.id == u.id) = true
  · by_cases h2 : (t.ab == u.ab) = true
    · have D : Hid (decide (t = u) = decide (t.ops = u.ops)) := by show _ = _; rw [txn_dec, h1, h2]; rfl
      go_enter Try.func22, Try.ntmps22
      go_wp2_with (go_at_call 33; (with_reducible refine (eqo_any F F' tv uv t.ops u.ops _ (H.out.1.keep (((Below.refl _ _).alloc (Nat.le_refl _) _).alloc (by simp) _)) (H.out.2.keep (((Below.refl _ _).alloc (Nat.le_refl _) _).alloc (by simp) _)) L.out.1 L.out.2).mono ?_); rintro e w1 ⟨rfl, hb⟩)
      go_ret
      exact ⟨by rw [D.out]; rfl, (((Below.refl _ _).alloc (Nat.le_refl _) _).alloc (by simp) _).trans (hb.mono (by simp; omega))⟩
    · have h2' : (t.ab == u.ab) = false := by simpa using h2
      have D : Hid (decide (t = u) = false) := by show _ = _; rw [txn_dec, h2']; simp
      clear h2
      go_enter Try.func22, Try.ntmps22
      go_wp2
      go_ret
      exact ⟨by rw [D.out]; rfl, ((Below.refl _ _).alloc (Nat.le_refl _) _).alloc (by simp) _⟩
  · have h1' : (t.id == u.id) = false := by simpa using h1
    have D : Hid (decide (t = u) = false) := by show _ = _; rw [txn_dec, h1']; simp
    clear h1
    go_enter Try.func22, Try.ntmps22
    go_wp2
    go_ret
    exact ⟨by rw [D.out]; rfl, ((Below.refl _ _).alloc (Nat.le_refl _) _).alloc (by simp) _⟩
theorem eqt_any (F F' : Nat → Prop) (v v' : Value) (ts us : List TxnM) (w : World) (h : TxnsAt F w v ts) (h' : TxnsAt F' w v' us) (ho : TxnsFew ts) (hp : TxnsFew us) :
    Calls Try.prog 21 #[v, v', .func (.func 22) #[] #[]] w fun e w' => e = .returned (.bool (decide (ts = us))) ∧ Below w.heap.size w w' := by
  obtain ⟨a, c, rfl, _, _⟩ := h.shape
  obtain ⟨b, d, rfl, _, _⟩ := h'.shape
  have H : Hid (TxnsAt F w (.slice a ts.length c) ts ∧ TxnsAt F' w (.slice b us.length d) us) := ⟨h, h'⟩
  have L : Hid (TxnsFew ts ∧ TxnsFew us) := ⟨ho, hp⟩
  have ho1 := ho.1
  have hp1 := hp.1
  clear h h' ho hp
  by_cases hnm : ts.length = us.length
  · have g0 : ((ts.length : Int) != us.length) = false := by simp [hnm]
    have HN : Hid (ts.length = us.length) := hnm
    clear hnm
    go_enter Try.func21, Try.ntmps21
    go_wp2
    go_loopw [17] (fun i wr => EqRel w ts us i wr) (fun i _ => ts.length - (intOf i).toNat)
    case atStart => exact ⟨0, by omega, rfl, hide rfl, Below.refl _ _⟩
    case round =>
      obtain ⟨k, hk, rfl, hj, hbel⟩ := hrel
      have hs := hbel.size
      by_cases hlt : k < ts.length
      · have hlt2 : k < us.length := by rw [← HN.out]; exact hlt
        have i2 : (k : Int) < (us.length : Int) := by omega
        obtain ⟨b1, o1, l1, q1, rfl, _, hb1, c0, c1, c2, hi1, _⟩ := (H.out.1.keep hbel).at hlt
        obtain ⟨b2, o2, l2, q2, rfl, _, hb2, d0, d1, d2, hi2, _⟩ := (H.out.2.keep hbel).at hlt2
        have HI : Hid (OpsAt F wr _ ts[k].ops ∧ OpsAt F' wr _ us[k].ops) := ⟨hi1, hi2⟩
        have HL : Hid (OpsFew ts[k].ops ∧ OpsFew us[k].ops) := ⟨L.out.1.at hlt, L.out.2.at hlt2⟩
        clear hi1 hi2
        by_cases he : ts[k] = us[k]
        · have HE : Hid (ts[k] = us[k]) := he
          have HD : Hid (decide (ts[k] = us[k]) = true) := by show _ = _; simpa using he
          clear he
          go_wp2_with (go_at_call 22; (with_reducible refine (stx_any F F' ts[k] us[k] _ _ _ (HI.out.1.keep (((Below.refl _ _).alloc (Nat.le_refl _) _).alloc (by simp) _)) (HI.out.2.keep (((Below.refl _ _).alloc (Nat.le_refl _) _).alloc (by simp) _)) HL.out.1 HL.out.2).mono ?_); rw [HD.out]; rintro e w1 ⟨rfl, hb⟩; replace hb := hide hb)
          go_roundw
          case rel => exact EqRel.next hlt hlt2 HE.out hj (by go_num) (((hbel.alloc hs _).alloc (by simp; omega) _).trans (hb.out.mono (by simp; omega)))
          case measure => simp [intOf]; omega
        · have HD : Hid (decide (ts[k] = us[k]) = false) := by show _ = _; simpa using he
          have HE : Hid (decide (ts = us) = false) := by show _ = _; simpa using ne_at hlt hlt2 he
          clear he
          go_wp2_with (go_at_call 22; (with_reducible refine (stx_any F F' ts[k] us[k] _ _ _ (HI.out.1.keep (((Below.refl _ _).alloc (Nat.le_refl _) _).alloc (by simp) _)) (HI.out.2.keep (((Below.refl _ _).alloc (Nat.le_refl _) _).alloc (by simp) _)) HL.out.1 HL.out.2).mono ?_); rw [HD.out]; rintro e w1 ⟨rfl, hb⟩; replace hb := hide hb)
          go_ret
          exact ⟨by rw [HE.out]; rfl, (((hbel.alloc hs _).alloc (by simp; omega) _).trans (hb.out.mono (by simp; omega)))⟩
      · have HE : Hid (decide (ts = us) = true) := by show _ = _; simpa using eq_of_take HN.out hlt hj.out
        go_wp2
        go_ret
        exact ⟨by rw [HE.out]; rfl, hbel⟩
  · have g0 : ((ts.length : Int) != us.length) = true := by simp; omega
    have HE : Hid (decide (ts = us) = false) := by show _ = _; simp; intro q; exact hnm (by rw [q])
    clear hnm
    go_enter Try.func21, Try.ntmps21
    go_wp2
    go_ret
    exact ⟨by rw [HE.out]; rfl, Below.refl _ _⟩
theorem same_any (F F' : Nat → Prop) (v v' : Value) (ts us : List TxnM) (w : World) (h : TxnsAt F w v ts) (h' : TxnsAt F' w v' us) (ho : TxnsFew ts) (hp : TxnsFew us) :
    Calls Try.prog 14 #[.agg #[v], .agg #[v']] w fun e w' => e = .returned (.bool (decide (ts = us))) ∧ Below w.heap.size w w' := by
  have H : Hid (TxnsAt F w v ts ∧ TxnsAt F' w v' us) := ⟨h, h'⟩
  have L : Hid (TxnsFew ts ∧ TxnsFew us) := ⟨ho, hp⟩
  clear h h' ho hp
  go_enter Try.func14, Try.ntmps14
  go_wp2_with (go_at_call 21; (with_reducible refine (eqt_any F F' v v' ts us _ (H.out.1.keep (((Below.refl _ _).alloc (Nat.le_refl _) _).alloc (by simp) _)) (H.out.2.keep (((Below.refl _ _).alloc (Nat.le_refl _) _).alloc (by simp) _)) L.out.1 L.out.2).mono ?_); rintro e w1 ⟨rfl, hb⟩)
  go_ret
  exact ⟨rfl, (((Below.refl _ _).alloc (Nat.le_refl _) _).alloc (by simp) _).trans (hb.mono (by simp; omega))⟩
end Go.Proofs.Ytkdggnfjefgonaa.Hist
