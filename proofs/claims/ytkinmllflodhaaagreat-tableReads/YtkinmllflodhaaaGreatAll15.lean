/- Joined out of the texts SetRef, TabIds, TabKeys, TabRank, TabFew, EncRefOp, EncText, in that order. -/
import Derived.Test.YtkinmllflodhaaaGreatAll14
import Derived.Deep.LoopGhost
import Derived.Test.YtkinmllflodhaaaGreatAll12
import Derived.Test.YtkinmllflodhaaaGreatAll11
/- The document's set of a row: the least that is not taken, again and again. -/
namespace Go.Proofs.YtkinmllflodhaaaGreat.Sets
open Go.RowKit Go.Proofs.YtkinmllflodhaaaGreat.Dig Go.Proofs.YtkinmllflodhaaaGreat.Mem
set_option linter.unusedVariables false
set_option linter.unusedSimpArgs false

/-- The least that is not among the first k is the next one. -/
theorem next_least {l : List Int} {k : Nat} {b : Int} (hb : b ∈ l) (hn : b ∉ (setL ltI l).take k) (hm : ∀ x ∈ l, x ∉ (setL ltI l).take k → b ≤ x) :
    k < (setL ltI l).length ∧ (setL ltI l).take k ++ [b] = (setL ltI l).take (k + 1) := by
  obtain ⟨s, hs⟩ : ∃ s, s = setL ltI l := ⟨_, rfl⟩
  have hr := rising_setL totI l
  have hmem := mem_setL totI l
  rw [← hs] at hn hm hr hmem ⊢
  have hbs : b ∈ s := (hmem b).2 hb
  rw [← List.take_append_drop k s] at hbs
  have hbd : b ∈ s.drop k := (List.mem_append.1 hbs).resolve_left hn
  have hlt : k < s.length := by
    rcases Nat.lt_or_ge k s.length with q | q
    · exact q
    · rw [List.drop_eq_nil_of_le q] at hbd; simp at hbd
  refine ⟨hlt, ?_⟩
  have hd := List.drop_eq_getElem_cons hlt
  rw [← List.take_append_drop k s] at hr
  obtain ⟨_, hr2, hr3⟩ := rising_append.1 hr
  have hx : s[k] ∉ s.take k := fun q => by
    have hin : s[k] ∈ s.drop k := by rw [hd]; exact List.mem_cons_self
    have := hr3 _ q s[k] hin
    rw [totI.irr] at this; cases this
  have h1 := hm s[k] ((hmem _).1 (List.getElem_mem hlt)) hx
  have h2 : s[k] ≤ b := by
    rw [hd] at hbd hr2
    rcases List.mem_cons.1 hbd with e | q
    · omega
    · have := (rising_cons.1 hr2).1 b q
      simp [ltI] at this
      omega
  have e : s[k] = b := by omega
  rw [List.take_add_one, List.getElem?_eq_getElem hlt, e]
  rfl
theorem none_left {l : List Int} {k : Nat} (h : ∀ x ∈ l, x ∈ (setL ltI l).take k) (hk : k ≤ (setL ltI l).length) : k = (setL ltI l).length := by
  rcases Nat.lt_or_ge k (setL ltI l).length with q | q
  · exfalso
    have hr := rising_setL totI l
    have hd := List.drop_eq_getElem_cons q
    have hx := h _ ((mem_setL totI l _).1 (List.getElem_mem q))
    rw [← List.take_append_drop k (setL ltI l)] at hr
    have hin : (setL ltI l)[k] ∈ (setL ltI l).drop k := by rw [hd]; exact List.mem_cons_self
    have := (rising_append.1 hr).2.2 _ hx _ hin
    rw [totI.irr] at this; cases this
  · omega
def OfR (w : World) (s : List Int) (ov nv : Value) (wr : World) : Prop :=
  ∃ (k : Nat), k ≤ s.length ∧ nv = .int .i64 (k : Int) ∧ Hid (wr.ownsRow w.heap.size 3 1 ov k ((s.take k).map (Value.int .i64))) ∧ Hid (Below w.heap.size w wr)
def InR (l out : List Int) (n : Nat) (bv fv kv : Value) : Prop :=
  ∃ (j : Nat), j ≤ n ∧ kv = .int .i64 (j : Int) ∧ ((fv = .bool false ∧ bv = .int .i64 0 ∧ Hid (∀ i, i < j → l.getD i 0 ∈ out)) ∨ ∃ b, fv = .bool true ∧ bv = .int .i64 b ∧ Hid (b ∈ l ∧ b ∉ out ∧ ∀ i, i < j → l.getD i 0 ∉ out → b ≤ l.getD i 0))
set_option maxHeartbeats 2000000 in
set_option maxRecDepth 20000 in
theorem rof_fresh (a : Option Addr) (c : Nat) (l : List Int) (w : World) (h : RowV w a c l) (hm : l.length ≤ 10000) :
    Calls Tryz.prog 73 #[.slice a l.length c] w fun e w' => (∃ a' c', e = .returned (.slice a' (setL ltI l).length c') ∧ RowV w' a' c' (setL ltI l) ∧ ∀ x, a' = some x → w.heap.size ≤ x.block) ∧ Below w.heap.size w w' := by
  obtain ⟨i0, hi, hz0, hz1, hz2⟩ := info_parts Tryz.infoSetInt
  have HA := hide h
  have hsl := setL_length (lt := ltI) l
  have HNL := hide (fun k => none_left (l := l) (k := k))
  have HNX := hide (fun k b => next_least (l := l) (k := k) (b := b))
  have HW : Hid (∀ x ∈ setL ltI l, (Lit.int .i64 x).wf = true) := fun x hx => h.wf x ((mem_setL totI l x).1 hx)
  obtain ⟨s, hs⟩ : ∃ s, s = setL ltI l := ⟨_, rfl⟩
  rw [← hs] at hsl HNL HNX HW ⊢
  obtain ⟨n, hn⟩ : ∃ n, n = l.length := ⟨_, rfl⟩
  rw [← hn] at hsl hm ⊢
  have HN := hide hn
  clear hs hn h
  go_enter Tryz.func73, Tryz.ntmps73
  go_wp2
  go_loopw [3, 4] (fun ov nv wr => OfR w s ov nv wr) (fun _ nv _ => n + 1 - (intOf nv).toNat)
  case atStart => exact ⟨0, by omega, rfl, World.ownsRow_nil _ _ _ _, Below.refl _ _⟩
  case round =>
    obtain ⟨k, hk, rfl, hown, hbel⟩ := hrel
    obtain ⟨W, hW⟩ : ∃ W, W = wr := ⟨_, rfl⟩
    subst hW
    obtain ⟨oa, oc, rfl⟩ := own_form hown.out
    have hkn : (k : Int) ≤ (n : Int) := by omega
    have HO : Hid (RowV W oa oc (s.take k)) := by
      have ho := hown.out
      have e : (s.take k).length = k := by rw [List.length_take]; omega
      exact (rowv_of_own (l := s.take k) (n := k) (by rw [e]; exact ho) (by omega) (fun x hx => HW.out x (List.mem_of_mem_take hx))).2
    have HHAS : Hid (∀ x : Int, Calls Tryz.prog 90 #[.slice oa k oc, .int .i64 x] W fun e w' => e = .returned (.bool (decide (x ∈ s.take k))) ∧ w' = W) := fun x => by
      have := rhas_any oa oc (s.take k) x W HO.out
      rw [show (s.take k).length = k by rw [List.length_take]; omega] at this
      exact this
    have I0 : Hid (InR l (s.take k) n (.int .i64 0) (.bool false) (.int .i64 0)) := ⟨0, by omega, rfl, .inl ⟨rfl, rfl, fun i hi => by omega⟩⟩
    go_wp2
    go_loopw [5, 6, 7] (fun bv fv kv wr => InR l (s.take k) n bv fv kv ∧ wr = W) (fun _ _ kv _ => n - (intOf kv).toNat)
    case atStart => exact ⟨I0.out, rfl⟩
    case round =>
      obtain ⟨⟨j, hj, rfl, hin⟩, hwr⟩ := hrel
      replace hwr := hwr.symm
      subst hwr
      by_cases hlt : j < n
      · have hj2 : j < l.length := by rw [← HN.out]; exact hlt
        obtain ⟨b1, o1, rfl, hc1⟩ := (HA.out.keep (hbel.out.mono (Nat.le_refl _))).at hj2
        have hxl : l.getD j 0 ∈ l := by rw [List.getD_eq_getElem?_getD, List.getElem?_eq_getElem hj2]; exact List.getElem_mem hj2
        obtain ⟨x, hx⟩ : ∃ x, x = l.getD j 0 := ⟨_, rfl⟩
        rw [← hx] at hc1 hxl
        have HX := hide hx
        have HXL := hide hxl
        clear hx hxl hj2
        have step : ∀ (p : Int → Prop), (∀ i, i < j → p (l.getD i 0)) → p x → ∀ i, i < j + 1 → p (l.getD i 0) := fun p h1 h2 i hi => by
          by_cases e : i = j
          · rw [e, ← HX.out]; exact h2
          · exact h1 i (by omega)
        have STEP := hide step
        clear step
        obtain ⟨q, hq⟩ : ∃ q, Hid (decide (x ∈ s.take k) = q) := ⟨_, rfl⟩
        cases q with
        | true =>
          have HQ : Hid (x ∈ s.take k) := hide (of_decide_eq_true hq.out)
          rcases hin with ⟨rfl, rfl, hall⟩ | ⟨b, rfl, rfl, hb⟩
          · have R : Hid (InR l (s.take k) n (.int .i64 0) (.bool false) (.int .i64 ((j : Int) + 1))) := ⟨j + 1, by omega, by simp, .inl ⟨rfl, rfl, STEP.out (fun y => y ∈ s.take k) hall.out HQ.out⟩⟩
            go_wp2_with (go_at_call 90; go_must ((with_reducible refine (HHAS.out x).mono ?_); rw [hq.out]; rintro e w8 ⟨rfl, hw8⟩; replace hw8 := hw8.symm; subst hw8))
            go_roundw
            case rel => exact ⟨R.out, trivial⟩
            case measure => simp [intOf]; omega
          · have R : Hid (InR l (s.take k) n (.int .i64 b) (.bool true) (.int .i64 ((j : Int) + 1))) := ⟨j + 1, by omega, by simp, .inr ⟨b, rfl, rfl, hb.out.1, hb.out.2.1, STEP.out (fun y => y ∉ s.take k → b ≤ y) hb.out.2.2 (fun h => absurd HQ.out h)⟩⟩
            go_wp2_with (go_at_call 90; go_must ((with_reducible refine (HHAS.out x).mono ?_); rw [hq.out]; rintro e w8 ⟨rfl, hw8⟩; replace hw8 := hw8.symm; subst hw8))
            go_roundw
            case rel => exact ⟨R.out, trivial⟩
            case measure => simp [intOf]; omega
        | false =>
          have HQ : Hid (x ∉ s.take k) := hide (of_decide_eq_false hq.out)
          rcases hin with ⟨rfl, rfl, hall⟩ | ⟨b, rfl, rfl, hb⟩
          · have R : Hid (InR l (s.take k) n (.int .i64 x) (.bool true) (.int .i64 ((j : Int) + 1))) := ⟨j + 1, by omega, by simp, .inr ⟨x, rfl, rfl, HXL.out, HQ.out, STEP.out (fun y => y ∉ s.take k → x ≤ y) (fun i hi h => absurd (hall.out i hi) h) (fun _ => Int.le_refl _)⟩⟩
            go_wp2_with (go_at_call 90; go_must ((with_reducible refine (HHAS.out x).mono ?_); rw [hq.out]; rintro e w8 ⟨rfl, hw8⟩; replace hw8 := hw8.symm; subst hw8))
            go_roundw
            case rel => exact ⟨R.out, trivial⟩
            case measure => simp [intOf]; omega
          · by_cases hxb : x < b
            · have R : Hid (InR l (s.take k) n (.int .i64 x) (.bool true) (.int .i64 ((j : Int) + 1))) := ⟨j + 1, by omega, by simp, .inr ⟨x, rfl, rfl, HXL.out, HQ.out, STEP.out (fun y => y ∉ s.take k → x ≤ y) (fun i hi h => by have := hb.out.2.2 i hi h; omega) (fun _ => Int.le_refl _)⟩⟩
              go_wp2_with (go_at_call 90; go_must ((with_reducible refine (HHAS.out x).mono ?_); rw [hq.out]; rintro e w8 ⟨rfl, hw8⟩; replace hw8 := hw8.symm; subst hw8))
              go_roundw
              case rel => exact ⟨R.out, trivial⟩
              case measure => simp [intOf]; omega
            · have R : Hid (InR l (s.take k) n (.int .i64 b) (.bool true) (.int .i64 ((j : Int) + 1))) := ⟨j + 1, by omega, by simp, .inr ⟨b, rfl, rfl, hb.out.1, hb.out.2.1, STEP.out (fun y => y ∉ s.take k → b ≤ y) hb.out.2.2 (fun _ => by omega)⟩⟩
              go_wp2_with (go_at_call 90; go_must ((with_reducible refine (HHAS.out x).mono ?_); rw [hq.out]; rintro e w8 ⟨rfl, hw8⟩; replace hw8 := hw8.symm; subst hw8))
              go_roundw
              case rel => exact ⟨R.out, trivial⟩
              case measure => simp [intOf]; omega
      · obtain rfl : j = n := by omega
        have hmemj : ∀ (p : Int → Prop), (∀ i, i < j → p (l.getD i 0)) → ∀ x ∈ l, p x := fun p h x hx => by
          obtain ⟨i, hi, e⟩ := List.getElem_of_mem hx
          have := h i (by rw [HN.out]; exact hi)
          rw [List.getD_eq_getElem?_getD, List.getElem?_eq_getElem hi] at this
          rw [← e]; exact this
        have HMJ := hide hmemj
        clear hmemj
        rcases hin with ⟨rfl, rfl, hall⟩ | ⟨b, rfl, rfl, hb⟩
        · have hks : k = s.length := HNL.out k (HMJ.out _ hall.out) hk
          have HF : Hid (RowV W oa oc s ∧ k = s.length) := ⟨by have := HO.out; rw [hks, List.take_length] at this; exact this, hks⟩
          go_wp2
          go_ret
          exact ⟨⟨oa, oc, by rw [HF.out.2]; rfl, HF.out.1, fun x e => by subst e; exact (World.ownsRow.lt hown.out x.block rfl).1⟩, hbel.out⟩
        · obtain ⟨hk2, hnx⟩ := HNX.out k b hb.out.1 hb.out.2.1 (HMJ.out (fun y => y ∉ s.take k → b ≤ y) hb.out.2.2)
          have HNXT := hide hnx
          have hrow := hown.out
          have hsz2 := hbel.out.size
          clear hnx
          go_wp2_with (at_builtin; go_loud (refine wpList_append_own _ rfl _ _ 36 rfl w.heap.size 3 i0 (.int .i64 0) 1 8 Tryz.underlying36 hi hz0 hz1 hz2 rfl (by decide) _ _ _ rfl (hrow.alloc _) ⟨W.heap.size, 0, none⟩ 1 1 [.int .i64 b] rfl rfl (one_new _ _ _) (by simp [Value.oneCell']) (by unfold maxLen; omega) (by omega) (by simp; omega) ?_); intro v1 w1 hown1 hgrow1 _; have HOWN1 := hide hown1; have HB1 := hide ((hbel.out.alloc hsz2 (.cells #[.int .i64 b] 3)).grown hgrow1 (by simp; omega) (fun q e => (World.ownsRow.lt hown.out q e).1)); clear hown1 hgrow1)
          go_roundw
          case rel => exact ⟨k + 1, by omega, by simp, by have := HOWN1.out; rw [← HNXT.out, List.map_append]; exact this, HB1.out⟩
          case measure => simp [intOf]; omega
theorem rof_any (a : Option Addr) (c : Nat) (l : List Int) (w : World) (h : RowV w a c l) (hm : l.length ≤ 10000) :
    Calls Tryz.prog 73 #[.slice a l.length c] w fun e w' => (∃ a' c', e = .returned (.slice a' (setL ltI l).length c') ∧ RowV w' a' c' (setL ltI l)) ∧ Below w.heap.size w w' := by
  refine (rof_fresh a c l w h hm).mono ?_
  rintro e w' ⟨⟨a', c', rfl, h1, _⟩, h2⟩
  exact ⟨⟨a', c', rfl, h1⟩, h2⟩
end Go.Proofs.YtkinmllflodhaaaGreat.Sets

/- The document's numbers of committed transactions. -/
namespace Go.Proofs.YtkinmllflodhaaaGreat.Tab
open Go.RowKit Go.Proofs.YtkinmllflodhaaaGreat.Dig Go.Proofs.YtkinmllflodhaaaGreat.Mem Go.Proofs.YtkinmllflodhaaaGreat.Hist Go.Proofs.YtkinmllflodhaaaGreat.Own Go.Proofs.YtkinmllflodhaaaGreat.Thing Go.Proofs.YtkinmllflodhaaaGreat.Sets Go.Shelf Go.Proofs.YtkinmllflodhaaaGreat.Keys
set_option linter.unusedVariables false
set_option linter.unusedSimpArgs false

def idsR (w : World) (ts : List TxnM) (ov kv : Value) (wr : World) : Prop :=
  ∃ (k : Nat), k ≤ ts.length ∧ kv = .int .i64 (k : Int) ∧ Hid (wr.ownsRow w.heap.size 3 1 ov (idsOf (ts.take k)).length ((idsOf (ts.take k)).map (Value.int .i64))) ∧ Hid (Below w.heap.size w wr)
theorem ids_hit {ts : List TxnM} {k : Nat} (h : k < ts.length) (hp : ts[k].ab = false) : idsOf (ts.take (k + 1)) = idsOf (ts.take k) ++ [ts[k].id] := by
  unfold idsOf
  rw [List.take_succ_eq_append_getElem h, List.filter_append, List.map_append]
  simp [hp]
theorem ids_miss {ts : List TxnM} {k : Nat} (h : k < ts.length) (hp : ts[k].ab = true) : idsOf (ts.take (k + 1)) = idsOf (ts.take k) := by
  unfold idsOf
  rw [List.take_succ_eq_append_getElem h, List.filter_append, List.map_append]
  simp [hp]
theorem idsOf_le (ts : List TxnM) : (idsOf ts).length ≤ ts.length := by
  unfold idsOf
  rw [List.length_map]
  exact List.length_filter_le _ _
set_option maxRecDepth 20000 in
set_option maxHeartbeats 4000000 in
theorem rids_any (F : Nat → Prop) (v : Value) (ts : List TxnM) (w : World) (h : TxnsAt F w v ts) (hF : ∀ b, F b → b < w.heap.size) (hm : ts.length ≤ 1000) :
    Calls Tryz.prog 45 #[.agg #[v]] w fun e w' => (∃ a' c', e = .returned (.slice a' (docIds ts).length c') ∧ RowV w' a' c' (docIds ts)) ∧ Below w.heap.size w w' := by
  obtain ⟨i0, hi, hz0, hz1, hz2⟩ := info_parts Tryz.infoSetInt
  obtain ⟨a, c, rfl, hc1, hc2⟩ := h.shape
  unfold maxLen at hc2
  have H : Hid (TxnsAt F w (.slice a ts.length c) ts) := h
  clear h
  have HWFA : Hid (∀ x ∈ idsOf ts, (Lit.int .i64 x).wf = true) := hide (by
    intro x hx
    obtain ⟨t, ht, rfl⟩ := List.mem_map.1 hx
    obtain ⟨i, hi, e⟩ := List.getElem_of_mem (List.mem_filter.1 ht).1
    obtain ⟨_, _, _, _, _, _, _, _, _, _, _, hw⟩ := H.out.at hi
    rw [e] at hw
    exact hw)
  go_enter Tryz.func45, Tryz.ntmps45
  go_upto_region 1 with fail
  obtain ⟨w1, hw1⟩ : ∃ w1, w1 = w.alloc (.cells #[.slice a ts.length c] 24) := ⟨_, rfl⟩
  rw [← hw1]
  have HB1 : Hid (Below w.heap.size w w1) := hide (by rw [hw1]; exact (Below.refl _ _).alloc (Nat.le_refl _) _)
  have HX1 : Hid (Is w1 w.heap.size #[.slice a ts.length c]) := hide (by rw [hw1]; exact Is.made w _ _ rfl)
  have HH1 := hide (H.out.keep HB1.out)
  clear hw1 H
  go_wp2
  go_loopw [3, 4] (fun ov kv wr => idsR w1 ts ov kv wr) (fun _ kv _ => ts.length - (intOf kv).toNat)
  case atStart => exact ⟨0, by omega, rfl, World.ownsRow_nil _ _ _ _, Below.refl _ _⟩
  case round =>
    obtain ⟨k, hk, rfl, hown, hbel⟩ := hrel
    obtain ⟨W, hW⟩ : ∃ W, W = wr := ⟨_, rfl⟩
    subst hW
    obtain ⟨oa, oc, rfl⟩ := Own.own_form hown.out
    have HXW := hide (HX1.out.below hbel.out)
    have x0 : W.cell? ⟨w.heap.size, 0, none⟩ = some (.slice a ts.length c) := HXW.out.cell 0 rfl
    by_cases hlt : k < ts.length
    · obtain ⟨b1, o1, l1, q1, rfl, _, hb1, c0, c1, c2, hi1, hwf⟩ := (HH1.out.keep hbel.out).at hlt
      have hle := idsOf_le (ts.take k)
      rw [List.length_take] at hle
      have HO := hown.out
      have HHIT := hide (ids_hit hlt)
      have HMISS := hide (ids_miss hlt)
      obtain ⟨q, hq⟩ : ∃ q, q = ts[k].ab := ⟨_, rfl⟩
      rw [← hq] at c1
      have HQ := hide hq
      have HWF := hide hwf
      have hsz := hbel.out.size
      have HK := hide hk
      clear hi1 hq hwf hk
      cases q with
      | true =>
        have HR : Hid (idsR w1 ts (.slice oa (idsOf (ts.take k)).length oc) (.int .i64 ((k : Int) + 1)) W) := ⟨k + 1, by omega, by simp, by rw [HMISS.out HQ.out.symm]; exact hown, hbel⟩
        obtain ⟨m, hm⟩ : ∃ m, m = (idsOf (ts.take k)).length := ⟨_, rfl⟩
        rw [← hm] at HR ⊢
        clear HO hown hm HHIT HMISS
        go_wp2
        go_roundw
        case rel => exact HR.out
        case measure => simp [intOf]; omega
      | false =>
        have hrow := hown.out
        have HE := hide (HHIT.out HQ.out.symm)
        obtain ⟨m, hm⟩ : ∃ m, m = (idsOf (ts.take k)).length := ⟨_, rfl⟩
        rw [← hm] at hrow hle ⊢
        have HM := hide hm
        clear HO hown hm HHIT HMISS
        go_wp2_with (at_builtin; go_loud (refine wpList_append_own _ rfl _ _ 36 rfl w1.heap.size 3 i0 (.int .i64 0) 1 8 Tryz.underlying36 hi hz0 hz1 hz2 rfl (by decide) _ _ _ rfl (hrow.alloc _) ⟨W.heap.size, 0, none⟩ 1 1 [.int .i64 ts[k].id] rfl rfl (one_new _ _ _) (by simp [Value.oneCell']) (by unfold maxLen; omega) (by omega) (by simp; omega) ?_); intro v2 w2 hown2 hgrow2 _; have HOWN2 := hide hown2; have HB2 := hide ((hbel.out.alloc hsz (.cells #[.int .i64 ts[k].id] 3)).grown hgrow2 (by simp; omega) (fun q e => (World.ownsRow.lt hrow q e).1)); clear hown2 hgrow2)
        go_roundw
        case rel => exact ⟨k + 1, by omega, by simp, by have := HOWN2.out; rw [HE.out, List.map_append, List.length_append, ← HM.out]; exact this, HB2⟩
        case measure => simp [intOf]; omega
    · obtain rfl : k = ts.length := by omega
      have hrow := hown.out
      rw [List.take_length] at hrow ⊢
      have hle := idsOf_le ts
      have HV := hide (rowv_of_own hrow (by omega) HWFA.out).2
      obtain ⟨m, hm⟩ : ∃ m, m = (idsOf ts).length := ⟨_, rfl⟩
      rw [← hm] at hle ⊢
      have HM := hide hm
      clear hown hrow hm
      have CO : Hid (Calls Tryz.prog 73 #[.slice oa m oc] W fun e w' => (∃ a' c', e = .returned (.slice a' (docIds ts).length c') ∧ RowV w' a' c' (docIds ts)) ∧ Below W.heap.size W w') := hide (by rw [HM.out]; exact rof_any _ _ _ _ HV.out (by rw [← HM.out]; omega))
      go_wp2_with (go_at_call 73; go_must ((with_reducible refine (Hid.out CO).mono ?_); rintro e w3 ⟨⟨a3, c3, rfl, hv3⟩, hb3⟩))
      go_ret
      exact ⟨⟨a3, c3, rfl, hv3⟩, HB1.out.trans ((hbel.out.mono HB1.out.size).trans (hb3.mono (by have := HB1.out.size; have := hbel.out.size; omega)))⟩
end Go.Proofs.YtkinmllflodhaaaGreat.Tab

/- The document's keys of a history. -/
namespace Go.Proofs.YtkinmllflodhaaaGreat.Tab
open Go.RowKit Go.Proofs.YtkinmllflodhaaaGreat.Dig Go.Proofs.YtkinmllflodhaaaGreat.Mem Go.Proofs.YtkinmllflodhaaaGreat.Hist Go.Proofs.YtkinmllflodhaaaGreat.Own Go.Proofs.YtkinmllflodhaaaGreat.Thing Go.Proofs.YtkinmllflodhaaaGreat.Sets Go.Shelf Go.Proofs.YtkinmllflodhaaaGreat.Keys
set_option linter.unusedVariables false
set_option linter.unusedSimpArgs false

def keysR (w : World) (ts : List TxnM) (ov kv : Value) (wr : World) : Prop :=
  ∃ (k : Nat), k ≤ ts.length ∧ kv = .int .i64 (k : Int) ∧ Hid (wr.ownsRow w.heap.size 3 1 ov (keysOf (ts.take k)).length ((keysOf (ts.take k)).map (Value.int .i64))) ∧ Hid (Below w.heap.size w wr)
def keysR2 (w : World) (l : List Int) (os : List OpM) (ov jv : Value) (wr : World) : Prop :=
  ∃ (j : Nat), j ≤ os.length ∧ jv = .int .i64 (j : Int) ∧ Hid (wr.ownsRow w.heap.size 3 1 ov (l ++ (os.take j).map (·.key)).length ((l ++ (os.take j).map (·.key)).map (Value.int .i64))) ∧ Hid (Below w.heap.size w wr)
theorem keysOf_next {ts : List TxnM} {k : Nat} (h : k < ts.length) : keysOf (ts.take (k + 1)) = keysOf (ts.take k) ++ ts[k].ops.map (·.key) := by
  unfold keysOf
  rw [List.take_succ_eq_append_getElem h, List.flatMap_append]
  simp
theorem keysOf_len : ∀ ts : List TxnM, (keysOf ts).length = opsN ts
  | [] => rfl
  | t :: ts => by
    have := keysOf_len ts
    unfold keysOf opsN at this ⊢
    simp [List.length_flatMap] at this ⊢
theorem keys_hit {l : List Int} {os : List OpM} {j : Nat} (h : j < os.length) : l ++ (os.take (j + 1)).map (·.key) = (l ++ (os.take j).map (·.key)) ++ [os[j].key] := by
  rw [List.take_succ_eq_append_getElem h, List.map_append, ← List.append_assoc]
  rfl
end Go.Proofs.YtkinmllflodhaaaGreat.Tab

/- The document's place of a number. -/
namespace Go.Proofs.YtkinmllflodhaaaGreat.Tab
open Go.RowKit Go.Proofs.YtkinmllflodhaaaGreat.Dig Go.Proofs.YtkinmllflodhaaaGreat.Mem Go.Proofs.YtkinmllflodhaaaGreat.Hist Go.Proofs.YtkinmllflodhaaaGreat.Own Go.Proofs.YtkinmllflodhaaaGreat.Thing Go.Proofs.YtkinmllflodhaaaGreat.Sets Go.Shelf Go.Proofs.YtkinmllflodhaaaGreat.Keys
set_option linter.unusedVariables false
set_option linter.unusedSimpArgs false

theorem rank_at {l : List Int} (h : Rising ltI l) {k : Nat} (hk : k < l.length) {id : Int} (e : l.getD k 0 = id) : rankL l id = k ∧ decide (id ∈ l) = true := by
  have e' : l[k] = id := by rw [← e, List.getD_eq_getElem?_getD, List.getElem?_eq_getElem hk]; rfl
  have hm : id ∈ l := by rw [← e']; exact List.getElem_mem hk
  refine ⟨?_, by simp [hm]⟩
  unfold rankL
  rw [if_pos hm]
  have hd := List.drop_eq_getElem_cons hk
  rw [← List.take_append_drop k l] at h ⊢
  obtain ⟨_, h2, h3⟩ := rising_append.1 h
  rw [hd, e'] at h2 h3
  rw [List.take_append_drop, ← List.take_append_drop k l, List.countP_append, hd, e']
  have c1 : (l.take k).countP (fun y => ltI y id) = k := by
    rw [List.countP_eq_length.2 fun x hx => h3 x hx id List.mem_cons_self, List.length_take]
    omega
  have c2 : (id :: l.drop (k + 1)).countP (fun y => ltI y id) = 0 := by
    refine List.countP_eq_zero.2 fun x hx => ?_
    rcases List.mem_cons.1 hx with rfl | q
    · simp [ltI]
    · have := (rising_cons.1 h2).1 x q
      simp [ltI] at this ⊢
      omega
  omega
theorem rank_no {l : List Int} {id : Int} (h : ∀ i, i < l.length → l.getD i 0 ≠ id) : rankL l id = 0 ∧ decide (id ∈ l) = false := by
  have : id ∉ l := fun q => by
    obtain ⟨i, hi, e⟩ := List.getElem_of_mem q
    exact h i hi (by rw [List.getD_eq_getElem?_getD, List.getElem?_eq_getElem hi]; exact e)
  exact ⟨by unfold rankL; rw [if_neg this], by simp [this]⟩
def RkR (l : List Int) (id : Int) (kv : Value) : Prop := ∃ k : Nat, k ≤ l.length ∧ kv = .int .i64 (k : Int) ∧ Hid (∀ i, i < k → l.getD i 0 ≠ id)
end Go.Proofs.YtkinmllflodhaaaGreat.Tab

/- The document's Few, of at most 20 transactions and 60 operations. -/
namespace Go.Proofs.YtkinmllflodhaaaGreat.Hist
open Go.RowKit Go.Proofs.YtkinmllflodhaaaGreat.Dig Go.Proofs.YtkinmllflodhaaaGreat.Mem
set_option linter.unusedVariables false
set_option linter.unusedSimpArgs false

def FewRel2 (ts : List TxnM) (n i : Value) : Prop := ∃ k : Nat, k ≤ ts.length ∧ i = .int .i64 (k : Int) ∧ n = .int .i64 (opsN (ts.take k) : Int) ∧ opsN (ts.take k) ≤ 60 ∧ Hid (Lists 100 (ts.take k))
theorem FewRel2.next {ts : List TxnM} {k : Nat} {n i : Value} (hk : k < ts.length) (h : Hid (Lists 100 (ts.take k))) (hl : ∀ o ∈ ts[k].ops, o.list.length ≤ 100) (hn : opsN (ts.take k) + ts[k].ops.length ≤ 60)
    (e1 : i = .int .i64 ((k + 1 : Nat) : Int)) (e2 : n = .int .i64 ((opsN (ts.take k) + ts[k].ops.length : Nat) : Int)) : FewRel2 ts n i := by
  refine ⟨k + 1, by omega, e1, by rw [opsN_take hk]; exact e2, by rw [opsN_take hk]; exact hn, hide ?_⟩
  intro t ht
  rw [List.take_succ_eq_append_getElem hk] at ht
  rcases List.mem_append.1 ht with q | q
  · exact h.out t q
  · simp at q; subst q; exact hl
def FewPost2 (ts : List TxnM) (w : World) (e : Ending) (w' : World) : Prop := ∃ r, e = .returned (.bool r) ∧ (r = true → ts.length ≤ 20 ∧ opsN ts ≤ 60 ∧ Lists 100 ts) ∧ Below w.heap.size w w'
theorem rfew2_any (F : Nat → Prop) (tv : Value) (ts : List TxnM) (w : World) (h : TxnsAt F w tv ts) :
    Calls Tryz.prog 5 #[.agg #[tv], .int .i64 20, .int .i64 60] w (FewPost2 ts w) := by
  obtain ⟨a, c, rfl, hc1, hc2⟩ := h.shape
  unfold maxLen at hc2
  have H : Hid (TxnsAt F w (.slice a ts.length c) ts) := h
  clear h
  by_cases h40 : ts.length ≤ 20
  rotate_left
  · have h40' : (20 : Int) < (ts.length : Int) := by omega
    go_enter Tryz.func5, Tryz.ntmps5
    go_wp2
    go_ret
    exact ⟨false, rfl, by simp, (Below.refl _ _).alloc (Nat.le_refl _) _⟩
  have h40' : ¬ (20 : Int) < (ts.length : Int) := by omega
  go_enter Tryz.func5, Tryz.ntmps5
  go_wp2
  go_loop [7, 8] (fun n i => FewRel2 ts n i) (fun _ i => ts.length - (intOf i).toNat)
  case atStart => exact ⟨0, by omega, rfl, rfl, by simp [opsN], hide (by intro t ht; simp at ht)⟩
  case round =>
    obtain ⟨k, hk, rfl, rfl, hn, hL⟩ := hrel
    by_cases hlt : k < ts.length
    · obtain ⟨b1, o1, l1, q1, rfl, _, hb1, c0, c1, c2, hi1, _⟩ := H.out.at hlt
      obtain ⟨_, _, e, g1, g2⟩ := hi1.shape
      simp at e
      obtain ⟨rfl, rfl⟩ := e
      unfold maxLen at g2
      have HO : Hid (OpsAt F w (.slice l1 ts[k].ops.length q1) ts[k].ops) := hi1
      clear hi1
      by_cases h2 : opsN (ts.take k) + ts[k].ops.length ≤ 60
      rotate_left
      · have h2' : (60 : Int) - (opsN (ts.take k) : Int) < (ts[k].ops.length : Int) := by omega
        clear h2
        go_wp2
        go_ret
        exact ⟨false, rfl, by simp, (Below.refl _ _).alloc (Nat.le_refl _) _⟩
      have h2' : ¬ (60 : Int) - (opsN (ts.take k) : Int) < (ts[k].ops.length : Int) := by omega
      go_wp2
      go_loop [9] (fun i => ∃ j : Nat, j ≤ ts[k].ops.length ∧ i = .int .i64 (j : Int) ∧ Hid (∀ o ∈ ts[k].ops.take j, o.list.length ≤ 100)) (fun i => ts[k].ops.length - (intOf i).toNat)
      case atStart => exact ⟨0, by omega, rfl, hide (by simp)⟩
      case round =>
        obtain ⟨j, hj, rfl, hl⟩ := hrel
        by_cases hlt2 : j < ts[k].ops.length
        · obtain ⟨b3, o3, l3, q3, rfl, _, hb3, e0, e1, e2, e3, hi3, _⟩ := HO.out.at hlt2
          obtain ⟨_, _, e, g3, g4⟩ := hi3.shape
          simp at e
          obtain ⟨rfl, rfl⟩ := e
          unfold maxLen at g4
          clear hi3
          by_cases h3 : ts[k].ops[j].list.length ≤ 100
          · have h3' : ¬ (100 : Int) < (ts[k].ops[j].list.length : Int) := by omega
            have HN : Hid (∀ o ∈ ts[k].ops.take (j + 1), o.list.length ≤ 100) := hide (by
              intro o ho
              rw [List.take_succ_eq_append_getElem hlt2] at ho
              rcases List.mem_append.1 ho with q | q
              · exact hl.out o q
              · simp at q; subst q; exact h3)
            go_wp2
            go_round
            case rel => exact ⟨j + 1, by omega, by go_num, HN⟩
            case measure => simp [intOf]; omega
          · have h3' : (100 : Int) < (ts[k].ops[j].list.length : Int) := by omega
            go_wp2
            go_ret
            exact ⟨false, rfl, by simp, (Below.refl _ _).alloc (Nat.le_refl _) _⟩
        · have HA : Hid (∀ o ∈ ts[k].ops, o.list.length ≤ 100) := hide (by
            have q := hl.out
            rwa [List.take_of_length_le (by omega)] at q)
          go_wp2
          go_round
          case rel => exact FewRel2.next hlt hL HA.out h2 (by go_num) (by go_num)
          case measure => simp [intOf]; omega
    · have HA : Hid (ts.length ≤ 20 ∧ opsN ts ≤ 60 ∧ Lists 100 ts) := hide (by
        have q := hL.out
        rw [List.take_of_length_le (by omega)] at q hn
        exact ⟨h40, hn, q⟩)
      go_wp2
      go_ret
      exact ⟨true, rfl, fun _ => HA.out, (Below.refl _ _).alloc (Nat.le_refl _) _⟩
end Go.Proofs.YtkinmllflodhaaaGreat.Hist

/- The contract of the document's mayOp. -/
namespace Go.Proofs.YtkinmllflodhaaaGreat.Hist
open Go.RowKit Go.Proofs.YtkinmllflodhaaaGreat.Dig Go.Proofs.YtkinmllflodhaaaGreat.Mem
set_option linter.unusedVariables false
set_option linter.unusedSimpArgs false

set_option maxHeartbeats 1000000 in
theorem rmayop_any (F : Nat → Prop) (o : OpM) (rd : Bool) (lv : Value) (w : World) (hrd : o.read = rd) (h : IntsAt F w lv o.list) (hl : o.list.length ≤ 1000000) :
    Calls Tryz.prog 23 #[.agg #[.bool rd, .int .i64 o.key, .int .i64 o.value, lv]] w fun e w' => e = .returned (.bool (mayOpB o)) ∧ Below w.heap.size w w' := by
  obtain ⟨a, c, rfl, _, _⟩ := h.shape
  have H := hide (h.keep ((Below.refl w.heap.size w).alloc (Nat.le_refl _) (.cells #[.bool rd, .int .i64 o.key, .int .i64 o.value, .slice a o.list.length c] 57)))
  have HB := hide ((Below.refl w.heap.size w).alloc (Nat.le_refl _) (.cells #[.bool rd, .int .i64 o.key, .int .i64 o.value, .slice a o.list.length c] 57))
  have hT : mayOpB o = if rd = true then mayB o.key && o.list.all mayB && o.value == 0 else mayB o.key && mayB o.value && o.list.length == 0 := by unfold mayOpB; rw [hrd]
  clear h hrd
  obtain ⟨b1, hb1⟩ : ∃ b, mayB o.key = b := ⟨_, rfl⟩
  have B1 := hide hb1
  cases b1 with
  | false =>
    have T : Hid (mayOpB o = false) := hide (by rw [hT, hb1]; cases rd <;> rfl)
    clear hT hb1
    go_enter Tryz.func23, Tryz.ntmps23
    go_wp2_with (first | (go_at_call 22; (with_reducible refine (rmay_any o.key _).mono ?_); rw [B1.out]; rintro e w1 ⟨rfl, hq⟩; replace hq := hq.symm; subst hq))
    go_ret
    exact ⟨by rw [T.out]; rfl, HB.out⟩
  | true =>
  cases rd with
  | false =>
    obtain ⟨b2, hb2⟩ : ∃ b, mayB o.value = b := ⟨_, rfl⟩
    have B2 := hide hb2
    cases b2 with
    | false =>
      have T : Hid (mayOpB o = false) := hide (by rw [hT, hb1, hb2]; rfl)
      clear hT hb1 hb2
      go_enter Tryz.func23, Tryz.ntmps23
      go_wp2_with (first | (go_at_call 22; (with_reducible refine (rmay_any o.key _).mono ?_); rw [B1.out]; rintro e w1 ⟨rfl, hq⟩; replace hq := hq.symm; subst hq) | (go_at_call 22; (with_reducible refine (rmay_any o.value _).mono ?_); rw [B2.out]; rintro e w1 ⟨rfl, hq⟩; replace hq := hq.symm; subst hq))
      go_ret
      exact ⟨by rw [T.out]; rfl, HB.out⟩
    | true =>
      have T : Hid (mayOpB o = ((o.list.length : Int) == 0)) := hide (by rw [hT, hb1, hb2, Bool.eq_iff_iff]; simp)
      clear hT hb1 hb2
      go_enter Tryz.func23, Tryz.ntmps23
      go_wp2_with (first | (go_at_call 22; (with_reducible refine (rmay_any o.key _).mono ?_); rw [B1.out]; rintro e w1 ⟨rfl, hq⟩; replace hq := hq.symm; subst hq) | (go_at_call 22; (with_reducible refine (rmay_any o.value _).mono ?_); rw [B2.out]; rintro e w1 ⟨rfl, hq⟩; replace hq := hq.symm; subst hq))
      go_ret
      exact ⟨by rw [T.out]; rfl, HB.out⟩
  | true =>
    have hT' : mayOpB o = (o.list.all mayB && o.value == 0) := by rw [hT, hb1]; simp
    have HT := hide hT'
    clear hT hb1 hT'
    go_enter Tryz.func23, Tryz.ntmps23
    go_wp2_with (first | (go_at_call 22; (with_reducible refine (rmay_any o.key _).mono ?_); rw [B1.out]; rintro e w1 ⟨rfl, hq⟩; replace hq := hq.symm; subst hq))
    go_loop [3] (fun i => ∃ k : Nat, k ≤ o.list.length ∧ i = .int .i64 (k : Int) ∧ Hid ((o.list.take k).all mayB = true)) (fun i => o.list.length - (intOf i).toNat)
    case atStart => exact ⟨0, by omega, rfl, hide rfl⟩
    case round =>
      obtain ⟨k, hk, rfl, hj⟩ := hrel
      by_cases hlt : k < o.list.length
      · obtain ⟨b, off, rfl, hc, hw⟩ := ints_at H.out hl hlt
        obtain ⟨b2, hb2⟩ : ∃ b, mayB o.list[k] = b := ⟨_, rfl⟩
        have B2 := hide hb2
        cases b2 with
        | false =>
          have T : Hid (mayOpB o = false) := hide (by rw [HT.out, all_not hlt hb2]; rfl)
          clear hb2
          go_wp2_with (first | (go_at_call 22; (with_reducible refine (rmay_any o.list[k] _).mono ?_); rw [B2.out]; rintro e w1 ⟨rfl, hq⟩; replace hq := hq.symm; subst hq))
          go_ret
          exact ⟨by rw [T.out]; rfl, HB.out⟩
        | true =>
          have T : Hid ((o.list.take (k + 1)).all mayB = true) := hide (by rw [all_take hlt, hj.out, hb2]; rfl)
          clear hb2
          go_wp2_with (first | (go_at_call 22; (with_reducible refine (rmay_any o.list[k] _).mono ?_); rw [B2.out]; rintro e w1 ⟨rfl, hq⟩; replace hq := hq.symm; subst hq))
          go_round
          case rel => exact ⟨k + 1, by omega, by go_num, T⟩
          case measure => simp [intOf]; omega
      · have T : Hid (mayOpB o = (o.value == 0)) := hide (by rw [HT.out, all_done hlt hj.out]; rfl)
        go_wp2
        go_ret
        exact ⟨by rw [T.out]; rfl, HB.out⟩
end Go.Proofs.YtkinmllflodhaaaGreat.Hist

/- The contract of the document's Text. -/
namespace Go.Proofs.YtkinmllflodhaaaGreat.Hist
open Go.RowKit Go.Proofs.YtkinmllflodhaaaGreat.Dig Go.Proofs.YtkinmllflodhaaaGreat.Mem
set_option linter.unusedVariables false
set_option linter.unusedSimpArgs false

theorem add_str {l m r : List UInt8} (h : l ++ m = r) (hl : l.length + m.length ≤ 1000000000000) (wx : World) : (Op.stringOp .add ⟨l.toArray⟩ ⟨m.toArray⟩).run Tryz.prog wx = .ok (.string ⟨r.toArray⟩) wx := by
  rw [run_string_add_sum wx _ _ (by simp [ByteArray.size]; omega), ByteArray.mk_append_mk, h]
theorem rnum_at (n : Int) (w : World) {N : List UInt8} (h : mayN n) (hN : Hid (txt n.toNat = N)) : Calls Tryz.prog 57 #[.int .i64 n] w fun e w' => e = .returned (.string ⟨N.toArray⟩) ∧ w' = w := by
  rw [← hN.out]; exact rnum_any n w h
/-- A text that grows, and a box that is read. -/
def TxtRel (w : World) (b : Nat) (cs : Array Value) (f : Nat → List UInt8) (m : Nat) (s i : Value) (wr : World) : Prop :=
  ∃ (k : Nat) (l : List UInt8), k ≤ m ∧ i = .int .i64 (k : Int) ∧ s = .string ⟨l.toArray⟩ ∧ Hid (l = f k) ∧ Hid (Below w.heap.size w wr) ∧ Hid (Is wr b cs)
set_option maxRecDepth 20000 in
set_option maxHeartbeats 2000000 in
theorem rtext_any (F : Nat → Prop) (v : Value) (ts : List TxnM) (w : World) (h : TxnsAt F w v ts) (hf : Few4 ts) (hm : MayAll ts) :
    Calls Tryz.prog 26 #[.agg #[v]] w fun e w' => e = .returned (.string ⟨(textH8 ts).toArray⟩) ∧ Below w.heap.size w w' := by
  obtain ⟨a, c, rfl, _, _⟩ := h.shape
  have H := hide h
  have FW := hide hf
  have M := hide hm
  have hlen := hf.1
  have LE := hide (show sizeH ts ≤ 60000000000 by have := sizeH_le ts (fun t ht => (hf.2.2 t ht).2); have := hf.2.1; omega)
  have hb0 := hide ((Below.refl w.heap.size w).alloc (Nat.le_refl _) (.cells #[.slice a ts.length c] 24))
  have hs0 : Hid (Is (w.alloc (.cells #[.slice a ts.length c] 24)) w.heap.size #[.slice a ts.length c]) := hide (Is.made w _ _ rfl)
  clear h hf hm
  go_enter Tryz.func26, Tryz.ntmps26
  go_wp2
  go_loopw [3, 4] (fun s i wr => TxtRel w w.heap.size #[.slice a ts.length c] (fun k => textH8 (ts.take k)) ts.length s i wr) (fun _ i _ => ts.length - (intOf i).toNat)
  case atStart => exact ⟨0, [], by omega, rfl, rfl, hide rfl, hb0, hs0⟩
  case round =>
    obtain ⟨k, l, hk, rfl, rfl, hl, hB, hI⟩ := hrel
    replace hl : Hid (l = textH8 (ts.take k)) := hl
    have hbox : wr.cell? ⟨w.heap.size, 0, none⟩ = some (.slice a ts.length c) := hI.out.cell 0 rfl
    have hz := hB.out.size
    by_cases hlt : k < ts.length
    · obtain ⟨b1, o1, l1, q1, rfl, _, hb1, c0, c1, c2, hi1, _⟩ := (H.out.keep hB.out).at hlt
      have HO : Hid (OpsAt F wr (.slice l1 ts[k].ops.length q1) ts[k].ops) := hi1
      have KI := hide (M.out _ (List.getElem_mem hlt)).1
      have KM := hide (M.out _ (List.getElem_mem hlt)).2
      have FO := hide (FW.out.2.2 _ (List.getElem_mem hlt))
      have hol0 := (FW.out.2.2 _ (List.getElem_mem hlt)).1
      obtain ⟨N1, hN1⟩ : ∃ N, txt ts[k].id.toNat = N := ⟨_, rfl⟩
      have n1 := (txt_len ts[k].id.toNat).2
      rw [hN1] at n1
      obtain ⟨L1, hL1⟩ : ∃ L, [116, 32] ++ N1 = L := ⟨_, rfl⟩
      have n2 : L1.length ≤ 12 := by rw [← hL1]; simp; omega
      have a1 := add_str hL1 (by simp; omega)
      have EN1 := hide hN1
      have EL1 := hide hL1
      obtain ⟨ab, hab⟩ : ∃ b, ts[k].ab = b := ⟨_, rfl⟩
      rw [hab] at c1
      have HAB := hide hab
      have hbt := hide ((Below.refl wr.heap.size wr).alloc (Nat.le_refl _) (.cells #[.int .i64 ts[k].id, .bool ab, .slice l1 ts[k].ops.length q1] 55))
      have hst : Hid (Is (wr.alloc (.cells #[.int .i64 ts[k].id, .bool ab, .slice l1 ts[k].ops.length q1] 55)) wr.heap.size #[.int .i64 ts[k].id, .bool ab, .slice l1 ts[k].ops.length q1]) := hide (Is.made wr _ _ rfl)
      have hln : ∀ j, (((ts[k].ops.take j).map lineO8).flatten).length ≤ 60000000000 := fun j => by
        rw [linesO_len]
        have q1 := sizeOs_split ts[k].ops j
        have q2 := sizeH_split ts (k + 1)
        rw [sizeH_take hlt] at q2
        have q3 := LE.out
        unfold sizeT at q2
        omega
      have HLN := hide hln
      have HB := hB
      have HI := hI
      have hll : l.length ≤ 60000000000 := by have q := hl.out; have q1 := sizeH_len (ts.take k); have q2 := sizeH_split ts k; have q3 := LE.out; rw [q]; omega
      clear hi1 hL1 hN1 hln hab
      cases ab with
      | true =>
        obtain ⟨L2, hL2⟩ : ∃ L, L1 ++ [32, (if true = true then 97 else 99), 10] = L := ⟨_, rfl⟩
        have a2 : ∀ (wx : World), _ := add_str hL2 (by simp; omega)
        simp only [if_true, if_false, Bool.false_eq_true] at a2
        have n3 : L2.length ≤ 15 := by rw [← hL2]; simp; omega
        have EL2 : Hid (L2 = lineT8 ts[k].id ts[k].ab) := hide (by rw [← hL2, ← EL1.out, ← EN1.out, HAB.out]; simp [lineT8])
        clear hL2
        go_wp2_with (first | (go_at_call 57; (with_reducible refine (rnum_at ts[k].id _ KI.out EN1).mono ?_); rintro e w1 ⟨rfl, hq⟩; replace hq := hq.symm; subst hq))
        have W1 := hide (World.size_alloc wr (.cells #[.int .i64 ts[k].id, .bool true, .slice l1 ts[k].ops.length q1] 55))
        go_loopw [6, 7] (fun s i wr' => TxtRel wr wr.heap.size #[.int .i64 ts[k].id, .bool true, .slice l1 ts[k].ops.length q1] (fun j => L2 ++ ((ts[k].ops.take j).map lineO8).flatten) ts[k].ops.length s i wr') (fun _ i _ => ts[k].ops.length - (intOf i).toNat)
        case atStart => exact ⟨0, L2, by omega, rfl, rfl, hide (by simp), hbt, hst⟩
        case round =>
          obtain ⟨j, l2, hj, rfl, rfl, hl2, hB2, hI2⟩ := hrel
          replace hl2 : Hid (l2 = L2 ++ ((ts[k].ops.take j).map lineO8).flatten) := hl2
          have hz2 := hB2.out.size
          have t2 : wr.cell? ⟨_, 2, none⟩ = some (.slice l1 ts[k].ops.length q1) := hI2.out.cell 2 rfl
          have hll2 : l2.length ≤ 60000000015 := by have q := hl2.out; have q1 := HLN.out j; rw [q, List.length_append]; omega
          by_cases hlt2 : j < ts[k].ops.length
          · obtain ⟨b3, o3, l3, q3, rfl, _, hb3, e0, e1, e2, e3, hi3, _⟩ := (HO.out.keep hB2.out).at hlt2
            have hol := FO.out.at hlt2
            have KO := KM.out _ (List.getElem_mem hlt2)
            obtain ⟨N2, hN2⟩ : ∃ N, txt ts[k].ops[j].key.toNat = N := ⟨_, rfl⟩
            have n4 := (txt_len ts[k].ops[j].key.toNat).2
            rw [hN2] at n4
            have EN2 := hide hN2
            have hJ : Hid (∀ r : List UInt8, r = l2 ++ lineO8 ts[k].ops[j] → r = L2 ++ ((ts[k].ops.take (j + 1)).map lineO8).flatten) := hide (fun r q => by have q2 := hl2.out; rw [q, q2, linesO_take hlt2, List.append_assoc])
            obtain ⟨rd, hrd⟩ : ∃ b, ts[k].ops[j].read = b := ⟨_, rfl⟩
            rw [hrd] at e0
            have HBI := hB2
            have HII := hI2
            have HB3 := hide ((Below.refl wr.heap.size wr).alloc (Nat.le_refl _) (.cells #[.bool rd, .int .i64 ts[k].ops[j].key, .int .i64 ts[k].ops[j].value, .slice l3 ts[k].ops[j].list.length q3] 57))
            have HB4 := hide (HBI.out.trans (HB3.out.mono HBI.out.size))
            have HI4 := hide (HII.out.below HB3.out)
            clear HB3
            cases rd with
            | true =>
              obtain ⟨k1, k2, k3⟩ := mayOp_read KO hrd
              have K1 := hide k1
              have K2 := hide k2
              obtain ⟨R1, hR1⟩ : ∃ L, l2 ++ [114, 32] = L := ⟨_, rfl⟩
              have r1 : R1.length ≤ 60000000020 := by rw [← hR1]; simp; omega
              have a5 := add_str hR1 (by simp; omega)
              obtain ⟨R2, hR2⟩ : ∃ L, R1 ++ N2 = L := ⟨_, rfl⟩
              have r2 : R2.length ≤ 60000000030 := by rw [← hR2]; simp; omega
              have a6 := add_str hR2 (by omega)
              have ER2 : Hid (R2 = l2 ++ [114, 32] ++ txt ts[k].ops[j].key.toNat) := hide (by rw [← hR2, ← hR1, hN2])
              have HLO : Hid (lineO8 ts[k].ops[j] = 114 :: 32 :: (txt ts[k].ops[j].key.toNat ++ (flat8 ts[k].ops[j].list ++ [10]))) := hide (by unfold lineO8; rw [if_pos hrd])
              have HI3 := hi3
              clear hR1 hR2 hN2 hrd k1 k2 k3 KO hi3
              have hbt3 := hide ((Below.refl wr.heap.size wr).alloc (Nat.le_refl _) (.cells #[.bool true, .int .i64 ts[k].ops[j].key, .int .i64 ts[k].ops[j].value, .slice l3 ts[k].ops[j].list.length q3] 57))
              have hst3 : Hid (Is (wr.alloc (.cells #[.bool true, .int .i64 ts[k].ops[j].key, .int .i64 ts[k].ops[j].value, .slice l3 ts[k].ops[j].list.length q3] 57)) wr.heap.size #[.bool true, .int .i64 ts[k].ops[j].key, .int .i64 ts[k].ops[j].value, .slice l3 ts[k].ops[j].list.length q3]) := hide (Is.made wr _ _ rfl)
              go_wp2_with (first | (go_at_call 57; (with_reducible refine (rnum_at ts[k].ops[j].key _ K1.out EN2).mono ?_); rintro e w1 ⟨rfl, hq⟩; replace hq := hq.symm; subst hq))
              go_loopw [6, 9] (fun s i wr' => TxtRel wr wr.heap.size #[.bool true, .int .i64 ts[k].ops[j].key, .int .i64 ts[k].ops[j].value, .slice l3 ts[k].ops[j].list.length q3] (fun i => R2 ++ flat8 (ts[k].ops[j].list.take i)) ts[k].ops[j].list.length s i wr') (fun _ i _ => ts[k].ops[j].list.length - (intOf i).toNat)
              case atStart => exact ⟨0, R2, by omega, rfl, rfl, hide (by simp [flat8]), hbt3, hst3⟩
              case round =>
                obtain ⟨i, l5, hi, rfl, rfl, hl5, hB5, hI5⟩ := hrel
                replace hl5 : Hid (l5 = R2 ++ flat8 (ts[k].ops[j].list.take i)) := hl5
                have hz5 := hB5.out.size
                have x3 : wr.cell? ⟨_, 3, none⟩ = some (.slice l3 ts[k].ops[j].list.length q3) := hI5.out.cell 3 rfl
                have hll5 : l5.length ≤ 60020000030 := by
                  have q := hl5.out
                  have q1 := flat8_len (ts[k].ops[j].list.take i)
                  have q2 := sizeN_le (ts[k].ops[j].list.take i)
                  rw [List.length_take] at q2
                  rw [q, List.length_append]
                  omega
                by_cases hlt5 : i < ts[k].ops[j].list.length
                · obtain ⟨b5, off5, rfl, hc5, hw5⟩ := ints_at (HI3.keep hB5.out) hol hlt5
                  have K5 := hide (K2.out _ (List.getElem_mem hlt5))
                  obtain ⟨N5, hN5⟩ : ∃ N, txt ts[k].ops[j].list[i].toNat = N := ⟨_, rfl⟩
                  have n6 := (txt_len ts[k].ops[j].list[i].toNat).2
                  rw [hN5] at n6
                  have EN5 := hide hN5
                  obtain ⟨S1, hS1⟩ : ∃ L, l5 ++ [32] = L := ⟨_, rfl⟩
                  have s1 : S1.length ≤ 60020000040 := by rw [← hS1]; simp; omega
                  have a10 := add_str hS1 (by simp; omega)
                  obtain ⟨S2, hS2⟩ : ∃ L, S1 ++ N5 = L := ⟨_, rfl⟩
                  have a11 := add_str hS2 (by omega)
                  have ES2 : Hid (S2 = R2 ++ flat8 (ts[k].ops[j].list.take (i + 1))) := hide (by have q := hl5.out; rw [flat8_take hlt5, ← hS2, ← hS1, q, hN5]; simp)
                  clear hS1 hS2 hN5
                  go_wp2_with (first | (go_at_call 57; (with_reducible refine (rnum_at ts[k].ops[j].list[i] _ K5.out EN5).mono ?_); rintro e w1 ⟨rfl, hq⟩; replace hq := hq.symm; subst hq))
                  go_roundw
                  case rel => exact ⟨i + 1, S2, by omega, by go_num, rfl, ES2, hB5, hI5⟩
                  case measure => simp [intOf]; omega
                · have e : i = ts[k].ops[j].list.length := by omega
                  subst e
                  obtain ⟨R5, hR5⟩ : ∃ L, l5 ++ [10] = L := ⟨_, rfl⟩
                  have a9 := add_str hR5 (by simp; omega)
                  have ER5 : Hid (R5 = L2 ++ ((ts[k].ops.take (j + 1)).map lineO8).flatten) := hide (hJ.out _ (by have q := hl5.out; rw [← hR5, q, List.take_length, ER2.out, HLO.out]; simp))
                  clear hR5
                  go_wp2
                  go_roundw
                  case rel => exact ⟨j + 1, R5, by omega, by go_num, rfl, ER5, hide (HBI.out.trans (hB5.out.mono HBI.out.size)), hide (HII.out.below hB5.out)⟩
                  case measure => simp [intOf]; omega
            | false =>
              obtain ⟨k1, k2, k3⟩ := mayOp_app KO hrd
              have K1 := hide k1
              have K2 := hide k2
              obtain ⟨N3, hN3⟩ : ∃ N, txt ts[k].ops[j].value.toNat = N := ⟨_, rfl⟩
              have n5 := (txt_len ts[k].ops[j].value.toNat).2
              rw [hN3] at n5
              have EN3 := hide hN3
              obtain ⟨R1, hR1⟩ : ∃ L, l2 ++ [97, 32] = L := ⟨_, rfl⟩
              have r1 : R1.length ≤ 60000000020 := by rw [← hR1]; simp; omega
              have a5 := add_str hR1 (by simp; omega)
              obtain ⟨R2, hR2⟩ : ∃ L, R1 ++ N2 = L := ⟨_, rfl⟩
              have r2 : R2.length ≤ 60000000030 := by rw [← hR2]; simp; omega
              have a6 := add_str hR2 (by omega)
              obtain ⟨R3, hR3⟩ : ∃ L, R2 ++ [32] = L := ⟨_, rfl⟩
              have r3 : R3.length ≤ 60000000040 := by rw [← hR3]; simp; omega
              have a7 := add_str hR3 (by simp; omega)
              obtain ⟨R4, hR4⟩ : ∃ L, R3 ++ N3 = L := ⟨_, rfl⟩
              have r4 : R4.length ≤ 60000000050 := by rw [← hR4]; simp; omega
              have a8 := add_str hR4 (by omega)
              obtain ⟨R5, hR5⟩ : ∃ L, R4 ++ [10] = L := ⟨_, rfl⟩
              have a9 := add_str hR5 (by simp; omega)
              have ER5 : Hid (R5 = L2 ++ ((ts[k].ops.take (j + 1)).map lineO8).flatten) := hide (hJ.out _ (by rw [← hR5, ← hR4, ← hR3, ← hR2, ← hR1, ← hN2, ← hN3]; unfold lineO8; rw [if_neg (by simp [hrd])]; simp))
              clear hR1 hR2 hR3 hR4 hR5 hN2 hN3 hrd k1 k2 k3 KO hi3
              go_wp2
              go_quiet ((go_at_call 57; exact Calls.quiet_of_same (rnum_at _ _ (by first | (with_reducible exact K1.out) | (with_reducible exact K2.out)) (by first | (with_reducible exact EN2) | (with_reducible exact EN3)))))
              go_wp2
              go_roundw
              case rel => exact ⟨j + 1, R5, by omega, by go_num, rfl, ER5, hide (HB4.out.drewN _), hide (HI4.out.drewN _)⟩
              case measure => simp [intOf]; omega
          · have e : j = ts[k].ops.length := by omega
            subst e
            obtain ⟨L3, hL3⟩ : ∃ L, l ++ l2 = L := ⟨_, rfl⟩
            have a3 := add_str hL3 (by omega)
            have EL3 : Hid (L3 = textH8 (ts.take (k + 1))) := hide (by have q := hl2.out; rw [textH8_take hlt, ← hL3, hl.out, q, EL2.out, List.take_length]; rfl)
            clear hL3
            go_wp2
            go_roundw
            case rel => exact ⟨k + 1, L3, by omega, by go_num, rfl, EL3, hide (HB.out.trans (hB2.out.mono HB.out.size)), hide (HI.out.below hB2.out)⟩
            case measure => simp [intOf]; omega
      | false =>
        obtain ⟨L2, hL2⟩ : ∃ L, L1 ++ [32, (if false = true then 97 else 99), 10] = L := ⟨_, rfl⟩
        have a2 : ∀ (wx : World), _ := add_str hL2 (by simp; omega)
        simp only [if_true, if_false, Bool.false_eq_true] at a2
        have n3 : L2.length ≤ 15 := by rw [← hL2]; simp; omega
        have EL2 : Hid (L2 = lineT8 ts[k].id ts[k].ab) := hide (by rw [← hL2, ← EL1.out, ← EN1.out, HAB.out]; simp [lineT8])
        clear hL2
        go_wp2_with (first | (go_at_call 57; (with_reducible refine (rnum_at ts[k].id _ KI.out EN1).mono ?_); rintro e w1 ⟨rfl, hq⟩; replace hq := hq.symm; subst hq))
        have W1 := hide (World.size_alloc wr (.cells #[.int .i64 ts[k].id, .bool false, .slice l1 ts[k].ops.length q1] 55))
        go_loopw [6, 7] (fun s i wr' => TxtRel wr wr.heap.size #[.int .i64 ts[k].id, .bool false, .slice l1 ts[k].ops.length q1] (fun j => L2 ++ ((ts[k].ops.take j).map lineO8).flatten) ts[k].ops.length s i wr') (fun _ i _ => ts[k].ops.length - (intOf i).toNat)
        case atStart => exact ⟨0, L2, by omega, rfl, rfl, hide (by simp), hbt, hst⟩
        case round =>
          obtain ⟨j, l2, hj, rfl, rfl, hl2, hB2, hI2⟩ := hrel
          replace hl2 : Hid (l2 = L2 ++ ((ts[k].ops.take j).map lineO8).flatten) := hl2
          have hz2 := hB2.out.size
          have t2 : wr.cell? ⟨_, 2, none⟩ = some (.slice l1 ts[k].ops.length q1) := hI2.out.cell 2 rfl
          have hll2 : l2.length ≤ 60000000015 := by have q := hl2.out; have q1 := HLN.out j; rw [q, List.length_append]; omega
          by_cases hlt2 : j < ts[k].ops.length
          · obtain ⟨b3, o3, l3, q3, rfl, _, hb3, e0, e1, e2, e3, hi3, _⟩ := (HO.out.keep hB2.out).at hlt2
            have hol := FO.out.at hlt2
            have KO := KM.out _ (List.getElem_mem hlt2)
            obtain ⟨N2, hN2⟩ : ∃ N, txt ts[k].ops[j].key.toNat = N := ⟨_, rfl⟩
            have n4 := (txt_len ts[k].ops[j].key.toNat).2
            rw [hN2] at n4
            have EN2 := hide hN2
            have hJ : Hid (∀ r : List UInt8, r = l2 ++ lineO8 ts[k].ops[j] → r = L2 ++ ((ts[k].ops.take (j + 1)).map lineO8).flatten) := hide (fun r q => by have q2 := hl2.out; rw [q, q2, linesO_take hlt2, List.append_assoc])
            obtain ⟨rd, hrd⟩ : ∃ b, ts[k].ops[j].read = b := ⟨_, rfl⟩
            rw [hrd] at e0
            have HBI := hB2
            have HII := hI2
            have HB3 := hide ((Below.refl wr.heap.size wr).alloc (Nat.le_refl _) (.cells #[.bool rd, .int .i64 ts[k].ops[j].key, .int .i64 ts[k].ops[j].value, .slice l3 ts[k].ops[j].list.length q3] 57))
            have HB4 := hide (HBI.out.trans (HB3.out.mono HBI.out.size))
            have HI4 := hide (HII.out.below HB3.out)
            clear HB3
            cases rd with
            | true =>
              obtain ⟨k1, k2, k3⟩ := mayOp_read KO hrd
              have K1 := hide k1
              have K2 := hide k2
              obtain ⟨R1, hR1⟩ : ∃ L, l2 ++ [114, 32] = L := ⟨_, rfl⟩
              have r1 : R1.length ≤ 60000000020 := by rw [← hR1]; simp; omega
              have a5 := add_str hR1 (by simp; omega)
              obtain ⟨R2, hR2⟩ : ∃ L, R1 ++ N2 = L := ⟨_, rfl⟩
              have r2 : R2.length ≤ 60000000030 := by rw [← hR2]; simp; omega
              have a6 := add_str hR2 (by omega)
              have ER2 : Hid (R2 = l2 ++ [114, 32] ++ txt ts[k].ops[j].key.toNat) := hide (by rw [← hR2, ← hR1, hN2])
              have HLO : Hid (lineO8 ts[k].ops[j] = 114 :: 32 :: (txt ts[k].ops[j].key.toNat ++ (flat8 ts[k].ops[j].list ++ [10]))) := hide (by unfold lineO8; rw [if_pos hrd])
              have HI3 := hi3
              clear hR1 hR2 hN2 hrd k1 k2 k3 KO hi3
              have hbt3 := hide ((Below.refl wr.heap.size wr).alloc (Nat.le_refl _) (.cells #[.bool true, .int .i64 ts[k].ops[j].key, .int .i64 ts[k].ops[j].value, .slice l3 ts[k].ops[j].list.length q3] 57))
              have hst3 : Hid (Is (wr.alloc (.cells #[.bool true, .int .i64 ts[k].ops[j].key, .int .i64 ts[k].ops[j].value, .slice l3 ts[k].ops[j].list.length q3] 57)) wr.heap.size #[.bool true, .int .i64 ts[k].ops[j].key, .int .i64 ts[k].ops[j].value, .slice l3 ts[k].ops[j].list.length q3]) := hide (Is.made wr _ _ rfl)
              go_wp2_with (first | (go_at_call 57; (with_reducible refine (rnum_at ts[k].ops[j].key _ K1.out EN2).mono ?_); rintro e w1 ⟨rfl, hq⟩; replace hq := hq.symm; subst hq))
              go_loopw [6, 9] (fun s i wr' => TxtRel wr wr.heap.size #[.bool true, .int .i64 ts[k].ops[j].key, .int .i64 ts[k].ops[j].value, .slice l3 ts[k].ops[j].list.length q3] (fun i => R2 ++ flat8 (ts[k].ops[j].list.take i)) ts[k].ops[j].list.length s i wr') (fun _ i _ => ts[k].ops[j].list.length - (intOf i).toNat)
              case atStart => exact ⟨0, R2, by omega, rfl, rfl, hide (by simp [flat8]), hbt3, hst3⟩
              case round =>
                obtain ⟨i, l5, hi, rfl, rfl, hl5, hB5, hI5⟩ := hrel
                replace hl5 : Hid (l5 = R2 ++ flat8 (ts[k].ops[j].list.take i)) := hl5
                have hz5 := hB5.out.size
                have x3 : wr.cell? ⟨_, 3, none⟩ = some (.slice l3 ts[k].ops[j].list.length q3) := hI5.out.cell 3 rfl
                have hll5 : l5.length ≤ 60020000030 := by
                  have q := hl5.out
                  have q1 := flat8_len (ts[k].ops[j].list.take i)
                  have q2 := sizeN_le (ts[k].ops[j].list.take i)
                  rw [List.length_take] at q2
                  rw [q, List.length_append]
                  omega
                by_cases hlt5 : i < ts[k].ops[j].list.length
                · obtain ⟨b5, off5, rfl, hc5, hw5⟩ := ints_at (HI3.keep hB5.out) hol hlt5
                  have K5 := hide (K2.out _ (List.getElem_mem hlt5))
                  obtain ⟨N5, hN5⟩ : ∃ N, txt ts[k].ops[j].list[i].toNat = N := ⟨_, rfl⟩
                  have n6 := (txt_len ts[k].ops[j].list[i].toNat).2
                  rw [hN5] at n6
                  have EN5 := hide hN5
                  obtain ⟨S1, hS1⟩ : ∃ L, l5 ++ [32] = L := ⟨_, rfl⟩
                  have s1 : S1.length ≤ 60020000040 := by rw [← hS1]; simp; omega
                  have a10 := add_str hS1 (by simp; omega)
                  obtain ⟨S2, hS2⟩ : ∃ L, S1 ++ N5 = L := ⟨_, rfl⟩
                  have a11 := add_str hS2 (by omega)
                  have ES2 : Hid (S2 = R2 ++ flat8 (ts[k].ops[j].list.take (i + 1))) := hide (by have q := hl5.out; rw [flat8_take hlt5, ← hS2, ← hS1, q, hN5]; simp)
                  clear hS1 hS2 hN5
                  go_wp2_with (first | (go_at_call 57; (with_reducible refine (rnum_at ts[k].ops[j].list[i] _ K5.out EN5).mono ?_); rintro e w1 ⟨rfl, hq⟩; replace hq := hq.symm; subst hq))
                  go_roundw
                  case rel => exact ⟨i + 1, S2, by omega, by go_num, rfl, ES2, hB5, hI5⟩
                  case measure => simp [intOf]; omega
                · have e : i = ts[k].ops[j].list.length := by omega
                  subst e
                  obtain ⟨R5, hR5⟩ : ∃ L, l5 ++ [10] = L := ⟨_, rfl⟩
                  have a9 := add_str hR5 (by simp; omega)
                  have ER5 : Hid (R5 = L2 ++ ((ts[k].ops.take (j + 1)).map lineO8).flatten) := hide (hJ.out _ (by have q := hl5.out; rw [← hR5, q, List.take_length, ER2.out, HLO.out]; simp))
                  clear hR5
                  go_wp2
                  go_roundw
                  case rel => exact ⟨j + 1, R5, by omega, by go_num, rfl, ER5, hide (HBI.out.trans (hB5.out.mono HBI.out.size)), hide (HII.out.below hB5.out)⟩
                  case measure => simp [intOf]; omega
            | false =>
              obtain ⟨k1, k2, k3⟩ := mayOp_app KO hrd
              have K1 := hide k1
              have K2 := hide k2
              obtain ⟨N3, hN3⟩ : ∃ N, txt ts[k].ops[j].value.toNat = N := ⟨_, rfl⟩
              have n5 := (txt_len ts[k].ops[j].value.toNat).2
              rw [hN3] at n5
              have EN3 := hide hN3
              obtain ⟨R1, hR1⟩ : ∃ L, l2 ++ [97, 32] = L := ⟨_, rfl⟩
              have r1 : R1.length ≤ 60000000020 := by rw [← hR1]; simp; omega
              have a5 := add_str hR1 (by simp; omega)
              obtain ⟨R2, hR2⟩ : ∃ L, R1 ++ N2 = L := ⟨_, rfl⟩
              have r2 : R2.length ≤ 60000000030 := by rw [← hR2]; simp; omega
              have a6 := add_str hR2 (by omega)
              obtain ⟨R3, hR3⟩ : ∃ L, R2 ++ [32] = L := ⟨_, rfl⟩
              have r3 : R3.length ≤ 60000000040 := by rw [← hR3]; simp; omega
              have a7 := add_str hR3 (by simp; omega)
              obtain ⟨R4, hR4⟩ : ∃ L, R3 ++ N3 = L := ⟨_, rfl⟩
              have r4 : R4.length ≤ 60000000050 := by rw [← hR4]; simp; omega
              have a8 := add_str hR4 (by omega)
              obtain ⟨R5, hR5⟩ : ∃ L, R4 ++ [10] = L := ⟨_, rfl⟩
              have a9 := add_str hR5 (by simp; omega)
              have ER5 : Hid (R5 = L2 ++ ((ts[k].ops.take (j + 1)).map lineO8).flatten) := hide (hJ.out _ (by rw [← hR5, ← hR4, ← hR3, ← hR2, ← hR1, ← hN2, ← hN3]; unfold lineO8; rw [if_neg (by simp [hrd])]; simp))
              clear hR1 hR2 hR3 hR4 hR5 hN2 hN3 hrd k1 k2 k3 KO hi3
              go_wp2
              go_quiet ((go_at_call 57; exact Calls.quiet_of_same (rnum_at _ _ (by first | (with_reducible exact K1.out) | (with_reducible exact K2.out)) (by first | (with_reducible exact EN2) | (with_reducible exact EN3)))))
              go_wp2
              go_roundw
              case rel => exact ⟨j + 1, R5, by omega, by go_num, rfl, ER5, hide (HB4.out.drewN _), hide (HI4.out.drewN _)⟩
              case measure => simp [intOf]; omega
          · have e : j = ts[k].ops.length := by omega
            subst e
            obtain ⟨L3, hL3⟩ : ∃ L, l ++ l2 = L := ⟨_, rfl⟩
            have a3 := add_str hL3 (by omega)
            have EL3 : Hid (L3 = textH8 (ts.take (k + 1))) := hide (by have q := hl2.out; rw [textH8_take hlt, ← hL3, hl.out, q, EL2.out, List.take_length]; rfl)
            clear hL3
            go_wp2
            go_roundw
            case rel => exact ⟨k + 1, L3, by omega, by go_num, rfl, EL3, hide (HB.out.trans (hB2.out.mono HB.out.size)), hide (HI.out.below hB2.out)⟩
            case measure => simp [intOf]; omega
    · have e : k = ts.length := by omega
      subst e
      have EL3 : Hid (l = textH8 ts) := hide (by rw [hl.out, List.take_length])
      go_wp2
      go_ret
      exact ⟨by rw [← EL3.out]; rfl, hB.out⟩
end Go.Proofs.YtkinmllflodhaaaGreat.Hist
