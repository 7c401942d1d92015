/- Joined out of the texts TabKeys, TabRank, TabFew, EncRefOp, EncText, HistRef, in that order. -/
import Derived.Test.YtkinmllflodhaaaAll14
import Derived.Test.YtkinmllflodhaaaAll12
import Derived.Test.YtkinmllflodhaaaAll11
import Derived.Test.YtkinmllflodhaaaAll7
import Derived.Test.YtkinmllflodhaaaAll1
import Derived.Deep.RegionLaw
import Derived.Deep.RegionHeld3
import Derived.Deep.DrawnRows
import Derived.Deep.DeepMust
/- The document's keys of a history. -/
namespace Go.Proofs.Ytkinmllflodhaaa.Tab
open Go.RowKit Go.Proofs.Ytkinmllflodhaaa.Dig Go.Proofs.Ytkinmllflodhaaa.Mem Go.Proofs.Ytkinmllflodhaaa.Hist Go.Proofs.Ytkinmllflodhaaa.Own Go.Proofs.Ytkinmllflodhaaa.Thing Go.Proofs.Ytkinmllflodhaaa.Sets Go.Shelf Go.Proofs.Ytkinmllflodhaaa.Keys
set_option linter.unusedVariables false
set_option linter.unusedSimpArgs false

def keysR (w : World) (ts : List TxnM) (ov kv : Value) (wr : World) : Prop :=
  ∃ (k : Nat), k ≤ ts.length ∧ kv = .int .i64 (k : Int) ∧ Hid (wr.ownsRow w.heap.size 3 1 ov (keysOf (ts.take k)).length ((keysOf (ts.take k)).map (Value.int .i64))) ∧ Hid (Below w.heap.size w wr)
def keysR2 (w : World) (l : List Int) (os : List OpM) (ov jv : Value) (wr : World) : Prop :=
  ∃ (j : Nat), j ≤ os.length ∧ jv = .int .i64 (j : Int) ∧ Hid (wr.ownsRow w.heap.size 3 1 ov (l ++ (os.take j).map (·.key)).length ((l ++ (os.take j).map (·.key)).map (Value.int .i64))) ∧ Hid (Below w.heap.size w wr)
theorem keysOf_next {ts : List TxnM} {k : Nat} (h : k < ts.length) : keysOf (ts.take (k + 1)) = keysOf (ts.take k) ++ ts[k].ops.map (·.key) := by
  unfold keysOf
  rw [List.take_succ_eq_append_getElem h, List.flatMap_append]
  simp
theorem keysOf_len : ∀ ts : List TxnM, (keysOf ts).length = opsN ts
  | [] => rfl
  | t :: ts => by
    have := keysOf_len ts
    unfold keysOf opsN at this ⊢
    simp [List.length_flatMap] at this ⊢
theorem keys_hit {l : List Int} {os : List OpM} {j : Nat} (h : j < os.length) : l ++ (os.take (j + 1)).map (·.key) = (l ++ (os.take j).map (·.key)) ++ [os[j].key] := by
  rw [List.take_succ_eq_append_getElem h, List.map_append, ← List.append_assoc]
  rfl
set_option maxRecDepth 20000 in
set_option maxHeartbeats 4000000 in
theorem rkeys_any (F : Nat → Prop) (v : Value) (ts : List TxnM) (w : World) (h : TxnsAt F w v ts) (hF : ∀ b, F b → b < w.heap.size) (hm : ts.length ≤ 1000) (hops : opsN ts ≤ 1000) :
    Calls Try.prog 17 #[.agg #[v]] w fun e w' => (∃ a' c', e = .returned (.slice a' (docKeys ts).length c') ∧ RowV w' a' c' (docKeys ts)) ∧ Below w.heap.size w w' := by
  obtain ⟨i0, hi, hz0, hz1, hz2⟩ := info_parts Try.infoSetInt
  obtain ⟨a, c, rfl, hc1, hc2⟩ := h.shape
  unfold maxLen at hc2
  have H : Hid (TxnsAt F w (.slice a ts.length c) ts) := h
  clear h
  have HWFA : Hid (∀ x ∈ keysOf ts, (Lit.int .i64 x).wf = true) := hide (by
    intro x hx
    obtain ⟨t, ht, hx⟩ := List.mem_flatMap.1 hx
    obtain ⟨o, ho, rfl⟩ := List.mem_map.1 hx
    obtain ⟨i, hi, e⟩ := List.getElem_of_mem ht
    obtain ⟨_, _, _, _, _, _, _, _, _, _, hos, _⟩ := H.out.at hi
    rw [e] at hos
    obtain ⟨j, hj, e2⟩ := List.getElem_of_mem ho
    have hw := hos.at hj
    obtain ⟨_, _, _, _, _, _, _, _, _, _, _, _, hw, _⟩ := hw
    rw [e2] at hw
    exact hw)
  go_enter Try.func17, Try.ntmps17
  go_upto_region 1 with fail
  obtain ⟨w1, hw1⟩ : ∃ w1, w1 = w.alloc (.cells #[.slice a ts.length c] 24) := ⟨_, rfl⟩
  rw [← hw1]
  have HB1 : Hid (Below w.heap.size w w1) := hide (by rw [hw1]; exact (Below.refl _ _).alloc (Nat.le_refl _) _)
  have HX1 : Hid (Is w1 w.heap.size #[.slice a ts.length c]) := hide (by rw [hw1]; exact Is.made w _ _ rfl)
  have HH1 := hide (H.out.keep HB1.out)
  clear hw1 H
  go_wp2
  go_loopw [3, 4] (fun ov kv wr => keysR w1 ts ov kv wr) (fun _ kv _ => ts.length - (intOf kv).toNat)
  case atStart => exact ⟨0, by omega, rfl, World.ownsRow_nil _ _ _ _, Below.refl _ _⟩
  case round =>
    obtain ⟨k, hk, rfl, hown, hbel⟩ := hrel
    obtain ⟨W, hW⟩ : ∃ W, W = wr := ⟨_, rfl⟩
    subst hW
    obtain ⟨oa, oc, rfl⟩ := Own.own_form hown.out
    have HXW := hide (HX1.out.below hbel.out)
    have x0 : W.cell? ⟨w.heap.size, 0, none⟩ = some (.slice a ts.length c) := HXW.out.cell 0 rfl
    by_cases hlt : k < ts.length
    · have hpre : opsN (ts.take k) + ts[k].ops.length ≤ 1000 := by
        have h1 := opsN_take hlt
        have h2 := opsN_take_le ts (k + 1)
        omega
      have HPRE := hide hpre
      have HNEXT := hide (keysOf_next hlt)
      obtain ⟨m, hm⟩ : ∃ m, m = (keysOf (ts.take k)).length := ⟨_, rfl⟩
      have K0 : Hid (keysR2 w1 (keysOf (ts.take k)) ts[k].ops (.slice oa m oc) (.int .i64 0) W) := hide ⟨0, by omega, rfl, by rw [hm]; simpa using hown, hbel⟩
      rw [← hm]
      have HLEN : Hid (m = opsN (ts.take k)) := hide (by rw [hm, keysOf_len])
      clear hown hm hpre
      obtain ⟨b1, o1, l1, q1, rfl, _, hb1, c0, c1, c2, hi1, _⟩ := (HH1.out.keep hbel.out).at hlt
      obtain ⟨_, _, e, g1, g2⟩ := hi1.shape
      simp at e
      obtain ⟨rfl, rfl⟩ := e
      unfold maxLen at g2
      have HO := hide hi1
      clear hi1 c0 c1 c2
      go_wp2
      go_loopw [3, 5] (fun ov jv wr => keysR2 w1 (keysOf (ts.take k)) ts[k].ops ov jv wr) (fun _ jv _ => ts[k].ops.length - (intOf jv).toNat)
      case atStart => exact K0.out
      case round =>
        obtain ⟨j, hj, rfl, hown2, hbel2⟩ := hrel
        obtain ⟨W2, hW2⟩ : ∃ W2, W2 = wr := ⟨_, rfl⟩
        subst hW2
        obtain ⟨pa, pc, rfl⟩ := Own.own_form hown2.out
        have HXW2 := hide (HX1.out.below hbel2.out)
        have y0 : W2.cell? ⟨w.heap.size, 0, none⟩ = some (.slice (some ⟨b1, o1, none⟩) ts.length c) := HXW2.out.cell 0 rfl
        obtain ⟨_, _, _, _, e1, _, _, d0, d1, d2, hi2, _⟩ := (HH1.out.keep hbel2.out).at hlt
        cases e1
        by_cases hlt2 : j < ts[k].ops.length
        · obtain ⟨b3, o3, l3, q3, rfl, _, _, e0, e1, e2, e3, _, _, _⟩ := hi2.at hlt2
          have hrow := hown2.out
          have HE := hide (keys_hit (l := keysOf (ts.take k)) hlt2)
          have hle : (keysOf (ts.take k) ++ (ts[k].ops.take j).map (·.key)).length ≤ 1000 := by
            have h1 := HPRE.out
            rw [List.length_append, keysOf_len, List.length_map, List.length_take]
            omega
          obtain ⟨n, hn⟩ : ∃ n, n = (keysOf (ts.take k) ++ (ts[k].ops.take j).map (·.key)).length := ⟨_, rfl⟩
          rw [← hn] at hrow hle ⊢
          have HN := hide hn
          have hsz2 := hbel2.out.size
          clear hown2 hn hi2 e0 e2 e3
          go_wp2_with (at_builtin; go_loud (refine wpList_append_own _ rfl _ _ 36 rfl w1.heap.size 3 i0 (.int .i64 0) 1 8 Try.underlying36 hi hz0 hz1 hz2 rfl (by decide) _ _ _ rfl (hrow.alloc _) ⟨W2.heap.size, 0, none⟩ 1 1 [.int .i64 ts[k].ops[j].key] rfl rfl (one_new _ _ _) (by simp [Value.oneCell']) (by unfold maxLen; omega) (by omega) (by simp; omega) ?_); intro v3 w3 hown3 hgrow3 _; have HOWN3 := hide hown3; have HB3 := hide ((hbel2.out.alloc hsz2 (.cells #[.int .i64 ts[k].ops[j].key] 3)).grown hgrow3 (by simp; omega) (fun q e => (World.ownsRow.lt hrow q e).1)); clear hown3 hgrow3)
          go_roundw
          case rel => exact ⟨j + 1, by omega, by simp, by have := HOWN3.out; rw [HE.out, List.map_append, List.length_append, ← HN.out]; exact this, HB3⟩
          case measure => simp [intOf]; omega
        · obtain rfl : j = ts[k].ops.length := by omega
          rw [List.take_length] at hown2 ⊢
          have HR : Hid (keysR w1 ts (.slice pa (keysOf (ts.take k) ++ ts[k].ops.map (·.key)).length pc) (.int .i64 ((k : Int) + 1)) W2) := ⟨k + 1, by omega, by simp, by rw [HNEXT.out]; exact hown2, hbel2⟩
          obtain ⟨n, hn⟩ : ∃ n, n = (keysOf (ts.take k) ++ ts[k].ops.map (·.key)).length := ⟨_, rfl⟩
          rw [← hn] at HR ⊢
          clear hown2 hn hi2
          go_wp2
          go_roundw
          case rel => exact HR.out
          case measure => simp [intOf]; omega
    · obtain rfl : k = ts.length := by omega
      have hrow := hown.out
      rw [List.take_length] at hrow ⊢
      have hle : (keysOf ts).length ≤ 1000 := by rw [keysOf_len]; exact hops
      have HV := hide (rowv_of_own hrow (by omega) HWFA.out).2
      obtain ⟨m, hm⟩ : ∃ m, m = (keysOf ts).length := ⟨_, rfl⟩
      rw [← hm] at hle ⊢
      have HM := hide hm
      clear hown hrow hm
      have CO : Hid (Calls Try.prog 43 #[.slice oa m oc] W fun e w' => (∃ a' c', e = .returned (.slice a' (docKeys ts).length c') ∧ RowV w' a' c' (docKeys ts)) ∧ Below W.heap.size W w') := hide (by rw [HM.out]; exact rof_any _ _ _ _ HV.out (by rw [← HM.out]; omega))
      go_wp2_with (go_at_call 43; go_must ((with_reducible refine (Hid.out CO).mono ?_); rintro e w3 ⟨⟨a3, c3, rfl, hv3⟩, hb3⟩))
      go_ret
      exact ⟨⟨a3, c3, rfl, hv3⟩, HB1.out.trans ((hbel.out.mono HB1.out.size).trans (hb3.mono (by have := HB1.out.size; have := hbel.out.size; omega)))⟩
end Go.Proofs.Ytkinmllflodhaaa.Tab

/- The document's place of a number. -/
namespace Go.Proofs.Ytkinmllflodhaaa.Tab
open Go.RowKit Go.Proofs.Ytkinmllflodhaaa.Dig Go.Proofs.Ytkinmllflodhaaa.Mem Go.Proofs.Ytkinmllflodhaaa.Hist Go.Proofs.Ytkinmllflodhaaa.Own Go.Proofs.Ytkinmllflodhaaa.Thing Go.Proofs.Ytkinmllflodhaaa.Sets Go.Shelf Go.Proofs.Ytkinmllflodhaaa.Keys
set_option linter.unusedVariables false
set_option linter.unusedSimpArgs false

theorem rank_at {l : List Int} (h : Rising ltI l) {k : Nat} (hk : k < l.length) {id : Int} (e : l.getD k 0 = id) : rankL l id = k ∧ decide (id ∈ l) = true := by
  have e' : l[k] = id := by rw [← e, List.getD_eq_getElem?_getD, List.getElem?_eq_getElem hk]; rfl
  have hm : id ∈ l := by rw [← e']; exact List.getElem_mem hk
  refine ⟨?_, by simp [hm]⟩
  unfold rankL
  rw [if_pos hm]
  have hd := List.drop_eq_getElem_cons hk
  rw [← List.take_append_drop k l] at h ⊢
  obtain ⟨_, h2, h3⟩ := rising_append.1 h
  rw [hd, e'] at h2 h3
  rw [List.take_append_drop, ← List.take_append_drop k l, List.countP_append, hd, e']
  have c1 : (l.take k).countP (fun y => ltI y id) = k := by
    rw [List.countP_eq_length.2 fun x hx => h3 x hx id List.mem_cons_self, List.length_take]
    omega
  have c2 : (id :: l.drop (k + 1)).countP (fun y => ltI y id) = 0 := by
    refine List.countP_eq_zero.2 fun x hx => ?_
    rcases List.mem_cons.1 hx with rfl | q
    · simp [ltI]
    · have := (rising_cons.1 h2).1 x q
      simp [ltI] at this ⊢
      omega
  omega
theorem rank_no {l : List Int} {id : Int} (h : ∀ i, i < l.length → l.getD i 0 ≠ id) : rankL l id = 0 ∧ decide (id ∈ l) = false := by
  have : id ∉ l := fun q => by
    obtain ⟨i, hi, e⟩ := List.getElem_of_mem q
    exact h i hi (by rw [List.getD_eq_getElem?_getD, List.getElem?_eq_getElem hi]; exact e)
  exact ⟨by unfold rankL; rw [if_neg this], by simp [this]⟩
def RkR (l : List Int) (id : Int) (kv : Value) : Prop := ∃ k : Nat, k ≤ l.length ∧ kv = .int .i64 (k : Int) ∧ Hid (∀ i, i < k → l.getD i 0 ≠ id)
set_option maxRecDepth 20000 in
set_option maxHeartbeats 4000000 in
theorem rrank_any (F : Nat → Prop) (v : Value) (ts : List TxnM) (id : Int) (w : World) (h : TxnsAt F w v ts) (hF : ∀ b, F b → b < w.heap.size) (hm : ts.length ≤ 1000) :
    Calls Try.prog 12 #[.agg #[v], .int .i64 id] w fun e w' => e = .returned (.tuple #[.int .i64 (rankL (docIds ts) id : Int), .bool (decide (id ∈ docIds ts))]) ∧ Below w.heap.size w w' := by
  obtain ⟨a, c, rfl, hc1, hc2⟩ := h.shape
  unfold maxLen at hc2
  have H : Hid (TxnsAt F w (.slice a ts.length c) ts) := h
  clear h
  have hB : Below w.heap.size w (w.alloc (.cells #[.slice a ts.length c] 24)) := (Below.refl _ _).alloc (Nat.le_refl _) _
  have HB := hide hB
  have CI := hide (rids_any F _ ts _ (H.out.keep hB) (fun b q => by have := hF b q; simp; omega) hm)
  have hri : Rising ltI (docIds ts) := rising_setL totI _
  have hlen : (docIds ts).length ≤ 1000 := by
    have h1 := setL_length (lt := ltI) ((ts.filter fun t => !t.ab).map (·.id))
    have h2 := idsOf_le ts
    unfold idsOf at h2
    unfold docIds
    omega
  obtain ⟨l, hl⟩ : ∃ l, l = docIds ts := ⟨_, rfl⟩
  rw [← hl] at CI hri hlen ⊢
  have RA := hide (fun k hk e => rank_at (l := l) hri (k := k) hk (id := id) e)
  have RN := hide (rank_no (l := l) (id := id))
  obtain ⟨rk, hrk⟩ : ∃ rk : Nat, rk = rankL l id := ⟨_, rfl⟩
  obtain ⟨q, hq⟩ : ∃ q, q = decide (id ∈ l) := ⟨_, rfl⟩
  rw [← hrk, ← hq] at RA RN ⊢
  obtain ⟨n, hn⟩ : ∃ n, n = l.length := ⟨_, rfl⟩
  rw [← hn] at CI hlen
  have HN := hide hn
  clear hl hri hrk hq hn hB
  go_enter Try.func12, Try.ntmps12
  go_wp2_with (go_at_call 15; go_must ((with_reducible refine (Hid.out CI).mono ?_); rintro e w1 ⟨⟨a1, c1, rfl, hv1⟩, hb1⟩))
  have HV1 := hide hv1
  have HB1 := hide (HB.out.trans (hb1.mono HB.out.size))
  clear hv1 hb1 CI H
  go_loopw [7] (fun kv wr => RkR l id kv ∧ Hid (Below w1.heap.size w1 wr)) (fun kv _ => n - (intOf kv).toNat)
  case atStart => exact ⟨⟨0, by omega, rfl, hide fun i hi => by omega⟩, Below.refl _ _⟩
  case round =>
    obtain ⟨⟨k, hk, rfl, hne⟩, hbel⟩ := hrel
    obtain ⟨W, hW⟩ : ∃ W, W = wr := ⟨_, rfl⟩
    subst hW
    by_cases hlt : k < n
    · obtain ⟨b, off, rfl, hc⟩ := (HV1.out.keep hbel.out).at (show k < l.length by rw [← HN.out]; exact hlt)
      obtain ⟨x, hx⟩ : ∃ x, x = l.getD k 0 := ⟨_, rfl⟩
      rw [← hx] at hc
      have HX := hide hx
      clear hx
      by_cases hxe : x = id
      · have R := hide (RA.out k (by rw [← HN.out]; exact hlt) (HX.out.symm.trans hxe))
        go_wp2
        go_ret2
        exact ⟨by rw [R.out.1, R.out.2]; rfl, HB1.out.trans (hbel.out.mono HB1.out.size)⟩
      · have R : Hid (RkR l id (.int .i64 ((k : Int) + 1))) := ⟨k + 1, by rw [← HN.out]; omega, by simp, hide fun i hi => by
          by_cases e : i = k
          · rw [e, ← HX.out]; exact hxe
          · exact hne.out i (by omega)⟩
        go_wp2
        go_roundw
        case rel => exact ⟨R.out, hbel⟩
        case measure => simp [intOf]; omega
    · have R := hide (RN.out fun i hi => hne.out i (by have := HN.out; omega))
      go_wp2
      go_ret2
      exact ⟨by rw [R.out.1, R.out.2]; rfl, HB1.out.trans (hbel.out.mono HB1.out.size)⟩
end Go.Proofs.Ytkinmllflodhaaa.Tab

/- The document's Few, of at most 20 transactions and 60 operations. -/
namespace Go.Proofs.Ytkinmllflodhaaa.Hist
open Go.RowKit Go.Proofs.Ytkinmllflodhaaa.Dig Go.Proofs.Ytkinmllflodhaaa.Mem
set_option linter.unusedVariables false
set_option linter.unusedSimpArgs false

def FewRel2 (ts : List TxnM) (n i : Value) : Prop := ∃ k : Nat, k ≤ ts.length ∧ i = .int .i64 (k : Int) ∧ n = .int .i64 (opsN (ts.take k) : Int) ∧ opsN (ts.take k) ≤ 60 ∧ Hid (Lists 100 (ts.take k))
theorem FewRel2.next {ts : List TxnM} {k : Nat} {n i : Value} (hk : k < ts.length) (h : Hid (Lists 100 (ts.take k))) (hl : ∀ o ∈ ts[k].ops, o.list.length ≤ 100) (hn : opsN (ts.take k) + ts[k].ops.length ≤ 60)
    (e1 : i = .int .i64 ((k + 1 : Nat) : Int)) (e2 : n = .int .i64 ((opsN (ts.take k) + ts[k].ops.length : Nat) : Int)) : FewRel2 ts n i := by
  refine ⟨k + 1, by omega, e1, by rw [opsN_take hk]; exact e2, by rw [opsN_take hk]; exact hn, hide ?_⟩
  intro t ht
  rw [List.take_succ_eq_append_getElem hk] at ht
  rcases List.mem_append.1 ht with q | q
  · exact h.out t q
  · simp at q; subst q; exact hl
def FewPost2 (ts : List TxnM) (w : World) (e : Ending) (w' : World) : Prop := ∃ r, e = .returned (.bool r) ∧ (r = true → ts.length ≤ 20 ∧ opsN ts ≤ 60 ∧ Lists 100 ts) ∧ Below w.heap.size w w'
theorem rfew2_any (F : Nat → Prop) (tv : Value) (ts : List TxnM) (w : World) (h : TxnsAt F w tv ts) :
    Calls Try.prog 7 #[.agg #[tv], .int .i64 20, .int .i64 60] w (FewPost2 ts w) := by
  obtain ⟨a, c, rfl, hc1, hc2⟩ := h.shape
  unfold maxLen at hc2
  have H : Hid (TxnsAt F w (.slice a ts.length c) ts) := h
  clear h
  by_cases h40 : ts.length ≤ 20
  rotate_left
  · have h40' : (20 : Int) < (ts.length : Int) := by omega
    go_enter Try.func7, Try.ntmps7
    go_wp2
    go_ret
    exact ⟨false, rfl, by simp, (Below.refl _ _).alloc (Nat.le_refl _) _⟩
  have h40' : ¬ (20 : Int) < (ts.length : Int) := by omega
  go_enter Try.func7, Try.ntmps7
  go_wp2
  go_loop [7, 8] (fun n i => FewRel2 ts n i) (fun _ i => ts.length - (intOf i).toNat)
  case atStart => exact ⟨0, by omega, rfl, rfl, by simp [opsN], hide (by intro t ht; simp at ht)⟩
  case round =>
    obtain ⟨k, hk, rfl, rfl, hn, hL⟩ := hrel
    by_cases hlt : k < ts.length
    · obtain ⟨b1, o1, l1, q1, rfl, _, hb1, c0, c1, c2, hi1, _⟩ := H.out.at hlt
      obtain ⟨_, _, e, g1, g2⟩ := hi1.shape
      simp at e
      obtain ⟨rfl, rfl⟩ := e
      unfold maxLen at g2
      have HO : Hid (OpsAt F w (.slice l1 ts[k].ops.length q1) ts[k].ops) := hi1
      clear hi1
      by_cases h2 : opsN (ts.take k) + ts[k].ops.length ≤ 60
      rotate_left
      · have h2' : (60 : Int) - (opsN (ts.take k) : Int) < (ts[k].ops.length : Int) := by omega
        clear h2
        go_wp2
        go_ret
        exact ⟨false, rfl, by simp, (Below.refl _ _).alloc (Nat.le_refl _) _⟩
      have h2' : ¬ (60 : Int) - (opsN (ts.take k) : Int) < (ts[k].ops.length : Int) := by omega
      go_wp2
      go_loop [9] (fun i => ∃ j : Nat, j ≤ ts[k].ops.length ∧ i = .int .i64 (j : Int) ∧ Hid (∀ o ∈ ts[k].ops.take j, o.list.length ≤ 100)) (fun i => ts[k].ops.length - (intOf i).toNat)
      case atStart => exact ⟨0, by omega, rfl, hide (by simp)⟩
      case round =>
        obtain ⟨j, hj, rfl, hl⟩ := hrel
        by_cases hlt2 : j < ts[k].ops.length
        · obtain ⟨b3, o3, l3, q3, rfl, _, hb3, e0, e1, e2, e3, hi3, _⟩ := HO.out.at hlt2
          obtain ⟨_, _, e, g3, g4⟩ := hi3.shape
          simp at e
          obtain ⟨rfl, rfl⟩ := e
          unfold maxLen at g4
          clear hi3
          by_cases h3 : ts[k].ops[j].list.length ≤ 100
          · have h3' : ¬ (100 : Int) < (ts[k].ops[j].list.length : Int) := by omega
            have HN : Hid (∀ o ∈ ts[k].ops.take (j + 1), o.list.length ≤ 100) := hide (by
              intro o ho
              rw [List.take_succ_eq_append_getElem hlt2] at ho
              rcases List.mem_append.1 ho with q | q
              · exact hl.out o q
              · simp at q; subst q; exact h3)
            go_wp2
            go_round
            case rel => exact ⟨j + 1, by omega, by go_num, HN⟩
            case measure => simp [intOf]; omega
          · have h3' : (100 : Int) < (ts[k].ops[j].list.length : Int) := by omega
            go_wp2
            go_ret
            exact ⟨false, rfl, by simp, (Below.refl _ _).alloc (Nat.le_refl _) _⟩
        · have HA : Hid (∀ o ∈ ts[k].ops, o.list.length ≤ 100) := hide (by
            have q := hl.out
            rwa [List.take_of_length_le (by omega)] at q)
          go_wp2
          go_round
          case rel => exact FewRel2.next hlt hL HA.out h2 (by go_num) (by go_num)
          case measure => simp [intOf]; omega
    · have HA : Hid (ts.length ≤ 20 ∧ opsN ts ≤ 60 ∧ Lists 100 ts) := hide (by
        have q := hL.out
        rw [List.take_of_length_le (by omega)] at q hn
        exact ⟨h40, hn, q⟩)
      go_wp2
      go_ret
      exact ⟨true, rfl, fun _ => HA.out, (Below.refl _ _).alloc (Nat.le_refl _) _⟩
end Go.Proofs.Ytkinmllflodhaaa.Hist

/- The contract of the document's mayOp. -/
namespace Go.Proofs.Ytkinmllflodhaaa.Hist
open Go.RowKit Go.Proofs.Ytkinmllflodhaaa.Dig Go.Proofs.Ytkinmllflodhaaa.Mem
set_option linter.unusedVariables false
set_option linter.unusedSimpArgs false

set_option maxHeartbeats 1000000 in
theorem rmayop_any (F : Nat → Prop) (o : OpM) (rd : Bool) (lv : Value) (w : World) (hrd : o.read = rd) (h : IntsAt F w lv o.list) (hl : o.list.length ≤ 1000000) :
    Calls Try.prog 36 #[.agg #[.bool rd, .int .i64 o.key, .int .i64 o.value, lv]] w fun e w' => e = .returned (.bool (mayOpB o)) ∧ Below w.heap.size w w' := by
  obtain ⟨a, c, rfl, _, _⟩ := h.shape
  have H := hide (h.keep ((Below.refl w.heap.size w).alloc (Nat.le_refl _) (.cells #[.bool rd, .int .i64 o.key, .int .i64 o.value, .slice a o.list.length c] 68)))
  have HB := hide ((Below.refl w.heap.size w).alloc (Nat.le_refl _) (.cells #[.bool rd, .int .i64 o.key, .int .i64 o.value, .slice a o.list.length c] 68))
  have hT : mayOpB o = if rd = true then mayB o.key && o.list.all mayB && o.value == 0 else mayB o.key && mayB o.value && o.list.length == 0 := by unfold mayOpB; rw [hrd]
  clear h hrd
  obtain ⟨b1, hb1⟩ : ∃ b, mayB o.key = b := ⟨_, rfl⟩
  have B1 := hide hb1
  cases b1 with
  | false =>
    have T : Hid (mayOpB o = false) := hide (by rw [hT, hb1]; cases rd <;> rfl)
    clear hT hb1
    go_enter Try.func36, Try.ntmps36
    go_wp2_with (first | (go_at_call 35; (with_reducible refine (rmay_any o.key _).mono ?_); rw [B1.out]; rintro e w1 ⟨rfl, hq⟩; replace hq := hq.symm; subst hq))
    go_ret
    exact ⟨by rw [T.out]; rfl, HB.out⟩
  | true =>
  cases rd with
  | false =>
    obtain ⟨b2, hb2⟩ : ∃ b, mayB o.value = b := ⟨_, rfl⟩
    have B2 := hide hb2
    cases b2 with
    | false =>
      have T : Hid (mayOpB o = false) := hide (by rw [hT, hb1, hb2]; rfl)
      clear hT hb1 hb2
      go_enter Try.func36, Try.ntmps36
      go_wp2_with (first | (go_at_call 35; (with_reducible refine (rmay_any o.key _).mono ?_); rw [B1.out]; rintro e w1 ⟨rfl, hq⟩; replace hq := hq.symm; subst hq) | (go_at_call 35; (with_reducible refine (rmay_any o.value _).mono ?_); rw [B2.out]; rintro e w1 ⟨rfl, hq⟩; replace hq := hq.symm; subst hq))
      go_ret
      exact ⟨by rw [T.out]; rfl, HB.out⟩
    | true =>
      have T : Hid (mayOpB o = ((o.list.length : Int) == 0)) := hide (by rw [hT, hb1, hb2, Bool.eq_iff_iff]; simp)
      clear hT hb1 hb2
      go_enter Try.func36, Try.ntmps36
      go_wp2_with (first | (go_at_call 35; (with_reducible refine (rmay_any o.key _).mono ?_); rw [B1.out]; rintro e w1 ⟨rfl, hq⟩; replace hq := hq.symm; subst hq) | (go_at_call 35; (with_reducible refine (rmay_any o.value _).mono ?_); rw [B2.out]; rintro e w1 ⟨rfl, hq⟩; replace hq := hq.symm; subst hq))
      go_ret
      exact ⟨by rw [T.out]; rfl, HB.out⟩
  | true =>
    have hT' : mayOpB o = (o.list.all mayB && o.value == 0) := by rw [hT, hb1]; simp
    have HT := hide hT'
    clear hT hb1 hT'
    go_enter Try.func36, Try.ntmps36
    go_wp2_with (first | (go_at_call 35; (with_reducible refine (rmay_any o.key _).mono ?_); rw [B1.out]; rintro e w1 ⟨rfl, hq⟩; replace hq := hq.symm; subst hq))
    go_loop [3] (fun i => ∃ k : Nat, k ≤ o.list.length ∧ i = .int .i64 (k : Int) ∧ Hid ((o.list.take k).all mayB = true)) (fun i => o.list.length - (intOf i).toNat)
    case atStart => exact ⟨0, by omega, rfl, hide rfl⟩
    case round =>
      obtain ⟨k, hk, rfl, hj⟩ := hrel
      by_cases hlt : k < o.list.length
      · obtain ⟨b, off, rfl, hc, hw⟩ := ints_at H.out hl hlt
        obtain ⟨b2, hb2⟩ : ∃ b, mayB o.list[k] = b := ⟨_, rfl⟩
        have B2 := hide hb2
        cases b2 with
        | false =>
          have T : Hid (mayOpB o = false) := hide (by rw [HT.out, all_not hlt hb2]; rfl)
          clear hb2
          go_wp2_with (first | (go_at_call 35; (with_reducible refine (rmay_any o.list[k] _).mono ?_); rw [B2.out]; rintro e w1 ⟨rfl, hq⟩; replace hq := hq.symm; subst hq))
          go_ret
          exact ⟨by rw [T.out]; rfl, HB.out⟩
        | true =>
          have T : Hid ((o.list.take (k + 1)).all mayB = true) := hide (by rw [all_take hlt, hj.out, hb2]; rfl)
          clear hb2
          go_wp2_with (first | (go_at_call 35; (with_reducible refine (rmay_any o.list[k] _).mono ?_); rw [B2.out]; rintro e w1 ⟨rfl, hq⟩; replace hq := hq.symm; subst hq))
          go_round
          case rel => exact ⟨k + 1, by omega, by go_num, T⟩
          case measure => simp [intOf]; omega
      · have T : Hid (mayOpB o = (o.value == 0)) := hide (by rw [HT.out, all_done hlt hj.out]; rfl)
        go_wp2
        go_ret
        exact ⟨by rw [T.out]; rfl, HB.out⟩
end Go.Proofs.Ytkinmllflodhaaa.Hist

/- The contract of the document's Text. -/
namespace Go.Proofs.Ytkinmllflodhaaa.Hist
open Go.RowKit Go.Proofs.Ytkinmllflodhaaa.Dig Go.Proofs.Ytkinmllflodhaaa.Mem
set_option linter.unusedVariables false
set_option linter.unusedSimpArgs false

theorem add_str {l m r : List UInt8} (h : l ++ m = r) (hl : l.length + m.length ≤ 1000000000000) (wx : World) : (Op.stringOp .add ⟨l.toArray⟩ ⟨m.toArray⟩).run Try.prog wx = .ok (.string ⟨r.toArray⟩) wx := by
  rw [run_string_add_sum wx _ _ (by simp [ByteArray.size]; omega), ByteArray.mk_append_mk, h]
theorem rnum_at (n : Int) (w : World) {N : List UInt8} (h : mayN n) (hN : Hid (txt n.toNat = N)) : Calls Try.prog 61 #[.int .i64 n] w fun e w' => e = .returned (.string ⟨N.toArray⟩) ∧ w' = w := by
  rw [← hN.out]; exact rnum_any n w h
/-- A text that grows, and a box that is read. -/
def TxtRel (w : World) (b : Nat) (cs : Array Value) (f : Nat → List UInt8) (m : Nat) (s i : Value) (wr : World) : Prop :=
  ∃ (k : Nat) (l : List UInt8), k ≤ m ∧ i = .int .i64 (k : Int) ∧ s = .string ⟨l.toArray⟩ ∧ Hid (l = f k) ∧ Hid (Below w.heap.size w wr) ∧ Hid (Is wr b cs)
set_option maxRecDepth 20000 in
set_option maxHeartbeats 2000000 in
theorem rtext_any (F : Nat → Prop) (v : Value) (ts : List TxnM) (w : World) (h : TxnsAt F w v ts) (hf : Few4 ts) (hm : MayAll ts) :
    Calls Try.prog 39 #[.agg #[v]] w fun e w' => e = .returned (.string ⟨(textH8 ts).toArray⟩) ∧ Below w.heap.size w w' := by
  obtain ⟨a, c, rfl, _, _⟩ := h.shape
  have H := hide h
  have FW := hide hf
  have M := hide hm
  have hlen := hf.1
  have LE := hide (show sizeH ts ≤ 60000000000 by have := sizeH_le ts (fun t ht => (hf.2.2 t ht).2); have := hf.2.1; omega)
  have hb0 := hide ((Below.refl w.heap.size w).alloc (Nat.le_refl _) (.cells #[.slice a ts.length c] 24))
  have hs0 : Hid (Is (w.alloc (.cells #[.slice a ts.length c] 24)) w.heap.size #[.slice a ts.length c]) := hide (Is.made w _ _ rfl)
  clear h hf hm
  go_enter Try.func39, Try.ntmps39
  go_wp2
  go_loopw [3, 4] (fun s i wr => TxtRel w w.heap.size #[.slice a ts.length c] (fun k => textH8 (ts.take k)) ts.length s i wr) (fun _ i _ => ts.length - (intOf i).toNat)
  case atStart => exact ⟨0, [], by omega, rfl, rfl, hide rfl, hb0, hs0⟩
  case round =>
    obtain ⟨k, l, hk, rfl, rfl, hl, hB, hI⟩ := hrel
    replace hl : Hid (l = textH8 (ts.take k)) := hl
    have hbox : wr.cell? ⟨w.heap.size, 0, none⟩ = some (.slice a ts.length c) := hI.out.cell 0 rfl
    have hz := hB.out.size
    by_cases hlt : k < ts.length
    · obtain ⟨b1, o1, l1, q1, rfl, _, hb1, c0, c1, c2, hi1, _⟩ := (H.out.keep hB.out).at hlt
      have HO : Hid (OpsAt F wr (.slice l1 ts[k].ops.length q1) ts[k].ops) := hi1
      have KI := hide (M.out _ (List.getElem_mem hlt)).1
      have KM := hide (M.out _ (List.getElem_mem hlt)).2
      have FO := hide (FW.out.2.2 _ (List.getElem_mem hlt))
      have hol0 := (FW.out.2.2 _ (List.getElem_mem hlt)).1
      obtain ⟨N1, hN1⟩ : ∃ N, txt ts[k].id.toNat = N := ⟨_, rfl⟩
      have n1 := (txt_len ts[k].id.toNat).2
      rw [hN1] at n1
      obtain ⟨L1, hL1⟩ : ∃ L, [116, 32] ++ N1 = L := ⟨_, rfl⟩
      have n2 : L1.length ≤ 12 := by rw [← hL1]; simp; omega
      have a1 := add_str hL1 (by simp; omega)
      have EN1 := hide hN1
      have EL1 := hide hL1
      obtain ⟨ab, hab⟩ : ∃ b, ts[k].ab = b := ⟨_, rfl⟩
      rw [hab] at c1
      have HAB := hide hab
      have hbt := hide ((Below.refl wr.heap.size wr).alloc (Nat.le_refl _) (.cells #[.int .i64 ts[k].id, .bool ab, .slice l1 ts[k].ops.length q1] 66))
      have hst : Hid (Is (wr.alloc (.cells #[.int .i64 ts[k].id, .bool ab, .slice l1 ts[k].ops.length q1] 66)) wr.heap.size #[.int .i64 ts[k].id, .bool ab, .slice l1 ts[k].ops.length q1]) := hide (Is.made wr _ _ rfl)
      have hln : ∀ j, (((ts[k].ops.take j).map lineO8).flatten).length ≤ 60000000000 := fun j => by
        rw [linesO_len]
        have q1 := sizeOs_split ts[k].ops j
        have q2 := sizeH_split ts (k + 1)
        rw [sizeH_take hlt] at q2
        have q3 := LE.out
        unfold sizeT at q2
        omega
      have HLN := hide hln
      have HB := hB
      have HI := hI
      have hll : l.length ≤ 60000000000 := by have q := hl.out; have q1 := sizeH_len (ts.take k); have q2 := sizeH_split ts k; have q3 := LE.out; rw [q]; omega
      clear hi1 hL1 hN1 hln hab
      cases ab with
      | true =>
        obtain ⟨L2, hL2⟩ : ∃ L, L1 ++ [32, (if true = true then 97 else 99), 10] = L := ⟨_, rfl⟩
        have a2 : ∀ (wx : World), _ := add_str hL2 (by simp; omega)
        simp only [if_true, if_false, Bool.false_eq_true] at a2
        have n3 : L2.length ≤ 15 := by rw [← hL2]; simp; omega
        have EL2 : Hid (L2 = lineT8 ts[k].id ts[k].ab) := hide (by rw [← hL2, ← EL1.out, ← EN1.out, HAB.out]; simp [lineT8])
        clear hL2
        go_wp2_with (first | (go_at_call 61; (with_reducible refine (rnum_at ts[k].id _ KI.out EN1).mono ?_); rintro e w1 ⟨rfl, hq⟩; replace hq := hq.symm; subst hq))
        have W1 := hide (World.size_alloc wr (.cells #[.int .i64 ts[k].id, .bool true, .slice l1 ts[k].ops.length q1] 66))
        go_loopw [6, 7] (fun s i wr' => TxtRel wr wr.heap.size #[.int .i64 ts[k].id, .bool true, .slice l1 ts[k].ops.length q1] (fun j => L2 ++ ((ts[k].ops.take j).map lineO8).flatten) ts[k].ops.length s i wr') (fun _ i _ => ts[k].ops.length - (intOf i).toNat)
        case atStart => exact ⟨0, L2, by omega, rfl, rfl, hide (by simp), hbt, hst⟩
        case round =>
          obtain ⟨j, l2, hj, rfl, rfl, hl2, hB2, hI2⟩ := hrel
          replace hl2 : Hid (l2 = L2 ++ ((ts[k].ops.take j).map lineO8).flatten) := hl2
          have hz2 := hB2.out.size
          have t2 : wr.cell? ⟨_, 2, none⟩ = some (.slice l1 ts[k].ops.length q1) := hI2.out.cell 2 rfl
          have hll2 : l2.length ≤ 60000000015 := by have q := hl2.out; have q1 := HLN.out j; rw [q, List.length_append]; omega
          by_cases hlt2 : j < ts[k].ops.length
          · obtain ⟨b3, o3, l3, q3, rfl, _, hb3, e0, e1, e2, e3, hi3, _⟩ := (HO.out.keep hB2.out).at hlt2
            have hol := FO.out.at hlt2
            have KO := KM.out _ (List.getElem_mem hlt2)
            obtain ⟨N2, hN2⟩ : ∃ N, txt ts[k].ops[j].key.toNat = N := ⟨_, rfl⟩
            have n4 := (txt_len ts[k].ops[j].key.toNat).2
            rw [hN2] at n4
            have EN2 := hide hN2
            have hJ : Hid (∀ r : List UInt8, r = l2 ++ lineO8 ts[k].ops[j] → r = L2 ++ ((ts[k].ops.take (j + 1)).map lineO8).flatten) := hide (fun r q => by have q2 := hl2.out; rw [q, q2, linesO_take hlt2, List.append_assoc])
            obtain ⟨rd, hrd⟩ : ∃ b, ts[k].ops[j].read = b := ⟨_, rfl⟩
            rw [hrd] at e0
            have HBI := hB2
            have HII := hI2
            have HB3 := hide ((Below.refl wr.heap.size wr).alloc (Nat.le_refl _) (.cells #[.bool rd, .int .i64 ts[k].ops[j].key, .int .i64 ts[k].ops[j].value, .slice l3 ts[k].ops[j].list.length q3] 68))
            have HB4 := hide (HBI.out.trans (HB3.out.mono HBI.out.size))
            have HI4 := hide (HII.out.below HB3.out)
            clear HB3
            cases rd with
            | true =>
              obtain ⟨k1, k2, k3⟩ := mayOp_read KO hrd
              have K1 := hide k1
              have K2 := hide k2
              obtain ⟨R1, hR1⟩ : ∃ L, l2 ++ [114, 32] = L := ⟨_, rfl⟩
              have r1 : R1.length ≤ 60000000020 := by rw [← hR1]; simp; omega
              have a5 := add_str hR1 (by simp; omega)
              obtain ⟨R2, hR2⟩ : ∃ L, R1 ++ N2 = L := ⟨_, rfl⟩
              have r2 : R2.length ≤ 60000000030 := by rw [← hR2]; simp; omega
              have a6 := add_str hR2 (by omega)
              have ER2 : Hid (R2 = l2 ++ [114, 32] ++ txt ts[k].ops[j].key.toNat) := hide (by rw [← hR2, ← hR1, hN2])
              have HLO : Hid (lineO8 ts[k].ops[j] = 114 :: 32 :: (txt ts[k].ops[j].key.toNat ++ (flat8 ts[k].ops[j].list ++ [10]))) := hide (by unfold lineO8; rw [if_pos hrd])
              have HI3 := hi3
              clear hR1 hR2 hN2 hrd k1 k2 k3 KO hi3
              have hbt3 := hide ((Below.refl wr.heap.size wr).alloc (Nat.le_refl _) (.cells #[.bool true, .int .i64 ts[k].ops[j].key, .int .i64 ts[k].ops[j].value, .slice l3 ts[k].ops[j].list.length q3] 68))
              have hst3 : Hid (Is (wr.alloc (.cells #[.bool true, .int .i64 ts[k].ops[j].key, .int .i64 ts[k].ops[j].value, .slice l3 ts[k].ops[j].list.length q3] 68)) wr.heap.size #[.bool true, .int .i64 ts[k].ops[j].key, .int .i64 ts[k].ops[j].value, .slice l3 ts[k].ops[j].list.length q3]) := hide (Is.made wr _ _ rfl)
              go_wp2_with (first | (go_at_call 61; (with_reducible refine (rnum_at ts[k].ops[j].key _ K1.out EN2).mono ?_); rintro e w1 ⟨rfl, hq⟩; replace hq := hq.symm; subst hq))
              go_loopw [6, 9] (fun s i wr' => TxtRel wr wr.heap.size #[.bool true, .int .i64 ts[k].ops[j].key, .int .i64 ts[k].ops[j].value, .slice l3 ts[k].ops[j].list.length q3] (fun i => R2 ++ flat8 (ts[k].ops[j].list.take i)) ts[k].ops[j].list.length s i wr') (fun _ i _ => ts[k].ops[j].list.length - (intOf i).toNat)
              case atStart => exact ⟨0, R2, by omega, rfl, rfl, hide (by simp [flat8]), hbt3, hst3⟩
              case round =>
                obtain ⟨i, l5, hi, rfl, rfl, hl5, hB5, hI5⟩ := hrel
                replace hl5 : Hid (l5 = R2 ++ flat8 (ts[k].ops[j].list.take i)) := hl5
                have hz5 := hB5.out.size
                have x3 : wr.cell? ⟨_, 3, none⟩ = some (.slice l3 ts[k].ops[j].list.length q3) := hI5.out.cell 3 rfl
                have hll5 : l5.length ≤ 60020000030 := by
                  have q := hl5.out
                  have q1 := flat8_len (ts[k].ops[j].list.take i)
                  have q2 := sizeN_le (ts[k].ops[j].list.take i)
                  rw [List.length_take] at q2
                  rw [q, List.length_append]
                  omega
                by_cases hlt5 : i < ts[k].ops[j].list.length
                · obtain ⟨b5, off5, rfl, hc5, hw5⟩ := ints_at (HI3.keep hB5.out) hol hlt5
                  have K5 := hide (K2.out _ (List.getElem_mem hlt5))
                  obtain ⟨N5, hN5⟩ : ∃ N, txt ts[k].ops[j].list[i].toNat = N := ⟨_, rfl⟩
                  have n6 := (txt_len ts[k].ops[j].list[i].toNat).2
                  rw [hN5] at n6
                  have EN5 := hide hN5
                  obtain ⟨S1, hS1⟩ : ∃ L, l5 ++ [32] = L := ⟨_, rfl⟩
                  have s1 : S1.length ≤ 60020000040 := by rw [← hS1]; simp; omega
                  have a10 := add_str hS1 (by simp; omega)
                  obtain ⟨S2, hS2⟩ : ∃ L, S1 ++ N5 = L := ⟨_, rfl⟩
                  have a11 := add_str hS2 (by omega)
                  have ES2 : Hid (S2 = R2 ++ flat8 (ts[k].ops[j].list.take (i + 1))) := hide (by have q := hl5.out; rw [flat8_take hlt5, ← hS2, ← hS1, q, hN5]; simp)
                  clear hS1 hS2 hN5
                  go_wp2_with (first | (go_at_call 61; (with_reducible refine (rnum_at ts[k].ops[j].list[i] _ K5.out EN5).mono ?_); rintro e w1 ⟨rfl, hq⟩; replace hq := hq.symm; subst hq))
                  go_roundw
                  case rel => exact ⟨i + 1, S2, by omega, by go_num, rfl, ES2, hB5, hI5⟩
                  case measure => simp [intOf]; omega
                · have e : i = ts[k].ops[j].list.length := by omega
                  subst e
                  obtain ⟨R5, hR5⟩ : ∃ L, l5 ++ [10] = L := ⟨_, rfl⟩
                  have a9 := add_str hR5 (by simp; omega)
                  have ER5 : Hid (R5 = L2 ++ ((ts[k].ops.take (j + 1)).map lineO8).flatten) := hide (hJ.out _ (by have q := hl5.out; rw [← hR5, q, List.take_length, ER2.out, HLO.out]; simp))
                  clear hR5
                  go_wp2
                  go_roundw
                  case rel => exact ⟨j + 1, R5, by omega, by go_num, rfl, ER5, hide (HBI.out.trans (hB5.out.mono HBI.out.size)), hide (HII.out.below hB5.out)⟩
                  case measure => simp [intOf]; omega
            | false =>
              obtain ⟨k1, k2, k3⟩ := mayOp_app KO hrd
              have K1 := hide k1
              have K2 := hide k2
              obtain ⟨N3, hN3⟩ : ∃ N, txt ts[k].ops[j].value.toNat = N := ⟨_, rfl⟩
              have n5 := (txt_len ts[k].ops[j].value.toNat).2
              rw [hN3] at n5
              have EN3 := hide hN3
              obtain ⟨R1, hR1⟩ : ∃ L, l2 ++ [97, 32] = L := ⟨_, rfl⟩
              have r1 : R1.length ≤ 60000000020 := by rw [← hR1]; simp; omega
              have a5 := add_str hR1 (by simp; omega)
              obtain ⟨R2, hR2⟩ : ∃ L, R1 ++ N2 = L := ⟨_, rfl⟩
              have r2 : R2.length ≤ 60000000030 := by rw [← hR2]; simp; omega
              have a6 := add_str hR2 (by omega)
              obtain ⟨R3, hR3⟩ : ∃ L, R2 ++ [32] = L := ⟨_, rfl⟩
              have r3 : R3.length ≤ 60000000040 := by rw [← hR3]; simp; omega
              have a7 := add_str hR3 (by simp; omega)
              obtain ⟨R4, hR4⟩ : ∃ L, R3 ++ N3 = L := ⟨_, rfl⟩
              have r4 : R4.length ≤ 60000000050 := by rw [← hR4]; simp; omega
              have a8 := add_str hR4 (by omega)
              obtain ⟨R5, hR5⟩ : ∃ L, R4 ++ [10] = L := ⟨_, rfl⟩
              have a9 := add_str hR5 (by simp; omega)
              have ER5 : Hid (R5 = L2 ++ ((ts[k].ops.take (j + 1)).map lineO8).flatten) := hide (hJ.out _ (by rw [← hR5, ← hR4, ← hR3, ← hR2, ← hR1, ← hN2, ← hN3]; unfold lineO8; rw [if_neg (by simp [hrd])]; simp))
              clear hR1 hR2 hR3 hR4 hR5 hN2 hN3 hrd k1 k2 k3 KO hi3
              go_wp2
              go_quiet ((go_at_call 61; exact Calls.quiet_of_same (rnum_at _ _ (by first | (with_reducible exact K1.out) | (with_reducible exact K2.out)) (by first | (with_reducible exact EN2) | (with_reducible exact EN3)))))
              go_wp2
              go_roundw
              case rel => exact ⟨j + 1, R5, by omega, by go_num, rfl, ER5, hide (HB4.out.drewN _), hide (HI4.out.drewN _)⟩
              case measure => simp [intOf]; omega
          · have e : j = ts[k].ops.length := by omega
            subst e
            obtain ⟨L3, hL3⟩ : ∃ L, l ++ l2 = L := ⟨_, rfl⟩
            have a3 := add_str hL3 (by omega)
            have EL3 : Hid (L3 = textH8 (ts.take (k + 1))) := hide (by have q := hl2.out; rw [textH8_take hlt, ← hL3, hl.out, q, EL2.out, List.take_length]; rfl)
            clear hL3
            go_wp2
            go_roundw
            case rel => exact ⟨k + 1, L3, by omega, by go_num, rfl, EL3, hide (HB.out.trans (hB2.out.mono HB.out.size)), hide (HI.out.below hB2.out)⟩
            case measure => simp [intOf]; omega
      | false =>
        obtain ⟨L2, hL2⟩ : ∃ L, L1 ++ [32, (if false = true then 97 else 99), 10] = L := ⟨_, rfl⟩
        have a2 : ∀ (wx : World), _ := add_str hL2 (by simp; omega)
        simp only [if_true, if_false, Bool.false_eq_true] at a2
        have n3 : L2.length ≤ 15 := by rw [← hL2]; simp; omega
        have EL2 : Hid (L2 = lineT8 ts[k].id ts[k].ab) := hide (by rw [← hL2, ← EL1.out, ← EN1.out, HAB.out]; simp [lineT8])
        clear hL2
        go_wp2_with (first | (go_at_call 61; (with_reducible refine (rnum_at ts[k].id _ KI.out EN1).mono ?_); rintro e w1 ⟨rfl, hq⟩; replace hq := hq.symm; subst hq))
        have W1 := hide (World.size_alloc wr (.cells #[.int .i64 ts[k].id, .bool false, .slice l1 ts[k].ops.length q1] 66))
        go_loopw [6, 7] (fun s i wr' => TxtRel wr wr.heap.size #[.int .i64 ts[k].id, .bool false, .slice l1 ts[k].ops.length q1] (fun j => L2 ++ ((ts[k].ops.take j).map lineO8).flatten) ts[k].ops.length s i wr') (fun _ i _ => ts[k].ops.length - (intOf i).toNat)
        case atStart => exact ⟨0, L2, by omega, rfl, rfl, hide (by simp), hbt, hst⟩
        case round =>
          obtain ⟨j, l2, hj, rfl, rfl, hl2, hB2, hI2⟩ := hrel
          replace hl2 : Hid (l2 = L2 ++ ((ts[k].ops.take j).map lineO8).flatten) := hl2
          have hz2 := hB2.out.size
          have t2 : wr.cell? ⟨_, 2, none⟩ = some (.slice l1 ts[k].ops.length q1) := hI2.out.cell 2 rfl
          have hll2 : l2.length ≤ 60000000015 := by have q := hl2.out; have q1 := HLN.out j; rw [q, List.length_append]; omega
          by_cases hlt2 : j < ts[k].ops.length
          · obtain ⟨b3, o3, l3, q3, rfl, _, hb3, e0, e1, e2, e3, hi3, _⟩ := (HO.out.keep hB2.out).at hlt2
            have hol := FO.out.at hlt2
            have KO := KM.out _ (List.getElem_mem hlt2)
            obtain ⟨N2, hN2⟩ : ∃ N, txt ts[k].ops[j].key.toNat = N := ⟨_, rfl⟩
            have n4 := (txt_len ts[k].ops[j].key.toNat).2
            rw [hN2] at n4
            have EN2 := hide hN2
            have hJ : Hid (∀ r : List UInt8, r = l2 ++ lineO8 ts[k].ops[j] → r = L2 ++ ((ts[k].ops.take (j + 1)).map lineO8).flatten) := hide (fun r q => by have q2 := hl2.out; rw [q, q2, linesO_take hlt2, List.append_assoc])
            obtain ⟨rd, hrd⟩ : ∃ b, ts[k].ops[j].read = b := ⟨_, rfl⟩
            rw [hrd] at e0
            have HBI := hB2
            have HII := hI2
            have HB3 := hide ((Below.refl wr.heap.size wr).alloc (Nat.le_refl _) (.cells #[.bool rd, .int .i64 ts[k].ops[j].key, .int .i64 ts[k].ops[j].value, .slice l3 ts[k].ops[j].list.length q3] 68))
            have HB4 := hide (HBI.out.trans (HB3.out.mono HBI.out.size))
            have HI4 := hide (HII.out.below HB3.out)
            clear HB3
            cases rd with
            | true =>
              obtain ⟨k1, k2, k3⟩ := mayOp_read KO hrd
              have K1 := hide k1
              have K2 := hide k2
              obtain ⟨R1, hR1⟩ : ∃ L, l2 ++ [114, 32] = L := ⟨_, rfl⟩
              have r1 : R1.length ≤ 60000000020 := by rw [← hR1]; simp; omega
              have a5 := add_str hR1 (by simp; omega)
              obtain ⟨R2, hR2⟩ : ∃ L, R1 ++ N2 = L := ⟨_, rfl⟩
              have r2 : R2.length ≤ 60000000030 := by rw [← hR2]; simp; omega
              have a6 := add_str hR2 (by omega)
              have ER2 : Hid (R2 = l2 ++ [114, 32] ++ txt ts[k].ops[j].key.toNat) := hide (by rw [← hR2, ← hR1, hN2])
              have HLO : Hid (lineO8 ts[k].ops[j] = 114 :: 32 :: (txt ts[k].ops[j].key.toNat ++ (flat8 ts[k].ops[j].list ++ [10]))) := hide (by unfold lineO8; rw [if_pos hrd])
              have HI3 := hi3
              clear hR1 hR2 hN2 hrd k1 k2 k3 KO hi3
              have hbt3 := hide ((Below.refl wr.heap.size wr).alloc (Nat.le_refl _) (.cells #[.bool true, .int .i64 ts[k].ops[j].key, .int .i64 ts[k].ops[j].value, .slice l3 ts[k].ops[j].list.length q3] 68))
              have hst3 : Hid (Is (wr.alloc (.cells #[.bool true, .int .i64 ts[k].ops[j].key, .int .i64 ts[k].ops[j].value, .slice l3 ts[k].ops[j].list.length q3] 68)) wr.heap.size #[.bool true, .int .i64 ts[k].ops[j].key, .int .i64 ts[k].ops[j].value, .slice l3 ts[k].ops[j].list.length q3]) := hide (Is.made wr _ _ rfl)
              go_wp2_with (first | (go_at_call 61; (with_reducible refine (rnum_at ts[k].ops[j].key _ K1.out EN2).mono ?_); rintro e w1 ⟨rfl, hq⟩; replace hq := hq.symm; subst hq))
              go_loopw [6, 9] (fun s i wr' => TxtRel wr wr.heap.size #[.bool true, .int .i64 ts[k].ops[j].key, .int .i64 ts[k].ops[j].value, .slice l3 ts[k].ops[j].list.length q3] (fun i => R2 ++ flat8 (ts[k].ops[j].list.take i)) ts[k].ops[j].list.length s i wr') (fun _ i _ => ts[k].ops[j].list.length - (intOf i).toNat)
              case atStart => exact ⟨0, R2, by omega, rfl, rfl, hide (by simp [flat8]), hbt3, hst3⟩
              case round =>
                obtain ⟨i, l5, hi, rfl, rfl, hl5, hB5, hI5⟩ := hrel
                replace hl5 : Hid (l5 = R2 ++ flat8 (ts[k].ops[j].list.take i)) := hl5
                have hz5 := hB5.out.size
                have x3 : wr.cell? ⟨_, 3, none⟩ = some (.slice l3 ts[k].ops[j].list.length q3) := hI5.out.cell 3 rfl
                have hll5 : l5.length ≤ 60020000030 := by
                  have q := hl5.out
                  have q1 := flat8_len (ts[k].ops[j].list.take i)
                  have q2 := sizeN_le (ts[k].ops[j].list.take i)
                  rw [List.length_take] at q2
                  rw [q, List.length_append]
                  omega
                by_cases hlt5 : i < ts[k].ops[j].list.length
                · obtain ⟨b5, off5, rfl, hc5, hw5⟩ := ints_at (HI3.keep hB5.out) hol hlt5
                  have K5 := hide (K2.out _ (List.getElem_mem hlt5))
                  obtain ⟨N5, hN5⟩ : ∃ N, txt ts[k].ops[j].list[i].toNat = N := ⟨_, rfl⟩
                  have n6 := (txt_len ts[k].ops[j].list[i].toNat).2
                  rw [hN5] at n6
                  have EN5 := hide hN5
                  obtain ⟨S1, hS1⟩ : ∃ L, l5 ++ [32] = L := ⟨_, rfl⟩
                  have s1 : S1.length ≤ 60020000040 := by rw [← hS1]; simp; omega
                  have a10 := add_str hS1 (by simp; omega)
                  obtain ⟨S2, hS2⟩ : ∃ L, S1 ++ N5 = L := ⟨_, rfl⟩
                  have a11 := add_str hS2 (by omega)
                  have ES2 : Hid (S2 = R2 ++ flat8 (ts[k].ops[j].list.take (i + 1))) := hide (by have q := hl5.out; rw [flat8_take hlt5, ← hS2, ← hS1, q, hN5]; simp)
                  clear hS1 hS2 hN5
                  go_wp2_with (first | (go_at_call 61; (with_reducible refine (rnum_at ts[k].ops[j].list[i] _ K5.out EN5).mono ?_); rintro e w1 ⟨rfl, hq⟩; replace hq := hq.symm; subst hq))
                  go_roundw
                  case rel => exact ⟨i + 1, S2, by omega, by go_num, rfl, ES2, hB5, hI5⟩
                  case measure => simp [intOf]; omega
                · have e : i = ts[k].ops[j].list.length := by omega
                  subst e
                  obtain ⟨R5, hR5⟩ : ∃ L, l5 ++ [10] = L := ⟨_, rfl⟩
                  have a9 := add_str hR5 (by simp; omega)
                  have ER5 : Hid (R5 = L2 ++ ((ts[k].ops.take (j + 1)).map lineO8).flatten) := hide (hJ.out _ (by have q := hl5.out; rw [← hR5, q, List.take_length, ER2.out, HLO.out]; simp))
                  clear hR5
                  go_wp2
                  go_roundw
                  case rel => exact ⟨j + 1, R5, by omega, by go_num, rfl, ER5, hide (HBI.out.trans (hB5.out.mono HBI.out.size)), hide (HII.out.below hB5.out)⟩
                  case measure => simp [intOf]; omega
            | false =>
              obtain ⟨k1, k2, k3⟩ := mayOp_app KO hrd
              have K1 := hide k1
              have K2 := hide k2
              obtain ⟨N3, hN3⟩ : ∃ N, txt ts[k].ops[j].value.toNat = N := ⟨_, rfl⟩
              have n5 := (txt_len ts[k].ops[j].value.toNat).2
              rw [hN3] at n5
              have EN3 := hide hN3
              obtain ⟨R1, hR1⟩ : ∃ L, l2 ++ [97, 32] = L := ⟨_, rfl⟩
              have r1 : R1.length ≤ 60000000020 := by rw [← hR1]; simp; omega
              have a5 := add_str hR1 (by simp; omega)
              obtain ⟨R2, hR2⟩ : ∃ L, R1 ++ N2 = L := ⟨_, rfl⟩
              have r2 : R2.length ≤ 60000000030 := by rw [← hR2]; simp; omega
              have a6 := add_str hR2 (by omega)
              obtain ⟨R3, hR3⟩ : ∃ L, R2 ++ [32] = L := ⟨_, rfl⟩
              have r3 : R3.length ≤ 60000000040 := by rw [← hR3]; simp; omega
              have a7 := add_str hR3 (by simp; omega)
              obtain ⟨R4, hR4⟩ : ∃ L, R3 ++ N3 = L := ⟨_, rfl⟩
              have r4 : R4.length ≤ 60000000050 := by rw [← hR4]; simp; omega
              have a8 := add_str hR4 (by omega)
              obtain ⟨R5, hR5⟩ : ∃ L, R4 ++ [10] = L := ⟨_, rfl⟩
              have a9 := add_str hR5 (by simp; omega)
              have ER5 : Hid (R5 = L2 ++ ((ts[k].ops.take (j + 1)).map lineO8).flatten) := hide (hJ.out _ (by rw [← hR5, ← hR4, ← hR3, ← hR2, ← hR1, ← hN2, ← hN3]; unfold lineO8; rw [if_neg (by simp [hrd])]; simp))
              clear hR1 hR2 hR3 hR4 hR5 hN2 hN3 hrd k1 k2 k3 KO hi3
              go_wp2
              go_quiet ((go_at_call 61; exact Calls.quiet_of_same (rnum_at _ _ (by first | (with_reducible exact K1.out) | (with_reducible exact K2.out)) (by first | (with_reducible exact EN2) | (with_reducible exact EN3)))))
              go_wp2
              go_roundw
              case rel => exact ⟨j + 1, R5, by omega, by go_num, rfl, ER5, hide (HB4.out.drewN _), hide (HI4.out.drewN _)⟩
              case measure => simp [intOf]; omega
          · have e : j = ts[k].ops.length := by omega
            subst e
            obtain ⟨L3, hL3⟩ : ∃ L, l ++ l2 = L := ⟨_, rfl⟩
            have a3 := add_str hL3 (by omega)
            have EL3 : Hid (L3 = textH8 (ts.take (k + 1))) := hide (by have q := hl2.out; rw [textH8_take hlt, ← hL3, hl.out, q, EL2.out, List.take_length]; rfl)
            clear hL3
            go_wp2
            go_roundw
            case rel => exact ⟨k + 1, L3, by omega, by go_num, rfl, EL3, hide (HB.out.trans (hB2.out.mono HB.out.size)), hide (HI.out.below hB2.out)⟩
            case measure => simp [intOf]; omega
    · have e : k = ts.length := by omega
      subst e
      have EL3 : Hid (l = textH8 ts) := hide (by rw [hl.out, List.take_length])
      go_wp2
      go_ret
      exact ⟨by rw [← EL3.out]; rfl, hB.out⟩
end Go.Proofs.Ytkinmllflodhaaa.Hist

/- The document's txn: a transaction's line. -/
namespace Go.Proofs.Ytkinmllflodhaaa.Hist
open Go.RowKit Go.Proofs.Ytkinmllflodhaaa.Dig Go.Proofs.Ytkinmllflodhaaa.Mem
set_option linter.unusedVariables false
set_option linter.unusedSimpArgs false

theorem Try.infoTxn : (Try.prog.info? 66).map (fun i => (i.zero, i.size, i.bytes)) = some (some (.agg #[.int .i64 0, .bool false, .slice none 0 0]), 3, 40) := by kernel_rfl
theorem Is.one {w : World} {b : Nat} {v0 : Value} (h : Is w b #[v0]) : w.cell? ⟨b, 0, none⟩ = some v0 ∧ w.frozen? ⟨b, 0, none⟩ = false := ⟨h.cell 0 rfl, h.frozen 0⟩
/-- The history, and where the answer is laid, ahead of a call. -/
theorem two_mid {w w3 : World} {F : Nat → Prop} {tv : Value} {ts : List TxnM} {a : Option Addr} {len : Nat} {z : Nat → Int} {T U : TypeId} (ht : TxnsAt F w tv ts) (hr : Rd .u8 w a len z)
    (hb : Below ((w.alloc (.cells #[tv] T)).alloc (.cells #[.slice none 0 0] U)).heap.size ((w.alloc (.cells #[tv] T)).alloc (.cells #[.slice none 0 0] U)) w3) :
    Is w3 w.heap.size #[tv] ∧ Is w3 (w.heap.size + 1) #[.slice none 0 0] ∧ Below w.heap.size w w3 ∧ TxnsAt F w3 tv ts ∧ Rd .u8 w3 a len z := by
  obtain ⟨h1, h2, h3, h4⟩ := two_boxes hb
  exact ⟨h1, h2, h3, ht.keep h3, hr.only (Only.of_below (S := fun _ => False) h3) (fun _ _ q => q)⟩
theorem two_below (w : World) (c d : Array Value) (T U : TypeId) : Below w.heap.size w ((w.alloc (.cells c T)).alloc (.cells d U)) := ((Below.refl _ _).alloc (Nat.le_refl _) _).alloc (by simp) _
/-- An answer laid. -/
theorem ref_leaf {w w3 : World} {F : Nat → Prop} {tv : Value} {ts : List TxnM} (hb : Below w.heap.size w w3) (hi : Is w3 (w.heap.size + 1) #[.slice none 0 0]) (ht : TxnsAt F w3 tv ts) (hF : ∀ b, F b → b < w.heap.size ∨ (w.heap.size + 1 < b)) :
    TxnsAt F (w3.setCell ⟨w.heap.size + 1, 0, none⟩ tv) tv ts ∧ Below w.heap.size w (w3.setCell ⟨w.heap.size + 1, 0, none⟩ tv) ∧ (w3.setCell ⟨w.heap.size + 1, 0, none⟩ tv).cell? ⟨w.heap.size + 1, 0, none⟩ = some tv := by
  have hO : Only (fun k => k = w.heap.size + 1) w3 (w3.setCell ⟨w.heap.size + 1, 0, none⟩ tv) := (Only.refl _ _).put 0 _
  exact ⟨ht.only hO (fun b q => by have := hF b q; omega), hb.only hO (fun i q => by omega) (by have := hi.lt; omega), (hi.set 0 tv).cell 0 rfl⟩
theorem own_empty {w : World} {b base : Nat} {e : TypeId} (n : Nat) (h : w.heap[b]? = some (.cells #[] e)) (hb : base ≤ b) : OwnC e n base w (.slice (some ⟨b, 0, none⟩) 0 0) [] :=
  ⟨⟨by simp, .inr ⟨b, 0, #[], rfl, hb, h, by simp, by unfold maxLen; omega, by simp, by simp⟩⟩, by simp⟩
theorem at_new (w : World) (o : Obj) {b : Nat} (hb : b = w.heap.size) : (w.alloc o).heap[b]? = some o := by subst hb; exact heap_alloc_new w o
theorem at_old (w : World) (o p : Obj) {b : Nat} (hb : b = w.heap.size) : ((w.alloc o).alloc p).heap[b]? = some o := by subst hb; rw [Below.heap_alloc _ _ _ (by simp)]; exact heap_alloc_new w o
theorem bel_cell {w w' : World} {p : Addr} {v : Value} (h : Below w.heap.size w w') (hc : w.cell? p = some v) : w'.cell? p = some v := (Only.of_below (S := fun _ => False) h).cell hc (fun q => q)
theorem txn_one {F : Nat → Prop} {w : World} {rows : List (List Value)} {ts : List TxnM} (h : AllAt (TxnAt F w) rows ts) : ∀ c ∈ rows, ∀ u ∈ c, u.oneCell' = true := by
  intro c hc u hu
  obtain ⟨i, hi, rfl⟩ := List.mem_iff_getElem.1 hc
  obtain ⟨_, v, e, hv, _⟩ := h.get (i := i) (by rw [← h.1]; exact hi)
  obtain ⟨a, cap, rfl, _⟩ := hv.shape
  rw [e] at hu
  simp at hu
  rcases hu with rfl | rfl | rfl <;> rfl
end Go.Proofs.Ytkinmllflodhaaa.Hist
