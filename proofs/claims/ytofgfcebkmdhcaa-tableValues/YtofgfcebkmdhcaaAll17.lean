/- Joined out of the texts TabTxn, TabApps, TabWr, in that order. -/
import Derived.Test.YtofgfcebkmdhcaaAll16
/- The document's transaction of a number. -/
namespace Go.Proofs.Ytofgfcebkmdhcaa.Tab
open Go.RowKit Go.Proofs.Ytofgfcebkmdhcaa.Dig Go.Proofs.Ytofgfcebkmdhcaa.Mem Go.Proofs.Ytofgfcebkmdhcaa.Hist Go.Proofs.Ytofgfcebkmdhcaa.Own Go.Proofs.Ytofgfcebkmdhcaa.Thing Go.Proofs.Ytofgfcebkmdhcaa.Sets Go.Shelf Go.Proofs.Ytofgfcebkmdhcaa.Keys
set_option linter.unusedVariables false
set_option linter.unusedSimpArgs false

theorem docTxn_at {ts : List TxnM} {k : Nat} {id : Int} (h : k < ts.length) (hp : ∀ i, (hi : i < ts.length) → i < k → ts[i].id ≠ id) (he : ts[k].id = id) : docTxn ts id = ts[k] := by
  unfold docTxn
  have : ts.find? (fun t => t.id == id) = some ts[k] := by
    rw [List.find?_eq_some_iff_getElem]
    exact ⟨by simp [he], k, h, rfl, fun j hj => by simp; exact hp j (by omega) hj⟩
  rw [this]
  rfl
theorem docTxn_no {ts : List TxnM} {id : Int} (hp : ∀ i, (hi : i < ts.length) → ts[i].id ≠ id) : docTxn ts id = ⟨id, false, []⟩ := by
  unfold docTxn
  have : ts.find? (fun t => t.id == id) = none := by
    rw [List.find?_eq_none]
    intro t ht
    obtain ⟨i, hi, rfl⟩ := List.getElem_of_mem ht
    simp
    exact hp i hi
  rw [this]
  rfl
def txR (w : World) (hv : Value) (ts : List TxnM) (id : Int) (kv : Value) (wr : World) : Prop :=
  ∃ (k : Nat), k ≤ ts.length ∧ kv = .int .i64 (k : Int) ∧ Hid (∀ i, (hi : i < ts.length) → i < k → ts[i].id ≠ id) ∧ wr = w
set_option maxRecDepth 20000 in
set_option maxHeartbeats 4000000 in
theorem txn_any (F : Nat → Prop) (v : Value) (ts : List TxnM) (id : Int) (w : World) (h : TxnsAt F w v ts) (hid : (Lit.int .i64 id).wf = true) :
    Calls Try.prog 44 #[.agg #[v], .int .i64 id] w fun e w' => ∃ (ov : Value), e = .returned (.agg #[.int .i64 (docTxn ts id).id, .bool (docTxn ts id).ab, ov]) ∧ Hid (OpsAt F w' ov (docTxn ts id).ops) ∧ Hid (Below w.heap.size w w') := by
  obtain ⟨a, c, rfl, hc1, hc2⟩ := h.shape
  unfold maxLen at hc2
  have H : Hid (TxnsAt (fun b => F b ∧ b < w.heap.size) w (.slice a ts.length c) ts) := hide h.lt
  clear h
  go_enter Try.func44, Try.ntmps44
  go_upto_region 1 with fail
  obtain ⟨w1, hw1⟩ : ∃ w1, w1 = w.alloc (.cells #[.slice a ts.length c] 24) := ⟨_, rfl⟩
  rw [← hw1]
  have HB1 : Hid (Below w.heap.size w w1) := hide (by rw [hw1]; exact (Below.refl _ _).alloc (Nat.le_refl _) _)
  have HX1 : Hid (Is w1 w.heap.size #[.slice a ts.length c]) := hide (by rw [hw1]; exact Is.made w _ _ rfl)
  have hsz : w1.heap.size = w.heap.size + 1 := by rw [hw1]; simp
  clear hw1
  obtain ⟨w2, hw2⟩ : ∃ w2, w2 = w1.alloc (.cells #[.int .i64 0, .bool false, .slice none 0 0] 66) := ⟨_, rfl⟩
  have HB2 : Hid (Below w.heap.size w w2) := hide (by rw [hw2]; exact HB1.out.alloc HB1.out.size _)
  have HX2 : Hid (Is w2 w.heap.size #[.slice a ts.length c]) := hide (by rw [hw2]; exact HX1.out.alloc _)
  have HY2 : Hid (Is w2 (w.heap.size + 1) #[.int .i64 0, .bool false, .slice none 0 0]) := hide (by rw [hw2]; exact Is.made w1 _ _ hsz.symm)
  have HH2 := hide (H.out.keep HB2.out)
  have x0 : w2.cell? ⟨w.heap.size, 0, none⟩ = some (.slice a ts.length c) := HX2.out.cell 0 rfl
  have y0 : w2.cell? ⟨w.heap.size + 1, 0, none⟩ = some (.int .i64 0) := HY2.out.cell 0 rfl
  have y1 : w2.cell? ⟨w.heap.size + 1, 1, none⟩ = some (.bool false) := HY2.out.cell 1 rfl
  have y2 : w2.cell? ⟨w.heap.size + 1, 2, none⟩ = some (.slice none 0 0) := HY2.out.cell 2 rfl
  rw [← hw2]
  clear hw2 hsz H
  have z0 := HY2.out.frozen 0
  have z1 := HY2.out.frozen 1
  have z2 := HY2.out.frozen 2
  go_wp2
  go_loopw [5] (fun kv wr => txR w2 (.slice a ts.length c) ts id kv wr) (fun kv _ => ts.length - (intOf kv).toNat)
  case atStart => exact ⟨0, by omega, rfl, hide fun i _ hi => by omega, rfl⟩
  case round =>
    obtain ⟨k, hk, rfl, hne, rfl⟩ := hrel
    by_cases hlt : k < ts.length
    · obtain ⟨b1, o1, l1, q1, rfl, _, hb1, c0, c1, c2, hi1, hwf⟩ := HH2.out.at hlt
      have HO := hide hi1
      have HAT := hide (docTxn_at (id := id) hlt hne.out)
      obtain ⟨x, hx⟩ : ∃ x, x = ts[k].id := ⟨_, rfl⟩
      rw [← hx] at c0
      have HX := hide hx
      clear hi1 hx
      by_cases hxe : x = id
      · have HE := hide (HAT.out (HX.out.symm.trans hxe))
        go_wp2
        have hrow := (((HY2.out.set 0 (.int .i64 id)).set 1 (.bool ts[k].ab)).set 2 (.slice l1 ts[k].ops.length q1)).eq (cs' := #[.int .i64 id, .bool ts[k].ab, .slice l1 ts[k].ops.length q1]) rfl
        have honly := (((Only.refl (fun b => b = w.heap.size + 1) wr).put 0 (.int .i64 id)).put 1 (.bool ts[k].ab)).put 2 (.slice l1 ts[k].ops.length q1)
        have hbel := ((HB2.out.setCell (p := ⟨w.heap.size + 1, 0, none⟩) (by show w.heap.size ≤ w.heap.size + 1; omega) (.int .i64 id)).setCell (p := ⟨w.heap.size + 1, 1, none⟩) (by show w.heap.size ≤ w.heap.size + 1; omega) (.bool ts[k].ab)).setCell (p := ⟨w.heap.size + 1, 2, none⟩) (by show w.heap.size ≤ w.heap.size + 1; omega) (.slice l1 ts[k].ops.length q1)
        obtain ⟨T, hT⟩ := hrow
        refine bodyPost_ret (results_cell_row rfl _ _ (w.heap.size + 1) _ _ _ _ rfl hT Try.underlying66 rfl (by kernel_rfl)) rfl ?_
        rw [HE.out]
        exact ⟨_, by rw [← HX.out, hxe], (HO.out.only honly (fun b q e => by have := q.2; omega)).mono (fun b q => q.1), hbel⟩
      · have R : Hid (txR wr (.slice (some ⟨b1, o1, none⟩) ts.length c) ts id (.int .i64 ((k : Int) + 1)) wr) := ⟨k + 1, by omega, by simp, hide fun i hi hik => by
          by_cases e : i = k
          · subst e; rw [← HX.out]; exact hxe
          · exact hne.out i hi (by omega), rfl⟩
        go_wp2
        go_roundw
        case rel => exact R.out
        case measure => simp [intOf]; omega
    · have HE := hide (docTxn_no (id := id) fun i hi => hne.out i hi (by omega))
      go_wp2
      have hrow := (((HY2.out.set 0 (.int .i64 id)).set 1 (.bool false)).set 2 (.slice none 0 0)).eq (cs' := #[.int .i64 id, .bool false, .slice none 0 0]) rfl
      have honly := (((Only.refl (fun b => b = w.heap.size + 1) wr).put 0 (.int .i64 id)).put 1 (.bool false)).put 2 (.slice none 0 0)
      have hbel := ((HB2.out.setCell (p := ⟨w.heap.size + 1, 0, none⟩) (by show w.heap.size ≤ w.heap.size + 1; omega) (.int .i64 id)).setCell (p := ⟨w.heap.size + 1, 1, none⟩) (by show w.heap.size ≤ w.heap.size + 1; omega) (.bool false)).setCell (p := ⟨w.heap.size + 1, 2, none⟩) (by show w.heap.size ≤ w.heap.size + 1; omega) (.slice none 0 0)
      obtain ⟨T, hT⟩ := hrow
      refine bodyPost_ret (results_cell_row rfl _ _ (w.heap.size + 1) _ _ _ _ rfl hT Try.underlying66 rfl (by kernel_rfl)) rfl ?_
      rw [HE.out]
      exact ⟨_, rfl, OpsAt.nil, hbel⟩
end Go.Proofs.Ytofgfcebkmdhcaa.Tab

/- The document's Appends. -/
namespace Go.Proofs.Ytofgfcebkmdhcaa.Tab
open Go.RowKit Go.Proofs.Ytofgfcebkmdhcaa.Dig Go.Proofs.Ytofgfcebkmdhcaa.Mem Go.Proofs.Ytofgfcebkmdhcaa.Hist Go.Proofs.Ytofgfcebkmdhcaa.Own Go.Proofs.Ytofgfcebkmdhcaa.Thing Go.Proofs.Ytofgfcebkmdhcaa.Sets Go.Shelf Go.Proofs.Ytofgfcebkmdhcaa.Keys
set_option linter.unusedVariables false
set_option linter.unusedSimpArgs false

theorem docTxn_ops (ts : List TxnM) (id : Int) : (docTxn ts id).ops.length ≤ opsN ts := by
  unfold docTxn
  cases h : ts.find? fun t => t.id == id with
  | none => simp
  | some t =>
    obtain ⟨i, hi, rfl⟩ := List.getElem_of_mem (List.mem_of_find?_eq_some h)
    exact ops_le hi
set_option maxRecDepth 20000 in
set_option maxHeartbeats 4000000 in
theorem rapps_any (F : Nat → Prop) (v : Value) (ts : List TxnM) (id key : Int) (w : World) (h : TxnsAt F w v ts) (hid : (Lit.int .i64 id).wf = true) (hops : opsN ts ≤ 1000) :
    Calls Try.prog 21 #[.agg #[v], .int .i64 id, .int .i64 key] w fun e w' => (∃ a c, e = .returned (.slice a (docApps ts id key).length c) ∧ RowV w' a c (docApps ts id key)) ∧ Below w.heap.size w w' := by
  obtain ⟨a, c, rfl, hc1, hc2⟩ := h.shape
  have hB1 : Below w.heap.size w (w.alloc (.cells #[.slice a ts.length c] 24)) := (Below.refl _ _).alloc (Nat.le_refl _) _
  have HB1 := hide hB1
  have CT := hide (txn_any F _ ts id _ (h.keep hB1) hid)
  have hle := docTxn_ops ts id
  obtain ⟨u, hu⟩ : ∃ u, u = docTxn ts id := ⟨_, rfl⟩
  have ED : Hid (docApps ts id key = aheadL u.ops key) := hide (by rw [hu]; rfl)
  rw [← hu] at CT hle
  clear hu h
  obtain ⟨ui, uab, uo⟩ := u
  simp only at CT ED hle
  go_enter Try.func21, Try.ntmps21
  go_wp2_with (first
    | (go_at_call 44; go_must ((with_reducible refine (Hid.out CT).mono ?_); rintro e w2 ⟨ov, rfl, ho, hb2⟩; obtain ⟨oa, oc, rfl, g1, g2⟩ := ho.out.shape; unfold maxLen at g2; have CA := hide (ahead_any F ui uab (.slice oa uo.length oc) uo key uo.length (w2.alloc (.cells #[.int .i64 ui, .bool uab, .slice oa uo.length oc] 66)) (by exact ho.out.keep ((Below.refl _ _).alloc (Nat.le_refl _) _)) (by omega) (by omega))))
    | (go_at_call 45; go_must ((with_reducible refine (Hid.out CA).mono ?_); rintro e w3 ⟨⟨a3, c3, rfl, hv3⟩, hb3⟩)))
  go_ret
  rw [List.take_length] at hv3
  rw [ED.out]
  have hb4 := (HB1.out.trans (hb2.out.mono HB1.out.size))
  have hb5 := hb4.alloc hb4.size (.cells #[.int .i64 ui, .bool uab, .slice oa uo.length oc] 66)
  exact ⟨⟨a3, c3, rfl, hv3⟩, hb5.trans (hb3.mono hb5.size)⟩
end Go.Proofs.Ytofgfcebkmdhcaa.Tab

/- The document's Writer. -/
namespace Go.Proofs.Ytofgfcebkmdhcaa.Tab
open Go.RowKit Go.Proofs.Ytofgfcebkmdhcaa.Dig Go.Proofs.Ytofgfcebkmdhcaa.Mem Go.Proofs.Ytofgfcebkmdhcaa.Hist Go.Proofs.Ytofgfcebkmdhcaa.Own Go.Proofs.Ytofgfcebkmdhcaa.Thing Go.Proofs.Ytofgfcebkmdhcaa.Sets Go.Shelf Go.Proofs.Ytofgfcebkmdhcaa.Keys
set_option linter.unusedVariables false
set_option linter.unusedSimpArgs false

/-- Nobody among the first has appended it. -/
def NoW (ts : List TxnM) (p : Int × Int) : Prop := (flat ts).find? (isVal p) = none
theorem flat_split {ts : List TxnM} {k : Nat} (h : k < ts.length) : ∃ r, flat ts = flat (ts.take k) ++ (spotsOf ts[k] ++ r) := by
  refine ⟨flat (ts.drop (k + 1)), ?_⟩
  have e : flat (ts.take k ++ ts[k] :: ts.drop (k + 1)) = flat (ts.take k) ++ (spotsOf ts[k] ++ flat (ts.drop (k + 1))) := by
    unfold flat
    rw [List.flatMap_append, List.flatMap_cons]
  rw [← List.drop_eq_getElem_cons h, List.take_append_drop] at e
  exact e
def NoO (t : TxnM) (p : Int × Int) (j : Nat) : Prop := ((spotsOf t).take j).find? (isVal p) = none
theorem spots_len (t : TxnM) : (spotsOf t).length = t.ops.length := by simp [spots_mk, mkS]
theorem spots_at (t : TxnM) {j : Nat} (h : j < t.ops.length) : (spotsOf t)[j]'(by rw [spots_len]; exact h) = ⟨t.id, j, t.ab, t.ops[j]⟩ := by simp [spots_mk, mkS]
theorem noO_next {t : TxnM} {p : Int × Int} {j : Nat} (h : j < t.ops.length) (hn : NoO t p j) (hx : (!t.ops[j].read && t.ops[j].key == p.1 && t.ops[j].value == p.2) = false) : NoO t p (j + 1) := by
  unfold NoO at hn ⊢
  rw [List.take_succ_eq_append_getElem (by rw [spots_len]; exact h), List.find?_append, hn, spots_at t h]
  simp [isVal, hx]
theorem noW_next {ts : List TxnM} {p : Int × Int} {k : Nat} (h : k < ts.length) (hn : NoW (ts.take k) p) (hx : NoO ts[k] p ts[k].ops.length) : NoW (ts.take (k + 1)) p := by
  unfold NoW NoO at *
  rw [flat_take h, List.find?_append, hn, ← spots_mk]
  rw [← spots_len, List.take_length] at hx
  rw [hx]
  rfl
theorem docW_at {ts : List TxnM} {p : Int × Int} {k j : Nat} (h : k < ts.length) (hn : NoW (ts.take k) p) (hj : j < ts[k].ops.length) (ho : NoO ts[k] p j) (hx : (!ts[k].ops[j].read && ts[k].ops[j].key == p.1 && ts[k].ops[j].value == p.2) = true) : docWriter ts p = some ⟨ts[k].id, j, p.1, p.2, ts[k].ab⟩ := by
  obtain ⟨r, hr⟩ := flat_split h
  have hs : j < (spotsOf ts[k]).length := by rw [spots_len]; exact hj
  unfold docWriter
  unfold NoW NoO at *
  rw [hr, List.find?_append, hn]
  have e : spotsOf ts[k] = (spotsOf ts[k]).take j ++ (⟨ts[k].id, j, ts[k].ab, ts[k].ops[j]⟩ :: (spotsOf ts[k]).drop (j + 1)) := by
    conv => lhs; rw [← List.take_append_drop j (spotsOf ts[k]), List.drop_eq_getElem_cons hs, spots_at _ hj]
  rw [e, List.append_assoc, List.find?_append, ho]
  have e2 : isVal p ⟨ts[k].id, j, ts[k].ab, ts[k].ops[j]⟩ = true := hx
  simp only [List.cons_append, List.find?_cons, e2, Option.none_or, Option.map_some, wrOf]
  simp at hx
  simp [hx.1.2, hx.2]
theorem docW_no {ts : List TxnM} {p : Int × Int} (h : NoW ts p) : docWriter ts p = none := by
  unfold docWriter
  unfold NoW at h
  rw [h]
  rfl
/-- Behind k transactions. -/
def wtR (w2 : World) (ts : List TxnM) (p : Int × Int) (kv : Value) (wr : World) : Prop := ∃ k : Nat, k ≤ ts.length ∧ kv = .int .i64 (k : Int) ∧ Hid (NoW (ts.take k) p) ∧ Hid (Below w2.heap.size w2 wr)
def woR (t : TxnM) (p : Int × Int) (W : World) (jv : Value) (wr : World) : Prop := ∃ j : Nat, j ≤ t.ops.length ∧ jv = .int .i64 (j : Int) ∧ Hid (NoO t p j) ∧ wr = W
def wO (m : Option WrM) : Value := wrO m
theorem wr_end {tmps : Array Value} {Wf : World} {B : Nat} {cs : Array Value} {b : Bool} {Q : Ending → World → Prop} (h6 : tmps.getD 6 undef = .pointer (some ⟨B, 0, none⟩)) (h7 : tmps.getD 7 undef = .bool b) (hr : Is Wf B cs) (hQ : Q (.returned (.tuple #[.agg cs, .bool b])) Wf) (hc : cs.size = 5 := by rfl) :
    bodyPost Try.prog Try.f19 Q Exit.ret ⟨tmps, []⟩ Wf := by
  obtain ⟨T, hT⟩ := hr
  have hl := run_loadVar_row (P := Try.prog) Wf B _ 44 cs _ _ hT Try.underlying44 rfl (by rw [hc]; kernel_rfl)
  refine bodyPost_ret (v := .tuple #[.agg cs, .bool b]) ?_ rfl hQ
  have h6' : tmps[6]?.getD undef = .pointer (some ⟨B, 0, none⟩) := by simpa using h6
  have h7' : tmps[7]?.getD undef = .bool b := by simpa using h7
  simp [results, Try.f19, asAddr, h6', h7', hl]
set_option maxRecDepth 20000 in
set_option maxHeartbeats 4000000 in
theorem rwriter_any (F : Nat → Prop) (v : Value) (ts : List TxnM) (key value : Int) (w : World) (h : TxnsAt F w v ts) :
    Calls Try.prog 19 #[.agg #[v], .int .i64 key, .int .i64 value] w fun e w' => e = .returned (.tuple #[wrO (docWriter ts (key, value)), .bool (docWriter ts (key, value)).isSome]) ∧ Hid (Below w.heap.size w w') := by
  obtain ⟨a, c, rfl, hc1, hc2⟩ := h.shape
  unfold maxLen at hc2
  have H : Hid (TxnsAt (fun b => F b ∧ b < w.heap.size) w (.slice a ts.length c) ts) := hide h.lt
  clear h
  go_enter Try.func19, Try.ntmps19
  go_upto_region 1 with fail
  obtain ⟨w1, hw1⟩ : ∃ w1, w1 = w.alloc (.cells #[.slice a ts.length c] 24) := ⟨_, rfl⟩
  rw [← hw1]
  have HB1 : Hid (Below w.heap.size w w1) := hide (by rw [hw1]; exact (Below.refl _ _).alloc (Nat.le_refl _) _)
  have HX1 : Hid (Is w1 w.heap.size #[.slice a ts.length c]) := hide (by rw [hw1]; exact Is.made w _ _ rfl)
  have hsz : w1.heap.size = w.heap.size + 1 := by rw [hw1]; simp
  clear hw1
  obtain ⟨w2, hw2⟩ : ∃ w2, w2 = w1.alloc (.cells #[.int .i64 0, .int .i64 0, .int .i64 0, .int .i64 0, .bool false] 44) := ⟨_, rfl⟩
  have HB2 : Hid (Below w.heap.size w w2) := hide (by rw [hw2]; exact HB1.out.alloc HB1.out.size _)
  have HX2 : Hid (Is w2 w.heap.size #[.slice a ts.length c]) := hide (by rw [hw2]; exact HX1.out.alloc _)
  have HY2 : Hid (Is w2 (w.heap.size + 1) #[.int .i64 0, .int .i64 0, .int .i64 0, .int .i64 0, .bool false]) := hide (by rw [hw2]; exact Is.made w1 _ _ hsz.symm)
  have HH2 := hide (H.out.keep HB2.out)
  rw [← hw2]
  clear hw2 hsz H
  go_wp2
  go_loopw [8] (fun kv wr => wtR w2 ts (key, value) kv wr) (fun kv _ => ts.length - (intOf kv).toNat)
  case atStart => exact ⟨0, by omega, rfl, hide rfl, Below.refl _ _⟩
  case round =>
    obtain ⟨k, hk, rfl, hno, hbel⟩ := hrel
    obtain ⟨W, hW⟩ : ∃ W, W = wr := ⟨_, rfl⟩
    subst hW
    have HXW := hide (HX2.out.below hbel.out)
    have HYW := hide (HY2.out.below hbel.out)
    have x0 : W.cell? ⟨w.heap.size, 0, none⟩ = some (.slice a ts.length c) := HXW.out.cell 0 rfl
    by_cases hlt : k < ts.length
    · obtain ⟨b1, o1, l1, q1, rfl, _, hb1, c0, c1, c2, hi1, hwf⟩ := (HH2.out.keep hbel.out).at hlt
      have HO := hide hi1
      clear hi1
      have HOUT := hide (noW_next (p := (key, value)) hlt hno.out)
      have HAT := hide (fun j hj ho hx => docW_at (p := (key, value)) hlt hno.out (j := j) hj ho hx)
      obtain ⟨W3, hW3⟩ : ∃ W3, W3 = W.alloc (.cells #[.int .i64 ts[k].id, .bool ts[k].ab, .slice l1 ts[k].ops.length q1] 66) := ⟨_, rfl⟩
      have hb3 : Below W.heap.size W W3 := by rw [hW3]; exact (Below.refl _ _).alloc (Nat.le_refl _) _
      have HT3 : Hid (Is W3 W.heap.size #[.int .i64 ts[k].id, .bool ts[k].ab, .slice l1 ts[k].ops.length q1]) := hide (by rw [hW3]; exact Is.made W _ _ rfl)
      have HY3 := hide (HYW.out.below hb3)
      have HO3 := hide (HO.out.keep hb3)
      have HBE3 := hide (hbel.out.trans (hb3.mono hbel.out.size))
      obtain ⟨_, _, e, g1, g2⟩ := HO.out.shape
      cases e
      unfold maxLen at g2
      have HST : Hid (woR ts[k] (key, value) W3 (.int .i64 0) W3) := ⟨0, by omega, rfl, hide (by simp [NoO]), rfl⟩
      go_wp2
      try rw [← hW3]
      clear hW3
      go_loopw [10] (fun jv wr => woR ts[k] (key, value) W3 jv wr) (fun jv _ => ts[k].ops.length - (intOf jv).toNat)
      case atStart => exact HST.out
      case round =>
        obtain ⟨j, hj, rfl, hnj, rfl⟩ := hrel
        have t2 : wr.cell? ⟨W.heap.size, 2, none⟩ = some (.slice l1 ts[k].ops.length q1) := HT3.out.cell 2 rfl
        by_cases hlj : j < ts[k].ops.length
        · obtain ⟨b3, o3, l3, q3, rfl, _, _, e0, e1, e2, e3, _, _, _⟩ := HO3.out.at hlj
          have HN := hide (noO_next (p := (key, value)) hlj hnj.out)
          have HA := hide (HAT.out j hlj hnj.out)
          obtain ⟨q, hq⟩ : ∃ q, q = ts[k].ops[j].read := ⟨_, rfl⟩
          obtain ⟨x, hx⟩ : ∃ x, x = ts[k].ops[j].key := ⟨_, rfl⟩
          obtain ⟨y, hy⟩ : ∃ y, y = ts[k].ops[j].value := ⟨_, rfl⟩
          rw [← hq, ← hx, ← hy] at HN HA
          rw [← hq] at e0
          rw [← hx] at e1
          rw [← hy] at e2
          clear hq hx hy e3 HST
          have GO : Hid ((!q && x == key && y == value) = false → woR ts[k] (key, value) wr (.int .i64 ((j : Int) + 1)) wr) := hide fun e => ⟨j + 1, by omega, by simp, hide (HN.out e), rfl⟩
          cases q with
          | true =>
            have R := hide (GO.out (by simp))
            clear HN HA GO
            go_wp2
            go_roundw
            case rel => exact R.out
            case measure => simp [intOf]; omega
          | false =>
            by_cases hxk : x = key
            · by_cases hyv : y = value
              · have HE := hide (HA.out (by simp [hxk, hyv]))
                have t0 : wr.cell? ⟨W.heap.size, 0, none⟩ = some (.int .i64 ts[k].id) := HT3.out.cell 0 rfl
                have t1 : wr.cell? ⟨W.heap.size, 1, none⟩ = some (.bool ts[k].ab) := HT3.out.cell 1 rfl
                have y0 : wr.cell? ⟨w.heap.size + 1, 0, none⟩ = some (.int .i64 0) := HY3.out.cell 0 rfl
                have y1 : wr.cell? ⟨w.heap.size + 1, 1, none⟩ = some (.int .i64 0) := HY3.out.cell 1 rfl
                have y2 : wr.cell? ⟨w.heap.size + 1, 2, none⟩ = some (.int .i64 0) := HY3.out.cell 2 rfl
                have y3 : wr.cell? ⟨w.heap.size + 1, 3, none⟩ = some (.int .i64 0) := HY3.out.cell 3 rfl
                have y4 : wr.cell? ⟨w.heap.size + 1, 4, none⟩ = some (.bool false) := HY3.out.cell 4 rfl
                have z0 := HY3.out.frozen 0
                have z1 := HY3.out.frozen 1
                have z2 := HY3.out.frozen 2
                have z3 := HY3.out.frozen 3
                have z4 := HY3.out.frozen 4
                clear HN HA GO
                subst hxk hyv
                go_wp2
                have hrow := (((((HY3.out.set 0 (.int .i64 ts[k].id)).set 1 (.int .i64 (j : Int))).set 2 (.int .i64 x)).set 3 (.int .i64 y)).set 4 (.bool ts[k].ab)).eq (cs' := #[.int .i64 ts[k].id, .int .i64 (j : Int), .int .i64 x, .int .i64 y, .bool ts[k].ab]) rfl
                have hbf := ((((((HB2.out.trans (HBE3.out.mono HB2.out.size)).setCell (p := ⟨w.heap.size + 1, 0, none⟩) (by show w.heap.size ≤ w.heap.size + 1; omega) (.int .i64 ts[k].id)).setCell (p := ⟨w.heap.size + 1, 1, none⟩) (by show w.heap.size ≤ w.heap.size + 1; omega) (.int .i64 (j : Int))).setCell (p := ⟨w.heap.size + 1, 2, none⟩) (by show w.heap.size ≤ w.heap.size + 1; omega) (.int .i64 x)).setCell (p := ⟨w.heap.size + 1, 3, none⟩) (by show w.heap.size ≤ w.heap.size + 1; omega) (.int .i64 y)).setCell (p := ⟨w.heap.size + 1, 4, none⟩) (by show w.heap.size ≤ w.heap.size + 1; omega) (.bool ts[k].ab))
                exact wr_end rfl rfl hrow (by rw [HE.out]; exact ⟨rfl, hbf⟩)
              · have R := hide (GO.out (by simp [hyv]))
                clear HN HA GO
                go_wp2
                go_roundw
                case rel => exact R.out
                case measure => simp [intOf]; omega
            · have R := hide (GO.out (by simp [hxk]))
              clear HN HA GO
              go_wp2
              go_roundw
              case rel => exact R.out
              case measure => simp [intOf]; omega
        · obtain rfl : j = ts[k].ops.length := by omega
          have R : Hid (wtR w2 ts (key, value) (.int .i64 ((k : Int) + 1)) wr) := ⟨k + 1, by omega, by simp, hide (HOUT.out hnj.out), HBE3⟩
          go_wp2
          go_roundw
          case rel => exact R.out
          case measure => simp [intOf]; omega
    · have HE := hide (docW_no (p := (key, value)) (by have := hno.out; rw [List.take_of_length_le (by omega)] at this; exact this))
      have y0 : W.cell? ⟨w.heap.size + 1, 0, none⟩ = some (.int .i64 0) := HYW.out.cell 0 rfl
      have y1 : W.cell? ⟨w.heap.size + 1, 1, none⟩ = some (.int .i64 0) := HYW.out.cell 1 rfl
      have y2 : W.cell? ⟨w.heap.size + 1, 2, none⟩ = some (.int .i64 0) := HYW.out.cell 2 rfl
      have y3 : W.cell? ⟨w.heap.size + 1, 3, none⟩ = some (.int .i64 0) := HYW.out.cell 3 rfl
      have y4 : W.cell? ⟨w.heap.size + 1, 4, none⟩ = some (.bool false) := HYW.out.cell 4 rfl
      have z0 := HYW.out.frozen 0
      have z1 := HYW.out.frozen 1
      have z2 := HYW.out.frozen 2
      have z3 := HYW.out.frozen 3
      have z4 := HYW.out.frozen 4
      go_wp2
      have hrow := (((((HYW.out.set 0 (.int .i64 0)).set 1 (.int .i64 0)).set 2 (.int .i64 0)).set 3 (.int .i64 0)).set 4 (.bool false)).eq (cs' := #[.int .i64 0, .int .i64 0, .int .i64 0, .int .i64 0, .bool false]) rfl
      have hbf := ((((((HB2.out.trans (hbel.out.mono HB2.out.size)).setCell (p := ⟨w.heap.size + 1, 0, none⟩) (by show w.heap.size ≤ w.heap.size + 1; omega) (.int .i64 0)).setCell (p := ⟨w.heap.size + 1, 1, none⟩) (by show w.heap.size ≤ w.heap.size + 1; omega) (.int .i64 0)).setCell (p := ⟨w.heap.size + 1, 2, none⟩) (by show w.heap.size ≤ w.heap.size + 1; omega) (.int .i64 0)).setCell (p := ⟨w.heap.size + 1, 3, none⟩) (by show w.heap.size ≤ w.heap.size + 1; omega) (.int .i64 0)).setCell (p := ⟨w.heap.size + 1, 4, none⟩) (by show w.heap.size ≤ w.heap.size + 1; omega) (.bool false))
      exact wr_end rfl rfl hrow (by rw [HE.out]; exact ⟨rfl, hbf⟩)
end Go.Proofs.Ytofgfcebkmdhcaa.Tab
