/- Joined out of the texts TabRWr, in that order. -/
import Derived.Test.YtkinmllflodhaaaAll17
import Derived.Test.YtkinmllflodhaaaAll16
/- The document's Writes. -/
namespace Go.Proofs.Ytkinmllflodhaaa.Tab
open Go.RowKit Go.Proofs.Ytkinmllflodhaaa.Dig Go.Proofs.Ytkinmllflodhaaa.Mem Go.Proofs.Ytkinmllflodhaaa.Hist Go.Proofs.Ytkinmllflodhaaa.Own Go.Proofs.Ytkinmllflodhaaa.Thing Go.Proofs.Ytkinmllflodhaaa.Sets Go.Shelf Go.Proofs.Ytkinmllflodhaaa.Keys
set_option linter.unusedVariables false
set_option linter.unusedSimpArgs false

/-- Behind j operations. -/
def docWrP (t : TxnM) (key : Int) (j : Nat) : List WrM := ((t.ops.take j).zipIdx.filter fun p => !p.1.read && p.1.key == key).map fun p => ⟨t.id, p.2, key, p.1.value, false⟩
structure KeyW (P : Prop) : Prop where
  out : P
theorem merge {P Q : Prop} (h : KeyW P → Q) (p : P) : Q := h ⟨p⟩
theorem wrP_all (t : TxnM) (key : Int) : docWrP t key t.ops.length = docWr t key := by unfold docWrP docWr; rw [List.take_length]
theorem wrP_step {t : TxnM} {key : Int} {j : Nat} (h : j < t.ops.length) : docWrP t key (j + 1) = docWrP t key j ++ (if (!t.ops[j].read && t.ops[j].key == key) = true then [⟨t.id, j, key, t.ops[j].value, false⟩] else []) := by
  unfold docWrP
  rw [List.take_succ_eq_append_getElem h, List.zipIdx_append, List.filter_append, List.map_append]
  congr 1
  have e : (t.ops.take j).length = j := by rw [List.length_take]; omega
  simp only [e, Nat.zero_add, List.zipIdx_cons, List.zipIdx_nil, List.filter_cons, List.filter_nil]
  split <;> simp_all
theorem wrP_le (t : TxnM) (key : Int) (j : Nat) : (docWrP t key j).length ≤ t.ops.length := by
  unfold docWrP
  rw [List.length_map]
  have := List.length_filter_le (fun p : OpM × Nat => !p.1.read && p.1.key == key) (t.ops.take j).zipIdx
  rw [List.length_zipIdx, List.length_take] at this
  omega
/-- Behind k transactions. -/
def docWsP (ts : List TxnM) (key : Int) (k : Nat) : List WrM := ((docIds ts).take k).flatMap fun id => docWr (docTxn ts id) key
theorem wsP_all (ts : List TxnM) (key : Int) : docWsP ts key (docIds ts).length = docWrites ts key := by unfold docWsP docWrites; rw [List.take_length]
theorem wsP_step {ts : List TxnM} {key : Int} {k : Nat} (h : k < (docIds ts).length) : docWsP ts key (k + 1) = docWsP ts key k ++ docWr (docTxn ts (docIds ts)[k]) key := by
  unfold docWsP
  rw [List.take_succ_eq_append_getElem h, List.flatMap_append]
  simp
theorem wsP_le (ts : List TxnM) (key : Int) : ∀ k : Nat, k ≤ (docIds ts).length → (docWsP ts key k).length ≤ k * opsN ts
  | 0, _ => by simp [docWsP]
  | k + 1, h => by
    rw [wsP_step h, List.length_append, Nat.succ_mul]
    have h1 := wsP_le ts key k (by omega)
    have h2 := wrP_le (docTxn ts (docIds ts)[k]) key (docTxn ts (docIds ts)[k]).ops.length
    rw [wrP_all] at h2
    have h3 := docTxn_ops ts (docIds ts)[k]
    omega
theorem Try.infoRW : (Try.prog.info? 44).map (fun i => (i.zero, i.size, i.bytes)) = some (some (.agg #[.int .i64 0, .int .i64 0, .int .i64 0, .int .i64 0, .bool false]), 5, 40) := by kernel_rfl
def rwR (w2 : World) (ts : List TxnM) (key : Int) (ov kv : Value) (wr : World) : Prop :=
  ∃ k : Nat, k ≤ (docIds ts).length ∧ kv = .int .i64 (k : Int) ∧ Hid (Kn w2 [ownN w2.heap.size 44 5 ov (docWsP ts key k).length ((docWsP ts key k).flatMap wrC)] wr)
def rwI (F : Nat → Prop) (w2 : World) (pre : List WrM) (t : TxnM) (key : Int) (B : Nat) (lv : Value) (ov jv : Value) (wr : World) : Prop :=
  ∃ j : Nat, j ≤ t.ops.length ∧ jv = .int .i64 (j : Int) ∧ Hid (Kn w2 [boxT B #[.int .i64 t.id, .bool t.ab, lv], ownN w2.heap.size 44 5 ov (pre ++ docWrP t key j).length ((pre ++ docWrP t key j).flatMap wrC)] wr) ∧ Hid (OpsAt F wr lv t.ops)
set_option maxRecDepth 20000 in
set_option maxHeartbeats 4000000 in
theorem rwrites_any (F : Nat → Prop) (v : Value) (ts : List TxnM) (key : Int) (w : World) (h : TxnsAt F w v ts) (hF : ∀ b, F b → b < w.heap.size) (hm : ts.length ≤ 1000) (hf : FewH ts) :
    Calls Try.prog 23 #[.agg #[v], .int .i64 key] w fun e w' => (∃ a c, e = .returned (.slice a (docWrites ts key).length c) ∧ Row5 w' a (docWrites ts key).length ((docWrites ts key).flatMap wrC)) ∧ Below w.heap.size w w' := by
  obtain ⟨i0, hi, hz0, hz1, hz2⟩ := info_parts Try.infoRW
  obtain ⟨a, c, rfl, hc1, hc2⟩ := h.shape
  unfold maxLen at hc2
  have hB1 : Below w.heap.size w (w.alloc (.cells #[.slice a ts.length c] 24)) := (Below.refl _ _).alloc (Nat.le_refl _) _
  have HB1 := hide hB1
  have HF := hide hf
  have HH1 := hide (h.keep hB1)
  have HX1 := hide (Is.made w #[.slice a ts.length c] 24 rfl)
  have HLE := hide hF
  clear h hf hB1 hF
  go_enter Try.func23, Try.ntmps23
  go_upto_region 2 with fail
  generalize (w.alloc (.cells #[.slice a ts.length c] 24)) = w1 at HB1 HH1 HX1 ⊢
  have x0 : w1.cell? ⟨w.heap.size, 0, none⟩ = some (.slice a ts.length c) := HX1.out.cell 0 rfl
  have CI := hide (rids_any F (.slice a ts.length c) ts w1 HH1.out (fun b q => by have := HLE.out b q; have := HB1.out.size; omega) hm)
  obtain ⟨n, hn⟩ : ∃ n, n = (docIds ts).length := ⟨_, rfl⟩
  rw [← hn] at CI
  have HN := hide hn
  clear hn
  go_upto_region 3 with (go_at_call 15; go_must ((with_reducible refine (Hid.out CI).mono ?_); rintro e w2 ⟨⟨la, lc, rfl, hv⟩, hb2⟩; have HV := hide hv; have HB2 := hide hb2; clear hv hb2))
  clear x0
  have HX2 := hide (HX1.out.below HB2.out)
  have HH2 := hide (HH1.out.keep HB2.out)
  go_wp2
  go_loopw [5, 7] (fun ov kv wr => rwR w2 ts key ov kv wr) (fun _ kv _ => n - (intOf kv).toNat)
  case atStart => exact ⟨0, by omega, rfl, hide (ownNil (Kn.start w2) _ _ _)⟩
  case round =>
    obtain ⟨k, hk, rfl, hkn⟩ := hrel
    have hbel : Hid (Below w2.heap.size w2 wr) := hide hkn.out.below
    have hown := hide (Knget (pre := []) hkn.out)
    obtain ⟨W, hW⟩ : ∃ W, W = wr := ⟨_, rfl⟩
    subst hW
    obtain ⟨oa, oc, rfl⟩ := Own.own_form hown.out
    have x0 : W.cell? ⟨w.heap.size, 0, none⟩ = some (.slice a ts.length c) := (HX2.out.below hbel.out).cell 0 rfl
    have hn20 : n ≤ 20 := by have := HF.out.ids; have := HN.out; omega
    have hkn' : k ≤ n := by rw [HN.out]; exact hk
    by_cases hlt : k < n
    · have hlt' : k < (docIds ts).length := by rw [← HN.out]; exact hlt
      obtain ⟨b7, o7, rfl, hcz⟩ := (HV.out.keep hbel.out).at hlt'
      rw [show (docIds ts).getD k 0 = (docIds ts)[k] by simp [List.getD_eq_getElem?_getD, hlt']] at hcz
      have hwf := HV.out.wf (docIds ts)[k] (List.getElem_mem hlt')
      have HSTEP := hide (wsP_step (key := key) hlt')
      obtain ⟨x, hx⟩ : ∃ x, x = (docIds ts)[k] := ⟨_, rfl⟩
      rw [← hx] at hcz hwf HSTEP
      have CT : Hid (∀ W', Below W.heap.size W W' → Calls Try.prog 44 #[.agg #[.slice a ts.length c], .int .i64 x] W' fun e w' => ∃ (ov : Value), e = .returned (.agg #[.int .i64 (docTxn ts x).id, .bool (docTxn ts x).ab, ov]) ∧ Hid (OpsAt F w' ov (docTxn ts x).ops) ∧ Hid (Below W'.heap.size W' w')) := hide fun W' hW' => txn_any F _ ts x W' ((HH2.out.keep hbel.out).keep hW') hwf
      have HUL := hide (docTxn_ops ts x)
      clear hx
      obtain ⟨u, hu⟩ : ∃ u, u = docTxn ts x := ⟨_, rfl⟩
      rw [← hu] at HSTEP CT HUL
      clear hu
      have HPL := hide (wsP_le ts key k (by omega))
      obtain ⟨pre, hpre⟩ : ∃ pre, pre = docWsP ts key k := ⟨_, rfl⟩
      rw [← hpre] at hkn HSTEP HPL ⊢
      obtain ⟨m, hm⟩ : ∃ m, m = pre.length := ⟨_, rfl⟩
      rw [← hm]
      have HM := hide hm
      clear hm hpre hown
      go_upto_region 6 with fail
      have z0 : Hid (W.cell? ⟨w.heap.size, 0, none⟩ = some (.slice a ts.length c) ∧ W.cell? ⟨b7, o7 + k, none⟩ = some (.int .i64 x)) := hide ⟨x0, hcz⟩
      obtain ⟨WD, hWD⟩ : ∃ WD, WD = W.drew := ⟨_, rfl⟩
      have HBD : Hid (Below W.heap.size W WD) := hide (by rw [hWD]; exact (Below.refl _ _).drew)
      have SD : WD.cell? ⟨w.heap.size, 0, none⟩ = some (.slice a ts.length c) ∧ WD.cell? ⟨b7, o7 + k, none⟩ = some (.int .i64 x) := by rw [hWD]; exact z0.out
      refine Last.region_last (k := 7) (S := fun w' : World => w'.cell? ⟨w.heap.size, 0, none⟩ = some (.slice a ts.length c) ∧ w'.cell? ⟨b7, o7 + k, none⟩ = some (.int .i64 x)) (by kernel_rfl) rfl rfl (by kernel_rfl) (by kernel_rfl) ?_
      rw [← hWD]
      clear hWD x0 hcz z0
      apply merge
      intro key'
      refine wpAnyH_take (i := 0) (v := ?_) rfl (by kernel_rfl) (by kernel_rfl) (by kernel_rfl) (fun _ _ _ h => h) (Or.inl ⟨by rfl, ?_⟩) (by assumption) ?_
      rotate_left
      · (intro w hSw; (try dsimp only at hSw); go_simp; try with_reducible rfl)
      try simp only [List.getElem_toArray, List.getElem_cons_succ, List.getElem_cons_zero, Act.put, List.setIfInBounds_toArray, List.set_cons_zero, List.set_cons_succ]
      refine wpAnyH_take (i := 1) (v := ?_) rfl (by kernel_rfl) (by kernel_rfl) (by kernel_rfl) (fun _ _ _ h => h) (Or.inl ⟨by rfl, ?_⟩) (by assumption) ?_
      rotate_left
      · (intro w hSw; (try dsimp only at hSw); go_simp; try with_reducible rfl)
      try simp only [List.getElem_toArray, List.getElem_cons_succ, List.getElem_cons_zero, Act.put, List.setIfInBounds_toArray, List.set_cons_zero, List.set_cons_succ]
      refine wpAnyH_take (i := 2) (v := ?_) rfl (by kernel_rfl) (by kernel_rfl) (by kernel_rfl) (fun _ _ _ h => h) (Or.inl ⟨by rfl, ?_⟩) (by assumption) ?_
      rotate_left
      · (intro w hSw; (try dsimp only at hSw); go_simp; try with_reducible rfl)
      try simp only [List.getElem_toArray, List.getElem_cons_succ, List.getElem_cons_zero, Act.put, List.setIfInBounds_toArray, List.set_cons_zero, List.set_cons_succ]
      refine wpAnyH_take (i := 3) (v := ?_) rfl (by kernel_rfl) (by kernel_rfl) (by kernel_rfl) (fun _ _ _ h => h) (Or.inl ⟨by rfl, ?_⟩) (by assumption) ?_
      rotate_left
      · (intro w hSw; (try dsimp only at hSw); go_simp; try with_reducible rfl)
      try simp only [List.getElem_toArray, List.getElem_cons_succ, List.getElem_cons_zero, Act.put, List.setIfInBounds_toArray, List.set_cons_zero, List.set_cons_succ]
      refine wpAnyH_take (i := 4) (v := ?_) rfl (by kernel_rfl) (by kernel_rfl) (by kernel_rfl) (fun _ _ _ h => h) (Or.inl ⟨by rfl, ?_⟩) (by assumption) ?_
      rotate_left
      · (intro w hSw; (try dsimp only at hSw); go_simp; try with_reducible rfl)
      try simp only [List.getElem_toArray, List.getElem_cons_succ, List.getElem_cons_zero, Act.put, List.setIfInBounds_toArray, List.set_cons_zero, List.set_cons_succ]
      refine wpAnyH_ready (rs := [5, 6]) (by kernel_rfl) (by simp) ?_
      refine AllReadyH.cons (by rfl) (fun KK hKK => ?_) (AllReadyH.cons (by rfl) (fun KK hKK => ?_) AllReadyH.nil)
      · simp only [List.getElem_toArray, List.getElem_cons_succ, List.getElem_cons_zero]
        go_simp
        go_at_call 44
        (with_reducible refine (CT.out _ HBD.out).mono ?_)
        rintro e w3 ⟨ov, rfl, ho, hb3⟩
        obtain ⟨ta3, tc3, rfl, h8, h9⟩ := ho.out.shape; clear h8 h9
        have S3 : w3.cell? ⟨w.heap.size, 0, none⟩ = some (.slice a ts.length c) ∧ w3.cell? ⟨b7, o7 + k, none⟩ = some (.int .i64 x) := ⟨(hb3.out.cell (p := ⟨_, _, none⟩) (lt_of_cell SD.1)).trans SD.1, (hb3.out.cell (p := ⟨_, _, none⟩) (lt_of_cell SD.2)).trans SD.2⟩
        refine hKK.out _ _ S3 (fun hH1 => ?_)
        clear hKK KK
        try simp only [List.getElem_toArray, List.getElem_cons_succ, List.getElem_cons_zero, Act.put, List.setIfInBounds_toArray, List.set_cons_zero, List.set_cons_succ]
        refine wpAnyH_ready (rs := [6]) (by kernel_rfl) (by simp) ?_
        refine AllReadyH.cons (by rfl) (fun KK hKK => ?_) AllReadyH.nil
        simp only [List.getElem_toArray, List.getElem_cons_succ, List.getElem_cons_zero]
        go_simp
        have hb4 : Below w3.heap.size w3 (w3.alloc (.cells #[.int .i64 0, .bool false, .slice none 0 0] 66)) := (Below.refl _ _).alloc (Nat.le_refl _) _
        have S4 : (w3.alloc (.cells #[.int .i64 0, .bool false, .slice none 0 0] 66)).cell? ⟨w.heap.size, 0, none⟩ = some (.slice a ts.length c) ∧ (w3.alloc (.cells #[.int .i64 0, .bool false, .slice none 0 0] 66)).cell? ⟨b7, o7 + k, none⟩ = some (.int .i64 x) := ⟨(hb4.cell (p := ⟨_, _, none⟩) (lt_of_cell S3.1)).trans S3.1, (hb4.cell (p := ⟨_, _, none⟩) (lt_of_cell S3.2)).trans S3.2⟩
        refine hKK.out _ _ S4 (fun hH2 => ?_)
        clear hKK KK
        try simp only [List.getElem_toArray, List.getElem_cons_succ, List.getElem_cons_zero, Act.put, List.setIfInBounds_toArray, List.set_cons_zero, List.set_cons_succ]
        clear S3 S4 hH1 hH2
        refine wpAnyH_done (by kernel_rfl) ?_ _
        refine Last.done_last ?_
        refine wpOp_step rfl (fun KK hKK => ?_)
        simp only [List.getElem_toArray, List.getElem_cons_succ, List.getElem_cons_zero]
        go_simp
        refine hKK _ _ ?_
        clear hKK
        go_simp
        have HT : Hid (Is (w3.alloc (.cells #[.int .i64 u.id, .bool u.ab, .slice ta3 u.ops.length tc3] 66)) w3.heap.size #[.int .i64 u.id, .bool u.ab, .slice ta3 u.ops.length tc3]) := hide (Is.made _ _ _ rfl)
        have hb5 : Below w3.heap.size w3 (w3.alloc (.cells #[.int .i64 u.id, .bool u.ab, .slice ta3 u.ops.length tc3] 66)) := (Below.refl _ _).alloc (Nat.le_refl _) _
        have HO : Hid (OpsAt F (w3.alloc (.cells #[.int .i64 u.id, .bool u.ab, .slice ta3 u.ops.length tc3] 66)) (.slice ta3 u.ops.length tc3) u.ops) := hide (ho.out.keep hb5)
        have hz1 : W.heap.size ≤ w3.heap.size := by have := HBD.out.size; have := hb3.out.size; omega
        have HB : Hid (Below W.heap.size W (w3.alloc (.cells #[.int .i64 u.id, .bool u.ab, .slice ta3 u.ops.length tc3] 66))) := hide ((HBD.out.trans (hb3.out.mono HBD.out.size)).trans (hb5.mono hz1))
        have HLB : Hid (W.heap.size ≤ w3.heap.size) := hide hz1
        clear hz1 hb5 hb4 ho hb3
        generalize (w3.alloc (.cells #[.int .i64 u.id, .bool u.ab, .slice ta3 u.ops.length tc3] 66)) = W3 at HT HO HB ⊢
        generalize w3.heap.size = Bt at HT HLB ⊢
        clear w3
        revert HLB; revert HB; revert HO; revert HT; revert tc3; revert ta3; revert Bt; revert W3
        exact key'.out
      · simp only [List.getElem_toArray, List.getElem_cons_succ, List.getElem_cons_zero]
        go_simp
        have hb4 : Below WD.heap.size WD (WD.alloc (.cells #[.int .i64 0, .bool false, .slice none 0 0] 66)) := (Below.refl _ _).alloc (Nat.le_refl _) _
        have TB4 := Is.made WD #[.int .i64 0, .bool false, .slice none 0 0] 66 rfl
        have S4 : (WD.alloc (.cells #[.int .i64 0, .bool false, .slice none 0 0] 66)).cell? ⟨w.heap.size, 0, none⟩ = some (.slice a ts.length c) ∧ (WD.alloc (.cells #[.int .i64 0, .bool false, .slice none 0 0] 66)).cell? ⟨b7, o7 + k, none⟩ = some (.int .i64 x) := ⟨(hb4.cell (p := ⟨_, _, none⟩) (lt_of_cell SD.1)).trans SD.1, (hb4.cell (p := ⟨_, _, none⟩) (lt_of_cell SD.2)).trans SD.2⟩
        have HB4 : Hid (Below W.heap.size W (WD.alloc (.cells #[.int .i64 0, .bool false, .slice none 0 0] 66))) := hide (HBD.out.trans (hb4.mono HBD.out.size))
        generalize (WD.alloc (.cells #[.int .i64 0, .bool false, .slice none 0 0] 66)) = w3 at S4 TB4 HB4 ⊢
        refine hKK.out _ _ S4 (fun hH1 => ?_)
        clear hKK KK
        try simp only [List.getElem_toArray, List.getElem_cons_succ, List.getElem_cons_zero, Act.put, List.setIfInBounds_toArray, List.set_cons_zero, List.set_cons_succ]
        refine wpAnyH_ready (rs := [5]) (by kernel_rfl) (by simp) ?_
        refine AllReadyH.cons (by rfl) (fun KK hKK => ?_) AllReadyH.nil
        simp only [List.getElem_toArray, List.getElem_cons_succ, List.getElem_cons_zero]
        go_simp
        go_at_call 44
        (with_reducible refine (CT.out _ HB4.out).mono ?_)
        rintro e w5 ⟨ov, rfl, ho, hb3⟩
        obtain ⟨ta3, tc3, rfl, h8, h9⟩ := ho.out.shape; clear h8 h9
        have TB5 := TB4.below hb3.out
        have S5 : w5.cell? ⟨w.heap.size, 0, none⟩ = some (.slice a ts.length c) ∧ w5.cell? ⟨b7, o7 + k, none⟩ = some (.int .i64 x) := ⟨(hb3.out.cell (p := ⟨_, _, none⟩) (lt_of_cell S4.1)).trans S4.1, (hb3.out.cell (p := ⟨_, _, none⟩) (lt_of_cell S4.2)).trans S4.2⟩
        refine hKK.out _ _ S5 (fun hH2 => ?_)
        clear hKK KK
        try simp only [List.getElem_toArray, List.getElem_cons_succ, List.getElem_cons_zero, Act.put, List.setIfInBounds_toArray, List.set_cons_zero, List.set_cons_succ]
        have tb0 : w5.cell? ⟨WD.heap.size, 0, none⟩ = some (.int .i64 0) := TB5.cell 0 rfl
        have tb1 : w5.cell? ⟨WD.heap.size, 1, none⟩ = some (.bool false) := TB5.cell 1 rfl
        have tb2 : w5.cell? ⟨WD.heap.size, 2, none⟩ = some (.slice none 0 0) := TB5.cell 2 rfl
        have tf0 := TB5.frozen 0
        have tf1 := TB5.frozen 1
        have tf2 := TB5.frozen 2
        clear S4 S5 hH1 hH2
        refine wpAnyH_done (by kernel_rfl) ?_ _
        refine Last.done_last ?_
        refine wpOp_step rfl (fun KK hKK => ?_)
        simp only [List.getElem_toArray, List.getElem_cons_succ, List.getElem_cons_zero]
        go_simp
        refine hKK _ _ ?_
        clear hKK
        go_simp
        have HT : Hid (Is (((w5.setCell ⟨WD.heap.size, 0, none⟩ (.int .i64 u.id)).setCell ⟨WD.heap.size, 1, none⟩ (.bool u.ab)).setCell ⟨WD.heap.size, 2, none⟩ (.slice ta3 u.ops.length tc3)) WD.heap.size #[.int .i64 u.id, .bool u.ab, .slice ta3 u.ops.length tc3]) := hide ((((TB5.set 0 (.int .i64 u.id)).set 1 (.bool u.ab)).set 2 (.slice ta3 u.ops.length tc3)).eq rfl)
        have hon := (((Only.refl (fun b => b = WD.heap.size) w5).put 0 (.int .i64 u.id)).put 1 (.bool u.ab)).put 2 (.slice ta3 u.ops.length tc3)
        have HO : Hid (OpsAt F (((w5.setCell ⟨WD.heap.size, 0, none⟩ (.int .i64 u.id)).setCell ⟨WD.heap.size, 1, none⟩ (.bool u.ab)).setCell ⟨WD.heap.size, 2, none⟩ (.slice ta3 u.ops.length tc3)) (.slice ta3 u.ops.length tc3) u.ops) := hide (ho.out.only hon (fun b q e => by have := HLE.out b q; have := HBD.out.size; have := HB1.out.size; have := HB2.out.size; have := hbel.out.size; omega))
        have HLB : Hid (W.heap.size ≤ WD.heap.size) := hide HBD.out.size
        have HB : Hid (Below W.heap.size W (((w5.setCell ⟨WD.heap.size, 0, none⟩ (.int .i64 u.id)).setCell ⟨WD.heap.size, 1, none⟩ (.bool u.ab)).setCell ⟨WD.heap.size, 2, none⟩ (.slice ta3 u.ops.length tc3))) := hide ((((HB4.out.trans (hb3.out.mono HB4.out.size)).setCell (p := ⟨WD.heap.size, 0, none⟩) HLB.out (.int .i64 u.id)).setCell (p := ⟨WD.heap.size, 1, none⟩) HLB.out (.bool u.ab)).setCell (p := ⟨WD.heap.size, 2, none⟩) HLB.out (.slice ta3 u.ops.length tc3))
        clear hb4 ho hb3 hon TB5 tb0 tb1 tb2 tf0 tf1 tf2
        generalize (((w5.setCell ⟨WD.heap.size, 0, none⟩ (.int .i64 u.id)).setCell ⟨WD.heap.size, 1, none⟩ (.bool u.ab)).setCell ⟨WD.heap.size, 2, none⟩ (.slice ta3 u.ops.length tc3)) = W3 at HT HO HB ⊢
        clear HB4 TB4
        clear w3 w5
        generalize WD.heap.size = Bt at HT HLB ⊢
        revert HLB; revert HB; revert HO; revert HT; revert tc3; revert ta3; revert Bt; revert W3
        exact key'.out
      intro W3 Bt ta3 tc3 HT HO HB HLB
      clear CT HBD SD
      have HUL2 : Hid (u.ops.length ≤ 60) := hide (by have := HUL.out; have := HF.out.2.1; omega)
      have HPL2 : Hid (m ≤ 20 * 60) := hide (by
        have h1 := HPL.out
        have h2 := HF.out.2.1
        have h3 := HF.out.ids
        rw [HM.out]
        have h4 : k * opsN ts ≤ 20 * 60 := Nat.mul_le_mul (by omega) h2
        omega)
      have HKN : Hid (Kn w2 [boxT Bt #[.int .i64 u.id, .bool u.ab, .slice ta3 u.ops.length tc3], ownN w2.heap.size 44 5 (.slice oa m oc) pre.length (pre.flatMap wrC)] W3) := hide (by
        rw [HM.out] 
        exact hkn.out.more HB.out (t' := boxT Bt #[.int .i64 u.id, .bool u.ab, .slice ta3 u.ops.length tc3]) HT.out (fun k e => by have e' : k = Bt := e; have := HLB.out; omega))
      obtain ⟨ol, hol⟩ : ∃ ol, ol = u.ops.length := ⟨_, rfl⟩
      have HOL := hide hol
      rw [← hol] at HKN HO ⊢
      have hol60 : ol ≤ 60 := by have := HUL2.out; omega
      clear hol HT HB HLB
      go_wp2
      go_loopw [5, 9] (fun ov jv wr => rwI F w2 pre u key Bt (.slice ta3 ol tc3) ov jv wr) (fun _ jv _ => ol - (intOf jv).toNat)
      case atStart => exact ⟨0, by omega, rfl, hide (by have := HKN.out; simpa [docWrP] using this), HO⟩
      case round =>
        obtain ⟨j, hj, rfl, hkj, hoj⟩ := hrel
        have ho1 := Knget (pre := [_]) hkj.out
        obtain ⟨oa2, oc2, rfl⟩ := Own.own_form (show (ownN _ _ _ _ _ _).P _ from ho1)
        clear ho1
        obtain ⟨V, hV⟩ : ∃ V, V = wr := ⟨_, rfl⟩
        subst hV
        have hbx : Is V Bt #[.int .i64 u.id, .bool u.ab, .slice ta3 ol tc3] := hkj.out.hd
        have t0 : V.cell? ⟨Bt, 0, none⟩ = some (.int .i64 u.id) := hbx.cell 0 rfl
        have t2 : V.cell? ⟨Bt, 2, none⟩ = some (.slice ta3 ol tc3) := hbx.cell 2 rfl
        have HML := hide (wrP_le u key j)
        obtain ⟨mm, hmm⟩ : ∃ mm, mm = (pre ++ docWrP u key j).length := ⟨_, rfl⟩
        have HMM2 : Hid (mm ≤ 20 * 60 + 60) := hide (by rw [hmm, List.length_append]; have := HML.out; have := HUL2.out; have := HPL2.out; rw [HM.out] at this; omega)
        have HMM := hide hmm
        rw [← hmm] at hkj ⊢
        have hjl : j ≤ ol := by rw [HOL.out]; exact hj
        clear hbx hmm
        by_cases hlj : j < ol
        · have hlj' : j < u.ops.length := by rw [← HOL.out]; exact hlj
          obtain ⟨b3, o3, l3, q3, rfl, _, _, e0, e1, e2, e3, _, _, _⟩ := hoj.out.at hlj'
          have HS := hide (wrP_step (key := key) hlj')
          obtain ⟨q, hq⟩ : ∃ q, q = u.ops[j].read := ⟨_, rfl⟩
          obtain ⟨x2, hx2⟩ : ∃ x, x = u.ops[j].key := ⟨_, rfl⟩
          obtain ⟨y, hy⟩ : ∃ y, y = u.ops[j].value := ⟨_, rfl⟩
          rw [← hq, ← hx2, ← hy] at HS
          rw [← hq] at e0
          rw [← hx2] at e1
          rw [← hy] at e2
          have YV := hide hy
          clear hq hx2 hy e3
          have GO : Hid ((!q && x2 == key) = false → rwI F w2 pre u key Bt (.slice (some ⟨b3, o3, none⟩) ol tc3) (.slice oa2 mm oc2) (.int .i64 ((j : Int) + 1)) V) := hide fun e => ⟨j + 1, by omega, by simp, by
            rw [HS.out, e]
            simp only [Bool.false_eq_true, if_false, List.append_nil]
            rw [← HMM.out]
            exact hkj, hoj⟩
          cases q with
          | true =>
            have R := hide (GO.out (by simp))
            clear GO HS t0
            go_wp2
            go_roundw
            case rel => exact R.out
            case measure => simp [intOf]; omega
          | false =>
            by_cases hxk : x2 = key
            · have HE := hide HS.out
              subst hxk
              clear GO HS
              have hszV := hkj.out.below.size
              go_upto_region 11 with fail
              obtain ⟨VD, hVD⟩ : ∃ VD, VD = V.drew := ⟨_, rfl⟩
              have hbD : Below V.heap.size V VD := by rw [hVD]; exact (Below.refl _ _).drew
              have SD : VD.cell? ⟨Bt, 0, none⟩ = some (.int .i64 u.id) ∧ VD.cell? ⟨Bt, 2, none⟩ = some (.slice (some ⟨b3, o3, none⟩) ol tc3) ∧ VD.cell? ⟨b3, o3 + j * 4 + 2, none⟩ = some (.int .i64 y) := by rw [hVD]; exact ⟨t0, t2, e2⟩
              refine Last.region_last (k := 14) (S := fun w' : World => w'.cell? ⟨Bt, 0, none⟩ = some (.int .i64 u.id) ∧ w'.cell? ⟨Bt, 2, none⟩ = some (.slice (some ⟨b3, o3, none⟩) ol tc3) ∧ w'.cell? ⟨b3, o3 + j * 4 + 2, none⟩ = some (.int .i64 y)) (by kernel_rfl) rfl rfl (by kernel_rfl) (by kernel_rfl) ?_
              rw [← hVD]
              clear hVD e0 e1 e2 t0 t2
              refine wpAnyH_take (i := 0) (v := ?_) rfl (by kernel_rfl) (by kernel_rfl) (by kernel_rfl) (fun _ _ _ h => h) (Or.inl ⟨by rfl, ?_⟩) (by assumption) ?_
              rotate_left
              · (intro w hSw; (try dsimp only at hSw); go_simp; try with_reducible rfl)
              try simp only [List.getElem_toArray, List.getElem_cons_succ, List.getElem_cons_zero, Act.put, List.setIfInBounds_toArray, List.set_cons_zero, List.set_cons_succ]
              refine wpAnyH_take (i := 1) (v := ?_) rfl (by kernel_rfl) (by kernel_rfl) (by kernel_rfl) (fun _ _ _ h => h) (Or.inl ⟨by rfl, ?_⟩) (by assumption) ?_
              rotate_left
              · (intro w hSw; (try dsimp only at hSw); go_simp; try with_reducible rfl)
              try simp only [List.getElem_toArray, List.getElem_cons_succ, List.getElem_cons_zero, Act.put, List.setIfInBounds_toArray, List.set_cons_zero, List.set_cons_succ]
              refine wpAnyH_take (i := 2) (v := ?_) rfl (by kernel_rfl) (by kernel_rfl) (by kernel_rfl) (fun _ _ _ h => h) (Or.inl ⟨by rfl, ?_⟩) (by assumption) ?_
              rotate_left
              · (intro w hSw; (try dsimp only at hSw); go_simp; try with_reducible rfl)
              try simp only [List.getElem_toArray, List.getElem_cons_succ, List.getElem_cons_zero, Act.put, List.setIfInBounds_toArray, List.set_cons_zero, List.set_cons_succ]
              refine wpAnyH_take (i := 3) (v := ?_) rfl (by kernel_rfl) (by kernel_rfl) (by kernel_rfl) (fun _ _ _ h => h) (Or.inl ⟨by rfl, ?_⟩) (by assumption) ?_
              rotate_left
              · (intro w hSw; (try dsimp only at hSw); go_simp; try with_reducible rfl)
              try simp only [List.getElem_toArray, List.getElem_cons_succ, List.getElem_cons_zero, Act.put, List.setIfInBounds_toArray, List.set_cons_zero, List.set_cons_succ]
              refine wpAnyH_take (i := 4) (v := ?_) rfl (by kernel_rfl) (by kernel_rfl) (by kernel_rfl) (fun _ _ _ h => h) (Or.inl ⟨by rfl, ?_⟩) (by assumption) ?_
              rotate_left
              · (intro w hSw; (try dsimp only at hSw); go_simp; try with_reducible rfl)
              try simp only [List.getElem_toArray, List.getElem_cons_succ, List.getElem_cons_zero, Act.put, List.setIfInBounds_toArray, List.set_cons_zero, List.set_cons_succ]
              refine wpAnyH_take (i := 5) (v := ?_) rfl (by kernel_rfl) (by kernel_rfl) (by kernel_rfl) (fun _ _ _ h => h) (Or.inl ⟨by rfl, ?_⟩) (by assumption) ?_
              rotate_left
              · (intro w hSw; (try dsimp only at hSw); go_simp; try with_reducible rfl)
              try simp only [List.getElem_toArray, List.getElem_cons_succ, List.getElem_cons_zero, Act.put, List.setIfInBounds_toArray, List.set_cons_zero, List.set_cons_succ]
              refine wpAnyH_take (i := 6) (v := ?_) rfl (by kernel_rfl) (by kernel_rfl) (by kernel_rfl) (fun _ _ _ h => h) (Or.inl ⟨by rfl, ?_⟩) (by assumption) ?_
              rotate_left
              · (intro w hSw; (try dsimp only at hSw); go_simp; try with_reducible rfl)
              try simp only [List.getElem_toArray, List.getElem_cons_succ, List.getElem_cons_zero, Act.put, List.setIfInBounds_toArray, List.set_cons_zero, List.set_cons_succ]
              refine wpAnyH_take (i := 7) (v := ?_) rfl (by kernel_rfl) (by kernel_rfl) (by kernel_rfl) (fun _ _ _ h => h) (Or.inl ⟨by rfl, ?_⟩) (by assumption) ?_
              rotate_left
              · (intro w hSw; (try dsimp only at hSw); go_simp; try with_reducible rfl)
              try simp only [List.getElem_toArray, List.getElem_cons_succ, List.getElem_cons_zero, Act.put, List.setIfInBounds_toArray, List.set_cons_zero, List.set_cons_succ]
              refine wpAnyH_take (i := 8) (v := ?_) rfl (by kernel_rfl) (by kernel_rfl) (by kernel_rfl) (fun _ _ _ h => h) (Or.inl ⟨by rfl, ?_⟩) (by assumption) ?_
              rotate_left
              · (intro w hSw; (try dsimp only at hSw); go_simp; try with_reducible rfl)
              try simp only [List.getElem_toArray, List.getElem_cons_succ, List.getElem_cons_zero, Act.put, List.setIfInBounds_toArray, List.set_cons_zero, List.set_cons_succ]
              refine wpAnyH_take (i := 9) (v := ?_) rfl (by kernel_rfl) (by kernel_rfl) (by kernel_rfl) (fun _ _ _ h => h) (Or.inl ⟨by rfl, ?_⟩) (by assumption) ?_
              rotate_left
              · (intro w hSw; (try dsimp only at hSw); go_simp; try with_reducible rfl)
              try simp only [List.getElem_toArray, List.getElem_cons_succ, List.getElem_cons_zero, Act.put, List.setIfInBounds_toArray, List.set_cons_zero, List.set_cons_succ]
              refine wpAnyH_take (i := 10) (v := ?_) rfl (by kernel_rfl) (by kernel_rfl) (by kernel_rfl) (fun _ _ _ h => h) (Or.inl ⟨by rfl, ?_⟩) (by assumption) ?_
              rotate_left
              · (intro w hSw; (try dsimp only at hSw); go_simp; try with_reducible rfl)
              try simp only [List.getElem_toArray, List.getElem_cons_succ, List.getElem_cons_zero, Act.put, List.setIfInBounds_toArray, List.set_cons_zero, List.set_cons_succ]
              refine wpAnyH_take (i := 11) (v := ?_) rfl (by kernel_rfl) (by kernel_rfl) (by kernel_rfl) (fun _ _ _ h => h) (Or.inl ⟨by rfl, ?_⟩) (by assumption) ?_
              rotate_left
              · (intro w hSw; (try dsimp only at hSw); go_simp; try with_reducible rfl)
              try simp only [List.getElem_toArray, List.getElem_cons_succ, List.getElem_cons_zero, Act.put, List.setIfInBounds_toArray, List.set_cons_zero, List.set_cons_succ]
              refine wpAnyH_ready (rs := [12]) (by kernel_rfl) (by simp) ?_
              refine AllReadyH.cons (by rfl) (fun KK hKK => ?_) AllReadyH.nil
              simp only [List.getElem_toArray, List.getElem_cons_succ, List.getElem_cons_zero]
              go_simp
              have hbV : Below VD.heap.size VD (VD.alloc (.cells #[.int .i64 u.id, .int .i64 (j : Int), .int .i64 x2, .int .i64 y, .bool false] 44)) := (Below.refl _ _).alloc (Nat.le_refl _) _
              have hnews : ∀ (i : Nat) (v : Value), ([.int .i64 u.id, .int .i64 (j : Int), .int .i64 x2, .int .i64 y, .bool false] : List Value)[i]? = some v → (VD.alloc (.cells #[.int .i64 u.id, .int .i64 (j : Int), .int .i64 x2, .int .i64 y, .bool false] 44)).cell? ⟨VD.heap.size, i, none⟩ = some v := fun i v hv =>
                (Is.made VD #[.int .i64 u.id, .int .i64 (j : Int), .int .i64 x2, .int .i64 y, .bool false] 44 rfl).cell i (by simpa using hv)
              have HKV := hide ((hkj.out.keep hbD).keep hbV)
              have HOV := hide ((hoj.out.keep hbD).keep hbV)
              have SB : (VD.alloc (.cells #[.int .i64 u.id, .int .i64 (j : Int), .int .i64 x2, .int .i64 y, .bool false] 44)).cell? ⟨Bt, 0, none⟩ = some (.int .i64 u.id) ∧ (VD.alloc (.cells #[.int .i64 u.id, .int .i64 (j : Int), .int .i64 x2, .int .i64 y, .bool false] 44)).cell? ⟨Bt, 2, none⟩ = some (.slice (some ⟨b3, o3, none⟩) ol tc3) ∧ (VD.alloc (.cells #[.int .i64 u.id, .int .i64 (j : Int), .int .i64 x2, .int .i64 y, .bool false] 44)).cell? ⟨b3, o3 + j * 4 + 2, none⟩ = some (.int .i64 y) := ⟨(hbV.cell (p := ⟨_, _, none⟩) (lt_of_cell SD.1)).trans SD.1, (hbV.cell (p := ⟨_, _, none⟩) (lt_of_cell SD.2.1)).trans SD.2.1, (hbV.cell (p := ⟨_, _, none⟩) (lt_of_cell SD.2.2)).trans SD.2.2⟩
              have hszB : w2.heap.size ≤ (VD.alloc (.cells #[.int .i64 u.id, .int .i64 (j : Int), .int .i64 x2, .int .i64 y, .bool false] 44)).heap.size := by have := hbD.size; have := hbV.size; omega
              clear hbV hbD
              generalize (VD.alloc (.cells #[.int .i64 u.id, .int .i64 (j : Int), .int .i64 x2, .int .i64 y, .bool false] 44)) = VB at hnews HKV HOV SB hszB ⊢
              have hown := Knget (pre := [_]) HKV.out
              refine hKK.out _ _ SB (fun hH1 => ?_)
              clear hKK KK
              try simp only [List.getElem_toArray, List.getElem_cons_succ, List.getElem_cons_zero, Act.put, List.setIfInBounds_toArray, List.set_cons_zero, List.set_cons_succ]
              refine wpAnyH_ready (rs := [13]) (by kernel_rfl) (by simp) ?_
              refine AllReadyH.cons (by rfl) (fun KK hKK => ?_) AllReadyH.nil
              refine step_app Try.underlying53 Try.infoRW rfl (by decide) (by decide) (by rfl) (.tmp 48) (.tmp 60) (by rfl) w2.heap.size _ mm _ (by rfl) hown VD.heap.size [.int .i64 u.id, .int .i64 (j : Int), .int .i64 x2, .int .i64 y, .bool false] (by rfl) rfl hnews (fun u hu => by simp at hu; rcases hu with rfl | rfl | rfl | rfl | rfl <;> rfl) (by have := HMM2.out; omega) hszB ?_
              intro v6 w6 hown6 hg6 hat6 _
              have HK4 := hide (growAt (pre := [_]) HKV.out hown6 hg6 hat6)
              have HO4 := hide (HOV.out.only (only_grown hg6) (fun b q e => by have h1 := HLE.out b q; have h2 := Knlt (pre := [_]) HKV.out b e; have := HB1.out.size; have := HB2.out.size; omega))
              have S6 : w6.cell? ⟨Bt, 0, none⟩ = some (.int .i64 u.id) ∧ w6.cell? ⟨Bt, 2, none⟩ = some (.slice (some ⟨b3, o3, none⟩) ol tc3) ∧ w6.cell? ⟨b3, o3 + j * 4 + 2, none⟩ = some (.int .i64 y) := by
                have hbx6 : Is w6 Bt #[.int .i64 u.id, .bool u.ab, .slice (some ⟨b3, o3, none⟩) ol tc3] := HK4.out.hd
                obtain ⟨_, _, _, _, ee, _, _, _, _, f2, _⟩ := HO4.out.at hlj'
                cases ee
                exact ⟨hbx6.cell 0 rfl, hbx6.cell 2 rfl, by rw [YV.out]; exact f2⟩
              clear hown6 hg6 hat6 hnews hown
              refine hKK.out _ _ S6 (fun hH3 => ?_)
              clear hKK KK
              try simp only [List.getElem_toArray, List.getElem_cons_succ, List.getElem_cons_zero, Act.put, List.setIfInBounds_toArray, List.set_cons_zero, List.set_cons_succ]
              clear S6 SB SD hH1 hH3
              refine wpAnyH_done (by kernel_rfl) ?_ _
              refine Last.done_last ?_
              refine wpOp_step rfl (fun KK hKK => ?_)
              simp only [List.getElem_toArray, List.getElem_cons_succ, List.getElem_cons_zero]
              go_simp
              refine hKK _ _ ?_
              clear hKK
              go_simp
              go_wp2
              go_roundw
              case rel =>
                refine ⟨j + 1, by omega, by simp, ?_, HO4⟩
                rw [HE.out]
                simp only [Bool.not_false, beq_self_eq_true, Bool.and_self, if_true]
                rw [← List.append_assoc, List.length_append, ← HMM.out, List.flatMap_append]
                exact HK4
              case measure => simp [intOf]; omega
            · have R := hide (GO.out (by simp [hxk]))
              clear GO HS t0
              go_wp2
              go_roundw
              case rel => exact R.out
              case measure => simp [intOf]; omega
        · obtain rfl : j = ol := by omega
          have HE := hide (wrP_all u key)
          rw [← HOL.out] at HE
          have R : Hid (rwR w2 ts key (.slice oa2 mm oc2) (.int .i64 ((k : Int) + 1)) V) := hide ⟨k + 1, by have := HN.out; omega, by simp, by
            have h1 := hkj.out.tail
            rw [HE.out, ← HSTEP.out] at h1
            rw [HMM.out, HE.out, ← HSTEP.out] at h1 ⊢
            exact hide h1⟩
          go_wp2
          go_roundw
          case rel => exact R.out
          case measure => simp [intOf]; omega
    · obtain rfl : k = n := by omega
      have HE := hide (wsP_all ts key)
      rw [← HN.out] at HE
      rw [HE.out] at hown ⊢
      obtain ⟨a5, c5, e5, hr5⟩ := own_row5 (show W.ownsRow _ _ _ _ _ _ from hown.out)
      have HR5 := hide hr5
      cases e5
      clear hr5
      go_wp2
      go_ret
      exact ⟨⟨_, _, rfl, HR5.out⟩, HB1.out.trans ((HB2.out.mono HB1.out.size).trans (hbel.out.mono (by have := HB1.out.size; have := HB2.out.size; omega)))⟩
end Go.Proofs.Ytkinmllflodhaaa.Tab
