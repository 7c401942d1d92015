/- Joined out of the texts TabRRd, TabSameR, in that order. -/
import Derived.Test.YtkinmllflodhaaaGreatAll18
import Derived.Test.YtkinmllflodhaaaGreatAll16
import Derived.Test.YtkinmllflodhaaaGreatAll14
/- The document's Reads. -/
namespace Go.Proofs.YtkinmllflodhaaaGreat.Tab
open Go.RowKit Go.Proofs.YtkinmllflodhaaaGreat.Dig Go.Proofs.YtkinmllflodhaaaGreat.Mem Go.Proofs.YtkinmllflodhaaaGreat.Hist Go.Proofs.YtkinmllflodhaaaGreat.Own Go.Proofs.YtkinmllflodhaaaGreat.Thing Go.Proofs.YtkinmllflodhaaaGreat.Sets Go.Shelf Go.Proofs.YtkinmllflodhaaaGreat.Keys
set_option linter.unusedVariables false
set_option linter.unusedSimpArgs false

/-- Behind j operations. -/
def docRdP (t : TxnM) (key : Int) (j : Nat) : List RdM := ((t.ops.take j).zipIdx.filter fun p => p.1.read && p.1.key == key).map fun p => ⟨t.id, p.2, key, p.1.list, aheadL (t.ops.take p.2) key⟩
theorem rdP_all (t : TxnM) (key : Int) : docRdP t key t.ops.length = docRd t key := by unfold docRdP docRd; rw [List.take_length]
theorem rdP_step {t : TxnM} {key : Int} {j : Nat} (h : j < t.ops.length) : docRdP t key (j + 1) = docRdP t key j ++ (if (t.ops[j].read && t.ops[j].key == key) = true then [⟨t.id, j, key, t.ops[j].list, aheadL (t.ops.take j) key⟩] else []) := by
  unfold docRdP
  rw [List.take_succ_eq_append_getElem h, List.zipIdx_append, List.filter_append, List.map_append]
  congr 1
  have e : (t.ops.take j).length = j := by rw [List.length_take]; omega
  simp only [e, Nat.zero_add, List.zipIdx_cons, List.zipIdx_nil, List.filter_cons, List.filter_nil]
  split <;> simp_all
theorem rdP_le (t : TxnM) (key : Int) (j : Nat) : (docRdP t key j).length ≤ t.ops.length := by
  unfold docRdP
  rw [List.length_map]
  have := List.length_filter_le (fun p : OpM × Nat => p.1.read && p.1.key == key) (t.ops.take j).zipIdx
  rw [List.length_zipIdx, List.length_take] at this
  omega
/-- Behind k transactions. -/
def docRsP (ts : List TxnM) (key : Int) (k : Nat) : List RdM := ((docIds ts).take k).flatMap fun id => docRd (docTxn ts id) key
structure KeyR (P : Prop) : Prop where
  out : P
theorem mergeR {P Q : Prop} (h : KeyR P → Q) (p : P) : Q := h ⟨p⟩
theorem rsP_all (ts : List TxnM) (key : Int) : docRsP ts key (docIds ts).length = docReads ts key := by unfold docRsP docReads; rw [List.take_length]
theorem rsP_step {ts : List TxnM} {key : Int} {k : Nat} (h : k < (docIds ts).length) : docRsP ts key (k + 1) = docRsP ts key k ++ docRd (docTxn ts (docIds ts)[k]) key := by
  unfold docRsP
  rw [List.take_succ_eq_append_getElem h, List.flatMap_append]
  simp
theorem rsP_le (ts : List TxnM) (key : Int) : ∀ k : Nat, k ≤ (docIds ts).length → (docRsP ts key k).length ≤ k * opsN ts
  | 0, _ => by simp [docRsP]
  | k + 1, h => by
    rw [rsP_step h, List.length_append, Nat.succ_mul]
    have h1 := rsP_le ts key k (by omega)
    have h2 := rdP_le (docTxn ts (docIds ts)[k]) key (docTxn ts (docIds ts)[k]).ops.length
    rw [rdP_all] at h2
    have h3 := docTxn_ops ts (docIds ts)[k]
    omega
theorem Tryz.infoRR : (Tryz.prog.info? 39).map (fun i => (i.zero, i.size, i.bytes)) = some (some (.agg #[.int .i64 0, .int .i64 0, .int .i64 0, .slice none 0 0, .slice none 0 0]), 5, 72) := by kernel_rfl
theorem ints_F {F : Nat → Prop} {w : World} {q : Addr} {n c : Nat} {l : List Int} (h : IntsAt F w (.slice (some q) n c) l) (hl : l ≠ []) : F q.block := by
  obtain ⟨⟨a, cap, e, _, _, _, _, h6⟩, _⟩ := h
  cases l with
  | nil => exact absurd rfl hl
  | cons x l =>
    obtain ⟨b, off, e2, hF, _⟩ := h6 0 _ rfl
    injection e with e3
    rw [← e3] at e2
    cases e2
    exact hF
theorem docTxn_lists {n : Nat} {ts : List TxnM} (h : Lists n ts) (id : Int) : ∀ o ∈ (docTxn ts id).ops, o.list.length ≤ n := by
  unfold docTxn
  cases hf : ts.find? fun t => t.id == id with
  | none => simp
  | some t => exact h t (List.mem_of_find?_eq_some hf)
theorem own_cap {base : Nat} {e : TypeId} {z n : Nat} {a : Option Addr} {m c : Nat} {xs : List Value} {W : World} (h : (ownN base e z (.slice a m c) n xs).P W) : n ≤ c := by
  rcases h.2 with ⟨h1, h2⟩ | ⟨g, cap, cur, h1, _, _, h3, _⟩
  · omega
  · cases h1; exact h3
def rwR (w2 : World) (ts : List TxnM) (key : Int) (ov kv : Value) (wr : World) : Prop :=
  ∃ k : Nat, k ≤ (docIds ts).length ∧ kv = .int .i64 (k : Int) ∧ Hid (∃ es : List RdE, es.map (·.r) = docRsP ts key k ∧ (∀ e ∈ es, RdOk ov wr e) ∧ Kn w2 [ownN w2.heap.size 39 5 ov es.length (es.flatMap rdC)] wr)
def rwI (F : Nat → Prop) (w2 : World) (pre : List RdM) (t : TxnM) (key : Int) (B : Nat) (lv : Value) (ov jv : Value) (wr : World) : Prop :=
  ∃ j : Nat, j ≤ t.ops.length ∧ jv = .int .i64 (j : Int) ∧ Hid (∃ es : List RdE, es.map (·.r) = pre ++ docRdP t key j ∧ (∀ e ∈ es, RdOk ov wr e) ∧ Kn w2 [boxT B #[.int .i64 t.id, .bool t.ab, lv], ownN w2.heap.size 39 5 ov es.length (es.flatMap rdC)] wr) ∧ Hid (OpsAt F wr lv t.ops)
set_option maxRecDepth 20000 in
set_option maxHeartbeats 4000000 in
theorem rreads_any (F : Nat → Prop) (v : Value) (ts : List TxnM) (key : Int) (w : World) (h : TxnsAt F w v ts) (hF : ∀ b, F b → b < w.heap.size) (hm : ts.length ≤ 1000) (hf : FewH ts) :
    Calls Tryz.prog 11 #[.agg #[v], .int .i64 key] w fun e w' => (∃ (a : Option Addr) (c : Nat) (es : List RdE), e = .returned (.slice a (docReads ts key).length c) ∧ (docReads ts key).length ≤ c ∧ Row5 w' a (docReads ts key).length (es.flatMap rdC) ∧ es.map (·.r) = docReads ts key ∧ ∀ e ∈ es, RdE.ok w' e) ∧ Below w.heap.size w w' := by
  obtain ⟨i0, hi, hz0, hz1, hz2⟩ := info_parts Tryz.infoRR
  obtain ⟨a, c, rfl, hc1, hc2⟩ := h.shape
  unfold maxLen at hc2
  have hB1 : Below w.heap.size w (w.alloc (.cells #[.slice a ts.length c] 24)) := (Below.refl _ _).alloc (Nat.le_refl _) _
  have HB1 := hide hB1
  have HF := hide hf
  have HH1 := hide (h.keep hB1)
  have HX1 := hide (Is.made w #[.slice a ts.length c] 24 rfl)
  have HLE := hide hF
  clear h hf hB1 hF
  go_enter Tryz.func11, Tryz.ntmps11
  go_upto_region 2 with fail
  generalize (w.alloc (.cells #[.slice a ts.length c] 24)) = w1 at HB1 HH1 HX1 ⊢
  have x0 : w1.cell? ⟨w.heap.size, 0, none⟩ = some (.slice a ts.length c) := HX1.out.cell 0 rfl
  have CI := hide (rids_any F (.slice a ts.length c) ts w1 HH1.out (fun b q => by have := HLE.out b q; have := HB1.out.size; omega) hm)
  obtain ⟨n, hn⟩ : ∃ n, n = (docIds ts).length := ⟨_, rfl⟩
  rw [← hn] at CI
  have HN := hide hn
  clear hn
  go_upto_region 3 with (go_at_call 45; go_must ((with_reducible refine (Hid.out CI).mono ?_); rintro e w2 ⟨⟨la, lc, rfl, hv⟩, hb2⟩; have HV := hide hv; have HB2 := hide hb2; clear hv hb2))
  clear x0
  have HX2 := hide (HX1.out.below HB2.out)
  have HH2 := hide (HH1.out.keep HB2.out)
  go_wp2
  go_loopw [5, 7] (fun ov kv wr => rwR w2 ts key ov kv wr) (fun _ kv _ => n - (intOf kv).toNat)
  case atStart => exact ⟨0, by omega, rfl, hide ⟨[], by simp [docRsP], by simp, ownNil (Kn.start w2) _ _ _⟩⟩
  case round =>
    obtain ⟨k, hk, rfl, hkn0⟩ := hrel
    obtain ⟨es, hes, hoks, hkn'⟩ := hkn0.out
    have hkn := hide hkn'
    have HES := hide hes
    have HOKS := hide hoks
    clear hkn' hes hoks hkn0
    have hbel : Hid (Below w2.heap.size w2 wr) := hide hkn.out.below
    have hown := hide (Knget (pre := []) hkn.out)
    obtain ⟨W, hW⟩ : ∃ W, W = wr := ⟨_, rfl⟩
    subst hW
    obtain ⟨oa, oc, rfl⟩ := Own.own_form hown.out
    have x0 : W.cell? ⟨w.heap.size, 0, none⟩ = some (.slice a ts.length c) := (HX2.out.below hbel.out).cell 0 rfl
    have hn20 : n ≤ 20 := by have := HF.out.ids; have := HN.out; omega
    have hkn' : k ≤ n := by rw [HN.out]; exact hk
    by_cases hlt : k < n
    · have hlt' : k < (docIds ts).length := by rw [← HN.out]; exact hlt
      obtain ⟨b7, o7, rfl, hcz⟩ := (HV.out.keep hbel.out).at hlt'
      rw [show (docIds ts).getD k 0 = (docIds ts)[k] by simp [List.getD_eq_getElem?_getD, hlt']] at hcz
      have hwf := HV.out.wf (docIds ts)[k] (List.getElem_mem hlt')
      have HSTEP := hide (rsP_step (key := key) hlt')
      obtain ⟨x, hx⟩ : ∃ x, x = (docIds ts)[k] := ⟨_, rfl⟩
      rw [← hx] at hcz hwf HSTEP
      have CT : Hid (∀ W', Below W.heap.size W W' → Calls Tryz.prog 46 #[.agg #[.slice a ts.length c], .int .i64 x] W' fun e w' => ∃ (ov : Value), e = .returned (.agg #[.int .i64 (docTxn ts x).id, .bool (docTxn ts x).ab, ov]) ∧ Hid (OpsAt F w' ov (docTxn ts x).ops) ∧ Hid (Below W'.heap.size W' w')) := hide fun W' hW' => txn_any F _ ts x W' ((HH2.out.keep hbel.out).keep hW') hwf
      have HUL := hide (docTxn_ops ts x)
      have HLS := hide (docTxn_lists HF.out.2.2 x)
      clear hx
      obtain ⟨u, hu⟩ : ∃ u, u = docTxn ts x := ⟨_, rfl⟩
      rw [← hu] at HSTEP CT HUL HLS
      clear hu
      have HPL := hide (rsP_le ts key k (by omega))
      obtain ⟨pre, hpre⟩ : ∃ pre, pre = docRsP ts key k := ⟨_, rfl⟩
      rw [← hpre] at HES HSTEP HPL
      obtain ⟨m, hm⟩ : ∃ m, m = es.length := ⟨_, rfl⟩
      rw [← hm] at HOKS ⊢
      have HM := hide hm
      have HML := hide (show es.length = pre.length by rw [← HES.out, List.length_map])
      clear hm hpre hown
      go_upto_region 6 with fail
      have z0 : Hid (W.cell? ⟨w.heap.size, 0, none⟩ = some (.slice a ts.length c) ∧ W.cell? ⟨b7, o7 + k, none⟩ = some (.int .i64 x)) := hide ⟨x0, hcz⟩
      obtain ⟨WD, hWD⟩ : ∃ WD, WD = W.drew := ⟨_, rfl⟩
      have HBD : Hid (Below W.heap.size W WD) := hide (by rw [hWD]; exact (Below.refl _ _).drew)
      have SD : WD.cell? ⟨w.heap.size, 0, none⟩ = some (.slice a ts.length c) ∧ WD.cell? ⟨b7, o7 + k, none⟩ = some (.int .i64 x) := by rw [hWD]; exact z0.out
      refine Last.region_last (k := 7) (S := fun w' : World => w'.cell? ⟨w.heap.size, 0, none⟩ = some (.slice a ts.length c) ∧ w'.cell? ⟨b7, o7 + k, none⟩ = some (.int .i64 x)) (by kernel_rfl) rfl rfl (by kernel_rfl) (by kernel_rfl) ?_
      rw [← hWD]
      clear hWD x0 hcz z0
      apply mergeR
      intro key'
      refine wpAnyH_take (i := 0) (v := ?_) rfl (by kernel_rfl) (by kernel_rfl) (by kernel_rfl) (fun _ _ _ h => h) (Or.inl ⟨by rfl, ?_⟩) (by assumption) ?_
      rotate_left
      · (intro w hSw; (try dsimp only at hSw); go_simp; try with_reducible rfl)
      try simp only [List.getElem_toArray, List.getElem_cons_succ, List.getElem_cons_zero, Act.put, List.setIfInBounds_toArray, List.set_cons_zero, List.set_cons_succ]
      refine wpAnyH_take (i := 1) (v := ?_) rfl (by kernel_rfl) (by kernel_rfl) (by kernel_rfl) (fun _ _ _ h => h) (Or.inl ⟨by rfl, ?_⟩) (by assumption) ?_
      rotate_left
      · (intro w hSw; (try dsimp only at hSw); go_simp; try with_reducible rfl)
      try simp only [List.getElem_toArray, List.getElem_cons_succ, List.getElem_cons_zero, Act.put, List.setIfInBounds_toArray, List.set_cons_zero, List.set_cons_succ]
      refine wpAnyH_take (i := 2) (v := ?_) rfl (by kernel_rfl) (by kernel_rfl) (by kernel_rfl) (fun _ _ _ h => h) (Or.inl ⟨by rfl, ?_⟩) (by assumption) ?_
      rotate_left
      · (intro w hSw; (try dsimp only at hSw); go_simp; try with_reducible rfl)
      try simp only [List.getElem_toArray, List.getElem_cons_succ, List.getElem_cons_zero, Act.put, List.setIfInBounds_toArray, List.set_cons_zero, List.set_cons_succ]
      refine wpAnyH_take (i := 3) (v := ?_) rfl (by kernel_rfl) (by kernel_rfl) (by kernel_rfl) (fun _ _ _ h => h) (Or.inl ⟨by rfl, ?_⟩) (by assumption) ?_
      rotate_left
      · (intro w hSw; (try dsimp only at hSw); go_simp; try with_reducible rfl)
      try simp only [List.getElem_toArray, List.getElem_cons_succ, List.getElem_cons_zero, Act.put, List.setIfInBounds_toArray, List.set_cons_zero, List.set_cons_succ]
      refine wpAnyH_take (i := 4) (v := ?_) rfl (by kernel_rfl) (by kernel_rfl) (by kernel_rfl) (fun _ _ _ h => h) (Or.inl ⟨by rfl, ?_⟩) (by assumption) ?_
      rotate_left
      · (intro w hSw; (try dsimp only at hSw); go_simp; try with_reducible rfl)
      try simp only [List.getElem_toArray, List.getElem_cons_succ, List.getElem_cons_zero, Act.put, List.setIfInBounds_toArray, List.set_cons_zero, List.set_cons_succ]
      refine wpAnyH_ready (rs := [5, 6]) (by kernel_rfl) (by simp) ?_
      refine AllReadyH.cons (by rfl) (fun KK hKK => ?_) (AllReadyH.cons (by rfl) (fun KK hKK => ?_) AllReadyH.nil)
      · simp only [List.getElem_toArray, List.getElem_cons_succ, List.getElem_cons_zero]
        go_simp
        go_at_call 46
        (with_reducible refine (CT.out _ HBD.out).mono ?_)
        rintro e w3 ⟨ov, rfl, ho, hb3⟩
        obtain ⟨ta3, tc3, rfl, h8, h9⟩ := ho.out.shape; clear h8 h9
        have S3 : w3.cell? ⟨w.heap.size, 0, none⟩ = some (.slice a ts.length c) ∧ w3.cell? ⟨b7, o7 + k, none⟩ = some (.int .i64 x) := ⟨(hb3.out.cell (p := ⟨_, _, none⟩) (lt_of_cell SD.1)).trans SD.1, (hb3.out.cell (p := ⟨_, _, none⟩) (lt_of_cell SD.2)).trans SD.2⟩
        refine hKK.out _ _ S3 (fun hH1 => ?_)
        clear hKK KK
        try simp only [List.getElem_toArray, List.getElem_cons_succ, List.getElem_cons_zero, Act.put, List.setIfInBounds_toArray, List.set_cons_zero, List.set_cons_succ]
        refine wpAnyH_ready (rs := [6]) (by kernel_rfl) (by simp) ?_
        refine AllReadyH.cons (by rfl) (fun KK hKK => ?_) AllReadyH.nil
        simp only [List.getElem_toArray, List.getElem_cons_succ, List.getElem_cons_zero]
        go_simp
        have hb4 : Below w3.heap.size w3 (w3.alloc (.cells #[.int .i64 0, .bool false, .slice none 0 0] 55)) := (Below.refl _ _).alloc (Nat.le_refl _) _
        have S4 : (w3.alloc (.cells #[.int .i64 0, .bool false, .slice none 0 0] 55)).cell? ⟨w.heap.size, 0, none⟩ = some (.slice a ts.length c) ∧ (w3.alloc (.cells #[.int .i64 0, .bool false, .slice none 0 0] 55)).cell? ⟨b7, o7 + k, none⟩ = some (.int .i64 x) := ⟨(hb4.cell (p := ⟨_, _, none⟩) (lt_of_cell S3.1)).trans S3.1, (hb4.cell (p := ⟨_, _, none⟩) (lt_of_cell S3.2)).trans S3.2⟩
        refine hKK.out _ _ S4 (fun hH2 => ?_)
        clear hKK KK
        try simp only [List.getElem_toArray, List.getElem_cons_succ, List.getElem_cons_zero, Act.put, List.setIfInBounds_toArray, List.set_cons_zero, List.set_cons_succ]
        clear S3 S4 hH1 hH2
        refine wpAnyH_done (by kernel_rfl) ?_ _
        refine Last.done_last ?_
        refine wpOp_step rfl (fun KK hKK => ?_)
        simp only [List.getElem_toArray, List.getElem_cons_succ, List.getElem_cons_zero]
        go_simp
        refine hKK _ _ ?_
        clear hKK
        go_simp
        have HT : Hid (Is (w3.alloc (.cells #[.int .i64 u.id, .bool u.ab, .slice ta3 u.ops.length tc3] 55)) w3.heap.size #[.int .i64 u.id, .bool u.ab, .slice ta3 u.ops.length tc3]) := hide (Is.made _ _ _ rfl)
        have hb5 : Below w3.heap.size w3 (w3.alloc (.cells #[.int .i64 u.id, .bool u.ab, .slice ta3 u.ops.length tc3] 55)) := (Below.refl _ _).alloc (Nat.le_refl _) _
        have HO : Hid (OpsAt F (w3.alloc (.cells #[.int .i64 u.id, .bool u.ab, .slice ta3 u.ops.length tc3] 55)) (.slice ta3 u.ops.length tc3) u.ops) := hide (ho.out.keep hb5)
        have hz1 : W.heap.size ≤ w3.heap.size := by have := HBD.out.size; have := hb3.out.size; omega
        have HB : Hid (Below W.heap.size W (w3.alloc (.cells #[.int .i64 u.id, .bool u.ab, .slice ta3 u.ops.length tc3] 55))) := hide ((HBD.out.trans (hb3.out.mono HBD.out.size)).trans (hb5.mono hz1))
        have HLB : Hid (W.heap.size ≤ w3.heap.size) := hide hz1
        clear hz1 hb5 hb4 ho hb3
        generalize (w3.alloc (.cells #[.int .i64 u.id, .bool u.ab, .slice ta3 u.ops.length tc3] 55)) = W3 at HT HO HB ⊢
        generalize w3.heap.size = Bt at HT HLB ⊢
        clear w3
        revert HLB; revert HB; revert HO; revert HT; revert tc3; revert ta3; revert Bt; revert W3
        exact key'.out
      · simp only [List.getElem_toArray, List.getElem_cons_succ, List.getElem_cons_zero]
        go_simp
        have hb4 : Below WD.heap.size WD (WD.alloc (.cells #[.int .i64 0, .bool false, .slice none 0 0] 55)) := (Below.refl _ _).alloc (Nat.le_refl _) _
        have TB4 := Is.made WD #[.int .i64 0, .bool false, .slice none 0 0] 55 rfl
        have S4 : (WD.alloc (.cells #[.int .i64 0, .bool false, .slice none 0 0] 55)).cell? ⟨w.heap.size, 0, none⟩ = some (.slice a ts.length c) ∧ (WD.alloc (.cells #[.int .i64 0, .bool false, .slice none 0 0] 55)).cell? ⟨b7, o7 + k, none⟩ = some (.int .i64 x) := ⟨(hb4.cell (p := ⟨_, _, none⟩) (lt_of_cell SD.1)).trans SD.1, (hb4.cell (p := ⟨_, _, none⟩) (lt_of_cell SD.2)).trans SD.2⟩
        have HB4 : Hid (Below W.heap.size W (WD.alloc (.cells #[.int .i64 0, .bool false, .slice none 0 0] 55))) := hide (HBD.out.trans (hb4.mono HBD.out.size))
        generalize (WD.alloc (.cells #[.int .i64 0, .bool false, .slice none 0 0] 55)) = w3 at S4 TB4 HB4 ⊢
        refine hKK.out _ _ S4 (fun hH1 => ?_)
        clear hKK KK
        try simp only [List.getElem_toArray, List.getElem_cons_succ, List.getElem_cons_zero, Act.put, List.setIfInBounds_toArray, List.set_cons_zero, List.set_cons_succ]
        refine wpAnyH_ready (rs := [5]) (by kernel_rfl) (by simp) ?_
        refine AllReadyH.cons (by rfl) (fun KK hKK => ?_) AllReadyH.nil
        simp only [List.getElem_toArray, List.getElem_cons_succ, List.getElem_cons_zero]
        go_simp
        go_at_call 46
        (with_reducible refine (CT.out _ HB4.out).mono ?_)
        rintro e w5 ⟨ov, rfl, ho, hb3⟩
        obtain ⟨ta3, tc3, rfl, h8, h9⟩ := ho.out.shape; clear h8 h9
        have TB5 := TB4.below hb3.out
        have S5 : w5.cell? ⟨w.heap.size, 0, none⟩ = some (.slice a ts.length c) ∧ w5.cell? ⟨b7, o7 + k, none⟩ = some (.int .i64 x) := ⟨(hb3.out.cell (p := ⟨_, _, none⟩) (lt_of_cell S4.1)).trans S4.1, (hb3.out.cell (p := ⟨_, _, none⟩) (lt_of_cell S4.2)).trans S4.2⟩
        refine hKK.out _ _ S5 (fun hH2 => ?_)
        clear hKK KK
        try simp only [List.getElem_toArray, List.getElem_cons_succ, List.getElem_cons_zero, Act.put, List.setIfInBounds_toArray, List.set_cons_zero, List.set_cons_succ]
        have tb0 : w5.cell? ⟨WD.heap.size, 0, none⟩ = some (.int .i64 0) := TB5.cell 0 rfl
        have tb1 : w5.cell? ⟨WD.heap.size, 1, none⟩ = some (.bool false) := TB5.cell 1 rfl
        have tb2 : w5.cell? ⟨WD.heap.size, 2, none⟩ = some (.slice none 0 0) := TB5.cell 2 rfl
        have tf0 := TB5.frozen 0
        have tf1 := TB5.frozen 1
        have tf2 := TB5.frozen 2
        clear S4 S5 hH1 hH2
        refine wpAnyH_done (by kernel_rfl) ?_ _
        refine Last.done_last ?_
        refine wpOp_step rfl (fun KK hKK => ?_)
        simp only [List.getElem_toArray, List.getElem_cons_succ, List.getElem_cons_zero]
        go_simp
        refine hKK _ _ ?_
        clear hKK
        go_simp
        have HT : Hid (Is (((w5.setCell ⟨WD.heap.size, 0, none⟩ (.int .i64 u.id)).setCell ⟨WD.heap.size, 1, none⟩ (.bool u.ab)).setCell ⟨WD.heap.size, 2, none⟩ (.slice ta3 u.ops.length tc3)) WD.heap.size #[.int .i64 u.id, .bool u.ab, .slice ta3 u.ops.length tc3]) := hide ((((TB5.set 0 (.int .i64 u.id)).set 1 (.bool u.ab)).set 2 (.slice ta3 u.ops.length tc3)).eq rfl)
        have hon := (((Only.refl (fun b => b = WD.heap.size) w5).put 0 (.int .i64 u.id)).put 1 (.bool u.ab)).put 2 (.slice ta3 u.ops.length tc3)
        have HO : Hid (OpsAt F (((w5.setCell ⟨WD.heap.size, 0, none⟩ (.int .i64 u.id)).setCell ⟨WD.heap.size, 1, none⟩ (.bool u.ab)).setCell ⟨WD.heap.size, 2, none⟩ (.slice ta3 u.ops.length tc3)) (.slice ta3 u.ops.length tc3) u.ops) := hide (ho.out.only hon (fun b q e => by have := HLE.out b q; have := HBD.out.size; have := HB1.out.size; have := HB2.out.size; have := hbel.out.size; omega))
        have HLB : Hid (W.heap.size ≤ WD.heap.size) := hide HBD.out.size
        have HB : Hid (Below W.heap.size W (((w5.setCell ⟨WD.heap.size, 0, none⟩ (.int .i64 u.id)).setCell ⟨WD.heap.size, 1, none⟩ (.bool u.ab)).setCell ⟨WD.heap.size, 2, none⟩ (.slice ta3 u.ops.length tc3))) := hide ((((HB4.out.trans (hb3.out.mono HB4.out.size)).setCell (p := ⟨WD.heap.size, 0, none⟩) HLB.out (.int .i64 u.id)).setCell (p := ⟨WD.heap.size, 1, none⟩) HLB.out (.bool u.ab)).setCell (p := ⟨WD.heap.size, 2, none⟩) HLB.out (.slice ta3 u.ops.length tc3))
        clear hb4 ho hb3 hon TB5 tb0 tb1 tb2 tf0 tf1 tf2
        generalize (((w5.setCell ⟨WD.heap.size, 0, none⟩ (.int .i64 u.id)).setCell ⟨WD.heap.size, 1, none⟩ (.bool u.ab)).setCell ⟨WD.heap.size, 2, none⟩ (.slice ta3 u.ops.length tc3)) = W3 at HT HO HB ⊢
        clear HB4 TB4
        clear w3 w5
        generalize WD.heap.size = Bt at HT HLB ⊢
        revert HLB; revert HB; revert HO; revert HT; revert tc3; revert ta3; revert Bt; revert W3
        exact key'.out
      intro W3 Bt ta3 tc3 HT HO HB HLB
      clear CT HBD SD
      have HUL2 : Hid (u.ops.length ≤ 60) := hide (by have := HUL.out; have := HF.out.2.1; omega)
      have HPL2 : Hid (m ≤ 20 * 60) := hide (by
        have h1 := HPL.out
        have h2 := HF.out.2.1
        have h3 := HF.out.ids
        rw [HM.out, HML.out]
        have h4 : k * opsN ts ≤ 20 * 60 := Nat.mul_le_mul (by omega) h2
        omega)
      have HKN : Hid (Kn w2 [boxT Bt #[.int .i64 u.id, .bool u.ab, .slice ta3 u.ops.length tc3], ownN w2.heap.size 39 5 (.slice oa m oc) es.length (es.flatMap rdC)] W3) := hide (by
        rw [HM.out]
        exact hkn.out.more HB.out (t' := boxT Bt #[.int .i64 u.id, .bool u.ab, .slice ta3 u.ops.length tc3]) HT.out (fun k e => by have e' : k = Bt := e; have := HLB.out; omega))
      have HOK3 : Hid (∀ e ∈ es, RdOk (.slice oa m oc) W3 e) := hide (fun e he => (HOKS.out e he).keep HB.out)
      obtain ⟨ol, hol⟩ : ∃ ol, ol = u.ops.length := ⟨_, rfl⟩
      have HOL := hide hol
      rw [← hol] at HKN HO ⊢
      have hol60 : ol ≤ 60 := by have := HUL2.out; omega
      clear hol HT HB HLB
      go_wp2
      go_loopw [5, 9] (fun ov jv wr => rwI F w2 pre u key Bt (.slice ta3 ol tc3) ov jv wr) (fun _ jv _ => ol - (intOf jv).toNat)
      case atStart => exact ⟨0, by omega, rfl, hide ⟨es, by have := HES.out; simpa [docRdP] using this, HOK3.out, HKN.out⟩, HO⟩
      case round =>
        obtain ⟨j, hj, rfl, hkj0, hoj⟩ := hrel
        obtain ⟨fs, hfs, hoks, hkj'⟩ := hkj0.out
        have hkj := hide hkj'
        have HFS := hide hfs
        have HOKF := hide hoks
        clear hfs hoks hkj' hkj0
        have ho1 := Knget (pre := [_]) hkj.out
        obtain ⟨oa2, oc2, rfl⟩ := Own.own_form (show (ownN _ _ _ _ _ _).P _ from ho1)
        clear ho1
        obtain ⟨V, hV⟩ : ∃ V, V = wr := ⟨_, rfl⟩
        subst hV
        have hbx : Is V Bt #[.int .i64 u.id, .bool u.ab, .slice ta3 ol tc3] := hkj.out.hd
        have t0 : V.cell? ⟨Bt, 0, none⟩ = some (.int .i64 u.id) := hbx.cell 0 rfl
        have t1 : V.cell? ⟨Bt, 1, none⟩ = some (.bool u.ab) := hbx.cell 1 rfl
        have t2 : V.cell? ⟨Bt, 2, none⟩ = some (.slice ta3 ol tc3) := hbx.cell 2 rfl
        have HRL := hide (rdP_le u key j)
        obtain ⟨mm, hmm⟩ : ∃ mm, mm = fs.length := ⟨_, rfl⟩
        have HMM2 : Hid (mm ≤ 20 * 60 + 60) := hide (by
          have e1 := congrArg List.length HFS.out
          rw [List.length_map, List.length_append] at e1
          have := HRL.out; have := HUL2.out; have := HPL2.out; have := HML.out; have := HM.out
          omega)
        have HMM := hide hmm
        rw [← hmm] at HOKF hkj ⊢
        have hjl : j ≤ ol := by rw [HOL.out]; exact hj
        clear hbx hmm
        by_cases hlj : j < ol
        · have hlj' : j < u.ops.length := by rw [← HOL.out]; exact hlj
          obtain ⟨b3, o3, l3, q3, rfl, hFb, _, e0, e1, e2, e3, hints, _, _⟩ := hoj.out.at hlj'
          have HFB := hide (HLE.out b3 hFb)
          have HLY := hide (HLS.out _ (List.getElem_mem hlj'))
          have HIN := hide hints
          have HS := hide (rdP_step (key := key) hlj')
          obtain ⟨m3, hm3⟩ : ∃ m, m = u.ops[j].list.length := ⟨_, rfl⟩
          rw [← hm3] at e3 HIN
          have HM3 := hide hm3
          obtain ⟨q, hq⟩ : ∃ q, q = u.ops[j].read := ⟨_, rfl⟩
          obtain ⟨x2, hx2⟩ : ∃ x, x = u.ops[j].key := ⟨_, rfl⟩
          obtain ⟨y, hy⟩ : ∃ y, y = u.ops[j].list := ⟨_, rfl⟩
          rw [← hq, ← hx2, ← hy] at HS
          rw [← hq] at e0
          rw [← hx2] at e1
          rw [← hy] at HIN HM3 HLY
          have YV := hide hy
          clear hq hx2 hy e2 hints hm3 hFb
          have GO : Hid ((q && x2 == key) = false → rwI F w2 pre u key Bt (.slice (some ⟨b3, o3, none⟩) ol tc3) (.slice oa2 mm oc2) (.int .i64 ((j : Int) + 1)) V) := hide fun e => ⟨j + 1, by omega, by simp, hide ⟨fs, by
            rw [HS.out, e]
            simp only [Bool.false_eq_true, if_false, List.append_nil]
            exact HFS.out, HOKF.out, by rw [← HMM.out]; exact hkj.out⟩, hoj⟩
          cases q with
          | false =>
            have R := hide (GO.out (by simp))
            clear GO HS t0 t1 e3
            go_wp2
            go_roundw
            case rel => exact R.out
            case measure => simp [intOf]; omega
          | true =>
            by_cases hxk : x2 = key
            · have HE := hide HS.out
              subst hxk
              clear GO HS
              have hszV := hkj.out.below.size
              obtain ⟨m5, hm5⟩ : ∃ m, m = (aheadL (u.ops.take j) x2).length := ⟨_, rfl⟩
              have HM5 := hide hm5
              clear hm5
              go_upto_region 11 with fail
              obtain ⟨VD, hVD⟩ : ∃ VD, VD = V.drew := ⟨_, rfl⟩
              have hbD : Below V.heap.size V VD := by rw [hVD]; exact (Below.refl _ _).drew
              have HBD2 := hide hbD
              have SD : VD.cell? ⟨Bt, 0, none⟩ = some (.int .i64 u.id) ∧ VD.cell? ⟨Bt, 1, none⟩ = some (.bool u.ab) ∧ VD.cell? ⟨Bt, 2, none⟩ = some (.slice (some ⟨b3, o3, none⟩) ol tc3) ∧ VD.cell? ⟨b3, o3 + j * 4 + 3, none⟩ = some (.slice l3 m3 q3) := by rw [hVD]; exact ⟨t0, t1, t2, e3⟩
              have CA : Hid (Calls Tryz.prog 47 #[.agg #[.int .i64 u.id, .bool u.ab, .slice (some ⟨b3, o3, none⟩) ol tc3], .int .i64 x2, .int .i64 (j : Int)] VD fun e w' => ∃ a c, e = .returned (.slice a m5 c) ∧ Hid (RowV w' a c (aheadL (u.ops.take j) x2) ∧ ∀ q, a = some q → VD.heap.size ≤ q.block) ∧ Hid (Below VD.heap.size VD w')) := hide (by
                rw [HM5.out]
                refine (ahead_fresh F u.id u.ab (.slice (some ⟨b3, o3, none⟩) ol tc3) u.ops x2 j VD (hoj.out.keep hbD) (by omega) (by have := HUL2.out; omega)).mono ?_
                rintro e w' ⟨⟨a, c, rfl, h1, h2⟩, hb⟩
                exact ⟨a, c, rfl, ⟨h1, h2⟩, hb⟩)
              refine Last.region_last (k := 18) (S := fun w' : World => w'.cell? ⟨Bt, 0, none⟩ = some (.int .i64 u.id) ∧ w'.cell? ⟨Bt, 1, none⟩ = some (.bool u.ab) ∧ w'.cell? ⟨Bt, 2, none⟩ = some (.slice (some ⟨b3, o3, none⟩) ol tc3) ∧ w'.cell? ⟨b3, o3 + j * 4 + 3, none⟩ = some (.slice l3 m3 q3)) (by kernel_rfl) rfl rfl (by kernel_rfl) (by kernel_rfl) ?_
              rw [← hVD]
              clear hVD e0 e1 e3 t0 t1 t2 hbD
              refine wpAnyH_take (i := 0) (v := ?_) rfl (by kernel_rfl) (by kernel_rfl) (by kernel_rfl) (fun _ _ _ h => h) (Or.inl ⟨by rfl, ?_⟩) (by assumption) ?_
              rotate_left
              · (intro w hSw; (try dsimp only at hSw); go_simp; try with_reducible rfl)
              try simp only [List.getElem_toArray, List.getElem_cons_succ, List.getElem_cons_zero, Act.put, List.setIfInBounds_toArray, List.set_cons_zero, List.set_cons_succ]
              refine wpAnyH_take (i := 1) (v := ?_) rfl (by kernel_rfl) (by kernel_rfl) (by kernel_rfl) (fun _ _ _ h => h) (Or.inl ⟨by rfl, ?_⟩) (by assumption) ?_
              rotate_left
              · (intro w hSw; (try dsimp only at hSw); go_simp; try with_reducible rfl)
              try simp only [List.getElem_toArray, List.getElem_cons_succ, List.getElem_cons_zero, Act.put, List.setIfInBounds_toArray, List.set_cons_zero, List.set_cons_succ]
              refine wpAnyH_take (i := 2) (v := ?_) rfl (by kernel_rfl) (by kernel_rfl) (by kernel_rfl) (fun _ _ _ h => h) (Or.inl ⟨by rfl, ?_⟩) (by assumption) ?_
              rotate_left
              · (intro w hSw; (try dsimp only at hSw); go_simp; try with_reducible rfl)
              try simp only [List.getElem_toArray, List.getElem_cons_succ, List.getElem_cons_zero, Act.put, List.setIfInBounds_toArray, List.set_cons_zero, List.set_cons_succ]
              refine wpAnyH_take (i := 3) (v := ?_) rfl (by kernel_rfl) (by kernel_rfl) (by kernel_rfl) (fun _ _ _ h => h) (Or.inl ⟨by rfl, ?_⟩) (by assumption) ?_
              rotate_left
              · (intro w hSw; (try dsimp only at hSw); go_simp; try with_reducible rfl)
              try simp only [List.getElem_toArray, List.getElem_cons_succ, List.getElem_cons_zero, Act.put, List.setIfInBounds_toArray, List.set_cons_zero, List.set_cons_succ]
              refine wpAnyH_take (i := 4) (v := ?_) rfl (by kernel_rfl) (by kernel_rfl) (by kernel_rfl) (fun _ _ _ h => h) (Or.inl ⟨by rfl, ?_⟩) (by assumption) ?_
              rotate_left
              · (intro w hSw; (try dsimp only at hSw); go_simp; try with_reducible rfl)
              try simp only [List.getElem_toArray, List.getElem_cons_succ, List.getElem_cons_zero, Act.put, List.setIfInBounds_toArray, List.set_cons_zero, List.set_cons_succ]
              refine wpAnyH_take (i := 5) (v := ?_) rfl (by kernel_rfl) (by kernel_rfl) (by kernel_rfl) (fun _ _ _ h => h) (Or.inl ⟨by rfl, ?_⟩) (by assumption) ?_
              rotate_left
              · (intro w hSw; (try dsimp only at hSw); go_simp; try with_reducible rfl)
              try simp only [List.getElem_toArray, List.getElem_cons_succ, List.getElem_cons_zero, Act.put, List.setIfInBounds_toArray, List.set_cons_zero, List.set_cons_succ]
              refine wpAnyH_take (i := 6) (v := ?_) rfl (by kernel_rfl) (by kernel_rfl) (by kernel_rfl) (fun _ _ _ h => h) (Or.inl ⟨by rfl, ?_⟩) (by assumption) ?_
              rotate_left
              · (intro w hSw; (try dsimp only at hSw); go_simp; try with_reducible rfl)
              try simp only [List.getElem_toArray, List.getElem_cons_succ, List.getElem_cons_zero, Act.put, List.setIfInBounds_toArray, List.set_cons_zero, List.set_cons_succ]
              refine wpAnyH_take (i := 7) (v := ?_) rfl (by kernel_rfl) (by kernel_rfl) (by kernel_rfl) (fun _ _ _ h => h) (Or.inl ⟨by rfl, ?_⟩) (by assumption) ?_
              rotate_left
              · (intro w hSw; (try dsimp only at hSw); go_simp; try with_reducible rfl)
              try simp only [List.getElem_toArray, List.getElem_cons_succ, List.getElem_cons_zero, Act.put, List.setIfInBounds_toArray, List.set_cons_zero, List.set_cons_succ]
              refine wpAnyH_take (i := 8) (v := ?_) rfl (by kernel_rfl) (by kernel_rfl) (by kernel_rfl) (fun _ _ _ h => h) (Or.inl ⟨by rfl, ?_⟩) (by assumption) ?_
              rotate_left
              · (intro w hSw; (try dsimp only at hSw); go_simp; try with_reducible rfl)
              try simp only [List.getElem_toArray, List.getElem_cons_succ, List.getElem_cons_zero, Act.put, List.setIfInBounds_toArray, List.set_cons_zero, List.set_cons_succ]
              refine wpAnyH_take (i := 9) (v := ?_) rfl (by kernel_rfl) (by kernel_rfl) (by kernel_rfl) (fun _ _ _ h => h) (Or.inl ⟨by rfl, ?_⟩) (by assumption) ?_
              rotate_left
              · (intro w hSw; (try dsimp only at hSw); go_simp; try with_reducible rfl)
              try simp only [List.getElem_toArray, List.getElem_cons_succ, List.getElem_cons_zero, Act.put, List.setIfInBounds_toArray, List.set_cons_zero, List.set_cons_succ]
              refine wpAnyH_take (i := 10) (v := ?_) rfl (by kernel_rfl) (by kernel_rfl) (by kernel_rfl) (fun _ _ _ h => h) (Or.inl ⟨by rfl, ?_⟩) (by assumption) ?_
              rotate_left
              · (intro w hSw; (try dsimp only at hSw); go_simp; try with_reducible rfl)
              try simp only [List.getElem_toArray, List.getElem_cons_succ, List.getElem_cons_zero, Act.put, List.setIfInBounds_toArray, List.set_cons_zero, List.set_cons_succ]
              refine wpAnyH_take (i := 11) (v := ?_) rfl (by kernel_rfl) (by kernel_rfl) (by kernel_rfl) (fun _ _ _ h => h) (Or.inl ⟨by rfl, ?_⟩) (by assumption) ?_
              rotate_left
              · (intro w hSw; (try dsimp only at hSw); go_simp; try with_reducible rfl)
              try simp only [List.getElem_toArray, List.getElem_cons_succ, List.getElem_cons_zero, Act.put, List.setIfInBounds_toArray, List.set_cons_zero, List.set_cons_succ]
              refine wpAnyH_take (i := 12) (v := ?_) rfl (by kernel_rfl) (by kernel_rfl) (by kernel_rfl) (fun _ _ _ h => h) (Or.inl ⟨by rfl, ?_⟩) (by assumption) ?_
              rotate_left
              · (intro w hSw; (try dsimp only at hSw); go_simp; try with_reducible rfl)
              try simp only [List.getElem_toArray, List.getElem_cons_succ, List.getElem_cons_zero, Act.put, List.setIfInBounds_toArray, List.set_cons_zero, List.set_cons_succ]
              refine wpAnyH_take (i := 13) (v := ?_) rfl (by kernel_rfl) (by kernel_rfl) (by kernel_rfl) (fun _ _ _ h => h) (Or.inl ⟨by rfl, ?_⟩) (by assumption) ?_
              rotate_left
              · (intro w hSw; (try dsimp only at hSw); go_simp; try with_reducible rfl)
              try simp only [List.getElem_toArray, List.getElem_cons_succ, List.getElem_cons_zero, Act.put, List.setIfInBounds_toArray, List.set_cons_zero, List.set_cons_succ]
              refine wpAnyH_ready (rs := [14]) (by kernel_rfl) (by simp) ?_
              refine AllReadyH.cons (by rfl) (fun KK hKK => ?_) AllReadyH.nil
              simp only [List.getElem_toArray, List.getElem_cons_succ, List.getElem_cons_zero]
              go_simp
              go_at_call 47
              (with_reducible refine (Hid.out CA).mono ?_)
              rintro e V4 ⟨a5, c5, rfl, hr5, hb5⟩
              have S4 : V4.cell? ⟨Bt, 0, none⟩ = some (.int .i64 u.id) ∧ V4.cell? ⟨Bt, 1, none⟩ = some (.bool u.ab) ∧ V4.cell? ⟨Bt, 2, none⟩ = some (.slice (some ⟨b3, o3, none⟩) ol tc3) ∧ V4.cell? ⟨b3, o3 + j * 4 + 3, none⟩ = some (.slice l3 m3 q3) := ⟨(hb5.out.cell (p := ⟨_, _, none⟩) (lt_of_cell SD.1)).trans SD.1, (hb5.out.cell (p := ⟨_, _, none⟩) (lt_of_cell SD.2.1)).trans SD.2.1, (hb5.out.cell (p := ⟨_, _, none⟩) (lt_of_cell SD.2.2.1)).trans SD.2.2.1, (hb5.out.cell (p := ⟨_, _, none⟩) (lt_of_cell SD.2.2.2)).trans SD.2.2.2⟩
              refine hKK.out _ _ S4 (fun hH0 => ?_)
              clear hKK KK
              try simp only [List.getElem_toArray, List.getElem_cons_succ, List.getElem_cons_zero, Act.put, List.setIfInBounds_toArray, List.set_cons_zero, List.set_cons_succ]
              refine wpAnyH_take (i := 15) (v := ?_) rfl (by kernel_rfl) (by kernel_rfl) (by kernel_rfl) (fun _ _ _ h => h) (Or.inl ⟨by rfl, ?_⟩) (by assumption) ?_
              rotate_left
              · (intro w hSw; (try dsimp only at hSw); go_simp; try with_reducible rfl)
              try simp only [List.getElem_toArray, List.getElem_cons_succ, List.getElem_cons_zero, Act.put, List.setIfInBounds_toArray, List.set_cons_zero, List.set_cons_succ]
              refine wpAnyH_ready (rs := [16]) (by kernel_rfl) (by simp) ?_
              refine AllReadyH.cons (by rfl) (fun KK hKK => ?_) AllReadyH.nil
              simp only [List.getElem_toArray, List.getElem_cons_succ, List.getElem_cons_zero]
              go_simp
              have hbV : Below V4.heap.size V4 (V4.alloc (.cells #[.int .i64 u.id, .int .i64 (j : Int), .int .i64 x2, .slice l3 m3 q3, .slice a5 m5 c5] 39)) := (Below.refl _ _).alloc (Nat.le_refl _) _
              have hnews : ∀ (i : Nat) (v : Value), ([.int .i64 u.id, .int .i64 (j : Int), .int .i64 x2, .slice l3 m3 q3, .slice a5 m5 c5] : List Value)[i]? = some v → (V4.alloc (.cells #[.int .i64 u.id, .int .i64 (j : Int), .int .i64 x2, .slice l3 m3 q3, .slice a5 m5 c5] 39)).cell? ⟨V4.heap.size, i, none⟩ = some v := fun i v hv =>
                (Is.made V4 #[.int .i64 u.id, .int .i64 (j : Int), .int .i64 x2, .slice l3 m3 q3, .slice a5 m5 c5] 39 rfl).cell i (by simpa using hv)
              have hbT : Below V.heap.size V (V4.alloc (.cells #[.int .i64 u.id, .int .i64 (j : Int), .int .i64 x2, .slice l3 m3 q3, .slice a5 m5 c5] 39)) := (HBD2.out.trans (hb5.out.mono HBD2.out.size)).trans (hbV.mono (by have := HBD2.out.size; have := hb5.out.size; omega))
              have HKV := hide (hkj.out.keep hbT)
              have HOV := hide (hoj.out.keep hbT)
              have HOKV := hide (fun e he => (HOKF.out e he).keep hbT)
              have HR5 := hide (hr5.out.1.keep hbV)
              have HINB := hide (HIN.out.keep hbT)
              have HOL2 : Hid (∀ k, (Value.slice oa2 mm oc2).ownBlock = some k → k < V.heap.size) := hide (fun k e => (World.ownsRow.lt (Knget (pre := [_]) hkj.out) k e).2)
              have SB : (V4.alloc (.cells #[.int .i64 u.id, .int .i64 (j : Int), .int .i64 x2, .slice l3 m3 q3, .slice a5 m5 c5] 39)).cell? ⟨Bt, 0, none⟩ = some (.int .i64 u.id) ∧ (V4.alloc (.cells #[.int .i64 u.id, .int .i64 (j : Int), .int .i64 x2, .slice l3 m3 q3, .slice a5 m5 c5] 39)).cell? ⟨Bt, 1, none⟩ = some (.bool u.ab) ∧ (V4.alloc (.cells #[.int .i64 u.id, .int .i64 (j : Int), .int .i64 x2, .slice l3 m3 q3, .slice a5 m5 c5] 39)).cell? ⟨Bt, 2, none⟩ = some (.slice (some ⟨b3, o3, none⟩) ol tc3) ∧ (V4.alloc (.cells #[.int .i64 u.id, .int .i64 (j : Int), .int .i64 x2, .slice l3 m3 q3, .slice a5 m5 c5] 39)).cell? ⟨b3, o3 + j * 4 + 3, none⟩ = some (.slice l3 m3 q3) := ⟨(hbV.cell (p := ⟨_, _, none⟩) (lt_of_cell S4.1)).trans S4.1, (hbV.cell (p := ⟨_, _, none⟩) (lt_of_cell S4.2.1)).trans S4.2.1, (hbV.cell (p := ⟨_, _, none⟩) (lt_of_cell S4.2.2.1)).trans S4.2.2.1, (hbV.cell (p := ⟨_, _, none⟩) (lt_of_cell S4.2.2.2)).trans S4.2.2.2⟩
              have hszB : w2.heap.size ≤ (V4.alloc (.cells #[.int .i64 u.id, .int .i64 (j : Int), .int .i64 x2, .slice l3 m3 q3, .slice a5 m5 c5] 39)).heap.size := by have := hbT.size; omega
              have hV4 : V.heap.size ≤ V4.heap.size := by have := HBD2.out.size; have := hb5.out.size; omega
              have HFR := hide (fun q e => by have := hr5.out.2 q e; have := HBD2.out.size; exact (show V.heap.size ≤ q.block by omega))
              clear hbV hbT
              generalize (V4.alloc (.cells #[.int .i64 u.id, .int .i64 (j : Int), .int .i64 x2, .slice l3 m3 q3, .slice a5 m5 c5] 39)) = VB at hnews HKV HOV HOKV HR5 HINB SB hszB ⊢
              have hown := Knget (pre := [_]) HKV.out
              refine hKK.out _ _ SB (fun hH1 => ?_)
              clear hKK KK
              try simp only [List.getElem_toArray, List.getElem_cons_succ, List.getElem_cons_zero, Act.put, List.setIfInBounds_toArray, List.set_cons_zero, List.set_cons_succ]
              refine wpAnyH_ready (rs := [17]) (by kernel_rfl) (by simp) ?_
              refine AllReadyH.cons (by rfl) (fun KK hKK => ?_) AllReadyH.nil
              refine step_app Tryz.underlying35 Tryz.infoRR rfl (by decide) (by decide) (by rfl) (.tmp 47) (.tmp 63) (by rfl) w2.heap.size _ mm _ (by rfl) hown V4.heap.size [.int .i64 u.id, .int .i64 (j : Int), .int .i64 x2, .slice l3 m3 q3, .slice a5 m5 c5] (by rfl) rfl hnews (fun u hu => by simp at hu; rcases hu with rfl | rfl | rfl | rfl | rfl <;> rfl) (by have := HMM2.out; omega) hszB ?_
              intro v6 w6 hown6 hg6 hat6 _
              have HK4 := hide (growAt (pre := [_]) HKV.out hown6 hg6 hat6)
              have HO4 := hide (HOV.out.only (only_grown hg6) (fun b q e => by have h1 := HLE.out b q; have h2 := Knlt (pre := [_]) HKV.out b e; have := HB1.out.size; have := HB2.out.size; omega))
              have HOK4 := hide (fun e he => (HOKV.out e he).grow hg6 hat6)
              have hnew : RdOk (.slice oa2 mm oc2) VB ⟨⟨u.id, j, x2, y, aheadL (u.ops.take j) x2⟩, l3, q3, a5, c5⟩ := by
                refine ⟨⟨(ints_rowv HINB.out (by have := HLY.out; omega)).2, HR5.out⟩, fun q hl e => ?_, fun q hl e => ?_⟩
                · intro z
                  have h2 := Knlt (pre := [_]) HKV.out q.block z
                  have h3 := HLE.out q.block (ints_F (by rw [← show l3 = some q from e]; exact HINB.out) hl)
                  have := HB1.out.size; have := HB2.out.size
                  omega
                · intro z
                  have h2 := HOL2.out q.block z
                  have h3 := HFR.out q e
                  omega
              have HN4 := hide (hnew.grow hg6 hat6)
              have S6 : w6.cell? ⟨Bt, 0, none⟩ = some (.int .i64 u.id) ∧ w6.cell? ⟨Bt, 1, none⟩ = some (.bool u.ab) ∧ w6.cell? ⟨Bt, 2, none⟩ = some (.slice (some ⟨b3, o3, none⟩) ol tc3) ∧ w6.cell? ⟨b3, o3 + j * 4 + 3, none⟩ = some (.slice l3 m3 q3) := by
                have hbx6 : Is w6 Bt #[.int .i64 u.id, .bool u.ab, .slice (some ⟨b3, o3, none⟩) ol tc3] := HK4.out.hd
                exact ⟨hbx6.cell 0 rfl, hbx6.cell 1 rfl, hbx6.cell 2 rfl, (only_grown hg6).cell SB.2.2.2 (fun e => by have h2 := Knlt (pre := [_]) HKV.out b3 e; have := HFB.out; have := HB1.out.size; have := HB2.out.size; omega)⟩
              clear hown6 hg6 hat6 hnews hown hnew
              refine hKK.out _ _ S6 (fun hH3 => ?_)
              clear hKK KK
              try simp only [List.getElem_toArray, List.getElem_cons_succ, List.getElem_cons_zero, Act.put, List.setIfInBounds_toArray, List.set_cons_zero, List.set_cons_succ]
              clear S6 SB S4 SD hH0 hH1 hH3
              refine wpAnyH_done (by kernel_rfl) ?_ _
              refine Last.done_last ?_
              refine wpOp_step rfl (fun KK hKK => ?_)
              simp only [List.getElem_toArray, List.getElem_cons_succ, List.getElem_cons_zero]
              go_simp
              refine hKK _ _ ?_
              clear hKK
              go_simp
              go_wp2
              go_roundw
              case rel =>
                refine ⟨j + 1, by omega, by simp, hide ⟨fs ++ [⟨⟨u.id, j, x2, y, aheadL (u.ops.take j) x2⟩, l3, q3, a5, c5⟩], ?_, ?_, ?_⟩, HO4⟩
                · rw [HE.out, List.map_append, HFS.out]
                  simp
                · intro e he
                  rcases List.mem_append.1 he with he | he
                  · exact HOK4.out e he
                  · obtain rfl := List.mem_singleton.1 he
                    exact HN4.out
                · rw [List.length_append, ← HMM.out, List.flatMap_append]
                  have := HK4.out
                  rw [HM3.out, HM5.out] at this
                  exact this
              case measure => simp [intOf]; omega
            · have R := hide (GO.out (by simp [hxk]))
              clear GO HS t0 t1 e3
              go_wp2
              go_roundw
              case rel => exact R.out
              case measure => simp [intOf]; omega
        · obtain rfl : j = ol := by omega
          have HE := hide (rdP_all u key)
          rw [← HOL.out] at HE
          have R : Hid (rwR w2 ts key (.slice oa2 mm oc2) (.int .i64 ((k : Int) + 1)) V) := hide ⟨k + 1, by have := HN.out; omega, by simp, hide ⟨fs, by
            rw [HFS.out, HE.out, ← HSTEP.out], HOKF.out, by rw [← HMM.out]; exact hkj.out.tail⟩⟩
          clear t0 t1
          go_wp2
          go_roundw
          case rel => exact R.out
          case measure => simp [intOf]; omega
    · obtain rfl : k = n := by omega
      have HE := hide (rsP_all ts key)
      rw [← HN.out] at HE
      rw [HE.out] at HES
      have hel : es.length = (docReads ts key).length := by rw [← HES.out, List.length_map]
      have hcap := own_cap (show (ownN _ _ _ _ _ _).P W from hown.out)
      obtain ⟨a5, c5, e5, hr5⟩ := own_row5 (show W.ownsRow _ _ _ _ _ _ from hown.out)
      cases e5
      rw [hel] at hr5 hcap ⊢
      have HR5 := hide hr5
      have HCAP := hide hcap
      clear hr5 hcap hel
      go_wp2
      go_ret
      exact ⟨⟨_, _, es, rfl, HCAP.out, HR5.out, HES.out, fun e he => (HOKS.out e he).ok⟩, HB1.out.trans ((HB2.out.mono HB1.out.size).trans (hbel.out.mono (by have := HB1.out.size; have := HB2.out.size; omega)))⟩
end Go.Proofs.YtkinmllflodhaaaGreat.Tab

/- Reads alike, as the document has it. -/
namespace Go.Proofs.YtkinmllflodhaaaGreat.Tab
open Go.RowKit Go.Proofs.YtkinmllflodhaaaGreat.Dig Go.Proofs.YtkinmllflodhaaaGreat.Mem Go.Proofs.YtkinmllflodhaaaGreat.Hist Go.Proofs.YtkinmllflodhaaaGreat.Own Go.Proofs.YtkinmllflodhaaaGreat.Thing Go.Proofs.YtkinmllflodhaaaGreat.Sets Go.Shelf Go.Proofs.YtkinmllflodhaaaGreat.Keys
set_option linter.unusedVariables false
set_option linter.unusedSimpArgs false

set_option maxRecDepth 100000 in
set_option maxHeartbeats 4000000 in
/-- Two reads that are one, wherever their lists lie. -/
theorem samer_any (x y : RdE) (w : World) (e : x.r = y.r) (hx : x.ok w) (hy : y.ok w) (h1 : x.r.list.length ≤ 1000000) (h2 : x.r.own.length ≤ 1000000) :
    Calls Tryz.prog 48 #[.agg #[.int .i64 x.r.txn, .int .i64 (x.r.op : Int), .int .i64 x.r.key, .slice x.la x.r.list.length x.lc, .slice x.oa x.r.own.length x.oc], .agg #[.int .i64 y.r.txn, .int .i64 (y.r.op : Int), .int .i64 y.r.key, .slice y.la y.r.list.length y.lc, .slice y.oa y.r.own.length y.oc]] w fun e w' => e = .returned (.bool true) ∧ Hid (Below w.heap.size w w') := by
  obtain ⟨r, la, lc, oa, oc⟩ := x
  obtain ⟨r', la', lc', oa', oc'⟩ := y
  obtain rfl : r = r' := e
  have HX := hide hx
  have HY := hide hy
  obtain ⟨m3, hm3⟩ : ∃ m, m = r.list.length := ⟨_, rfl⟩
  obtain ⟨m4, hm4⟩ : ∃ m, m = r.own.length := ⟨_, rfl⟩
  obtain ⟨x0, hx0⟩ : ∃ x, x = r.txn := ⟨_, rfl⟩
  obtain ⟨x1, hx1⟩ : ∃ x, x = (r.op : Int) := ⟨_, rfl⟩
  obtain ⟨x2, hx2⟩ : ∃ x, x = r.key := ⟨_, rfl⟩
  have HM3 := hide hm3
  have HM4 := hide hm4
  dsimp only
  rw [← hm3, ← hm4, ← hx0, ← hx1, ← hx2]
  clear hm3 hm4 hx0 hx1 hx2 h1 h2 hx hy
  go_enter Tryz.func48, Tryz.ntmps48
  go_upto_region 1 with fail
  obtain ⟨w1, hw1⟩ : ∃ w1, w1 = (w.alloc (.cells #[.int .i64 x0, .int .i64 x1, .int .i64 x2, .slice la m3 lc, .slice oa m4 oc] 39)).alloc (.cells #[.int .i64 x0, .int .i64 x1, .int .i64 x2, .slice la' m3 lc', .slice oa' m4 oc'] 39) := ⟨_, rfl⟩
  rw [← hw1]
  have hb1 : Below w.heap.size w w1 := by rw [hw1]; exact ((Below.refl _ _).alloc (Nat.le_refl _) _).alloc (by simp) _
  have X1 : Is w1 w.heap.size #[.int .i64 x0, .int .i64 x1, .int .i64 x2, .slice la m3 lc, .slice oa m4 oc] := by rw [hw1]; exact (Is.made w _ _ rfl).alloc _
  have Y1 : Is w1 (w.heap.size + 1) #[.int .i64 x0, .int .i64 x1, .int .i64 x2, .slice la' m3 lc', .slice oa' m4 oc'] := by rw [hw1]; exact Is.made _ _ _ (by simp)
  have HB1 := hide hb1
  have a0 : w1.cell? ⟨w.heap.size, 0, none⟩ = some (.int .i64 x0) := X1.cell 0 rfl
  have a1 : w1.cell? ⟨w.heap.size, 1, none⟩ = some (.int .i64 x1) := X1.cell 1 rfl
  have a2 : w1.cell? ⟨w.heap.size, 2, none⟩ = some (.int .i64 x2) := X1.cell 2 rfl
  have a3 : w1.cell? ⟨w.heap.size, 3, none⟩ = some (.slice la m3 lc) := X1.cell 3 rfl
  have a4 : w1.cell? ⟨w.heap.size, 4, none⟩ = some (.slice oa m4 oc) := X1.cell 4 rfl
  have b0 : w1.cell? ⟨w.heap.size + 1, 0, none⟩ = some (.int .i64 x0) := Y1.cell 0 rfl
  have b1 : w1.cell? ⟨w.heap.size + 1, 1, none⟩ = some (.int .i64 x1) := Y1.cell 1 rfl
  have b2 : w1.cell? ⟨w.heap.size + 1, 2, none⟩ = some (.int .i64 x2) := Y1.cell 2 rfl
  have b3 : w1.cell? ⟨w.heap.size + 1, 3, none⟩ = some (.slice la' m3 lc') := Y1.cell 3 rfl
  have b4 : w1.cell? ⟨w.heap.size + 1, 4, none⟩ = some (.slice oa' m4 oc') := Y1.cell 4 rfl
  have X := hide X1
  have Y := hide Y1
  have C1 : Hid (Calls Tryz.prog 18 #[.slice la m3 lc, .slice la' m3 lc'] w1 fun e w' => e = .returned (.bool true) ∧ Hid (Below w1.heap.size w1 w')) := hide (sameLT (hide (HX.out.1.keep hb1)) (hide (HY.out.1.keep hb1)) HM3)
  have C2 : Hid (∀ w2, Below w1.heap.size w1 w2 → Calls Tryz.prog 18 #[.slice oa m4 oc, .slice oa' m4 oc'] w2 fun e w' => e = .returned (.bool true) ∧ Hid (Below w2.heap.size w2 w')) := hide (fun w2 hb => sameLT (hide ((HX.out.2.keep hb1).keep hb)) (hide ((HY.out.2.keep hb1).keep hb)) HM4)
  clear hw1 hb1 X1 Y1
  go_wp2_with (go_at_call 18; go_must (first
    | ((with_reducible refine (Hid.out C1).mono ?_); clear C1; rintro e w2 ⟨rfl, hb2⟩; have a4' : w2.cell? ⟨w.heap.size, 4, none⟩ = some (.slice oa m4 oc) := (X.out.below hb2.out).cell 4 rfl; have b4' : w2.cell? ⟨w.heap.size + 1, 4, none⟩ = some (.slice oa' m4 oc') := (Y.out.below hb2.out).cell 4 rfl)
    | ((with_reducible refine (C2.out _ hb2.out).mono ?_); clear C2; rintro e w3 ⟨rfl, hb3⟩)))
  go_ret
  exact ⟨rfl, (HB1.out.trans (hb2.out.mono HB1.out.size)).trans (hb3.out.mono (by have := HB1.out.size; have := hb2.out.size; omega))⟩
theorem flat_len5 : ∀ l : List RdE, (l.flatMap rdC).length = l.length * 5
  | [] => rfl
  | x :: l => by rw [List.flatMap_cons, List.length_append, rdC_len, flat_len5 l, List.length_cons]; omega
theorem row5_take {w : World} {a : Option Addr} {n m : Nat} {es : List RdE} (h : Row5 w a n (es.flatMap rdC)) (hm : m ≤ es.length) : Row5 w a m ((es.take m).flatMap rdC) := by
  refine ⟨?_, fun i u hu => ?_⟩
  · rw [flat_len5, List.length_take, Nat.min_eq_left hm]
  · refine h.2 i u ?_
    have e : es.flatMap rdC = (es.take m).flatMap rdC ++ (es.drop m).flatMap rdC := by rw [← List.flatMap_append, List.take_append_drop]
    rw [e, List.getElem?_append_left (List.getElem?_eq_some_iff.1 hu).1]
    exact hu
set_option maxRecDepth 100000 in
set_option maxHeartbeats 4000000 in
theorem samers_any (a a' : Option Addr) (c c' n : Nat) (xs ys : List RdE) (w : World) (e : xs.map (·.r) = ys.map (·.r)) (hx : Row5 w a xs.length (xs.flatMap rdC)) (hy : Row5 w a' ys.length (ys.flatMap rdC)) (hox : ∀ x ∈ xs, x.ok w) (hoy : ∀ x ∈ ys, x.ok w)
    (hn : n = xs.length) (hl : n ≤ 100000) (hll : ∀ x ∈ xs, x.r.list.length ≤ 1000000 ∧ x.r.own.length ≤ 1000000) :
    Calls Tryz.prog 12 #[.slice a n c, .slice a' n c'] w fun e w' => e = .returned (.bool true) ∧ Hid (Below w.heap.size w w') := by
  have hyn : ys.length = n := by have := congrArg List.length e; rw [List.length_map, List.length_map] at this; omega
  have E := hide e
  have HX := hide hx
  have HY := hide hy
  have HOX := hide hox
  have HOY := hide hoy
  have HN := hide hn
  have HYN := hide hyn
  have HLL := hide hll
  clear e hx hy hox hoy hn hyn hll
  go_enter Tryz.func12, Tryz.ntmps12
  go_wp2
  go_loopw [5] (fun jv wr => ∃ j : Nat, j ≤ n ∧ jv = .int .i64 (j : Int) ∧ Hid (Below w.heap.size w wr)) (fun jv _ => n - (intOf jv).toNat)
  case atStart => exact ⟨0, by omega, rfl, hide (Below.refl _ _)⟩
  case round =>
    obtain ⟨j, hj, rfl, hb⟩ := hrel
    by_cases hlt : j < n
    · have hjx : j < xs.length := by rw [← HN.out]; exact hlt
      have hjy : j < ys.length := by rw [HYN.out]; exact hlt
      have hr : xs[j].r = ys[j].r := by
        have h1 := congrArg (fun l => l[j]?) E.out
        simpa [List.getElem?_map, List.getElem?_eq_getElem hjx, List.getElem?_eq_getElem hjy] using h1
      obtain ⟨b, off, rfl, _, d0, d1, d2, d3, d4⟩ := rowE_at (row5_keep HX.out hb.out) hjx
      obtain ⟨b', off', rfl, _, e0, e1, e2, e3, e4⟩ := rowE_at (row5_keep HY.out hb.out) hjy
      have hlx := HLL.out _ (List.getElem_mem hjx)
      have CS := hide (samer_any xs[j] ys[j] wr.drew hr (((HOX.out _ (List.getElem_mem hjx)).keep hb.out).keep (Below.refl _ _).drew) (((HOY.out _ (List.getElem_mem hjy)).keep hb.out).keep (Below.refl _ _).drew) hlx.1 hlx.2)
      rw [← hr] at e0 e1 e2 e3 e4 CS
      generalize xs[j].r.txn = x0 at *
      generalize (xs[j].r.op : Int) = x1 at *
      generalize xs[j].r.key = x2 at *
      generalize xs[j].r.list.length = m3 at *
      generalize xs[j].r.own.length = m4 at *
      generalize xs[j].la = l1 at *
      generalize xs[j].lc = l2 at *
      generalize xs[j].oa = l3 at *
      generalize xs[j].oc = l4 at *
      generalize ys[j].la = k1 at *
      generalize ys[j].lc = k2 at *
      generalize ys[j].oa = k3 at *
      generalize ys[j].oc = k4 at *
      clear hr hjx hjy hlx
      go_upto_region 6 with fail
      go_region_with (go_at_call 48; (with_reducible refine (Hid.out CS).mono ?_); rintro e w1 ⟨rfl, hb1⟩)
      go_simp
      go_wp2
      all_goals exact ⟨⟨j + 1, by omega, by simp, hide (hb.out.trans (((Below.refl _ _).drew.trans hb1.out).mono hb.out.size))⟩, by simp [intOf]; omega⟩
    · obtain rfl : j = n := by omega
      go_wp2
      go_ret
      exact ⟨rfl, hb⟩
end Go.Proofs.YtkinmllflodhaaaGreat.Tab
