/- The contract of the document's Check. -/
import Derived.Test.YtigmgkcojifbcaaEncRefOp
import Derived.Test.YtigmgkcojifbcaaEncText
import Derived.Test.YtigmgkcojifbcaaEncEarlier
import Derived.Test.YtigmgkcojifbcaaHistApp
namespace Go.Proofs.Ytigmgkcojifbcaa.Hist
open Go.RowKit Go.Proofs.Ytigmgkcojifbcaa.Dig Go.Proofs.Ytigmgkcojifbcaa.Mem
set_option linter.unusedVariables false
set_option linter.unusedSimpArgs false

/-- The history's box, and the transaction's. -/
structure CB (w : World) (hv : Value) (tb : Nat) (cs : Array Value) (wx : World) : Prop where
  below : Below w.heap.size w wx
  hist : Is wx w.heap.size #[hv]
  box : Is wx tb cs
section
variable {w wx wy : World} {hv : Value} {tb : Nat} {cs : Array Value}
theorem CB.keep (h : CB w hv tb cs wx) (hb : Below wx.heap.size wx wy) : CB w hv tb cs wy := ⟨h.below.trans (hb.mono h.below.size), h.hist.below hb, h.box.below hb⟩
theorem earlierC {F : Nat → Prop} {ts : List TxnM} {k j : Nat} (h : Hid (CB w hv tb cs wx)) (ht : Hid (TxnsAt F w hv ts)) (hF : Hid (∀ b, F b → b < w.heap.size)) (hk : k < ts.length) (hj : j < ts[k].ops.length) (hlen : ts.length ≤ 5000) (hlo : ts[k].ops.length ≤ 100000) :
    Calls Try.prog 29 #[.agg #[hv], .int .i64 (k : Int), .int .i64 (j : Int)] wx fun e w' => ∃ tv, e = .returned (.agg #[tv]) ∧ Hid (CB w hv tb cs w') ∧ Hid (TxnsAt (fun b => F b ∨ wx.heap.size ≤ b) w' tv (ts.take k ++ [⟨ts[k].id, ts[k].ab, ts[k].ops.take j⟩])) := by
  refine (earlier_any F hv ts k j wx (ht.out.keep h.out.below) (fun b q => Nat.lt_of_lt_of_le (hF.out b q) h.out.below.size) hk hj hlen hlo).mono ?_
  rintro e w' ⟨tv, rfl, h1, h2⟩
  exact ⟨tv, rfl, h.out.keep h2, h1⟩
theorem appC {G : Nat → Prop} {us : List TxnM} {key value : Int} {tv : Value} {r : Bool} (h : Hid (CB w hv tb cs wx)) (ht : Hid (TxnsAt G wx tv us)) (hl : us.length ≤ 1000000) (ho : Hid (∀ t ∈ us, t.ops.length ≤ 1000000)) (hr : Hid (appB us key value = r)) :
    Calls Try.prog 28 #[.agg #[tv], .int .i64 key, .int .i64 value] wx fun e w' => e = .returned (.bool r) ∧ Hid (CB w hv tb cs w') := by
  rw [← hr.out]
  refine (rapp_any G tv us key value wx ht.out hl ho.out).mono ?_
  rintro e w' ⟨rfl, hb⟩
  exact ⟨rfl, h.out.keep hb⟩
theorem mayopC {F : Nat → Prop} {o : OpM} {rd b : Bool} {lv : Value} (h : Hid (CB w hv tb cs wx)) (hrd : Hid (o.read = rd)) (hi : Hid (IntsAt F wx lv o.list)) (hl : o.list.length ≤ 1000000) (hb : Hid (mayOpB o = b)) :
    Calls Try.prog 27 #[.agg #[.bool rd, .int .i64 o.key, .int .i64 o.value, lv]] wx fun e w' => e = .returned (.bool b) ∧ Hid (CB w hv tb cs w') := by
  rw [← hb.out]
  refine (rmayop_any F o rd lv wx hrd.out hi.out hl).mono ?_
  rintro e w' ⟨rfl, h2⟩
  exact ⟨rfl, h.out.keep h2⟩
end
/-- Behind k transactions without an error. -/
def RcRel (w : World) (hv : Value) (ts : List TxnM) (i : Value) (wr : World) : Prop :=
  ∃ k : Nat, k ≤ ts.length ∧ i = .int .i64 (k : Int) ∧ Hid (chkTs [] (ts.take k) = 0) ∧ Hid (Below w.heap.size w wr) ∧ Hid (Is wr w.heap.size #[hv])
def TwRel (w : World) (hv : Value) (tb : Nat) (cs : Array Value) (ts : List TxnM) (k : Nat) (id : Int) (i : Value) (wr : World) : Prop :=
  ∃ j : Nat, j ≤ k ∧ i = .int .i64 (j : Int) ∧ Hid (twinB (ts.take j) id = false) ∧ Hid (CB w hv tb cs wr)
def OcRel (w : World) (hv : Value) (tb : Nat) (cs : Array Value) (pre : List TxnM) (t : TxnM) (i : Value) (wr : World) : Prop :=
  ∃ j : Nat, j ≤ t.ops.length ∧ i = .int .i64 (j : Int) ∧ Hid (chkOs (pre ++ [⟨t.id, t.ab, []⟩]) (t.ops.take j) = 0) ∧ Hid (CB w hv tb cs wr)
theorem twinB_take {ts : List TxnM} {j : Nat} {id : Int} (h : j < ts.length) : twinB (ts.take (j + 1)) id = (twinB (ts.take j) id || ts[j].id == id) := any_take h
set_option maxRecDepth 20000 in
set_option maxHeartbeats 2000000 in
theorem rcheck_any (F : Nat → Prop) (v : Value) (ts : List TxnM) (w : World) (h : TxnsAt F w v ts) (hF : ∀ b, F b → b < w.heap.size) (hf : Few4 ts) :
    Calls Try.prog 12 #[.agg #[v]] w fun e w' => e = .returned (.int .i64 (checkS ts)) ∧ Below w.heap.size w w' := by
  obtain ⟨a, c, rfl, _, _⟩ := h.shape
  have H := hide h
  have FF := hide hF
  have FW := hide hf
  have hlen := hf.1
  have hops := hf.2.1
  clear h hf hF
  by_cases h1 : 1024 < ts.length
  · have h1' : (1024 : Int) < (ts.length : Int) := by omega
    have T : Hid (checkS ts = 3) := hide (by unfold checkS; rw [if_pos (.inl h1)])
    clear h1
    go_enter Try.func12, Try.ntmps12
    go_wp2
    go_ret
    exact ⟨by rw [T.out]; rfl, (Below.refl _ _).alloc (Nat.le_refl _) _⟩
  have h1' : ¬ (1024 : Int) < (ts.length : Int) := by omega
  obtain ⟨no, hno⟩ : ∃ no, (opsN ts : Int) = no := ⟨_, rfl⟩
  have EO := hide hno
  by_cases h2 : 4096 < opsN ts
  · have h2' : (4096 : Int) < no := by omega
    have T : Hid (checkS ts = 3) := hide (by unfold checkS; rw [if_pos (.inr h2)])
    clear h1 h2 hno
    go_enter Try.func12, Try.ntmps12
    go_wp2_with (first | (go_at_call 25; go_must ((with_reducible refine (rops_any F _ ts _ (H.out.keep ((Below.refl _ _).alloc (Nat.le_refl _) _)) (by omega) (by omega)).mono ?_); rw [EO.out]; rintro e w1 ⟨rfl, hb1⟩; have HB1 := hide (((Below.refl _ _).alloc (Nat.le_refl _) _).trans (hb1.mono (by simp))); have s1 := (Is.made w #[.slice a ts.length c] 24 rfl).below hb1; have S1 := hide s1; have x1 : w1.cell? ⟨w.heap.size, 0, none⟩ = some (.slice a ts.length c) := s1.cell 0 rfl; have z1 := s1.lt; clear s1 hb1)))
    go_ret
    exact ⟨by rw [T.out]; rfl, HB1.out⟩
  have h2' : ¬ (4096 : Int) < no := by omega
  have T0 : Hid (checkS ts = if chkTs [] ts ≠ 0 then chkTs [] ts else if 262144 < (textH ts).length then 3 else 0) := hide (by unfold checkS; rw [if_neg (by omega)])
  have LEN : Hid (ts.length ≤ 1024 ∧ opsN ts ≤ 4096) := hide ⟨by omega, by omega⟩
  clear h1 h2 hno
  go_enter Try.func12, Try.ntmps12
  go_wp2_with (first | (go_at_call 25; go_must ((with_reducible refine (rops_any F _ ts _ (H.out.keep ((Below.refl _ _).alloc (Nat.le_refl _) _)) (by omega) (by omega)).mono ?_); rw [EO.out]; rintro e w1 ⟨rfl, hb1⟩; have HB1 := hide (((Below.refl _ _).alloc (Nat.le_refl _) _).trans (hb1.mono (by simp))); have s1 := (Is.made w #[.slice a ts.length c] 24 rfl).below hb1; have S1 := hide s1; have x1 : w1.cell? ⟨w.heap.size, 0, none⟩ = some (.slice a ts.length c) := s1.cell 0 rfl; have z1 := s1.lt; clear s1 hb1)))
  go_loopw [3] (fun i wr => RcRel w (.slice a ts.length c) ts i wr) (fun i _ => ts.length - (intOf i).toNat)
  case atStart => exact ⟨0, by omega, rfl, hide rfl, HB1, S1⟩
  case round =>
    obtain ⟨k, hk, rfl, hc0, hB, hS⟩ := hrel
    obtain ⟨W, hW⟩ : ∃ W, W = wr := ⟨_, rfl⟩
    subst hW
    have hx : W.cell? ⟨w.heap.size, 0, none⟩ = some (.slice a ts.length c) := hS.out.cell 0 rfl
    have hz := hB.out.size
    have hzl := hS.out.lt
    by_cases hlt : k < ts.length
    · obtain ⟨b1, o1, l1, q1, rfl, _, hb1, c0', c1', c2', hi1, _⟩ := H.out.at hlt
      have c0 := (hB.out.cell (p := ⟨b1, o1 + k * 3, none⟩) hb1).trans c0'
      have c1 := (hB.out.cell (p := ⟨b1, o1 + k * 3 + 1, none⟩) hb1).trans c1'
      have c2 := (hB.out.cell (p := ⟨b1, o1 + k * 3 + 2, none⟩) hb1).trans c2'
      have HO : Hid (OpsAt F w (.slice l1 ts[k].ops.length q1) ts[k].ops) := hi1
      have FO := hide (FW.out.2.2 _ (List.getElem_mem hlt))
      have hol0 := (FW.out.2.2 _ (List.getElem_mem hlt)).1
      have HT := hide (chkTs_next hlt hc0.out)
      have HC0 : Hid (CB w (.slice (some ⟨b1, o1, none⟩) ts.length c) W.heap.size #[.int .i64 ts[k].id, .bool ts[k].ab, .slice l1 ts[k].ops.length q1] (W.alloc (.cells #[.int .i64 ts[k].id, .bool ts[k].ab, .slice l1 ts[k].ops.length q1] 48))) :=
        hide ⟨hB.out.alloc hB.out.size _, hS.out.alloc _, Is.made W _ _ rfl⟩
      have HSTOP : Hid (∀ e : Int, chkT (ts.take k) ts[k] = e → e ≠ 0 → checkS ts = e) := hide (fun e he e0 => by have q := chkTs_stop (HT.out.trans he) e0; rw [T0.out, q, if_pos e0])
      clear c0' c1' c2' hi1
      obtain ⟨bm, hbm⟩ : ∃ b, mayB ts[k].id = b := ⟨_, rfl⟩
      have BM := hide hbm
      cases bm with
      | false =>
        have T : Hid (checkS ts = 2) := hide (HSTOP.out 2 (by unfold chkT; rw [if_pos hbm]) (by decide))
        clear hbm
        go_wp2_with (first | (go_at_call 26; (with_reducible refine (rmay_any ts[k].id _).mono ?_); rw [BM.out]; rintro e w2 ⟨rfl, hq⟩; replace hq := hq.symm; subst hq))
        go_ret
        exact ⟨by rw [T.out]; rfl, HC0.out.below⟩
      | true =>
      have HT1 : Hid (chkT (ts.take k) ts[k] = if twinB (ts.take k) ts[k].id = true then 5 else chkOs (ts.take k ++ [⟨ts[k].id, ts[k].ab, []⟩]) ts[k].ops) := hide (by unfold chkT; rw [if_neg (by simp [hbm])])
      clear hbm
      go_wp2_with (first | (go_at_call 26; (with_reducible refine (rmay_any ts[k].id _).mono ?_); rw [BM.out]; rintro e w2 ⟨rfl, hq⟩; replace hq := hq.symm; subst hq))
      go_loopw [5] (fun i wr' => TwRel w (.slice (some ⟨b1, o1, none⟩) ts.length c) W.heap.size #[.int .i64 ts[k].id, .bool ts[k].ab, .slice l1 ts[k].ops.length q1] ts k ts[k].id i wr') (fun i _ => k - (intOf i).toNat)
      case atStart => exact ⟨0, by omega, rfl, hide rfl, HC0⟩
      case round =>
        obtain ⟨j, hj, rfl, ht0, hC⟩ := hrel
        have y0 : wr.cell? ⟨w.heap.size, 0, none⟩ = some (.slice (some ⟨b1, o1, none⟩) ts.length c) := hC.out.hist.cell 0 rfl
        have t0 : wr.cell? ⟨_, 0, none⟩ = some (.int .i64 ts[k].id) := hC.out.box.cell 0 rfl
        by_cases hltj : j < k
        · have hjl : j < ts.length := by omega
          obtain ⟨b1', o1', _, _, e, _, _, g0', _, _, _, _⟩ := H.out.at hjl
          simp at e
          obtain ⟨rfl, rfl⟩ := e
          have g0 := (hC.out.below.cell (p := ⟨b1, o1 + j * 3, none⟩) hb1).trans g0'
          clear g0'
          by_cases he : (ts[j].id == ts[k].id) = true
          · have T : Hid (checkS ts = 5) := hide (HSTOP.out 5 (by rw [HT1.out, if_pos (show twinB (ts.take k) ts[k].id = true from any_at (l := ts.take k) (k := j) (p := fun t : TxnM => t.id == ts[k].id) (by rw [List.length_take]; omega) (by rw [List.getElem_take]; exact he))]) (by decide))
            go_wp2
            go_quiet (fail)
            go_wp2
            go_ret
            exact ⟨by rw [T.out]; rfl, hC.out.below.drewN _⟩
          · have he' : (ts[j].id == ts[k].id) = false := by simpa using he
            have T : Hid (twinB (ts.take (j + 1)) ts[k].id = false) := hide (by rw [twinB_take hjl, ht0.out, he']; rfl)
            clear he
            go_wp2
            go_quiet (fail)
            go_wp2
            go_roundw
            case rel => exact ⟨j + 1, by omega, by go_num, T, hide (hC.out.keep ((Below.refl _ _).drewN _))⟩
            case measure => simp [intOf]; omega
        · have e : j = k := by omega
          subst e
          have HT2 : Hid (chkT (ts.take j) ts[j] = chkOs (ts.take j ++ [⟨ts[j].id, ts[j].ab, []⟩]) ts[j].ops) := hide (by rw [HT1.out, if_neg (by rw [ht0.out]; simp)])
          go_wp2
          go_loopw [6] (fun i wr' => OcRel w (.slice (some ⟨b1, o1, none⟩) ts.length c) W.heap.size #[.int .i64 ts[j].id, .bool ts[j].ab, .slice l1 ts[j].ops.length q1] (ts.take j) ts[j] i wr') (fun i _ => ts[j].ops.length - (intOf i).toNat)
          case atStart => exact ⟨0, by omega, rfl, hide rfl, hC⟩
          case round =>
            obtain ⟨i, hi, rfl, hco, hD⟩ := hrel
            have t2 : wr.cell? ⟨_, 2, none⟩ = some (.slice l1 ts[j].ops.length q1) := hD.out.box.cell 2 rfl
            by_cases hlt2 : i < ts[j].ops.length
            · obtain ⟨b3, o3, l3, q3, rfl, _, hb3, e0', e1', e2', e3', hi3, _⟩ := HO.out.at hlt2
              have e0 := (hD.out.below.cell (p := ⟨b3, o3 + i * 4, none⟩) hb3).trans e0'
              have e1 := (hD.out.below.cell (p := ⟨b3, o3 + i * 4 + 1, none⟩) hb3).trans e1'
              have e2 := (hD.out.below.cell (p := ⟨b3, o3 + i * 4 + 2, none⟩) hb3).trans e2'
              have e3 := (hD.out.below.cell (p := ⟨b3, o3 + i * 4 + 3, none⟩) hb3).trans e3'
              have HI := hide (hi3.keep hD.out.below)
              have hol := FO.out.at hlt2
              have HTO := hide (chkOs_next hlt2 hco.out)
              have HST2 : Hid (∀ e : Int, chkO (ts.take j ++ [⟨ts[j].id, ts[j].ab, ts[j].ops.take i⟩]) ts[j].ops[i] = e → e ≠ 0 → checkS ts = e) := hide (fun e he e0 => HSTOP.out e (by rw [HT2.out]; exact chkOs_stop (HTO.out.trans he) e0) e0)
              clear e0' e1' e2' e3' hi3
              obtain ⟨rd, hrd⟩ : ∃ b, ts[j].ops[i].read = b := ⟨_, rfl⟩
              rw [hrd] at e0
              have HRD := hide hrd
              obtain ⟨bo, hbo⟩ : ∃ b, mayOpB ts[j].ops[i] = b := ⟨_, rfl⟩
              have BO := hide hbo
              cases bo with
              | false =>
                have T : Hid (checkS ts = 2) := hide (HST2.out 2 (by unfold chkO; rw [if_pos hbo]) (by decide))
                clear hbo hrd
                go_wp2_with (first | (go_at_call 27; go_must ((with_reducible refine (mayopC hD HRD HI hol BO).mono ?_); rintro e' w3 ⟨rfl, HE⟩; have y3 : w3.cell? ⟨w.heap.size, 0, none⟩ = some (.slice (some ⟨b1, o1, none⟩) ts.length c) := HE.out.hist.cell 0 rfl; have t3 : w3.cell? ⟨_, 2, none⟩ = some (.slice (some ⟨b3, o3, none⟩) ts[j].ops.length q1) := HE.out.box.cell 2 rfl; have f0 := (HE.out.below.cell (p := ⟨b3, o3 + i * 4, none⟩) hb3).trans ((hD.out.below.cell (p := ⟨b3, o3 + i * 4, none⟩) hb3).symm.trans e0); have f1 := (HE.out.below.cell (p := ⟨b3, o3 + i * 4 + 1, none⟩) hb3).trans ((hD.out.below.cell (p := ⟨b3, o3 + i * 4 + 1, none⟩) hb3).symm.trans e1); have f2 := (HE.out.below.cell (p := ⟨b3, o3 + i * 4 + 2, none⟩) hb3).trans ((hD.out.below.cell (p := ⟨b3, o3 + i * 4 + 2, none⟩) hb3).symm.trans e2); have HED := hide (HE.out.keep (Below.refl _ _).drew))))
                go_ret
                exact ⟨by rw [T.out]; rfl, HE.out.below⟩
              | true =>
              cases rd with
              | true =>
                have T : Hid (chkOs (ts.take j ++ [⟨ts[j].id, ts[j].ab, []⟩]) (ts[j].ops.take (i + 1)) = 0) := hide (by rw [HTO.out]; unfold chkO; rw [if_neg (by simp [hbo]), if_neg (by simp [hrd])])
                clear hbo hrd
                go_wp2_with (first | (go_at_call 27; go_must ((with_reducible refine (mayopC hD HRD HI hol BO).mono ?_); rintro e' w3 ⟨rfl, HE⟩; have y3 : w3.cell? ⟨w.heap.size, 0, none⟩ = some (.slice (some ⟨b1, o1, none⟩) ts.length c) := HE.out.hist.cell 0 rfl; have t3 : w3.cell? ⟨_, 2, none⟩ = some (.slice (some ⟨b3, o3, none⟩) ts[j].ops.length q1) := HE.out.box.cell 2 rfl; have f0 := (HE.out.below.cell (p := ⟨b3, o3 + i * 4, none⟩) hb3).trans ((hD.out.below.cell (p := ⟨b3, o3 + i * 4, none⟩) hb3).symm.trans e0); have f1 := (HE.out.below.cell (p := ⟨b3, o3 + i * 4 + 1, none⟩) hb3).trans ((hD.out.below.cell (p := ⟨b3, o3 + i * 4 + 1, none⟩) hb3).symm.trans e1); have f2 := (HE.out.below.cell (p := ⟨b3, o3 + i * 4 + 2, none⟩) hb3).trans ((hD.out.below.cell (p := ⟨b3, o3 + i * 4 + 2, none⟩) hb3).symm.trans e2); have HED := hide (HE.out.keep (Below.refl _ _).drew))))
                go_quiet (fail)
                go_wp2
                go_roundw
                case rel => exact ⟨i + 1, by omega, by go_num, T, hide (HE.out.keep ((Below.refl _ _).drewN _))⟩
                case measure => simp [intOf]; omega
              | false =>
                obtain ⟨ba, hba⟩ : ∃ b, appB (ts.take j ++ [⟨ts[j].id, ts[j].ab, ts[j].ops.take i⟩]) ts[j].ops[i].key ts[j].ops[i].value = b := ⟨_, rfl⟩
                have BA := hide hba
                have hTL : (ts.take j ++ [(⟨ts[j].id, ts[j].ab, ts[j].ops.take i⟩ : TxnM)]).length ≤ 1000000 := by simp; omega
                have HTO2 : Hid (∀ t ∈ ts.take j ++ [(⟨ts[j].id, ts[j].ab, ts[j].ops.take i⟩ : TxnM)], t.ops.length ≤ 1000000) := hide (fun t ht => by
                  rcases List.mem_append.1 ht with q | q
                  · have := (FW.out.2.2 t (List.mem_of_mem_take q)).1; omega
                  · obtain rfl := List.mem_singleton.1 q
                    simp; omega)
                cases ba with
                | true =>
                  have T : Hid (checkS ts = 6) := hide (HST2.out 6 (by unfold chkO; rw [if_neg (by simp [hbo]), if_pos ⟨hrd, hba⟩]) (by decide))
                  clear hbo hrd hba
                  go_wp2_with (first | (go_at_call 27; go_must ((with_reducible refine (mayopC hD HRD HI hol BO).mono ?_); rintro e' w3 ⟨rfl, HE⟩; have y3 : w3.cell? ⟨w.heap.size, 0, none⟩ = some (.slice (some ⟨b1, o1, none⟩) ts.length c) := HE.out.hist.cell 0 rfl; have t3 : w3.cell? ⟨_, 2, none⟩ = some (.slice (some ⟨b3, o3, none⟩) ts[j].ops.length q1) := HE.out.box.cell 2 rfl; have f0 := (HE.out.below.cell (p := ⟨b3, o3 + i * 4, none⟩) hb3).trans ((hD.out.below.cell (p := ⟨b3, o3 + i * 4, none⟩) hb3).symm.trans e0); have f1 := (HE.out.below.cell (p := ⟨b3, o3 + i * 4 + 1, none⟩) hb3).trans ((hD.out.below.cell (p := ⟨b3, o3 + i * 4 + 1, none⟩) hb3).symm.trans e1); have f2 := (HE.out.below.cell (p := ⟨b3, o3 + i * 4 + 2, none⟩) hb3).trans ((hD.out.below.cell (p := ⟨b3, o3 + i * 4 + 2, none⟩) hb3).symm.trans e2); have HED := hide (HE.out.keep (Below.refl _ _).drew))))
                  go_region_held3 (fun w' => w'.cell? ⟨w.heap.size, 0, none⟩ = some (.slice (some ⟨b1, o1, none⟩) ts.length c) ∧ w'.cell? ⟨W.heap.size, 2, none⟩ = some (.slice (some ⟨b3, o3, none⟩) ts[j].ops.length q1) ∧ w'.cell? ⟨b3, o3 + i * 4, none⟩ = some (.bool false) ∧ w'.cell? ⟨b3, o3 + i * 4 + 1, none⟩ = some (.int .i64 ts[j].ops[i].key) ∧ w'.cell? ⟨b3, o3 + i * 4 + 2, none⟩ = some (.int .i64 ts[j].ops[i].value)) (first | assumption | go_keep)
                    (first
                      | (go_at_call 29; (with_reducible refine (earlierC (by assumption) H FF hlt hlt2 hlen hol0).mono ?_); rintro e' wx ⟨tv, rfl, HX, HTV⟩; have f0 := (HX.out.below.cell (p := ⟨b3, o3 + i * 4, none⟩) hb3).trans ((hD.out.below.cell (p := ⟨b3, o3 + i * 4, none⟩) hb3).symm.trans e0); have f1 := (HX.out.below.cell (p := ⟨b3, o3 + i * 4 + 1, none⟩) hb3).trans ((hD.out.below.cell (p := ⟨b3, o3 + i * 4 + 1, none⟩) hb3).symm.trans e1); have f2 := (HX.out.below.cell (p := ⟨b3, o3 + i * 4 + 2, none⟩) hb3).trans ((hD.out.below.cell (p := ⟨b3, o3 + i * 4 + 2, none⟩) hb3).symm.trans e2); have y3 := Is.cell HX.out.hist 0 rfl; have t3 := Is.cell HX.out.box 2 rfl)
                      | (go_at_call 28; (with_reducible refine (appC (by assumption) HTV hTL HTO2 BA).mono ?_); rintro e' wx ⟨rfl, HX⟩; have f0 := (HX.out.below.cell (p := ⟨b3, o3 + i * 4, none⟩) hb3).trans ((hD.out.below.cell (p := ⟨b3, o3 + i * 4, none⟩) hb3).symm.trans e0); have f1 := (HX.out.below.cell (p := ⟨b3, o3 + i * 4 + 1, none⟩) hb3).trans ((hD.out.below.cell (p := ⟨b3, o3 + i * 4 + 1, none⟩) hb3).symm.trans e1); have f2 := (HX.out.below.cell (p := ⟨b3, o3 + i * 4 + 2, none⟩) hb3).trans ((hD.out.below.cell (p := ⟨b3, o3 + i * 4 + 2, none⟩) hb3).symm.trans e2); have y3 := Is.cell HX.out.hist 0 rfl; have t3 := Is.cell HX.out.box 2 rfl))
                  go_wp2
                  go_ret
                  exact ⟨by rw [T.out]; rfl, HX.out.below⟩
                | false =>
                  have T : Hid (chkOs (ts.take j ++ [⟨ts[j].id, ts[j].ab, []⟩]) (ts[j].ops.take (i + 1)) = 0) := hide (by rw [HTO.out]; unfold chkO; rw [if_neg (by simp [hbo]), if_neg (by simp [hba])])
                  clear hbo hrd hba
                  go_wp2_with (first | (go_at_call 27; go_must ((with_reducible refine (mayopC hD HRD HI hol BO).mono ?_); rintro e' w3 ⟨rfl, HE⟩; have y3 : w3.cell? ⟨w.heap.size, 0, none⟩ = some (.slice (some ⟨b1, o1, none⟩) ts.length c) := HE.out.hist.cell 0 rfl; have t3 : w3.cell? ⟨_, 2, none⟩ = some (.slice (some ⟨b3, o3, none⟩) ts[j].ops.length q1) := HE.out.box.cell 2 rfl; have f0 := (HE.out.below.cell (p := ⟨b3, o3 + i * 4, none⟩) hb3).trans ((hD.out.below.cell (p := ⟨b3, o3 + i * 4, none⟩) hb3).symm.trans e0); have f1 := (HE.out.below.cell (p := ⟨b3, o3 + i * 4 + 1, none⟩) hb3).trans ((hD.out.below.cell (p := ⟨b3, o3 + i * 4 + 1, none⟩) hb3).symm.trans e1); have f2 := (HE.out.below.cell (p := ⟨b3, o3 + i * 4 + 2, none⟩) hb3).trans ((hD.out.below.cell (p := ⟨b3, o3 + i * 4 + 2, none⟩) hb3).symm.trans e2); have HED := hide (HE.out.keep (Below.refl _ _).drew))))
                  go_region_held3 (fun w' => w'.cell? ⟨w.heap.size, 0, none⟩ = some (.slice (some ⟨b1, o1, none⟩) ts.length c) ∧ w'.cell? ⟨W.heap.size, 2, none⟩ = some (.slice (some ⟨b3, o3, none⟩) ts[j].ops.length q1) ∧ w'.cell? ⟨b3, o3 + i * 4, none⟩ = some (.bool false) ∧ w'.cell? ⟨b3, o3 + i * 4 + 1, none⟩ = some (.int .i64 ts[j].ops[i].key) ∧ w'.cell? ⟨b3, o3 + i * 4 + 2, none⟩ = some (.int .i64 ts[j].ops[i].value)) (first | assumption | go_keep)
                    (first
                      | (go_at_call 29; (with_reducible refine (earlierC (by assumption) H FF hlt hlt2 hlen hol0).mono ?_); rintro e' wx ⟨tv, rfl, HX, HTV⟩; have f0 := (HX.out.below.cell (p := ⟨b3, o3 + i * 4, none⟩) hb3).trans ((hD.out.below.cell (p := ⟨b3, o3 + i * 4, none⟩) hb3).symm.trans e0); have f1 := (HX.out.below.cell (p := ⟨b3, o3 + i * 4 + 1, none⟩) hb3).trans ((hD.out.below.cell (p := ⟨b3, o3 + i * 4 + 1, none⟩) hb3).symm.trans e1); have f2 := (HX.out.below.cell (p := ⟨b3, o3 + i * 4 + 2, none⟩) hb3).trans ((hD.out.below.cell (p := ⟨b3, o3 + i * 4 + 2, none⟩) hb3).symm.trans e2); have y3 := Is.cell HX.out.hist 0 rfl; have t3 := Is.cell HX.out.box 2 rfl)
                      | (go_at_call 28; (with_reducible refine (appC (by assumption) HTV hTL HTO2 BA).mono ?_); rintro e' wx ⟨rfl, HX⟩; have f0 := (HX.out.below.cell (p := ⟨b3, o3 + i * 4, none⟩) hb3).trans ((hD.out.below.cell (p := ⟨b3, o3 + i * 4, none⟩) hb3).symm.trans e0); have f1 := (HX.out.below.cell (p := ⟨b3, o3 + i * 4 + 1, none⟩) hb3).trans ((hD.out.below.cell (p := ⟨b3, o3 + i * 4 + 1, none⟩) hb3).symm.trans e1); have f2 := (HX.out.below.cell (p := ⟨b3, o3 + i * 4 + 2, none⟩) hb3).trans ((hD.out.below.cell (p := ⟨b3, o3 + i * 4 + 2, none⟩) hb3).symm.trans e2); have y3 := Is.cell HX.out.hist 0 rfl; have t3 := Is.cell HX.out.box 2 rfl))
                  go_wp2
                  go_roundw
                  case rel => exact ⟨i + 1, by omega, by go_num, T, HX⟩
                  case measure => simp [intOf]; omega
            · have e : i = ts[j].ops.length := by omega
              subst e
              have T : Hid (chkTs [] (ts.take (j + 1)) = 0) := hide (by have q := hco.out; rw [List.take_length] at q; rw [HT.out, HT2.out, q])
              have BB := hide hD.out.below
              have SS := hide hD.out.hist
              go_wp2
              go_roundw
              case rel => exact ⟨j + 1, by omega, by go_num, T, BB, SS⟩
              case measure => simp [intOf]; omega
    · have e : k = ts.length := by omega
      subst e
      have q0 := hc0.out
      rw [List.take_length] at q0
      have hM : MayAll ts := valid_may (by have := chkTs_valid ts [] Valid.nil (by simp; exact LEN.out.1) q0; simpa using this)
      have MM := hide hM
      obtain ⟨L, hL⟩ : ∃ L, textH8 ts = L := ⟨_, rfl⟩
      have EL := hide hL
      have HLN : Hid ((textH ts).length = L.length) := hide (by rw [← textH8_len, hL])
      by_cases h3 : 262144 < (L.length : Int)
      · have T : Hid (checkS ts = 3) := hide (by rw [T0.out, q0, if_neg (by simp), if_pos (by have := HLN.out; omega)])
        clear q0 hM hL
        go_wp2_with (first | (go_at_call 17; go_must ((with_reducible refine (rtext_any F _ ts _ (H.out.keep hB.out) FW.out MM.out).mono ?_); rw [EL.out]; rintro e' w9 ⟨rfl, hb9⟩; have HB9 := hide (hB.out.trans (hb9.mono hB.out.size)); clear hb9)))
        go_ret
        exact ⟨by rw [T.out]; rfl, HB9.out⟩
      · have T : Hid (checkS ts = 0) := hide (by rw [T0.out, q0, if_neg (by simp), if_neg (by have := HLN.out; omega)])
        clear q0 hM hL
        go_wp2_with (first | (go_at_call 17; go_must ((with_reducible refine (rtext_any F _ ts _ (H.out.keep hB.out) FW.out MM.out).mono ?_); rw [EL.out]; rintro e' w9 ⟨rfl, hb9⟩; have HB9 := hide (hB.out.trans (hb9.mono hB.out.size)); clear hb9)))
        go_ret
        exact ⟨by rw [T.out]; rfl, HB9.out⟩
end Go.Proofs.Ytigmgkcojifbcaa.Hist
