/- MergeRows, walked. -/
import Derived.Test.YtkjdjmcecjaolaaAll12
import Derived.Test.YtkjdjmcecjaolaaAll10
namespace Go.Proofs.Ytkjdjmcecjaolaa.Walk
open Go.RowKit Go.Proofs.Ytkjdjmcecjaolaa.Dig Go.Proofs.Ytkjdjmcecjaolaa.Mem Go.Proofs.Ytkjdjmcecjaolaa.Dq Go.Proofs.Ytkjdjmcecjaolaa.Thing Go.Proofs.Ytkjdjmcecjaolaa.Pick Go.Proofs.Ytkjdjmcecjaolaa.Mrg Go.Proofs.Ytkjdjmcecjaolaa.Own Go.Proofs.Ytkjdjmcecjaolaa.Sets
set_option linter.unusedVariables false
set_option linter.unusedSimpArgs false

theorem up_of_adj {l : List Int} (h : ∀ t, 1 ≤ t → t < l.length → l.getD (t - 1) 0 ≤ l.getD t 0) : UpL l := by
  have H : ∀ d i, i + d < l.length → l.getD i 0 ≤ l.getD (i + d) 0 := by
    intro d
    induction d with
    | zero => intro i _; exact Int.le_refl _
    | succ d ih =>
      intro i hi
      have h1 := ih i (by omega)
      have h2 := h (i + d + 1) (by omega) (by omega)
      rw [show i + d + 1 - 1 = i + d by omega] at h2
      rw [show i + (d + 1) = i + d + 1 by omega]
      omega
  unfold UpL
  rw [List.pairwise_iff_getElem]
  intro i j hi hj hij
  have := H (j - i) i (by omega)
  rw [show i + (j - i) = j by omega, List.getD_eq_getElem?_getD, List.getD_eq_getElem?_getD, List.getElem?_eq_getElem hi, List.getElem?_eq_getElem hj] at this
  exact this
theorem cnt_flat (ls : List (List Int)) : ls.flatten.length = cnt ls := by
  unfold cnt
  rw [List.length_flatten]
theorem flat_succ {ls : List (List Int)} {k : Nat} (h : k < ls.length) : (ls.take (k + 1)).flatten = (ls.take k).flatten ++ ls.getD k [] := by
  rw [List.take_add_one, List.flatten_append, List.getD_eq_getElem?_getD, List.getElem?_eq_getElem h]
  simp
def MrR (w : World) (n : Nat) (ls : List (List Int)) (oa : Option Addr) (oc : Nat) (M : List Int) (i v : Value) (wr : World) : Prop := ∃ k : Nat, k ≤ n ∧ i = .int .i64 (k : Int) ∧ Hid (∀ j, j < k → UpL (ls.getD j [])) ∧ Hid (Kn w [ownN w.heap.size 3 1 v (ls.take k).flatten.length ((ls.take k).flatten.map (Value.int .i64)), rowT oa oc M] wr)
set_option maxHeartbeats 4000000 in
set_option maxRecDepth 20000 in
theorem walk_mergeRows (w : World) (a : Option Addr) (n p : Nat) (ls : List (List Int)) (hls : ListsAt (fun b => b < w.heap.size) w (.slice a n p) ls) :
    Calls Try.prog 5 #[.slice a n p] w fun e w' => e = .returned (.bool true) ∧ Below w.heap.size w w' := by
  obtain ⟨i0, hi, hz0, hz1, hz2⟩ := info_parts Own.Try.infoI
  have HF := hide (few_any hls)
  cases hf : fewL ls with
  | false =>
    rw [hf] at HF
    clear hls hf
    go_enter Try.func5, Try.ntmps5
    go_wp2_with (first
      | (go_at_call 8; go_must ((with_reducible refine (Hid.out HF).mono ?_); rintro e w1 ⟨rfl, rfl⟩))
      | (go_at_call 9; go_must ((with_reducible refine (works_any _).mono ?_); rintro e w2 ⟨rfl, hb2⟩)))
    go_ret
    exact ⟨rfl, hb2⟩
  | true =>
    rw [hf] at HF
    obtain ⟨q1, q2, q3, q4, q5⟩ := few_rows hls hf
    have HRS := hide (rows_any q2 q1 (by omega) (by omega))
    have HRR : Hid (∀ W, Below w.heap.size w W → _) := hide (fun W hW => rrows_any (q2.keep hW) q1 (by omega) (by omega))
    have HW := hide (fun W => works_any W)
    have HUP : Hid ((∀ j, j < n → UpL (ls.getD j [])) → mixL ls = setL ltI ls.flatten) := hide (fun h => mixL_up (fun l hl => by
      obtain ⟨j, hj⟩ := List.getElem?_of_mem hl
      have := h j (by rw [q1]; exact (List.getElem?_eq_some_iff.1 hj).1)
      rw [List.getD_eq_getElem?_getD, hj] at this
      exact this))
    have HR := hide q2
    have HN := hide q1
    have hn20 : n ≤ 20 := q3
    have H40 : Hid (∀ j, (ls.getD j []).length ≤ 40) := hide (fun j => by
      by_cases hj : j < ls.length
      · exact q4 _ (by rw [List.getD_eq_getElem?_getD, List.getElem?_eq_getElem hj]; exact List.getElem_mem _)
      · rw [List.getD_eq_getElem?_getD, List.getElem?_eq_none (by omega)]; simp)
    have HCN : Hid (cnt ls ≤ 800) := hide q5
    obtain ⟨M, hM⟩ : ∃ M, M = mixL ls := ⟨_, rfl⟩
    rw [← hM] at HRS HRR HUP
    have hnp : n ≤ p := by rw [q1]; exact q2.cap
    clear hls hf q1 q2 q3 q4 q5 hM
    go_enter Try.func5, Try.ntmps5
    go_upto_region 6 with (first
      | (go_at_call 8; go_must ((with_reducible refine (Hid.out HF).mono ?_); rintro e w1 ⟨rfl, hq⟩; replace hq := hq.symm; subst hq; clear HF))
      | (go_at_call 21; go_must ((with_reducible refine (Hid.out HRS).mono ?_); rintro e w2 ⟨oa, oc, rfl, HO, hb2⟩; have HB2 := hide hb2; have HRR2 := hide (HRR.out w2 hb2); clear HRS hb2 HRR))
      | (go_at_call 20; go_must ((with_reducible refine (Hid.out HRR2).mono ?_); rintro e w3 ⟨ob, on, od, rfl, HO3, hb3⟩; have HB3 := hide hb3; have HSM := hide (same_z (t := true) (HO.out.1.keep hb3) HO3.out.2.1 rfl HO3.out.1 (by simp)); clear hb3 HRR2))
      | (go_at_call 14; go_must ((with_reducible refine (Hid.out HSM).mono ?_); rintro e w4 ⟨rfl, hb4⟩; have HB4 := hide hb4; clear hb4 HSM)))
    have M0 : Hid (MrR w n ls oa oc M (.int .i64 0) (.slice none 0 0) w4) := hide ⟨0, Nat.zero_le _, rfl, hide (fun j hj => by omega), hide (by
      have k1 := (Kn.start w).more (t' := rowT oa oc M) HB2.out HO.out.1 (fun k hk => by obtain ⟨_, x, e, rfl⟩ := hk; exact HO.out.2 x e)
      exact ownNil ((k1.keep HB3.out).keep HB4.out) _ _ _)⟩
    obtain ⟨om, hom⟩ : ∃ om, om = M.length := ⟨_, rfl⟩
    have HOM := hide hom
    rw [← hom]
    clear HO HO3 HB2 HB3 HB4 hom
    go_wp2
    go_loopw [5, 4] (fun i v wr => MrR w n ls oa oc M i v wr) (fun i _ _ => n - (intOf i).toNat)
    case atStart => exact M0.out
    case round =>
      obtain ⟨k, hk, rfl, HU, K⟩ := hrel
      obtain ⟨va, vc, e⟩ := Own.own_form K.out.hd
      subst e
      obtain ⟨m, hm⟩ : ∃ m, m = (ls.take k).flatten.length := ⟨_, rfl⟩
      have HM := hide hm
      rw [← hm] at K ⊢
      have hmb : m ≤ 800 := by have h1 := HCN.out; have h2 := cnt_take_le ls k; rw [hm, cnt_flat]; omega
      have hmc : m ≤ vc := (own_cap K.out.hd).1
      clear hm M0
      by_cases hlt : k < n
      · have HR' := hide (HR.out.keep K.out.below)
        obtain ⟨b, off, la, lc, rfl, hc, hrow⟩ := HR'.out.at_ k (by rw [← HN.out]; exact hlt)
        have hki : (k : Int) < n := by omega
        have HROW := hide hrow
        obtain ⟨R, hRR⟩ : ∃ R, R = ls.getD k [] := ⟨_, rfl⟩
        have HRR := hide hRR
        rw [← hRR] at hc HROW
        have h40 := H40.out k
        rw [← hRR] at h40
        obtain ⟨ln, hln⟩ : ∃ ln, ln = R.length := ⟨_, rfl⟩
        have HLN := hide hln
        rw [← hln] at hc h40
        have hlc : ln ≤ lc := by rw [hln]; exact HROW.out.cap
        clear hrow hRR hln
        obtain ⟨W1, hW1⟩ : ∃ W1, W1 = wr := ⟨_, rfl⟩
        subst hW1
        go_wp2
        go_loopw [6] (fun i wv => ∃ j q : Nat, 1 ≤ j ∧ (j ≤ ln ∨ j = 1) ∧ i = .int .i64 (j : Int) ∧ wv = W1.drewN q ∧ Hid (∀ t, 1 ≤ t → t < j → R.getD (t - 1) 0 ≤ R.getD t 0)) (fun i _ => 50 - (intOf i).toNat)
        case atStart => exact ⟨1, 0, by omega, .inr rfl, rfl, rfl, fun t h1 h2 => by omega⟩
        case round =>
          obtain ⟨j, q, hj1, hj2, rfl, hw, HA⟩ := hrel
          have HWQ := hide hw
          have hc' : wr.cell? ⟨b, off + k, none⟩ = some (.slice la ln lc) := by rw [hw]; exact hc
          have HRW : Hid (RowI wr la lc R) := hide (by rw [hw]; exact HROW.out.keep (below_of_drewN q))
          clear hw hc
          by_cases hjl : j < ln
          · have hji : (j : Int) < ln := by omega
            obtain ⟨b1, o1, e1, d1⟩ := HRW.out.at (i := j) (by rw [← HLN.out]; exact hjl)
            obtain ⟨b2, o2, e2, d2⟩ := HRW.out.at (i := j - 1) (by rw [← HLN.out]; omega)
            subst e1
            cases e2
            obtain ⟨x, hx⟩ : ∃ x, x = R.getD j 0 := ⟨_, rfl⟩
            obtain ⟨y, hy⟩ : ∃ y, y = R.getD (j - 1) 0 := ⟨_, rfl⟩
            rw [← hx] at d1
            rw [← hy] at d2
            have HX := hide hx
            have HY := hide hy
            have ht : ((j : Int) - 1).toNat = j - 1 := by omega
            have hw0 : IntKind.i64.wrap ((j : Int) - 1) = (j : Int) - 1 := by rw [IntKind.wrap_i64]; omega
            have hl1 : (j : Int) - 1 < ln := by omega
            have hl2 : ¬ (j : Int) - 1 < 0 := by omega
            have hl3 : (0 : Int) ≤ (j : Int) - 1 := by omega
            clear hx hy
            by_cases hxy : x < y
            · go_wp2
              go_quiet (fail)
              have HB1 := hide (show Below w.heap.size w (wr.drewN nq) by rw [HWQ.out]; exact (K.out.below.trans ((below_of_drewN q).mono K.out.below.size)).trans ((below_of_drewN nq).mono K.out.below.size))
              go_wp2_with (go_at_call 9; go_must ((with_reducible refine (HW.out _).mono ?_); rintro e w9 ⟨rfl, hb9⟩))
              go_ret
              exact ⟨rfl, HB1.out.trans (hb9.mono HB1.out.size)⟩
            · have HA2 : Hid (∀ t, 1 ≤ t → t < j + 1 → R.getD (t - 1) 0 ≤ R.getD t 0) := hide (fun t h1 h2 => by
                by_cases e : t = j
                · subst e; rw [← HX.out, ← HY.out]; omega
                · exact HA.out t h1 (by omega))
              go_wp2
              go_quiet (fail)
              go_wp2
              go_roundw
              case rel => exact ⟨j + 1, q + nq, by omega, .inl (by omega), by simp, by rw [HWQ.out, World.drewN_drewN], HA2⟩
              case measure => simp [intOf]; omega
          · have hji : ¬ (j : Int) < ln := by omega
            have HUP2 : Hid (UpL R) := hide (up_of_adj (fun t h1 h2 => HA.out t h1 (by rw [← HLN.out] at h2; omega)))
            have K2 : Hid (Kn w [ownN w.heap.size 3 1 (.slice va m vc) m ((ls.take k).flatten.map (Value.int .i64)), rowT oa oc M] wr) := hide (by rw [HWQ.out]; exact K.out.drewN q)
            have HCR := hide (CellsR.of_row HRW.out)
            have HFS : Hid ((ls.take (k + 1)).flatten = (ls.take k).flatten ++ R) := hide (by rw [flat_succ (by rw [← HN.out]; exact hlt), HRR.out])
            go_wp2_with (at_builtin; go_must (refine app_cells 23 3 Try.underlying23 Own.Try.infoI rfl (by decide) rfl _ _ rfl w.heap.size (.slice va m vc) m ((ls.take k).flatten.map (Value.int .i64)) rfl K2.out.hd la lc ln (R.map (Value.int .i64)) rfl (by rw [List.length_map]; exact HLN.out) HCR.out (fun u hu => by obtain ⟨n, _, rfl⟩ := List.mem_map.1 hu; rfl) (by have := HLN.out; rw [List.length_map]; omega) K2.out.below.size ?_; intro v7 w7 hown7 hg7 hat7; rw [List.length_map, ← HLN.out] at hown7; obtain ⟨a7, c7, rfl⟩ := Own.own_form (z := 1) hown7; have K7 := hide (growAt (pre := []) K2.out hown7 hg7 hat7); clear hown7 hg7 hat7))
            go_roundw
            case rel =>
              refine ⟨k + 1, by omega, by simp, hide (fun t ht => ?_), hide ?_⟩
              · by_cases e : t = k
                · subst e; rw [← HRR.out]; exact HUP2.out
                · exact HU.out t (by omega)
              · have e : ((ls.take k).flatten ++ R).length = m + ln := by rw [List.length_append, ← HM.out, ← HLN.out]
                rw [HFS.out, e, List.map_append]
                exact K7.out
            case measure => simp [intOf]; omega
      · obtain rfl : k = n := by omega
        have hki : ¬ (k : Int) < k := by omega
        have HE : Hid ((ls.take k).flatten = ls.flatten) := hide (by rw [List.take_of_length_le (by rw [HN.out]; exact Nat.le_refl _)])
        have HOR : Hid (∃ aa, va = aa ∧ RowI wr aa vc ls.flatten) := hide (by
          obtain ⟨aa, cc, e, hr, _⟩ := OwnI.row (base := w.heap.size) (w := wr) (v := .slice va m vc) (l := ls.flatten) (by
            unfold OwnI
            rw [← HE.out, ← HM.out]
            exact K.out.hd) (by rw [← HE.out, ← HM.out]; omega) (fun z hz => by
            obtain ⟨l, hl, hz2⟩ := List.mem_flatten.1 hz
            obtain ⟨j, hj⟩ := List.getElem?_of_mem hl
            have hj2 := (List.getElem?_eq_some_iff.1 hj).1
            obtain ⟨_, _, la, lc, _, _, h3⟩ := HR.out.at_ j hj2
            rw [List.getD_eq_getElem?_getD, hj] at h3
            exact h3.wf z hz2)
          injection e with e1 e2 e3
          subst e1 e3
          exact ⟨_, rfl, hr⟩)
        have HROWV : Hid (RowI wr va vc ls.flatten) := hide (by obtain ⟨_, rfl, h⟩ := HOR.out; exact h)
        have HML : Hid (m = ls.flatten.length) := hide (by rw [HM.out, HE.out])
        have HMS : Hid (M = setL ltI ls.flatten) := hide (HUP.out HU.out)
        have HOF : Hid (Calls Try.prog 22 #[.slice va m vc] wr fun e w' => (∃ a' q' c', e = .returned (.slice a' q' c') ∧ Hid (q' = M.length ∧ RowI w' a' c' M)) ∧ Below wr.heap.size wr w') := hide (by
          rw [HML.out]
          refine (rof_any va vc ls.flatten wr ⟨HROWV.out.cap, HROWV.out.rd, HROWV.out.nil⟩ (by rw [← HML.out]; omega)).mono ?_
          rintro e w' ⟨⟨a', c', rfl, h1⟩, h2⟩
          rw [← HMS.out] at h1 ⊢
          exact ⟨⟨a', _, c', rfl, rfl, ⟨h1.cap, h1.rd, h1.nil⟩⟩, h2⟩)
        have HRO : Hid (RowI wr oa oc M) := hide (Knget (pre := [_]) K.out)
        clear HOR
        go_wp2_with (first
          | (go_at_call 22; go_must ((with_reducible refine (Hid.out HOF).mono ?_); rintro e w7 ⟨⟨a7, q7, c7, rfl, H7⟩, hb7⟩; have HB7 := hide (K.out.below.trans (hb7.mono K.out.below.size)); have HSM := hide (same_z (t := true) (HRO.out.keep hb7) H7.out.2 HOM.out H7.out.1 (by simp)); clear hb7 HOF))
          | (go_at_call 14; go_must ((with_reducible refine (Hid.out HSM).mono ?_); rintro e w8 ⟨rfl, hb8⟩; have HB8 := hide (HB7.out.trans (hb8.mono HB7.out.size)); clear hb8 HSM))
          | (go_at_call 9; go_must ((with_reducible refine (HW.out _).mono ?_); rintro e w9 ⟨rfl, hb9⟩; have HB9 := hide (HB8.out.trans (hb9.mono HB8.out.size)); clear hb9)))
        go_ret
        exact ⟨rfl, HB9.out⟩
end Go.Proofs.Ytkjdjmcecjaolaa.Walk
