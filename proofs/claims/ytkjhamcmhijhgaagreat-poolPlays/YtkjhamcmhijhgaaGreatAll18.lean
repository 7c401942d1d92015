/- Joined out of the texts PoolRefBorn, in that order. -/
import Derived.Test.YtkjhamcmhijhgaaGreatAll17
/- How many jobs are still to come of those that are left, as the law reckons it. -/
namespace Go.Proofs.YtkjhamcmhijhgaaGreat.PRef
open Go.RowKit Go.Proofs.YtkjhamcmhijhgaaGreat.Dig Go.Proofs.YtkjhamcmhijhgaaGreat.Mem Go.Proofs.YtkjhamcmhijhgaaGreat.Dq Go.Proofs.YtkjhamcmhijhgaaGreat.Thing Go.Proofs.YtkjhamcmhijhgaaGreat.Pick Go.Proofs.YtkjhamcmhijhgaaGreat.Sets Go.Proofs.YtkjhamcmhijhgaaGreat.Pool
set_option linter.unusedVariables false
set_option linter.unusedSimpArgs false

theorem bornL_le (ks : List (W1 Int)) : bornL ks ≤ sumL jobs1 ks := by have := born_left ks; omega
theorem bornL_take (ks : List (W1 Int)) : ∀ k, bornL (ks.take k) ≤ bornL ks := fun k => by
  have h : bornL (ks.take k) + bornL (ks.drop k) = bornL ks := by
    unfold bornL
    rw [← List.sum_append, ← List.map_append, List.take_append_drop]
  omega
theorem jobs_small {ks : List (W1 Int)} {k : Nat} {κ : W1 Int} (h : ks[k]? = some κ) (hs : sumL jobs1 ks ≤ 1000) : jobsL κ.l ≤ 1000 := by
  have h1 := sum_get (fun κ : W1 Int => (κ.l.map jobs1).sum + (if κ.h = true then jobs1 κ.x else 0)) ks k κ h
  have h2 : sumL jobs1 ks = (ks.map fun κ : W1 Int => (κ.l.map jobs1).sum + (if κ.h = true then jobs1 κ.x else 0)).sum := rfl
  have h3 : jobsL κ.l = (κ.l.map jobs1).sum := rfl
  have h4 : (κ.l.map jobs1).sum ≤ (κ.l.map jobs1).sum + (if κ.h = true then jobs1 κ.x else 0) := Nat.le_add_right _ _
  rw [h3]
  exact Nat.le_trans h4 (Nat.le_trans h1 (by rw [← h2]; exact hs))
set_option maxRecDepth 20000 in
set_option maxHeartbeats 4000000 in
theorem rborn_any {w : World} {v : RV} {L : List Int} {c : Int} {n : Nat} {s : PS Int} (h : Hid (RP w v L c n s)) (h64 : s.ks.length ≤ 64) (hsum : sumL jobs1 s.ks ≤ 1000) (hall : DqI.AllG SmallJ s.ks) :
    Calls Tryz.prog 20 #[.agg #[.slice v.l.a v.l.n v.l.c, .int .i64 v.c, .int .i64 (v.n : Int), .int .i64 (v.u : Int), .slice v.rows.a v.rows.n v.rows.c, .slice v.held.a v.held.n v.held.c, .slice v.holds.a v.holds.n v.holds.c, .slice v.done.a v.done.n v.done.c, .int .i64 (v.st : Int), .int .i64 (v.nx : Int), .slice v.who.a v.who.n v.who.c]] w fun e w' => e = .returned (.int .i64 (bornL s.ks : Int)) ∧ Below w.heap.size w w' := by
  obtain ⟨⟨la, lm, lp⟩, vc, vn, vu, ⟨ra, rn, rc⟩, ⟨ha, hn, hc⟩, ⟨oa, on, oc⟩, ⟨da, dn, dc⟩, vst, vnx, ⟨wa, wn, wc⟩, vds⟩ := v
  obtain ⟨e1, hcr, hrr⟩ := h.out.rows
  obtain ⟨e2, hco⟩ := h.out.holds
  obtain ⟨e3, hch⟩ := h.out.held
  dsimp only at e1 e2 e3 hcr hrr hco hch ⊢
  have HCR := hide hcr
  have HRR := hide hrr
  have HCO := hide hco
  have HCH := hide hch
  obtain ⟨K, hK⟩ : ∃ K, K = s.ks.length := ⟨_, rfl⟩
  obtain rfl : rn = K := by omega
  obtain rfl : on = rn := by omega
  obtain rfl : hn = on := by omega
  have HKL := hide hK
  have hK64 : hn ≤ 64 := by omega
  have HSUM := hide hsum
  have HALL := hide hall
  have HB : Hid (∀ k, bornL (s.ks.take k) ≤ 1000) := hide (fun k => by have := bornL_take s.ks k; have := bornL_le s.ks; omega)
  have B0 : Hid (Is (w.alloc (.cells #[.slice la lm lp, .int .i64 vc, .int .i64 (vn : Int), .int .i64 (vu : Int), .slice ra hn rc, .slice ha hn hc, .slice oa hn oc, .slice da dn dc, .int .i64 (vst : Int), .int .i64 (vnx : Int), .slice wa wn wc] 36)) w.heap.size #[.slice la lm lp, .int .i64 vc, .int .i64 (vn : Int), .int .i64 (vu : Int), .slice ra hn rc, .slice ha hn hc, .slice oa hn oc, .slice da dn dc, .int .i64 (vst : Int), .int .i64 (vnx : Int), .slice wa wn wc] ∧ Below w.heap.size w (w.alloc (.cells #[.slice la lm lp, .int .i64 vc, .int .i64 (vn : Int), .int .i64 (vu : Int), .slice ra hn rc, .slice ha hn hc, .slice oa hn oc, .slice da dn dc, .int .i64 (vst : Int), .int .i64 (vnx : Int), .slice wa wn wc] 36))) := hide ⟨Is.made _ _ _ rfl, (Below.refl _ _).alloc (Nat.le_refl _) _⟩
  clear h h64 e1 e2 e3 hcr hrr hco hch hK hsum hall
  go_enter Tryz.func20, Tryz.ntmps20
  go_wp2
  generalize (w.alloc (.cells #[.slice la lm lp, .int .i64 vc, .int .i64 (vn : Int), .int .i64 (vu : Int), .slice ra hn rc, .slice ha hn hc, .slice oa hn oc, .slice da dn dc, .int .i64 (vst : Int), .int .i64 (vnx : Int), .slice wa wn wc] 36)) = W0 at *
  have PB := hide B0.out.1
  have BB := hide B0.out.2
  clear B0
  go_loopw [3, 4] (fun nv kv wr => ∃ k : Nat, k ≤ hn ∧ kv = .int .i64 (k : Int) ∧ (∃ B : Nat, nv = .int .i64 (B : Int) ∧ Hid (B = bornL (s.ks.take k))) ∧ Hid (Below W0.heap.size W0 wr)) (fun _ kv _ => hn - (intOf kv).toNat)
  case atStart => exact ⟨0, by omega, rfl, ⟨0, rfl, hide rfl⟩, hide (Below.refl _ _)⟩
  case round =>
    obtain ⟨k, hk, rfl, ⟨B, rfl, hBq⟩, hwr⟩ := hrel
    have PW := hide (PB.out.below hwr.out)
    have BW := hide (BB.out.trans (hwr.out.mono BB.out.size))
    have c4 : wr.cell? ⟨w.heap.size, 4, none⟩ = some (.slice ra hn rc) := PW.out.cell 4 rfl
    have c5 : wr.cell? ⟨w.heap.size, 5, none⟩ = some (.slice ha hn hc) := PW.out.cell 5 rfl
    have c6 : wr.cell? ⟨w.heap.size, 6, none⟩ = some (.slice oa hn oc) := PW.out.cell 6 rfl
    by_cases hlt : k < hn
    · have hklt : k < s.ks.length := by rw [← HKL.out]; exact hlt
      obtain ⟨κ, hκ⟩ : ∃ κ, s.ks[k]? = some κ := ⟨s.ks[k], List.getElem?_eq_getElem hklt⟩
      obtain ⟨d, hd, hdn, _⟩ := HRR.out.get (k := k) (l := κ.l) (by rw [List.getElem?_map, hκ]; rfl)
      obtain ⟨b, off, rfl, hcell⟩ := (HCR.out.keep BW.out).at_ k d.v (by rw [List.getElem?_map, hd]; rfl)
      have hcell2 : wr.cell? ⟨b, off + k, none⟩ = some (.slice d.a d.n d.c) := hcell
      have hdr : RowI wr d.a d.c κ.l := ((HRR.out.2 k d κ.l hd (by rw [List.getElem?_map, hκ]; rfl)).2).keep BW.out
      obtain ⟨b2, off2, rfl, hcello⟩ := (HCO.out.keep BW.out).at_ k (.bool κ.h) (by rw [List.getElem?_map, hκ]; rfl)
      obtain ⟨b3, off3, rfl, hcellh⟩ := (HCH.out.keep BW.out).at (i := k) (by rw [List.length_map]; exact hklt)
      have hgx : (s.ks.map fun κ => κ.x).getD k 0 = κ.x := by rw [List.getD_eq_getElem?_getD, List.getElem?_map, hκ]; rfl
      rw [hgx] at hcellh
      obtain ⟨x, hx⟩ : ∃ x, x = κ.x := ⟨_, rfl⟩
      rw [← hx] at hcellh
      have hwx : (Lit.int .i64 x).wf = true := by rw [hx]; exact HCH.out.wf _ (List.mem_map.2 ⟨κ, List.mem_of_getElem? hκ, rfl⟩)
      have hsm := HALL.out κ (List.mem_of_getElem? hκ)
      obtain ⟨J, hJ⟩ : ∃ J, J = jobsL κ.l := ⟨_, rfl⟩
      have hJ1 : J ≤ 1000 := by have := jobs_small hκ HSUM.out; omega
      have hdl : d.n ≤ J := by rw [hdn, hJ]; exact jobs_len κ.l
      have hB1 : B ≤ 1000 := by have := HB.out k; rw [hBq.out]; exact this
      have hbt := born_take hκ
      rw [← hBq.out] at hbt
      have JB : Hid (∀ W : World, Below wr.heap.size wr W → Calls Tryz.prog 19 #[.slice d.a d.n d.c] W fun e w' => e = .returned (.int .i64 (J : Int)) ∧ w' = W) := hide (fun W hb => by rw [hJ]; exact jobs_any (hdr.keep hb) hdn (by omega) hsm.1)
      obtain ⟨C, hC⟩ : ∃ C, C = B + J - d.n := ⟨_, rfl⟩
      have g1 : (B : Int) + (J : Int) - (d.n : Int) = (C : Int) := by omega
      have hC1 : C ≤ 3000 := by omega
      have hki : (k : Int) < hn := by omega
      have HX := hide hx
      have HWX := hide hwx
      have HBT : Hid (bornL (s.ks.take (k + 1)) = C + (if κ.h = true then jobs1 κ.x - 1 else 0)) := hide (by
        rw [hbt]
        unfold born1
        rw [← hJ, ← hdn]
        omega)
      have HSM := hide hsm
      obtain ⟨hh, hhh⟩ : ∃ hh, hh = κ.h := ⟨_, rfl⟩
      rw [← hhh] at hcello
      have HHH := hide hhh
      clear hcell hd hdn hdr hx hwx hsm hJ hbt hC hhh hgx hκ hklt
      cases hh with
      | false =>
        have HC2 : Hid (C = bornL (s.ks.take (k + 1))) := hide (by rw [HBT.out, ← HHH.out]; simp)
        go_wp2
        go_quiet ((go_at_call 19; exact Calls.quiet_of_same (JB.out _ (by first | exact Below.refl _ _ | exact below_of_drewN _))))
        go_wp2
        go_roundw
        case rel => exact ⟨k + 1, by omega, by simp, ⟨C, rfl, HC2⟩, hide (hwr.out.trans ((below_of_drewN _).mono hwr.out.size))⟩
        case measure => simp [intOf]; omega
      | true =>
        have hxs : SmallJ x := by rw [HX.out]; exact HSM.out.2 HHH.out.symm
        obtain ⟨J2, hJ2⟩ : ∃ J2, J2 = jobs1 x := ⟨_, rfl⟩
        have hJ2p : 1 ≤ J2 := by rw [hJ2]; exact jobs1_pos x
        have hJ2l : J2 ≤ 39 := by rw [hJ2]; exact jobs1_le hxs
        have J1 : Hid (∀ (W : World) (g : Nat), g = W.heap.size → Calls Tryz.prog 19 #[.slice (some ⟨g, 0, none⟩) 1 1] (W.alloc (.cells #[.int .i64 x] 3)) fun e w' => e = .returned (.int .i64 (J2 : Int)) ∧ w' = W.alloc (.cells #[.int .i64 x] 3)) := hide (fun W g hg => by
          subst hg
          have q := jobs_any (rowi_made W [x] 3 rfl rfl (by simp) (fun y hy => by rw [List.mem_singleton.1 hy]; exact HWX.out)) (m := 1) rfl (by omega) (fun y hy => by rw [List.mem_singleton.1 hy]; exact hxs)
          have e : jobsL [x] = J2 := by rw [hJ2]; simp [jobsL]
          rw [e] at q
          exact q)
        obtain ⟨D, hD⟩ : ∃ D, D = C + J2 - 1 := ⟨_, rfl⟩
        have g2 : (C : Int) + (J2 : Int) - 1 = (D : Int) := by omega
        have hD1 : D ≤ 3100 := by omega
        have HC2 : Hid (D = bornL (s.ks.take (k + 1))) := hide (by rw [HBT.out, ← HHH.out, hD, hJ2, HX.out]; simp; have := jobs1_pos κ.x; omega)
        clear hD hJ2 hxs
        go_wp2
        go_quiet ((go_at_call 19; exact Calls.quiet_of_same (JB.out _ (by first | exact Below.refl _ _ | exact below_of_drewN _))))
        go_wp2_with (go_at_call 19; go_must ((with_reducible refine ((Hid.out J1) _ _ (by simp)).mono ?_); rintro e w9 ⟨rfl, rfl⟩))
        go_roundw
        case rel => exact ⟨k + 1, by omega, by simp, ⟨D, rfl, HC2⟩, hide (Below.alloc (hwr.out.trans ((below_of_drewN _).mono hwr.out.size)) (by have := hwr.out.size; simp; omega) _)⟩
        case measure => simp [intOf]; omega
    · obtain rfl : k = hn := by omega
      have hkk : ¬ (k : Int) < k := by omega
      have HQ : Hid (B = bornL s.ks) := hide (by rw [hBq.out, HKL.out, List.take_length])
      clear hlt
      go_wp2
      go_ret
      exact ⟨by rw [← HQ.out]; rfl, BW.out⟩
end Go.Proofs.YtkjhamcmhijhgaaGreat.PRef
