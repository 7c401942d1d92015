/- Joined out of the texts PoolRefDoes, PoolBorn, PoolRefStep, PoolRefReady, PoolRefRun, in that order. -/
import Derived.Test.YtkjhamcmhijhgaaGreatAll14
import Derived.Test.YtkjhamcmhijhgaaGreatAll16
import Derived.Deep.Cut
import Derived.Test.YtkjhamcmhijhgaaGreatAll15
import Derived.Test.YtkjhamcmhijhgaaGreatAll8
/- The document's step: a job that is held is done. -/
namespace Go.Proofs.YtkjhamcmhijhgaaGreat.PRef
open Go.RowKit Go.Proofs.YtkjhamcmhijhgaaGreat.Dig Go.Proofs.YtkjhamcmhijhgaaGreat.Mem Go.Proofs.YtkjhamcmhijhgaaGreat.Dq Go.Proofs.YtkjhamcmhijhgaaGreat.Thing Go.Proofs.YtkjhamcmhijhgaaGreat.Pick Go.Proofs.YtkjhamcmhijhgaaGreat.Sets Go.Proofs.YtkjhamcmhijhgaaGreat.Pool
set_option linter.unusedVariables false
set_option linter.unusedSimpArgs false

/-- The jobs that come of it are put to its row. -/
def DoS (s : PS Int) (k : Nat) (κ : W1 Int) (x : Int) (rs : List Int) (j : Nat) : PS Int := { s with ks := s.ks.set k ⟨κ.l ++ rs.take j, 0, false⟩, dn := s.dn ++ [x], who := s.who ++ [(k : Int)] }
def DoR (A : Nat → Prop) (w : World) (bp br : Nat) (L : List Int) (c : Int) (n : Nat) (s : PS Int) (k : Nat) (κ : W1 Int) (x : Int) (rs : List Int) (fa : Option Addr) (fc : Nat) (kv : Value) (wr : World) : Prop := ∃ (j : Nat) (v : RV), j ≤ rs.length ∧ kv = .int .i64 (j : Int) ∧ Hid (PB A w bp br z11 [rowT fa fc rs] v L c n (DoS s k κ x rs j) wr)
set_option maxRecDepth 20000 in
set_option maxHeartbeats 400000 in
theorem step_hold {A : Nat → Prop} {w : World} {v : RV} {L : List Int} {c : Int} {n : Nat} {s : PS Int} (h : Hid (RPA A w v L c n s)) (hA : ∀ k, A k → k < w.heap.size) (h64 : s.ks.length ≤ 64) (hwho : s.who.length ≤ 50000) {k : Nat} {κ : W1 Int} (hk : s.ks[k]? = some κ) (hh : κ.h = true) (hsm : SmallJ κ.x) (hlen : κ.l.length ≤ 50000) (hdl : s.dn.length ≤ 50000) :
    Calls Tryz.prog 38 #[.agg #[.slice v.l.a v.l.n v.l.c, .int .i64 v.c, .int .i64 (v.n : Int), .int .i64 (v.u : Int), .slice v.rows.a v.rows.n v.rows.c, .slice v.held.a v.held.n v.held.c, .slice v.holds.a v.holds.n v.holds.c, .slice v.done.a v.done.n v.done.c, .int .i64 (v.st : Int), .int .i64 (v.nx : Int), .slice v.who.a v.who.n v.who.c], .int .i64 (k : Int)] w fun e w' => ∃ v', e = .returned (.agg #[.slice v'.l.a v'.l.n v'.l.c, .int .i64 v'.c, .int .i64 (v'.n : Int), .int .i64 (v'.u : Int), .slice v'.rows.a v'.rows.n v'.rows.c, .slice v'.held.a v'.held.n v'.held.c, .slice v'.holds.a v'.holds.n v'.holds.c, .slice v'.done.a v'.done.n v'.done.c, .int .i64 (v'.st : Int), .int .i64 (v'.nx : Int), .slice v'.who.a v'.who.n v'.who.c]) ∧ Hid (RPA A w' v' L c n { s with ks := s.ks.set k ⟨κ.l ++ halfL κ.x, 0, false⟩, dn := s.dn ++ [κ.x], who := s.who ++ [(k : Int)] }) ∧ Below w.heap.size w w' := by
  obtain ⟨i0, hi, hz0, hz1, hz2⟩ := info_parts Tryz.infoPInt
  obtain ⟨⟨la, lm, lp⟩, vc, vn, vu, ⟨ra, rn, rc⟩, ⟨ha, hn, hc⟩, ⟨oa, on, oc⟩, ⟨da, dn, dc⟩, vst, vnx, ⟨wa, wn, wc⟩, vds⟩ := v
  have hklt : k < s.ks.length := (List.getElem?_eq_some_iff.1 hk).1
  obtain ⟨q1, q2⟩ := h.out.rp.held
  obtain ⟨x, hx⟩ : ∃ x, x = κ.x := ⟨_, rfl⟩
  obtain ⟨rb, ro, rfl, hrc⟩ := q2.at (i := k) (by rw [List.length_map]; exact hklt)
  have hgx : (s.ks.map fun κ => κ.x).getD k 0 = x := by rw [List.getD_eq_getElem?_getD, List.getElem?_map, hk, hx]; rfl
  rw [hgx] at hrc
  have hwx : (Lit.int .i64 x).wf = true := by rw [hx]; exact q2.wf _ (List.mem_map.2 ⟨κ, List.mem_of_getElem? hk, rfl⟩)
  obtain ⟨o1, o2⟩ := h.out.rp.holds
  obtain ⟨ob, oo, rfl, hoc⟩ := o2.at_ k (.bool κ.h) (by rw [List.getElem?_map, hk]; rfl)
  rw [hh] at hoc
  have HA := hide hA
  have P0 : Hid (PB A w w.heap.size (w.heap.size + 1) #[.slice none 0 0, .int .i64 0, .int .i64 0, .int .i64 0, .slice none 0 0, .slice none 0 0, .slice none 0 0, .slice none 0 0, .int .i64 0, .int .i64 0, .slice none 0 0] [] ⟨⟨la, lm, lp⟩, vc, vn, vu, ⟨ra, rn, rc⟩, ⟨some ⟨rb, ro, none⟩, hn, hc⟩, ⟨some ⟨ob, oo, none⟩, on, oc⟩, ⟨da, dn, dc⟩, vst, vnx, ⟨wa, wn, wc⟩, vds⟩ L c n s ((w.alloc (.cells #[.slice la lm lp, .int .i64 vc, .int .i64 (vn : Int), .int .i64 (vu : Int), .slice ra rn rc, .slice (some ⟨rb, ro, none⟩) hn hc, .slice (some ⟨ob, oo, none⟩) on oc, .slice da dn dc, .int .i64 (vst : Int), .int .i64 (vnx : Int), .slice wa wn wc] 36)).alloc (.cells #[.slice none 0 0, .int .i64 0, .int .i64 0, .int .i64 0, .slice none 0 0, .slice none 0 0, .slice none 0 0, .slice none 0 0, .int .i64 0, .int .i64 0, .slice none 0 0] 36))) := hide (PB.start h.out hA _ rfl)
  have K0 := hide (OB.start P0.out.kn 3 P0.out.kn.below.size (g := w.heap.size + 1 + 1) (by simp))
  obtain ⟨ln, hln⟩ : ∃ ln, ln = (s.who.map (Value.int .i64)).length := ⟨_, rfl⟩
  have HLN := hide hln
  have hlb : ln ≤ 50000 := by rw [hln, List.length_map]; exact hwho
  have HWB := hide hwho
  have HWF : Hid ((Lit.int .i64 (k : Int)).wf = true) := hide (wf_of_i64 (by omega) (by omega))
  have HC : Hid (∀ W, Below w.heap.size w W → W.cell? ⟨rb, ro + k, none⟩ = some (.int .i64 x) ∧ W.cell? ⟨ob, oo + k, none⟩ = some (.bool true)) := hide (fun W ho => ⟨(ho.cell (p := ⟨rb, ro + k, none⟩) (lt_of_cell hrc)).trans hrc, (ho.cell (p := ⟨ob, oo + k, none⟩) (lt_of_cell hoc)).trans hoc⟩)
  have hrb : rb < w.heap.size := lt_of_cell hrc
  have hob : ob < w.heap.size := lt_of_cell hoc
  have e1 : ¬ rb = w.heap.size := by omega
  have e2 : ¬ ob = w.heap.size := by omega
  have q1' : hn = s.ks.length := q1
  have o1' : on = s.ks.length := o1
  have hkr : (k : Int) < hn := by omega
  have hko : (k : Int) < on := by omega
  have HH := hide h
  have HK := hide hk
  have HSM := hide hsm
  have HX := hide hx
  have HWX := hide hwx
  have HDL := hide hdl
  obtain ⟨lx, hlx⟩ : ∃ lx, lx = (s.dn.map (Value.int .i64)).length := ⟨_, rfl⟩
  have HLD := hide hlx
  have hlxb : lx ≤ 50000 := by rw [hlx, List.length_map]; exact hdl
  have HSMX : Hid (SmallJ x) := hide (by rw [hx]; exact hsm)
  have HHF := hide hh
  have H64 := hide h64
  have HLEN := hide hlen
  have HKN : Hid (k < s.ks.length) := hide hklt
  clear hlx q1' o1' h hA hk hh hsm hx hwx hdl hln hwho hrc hoc hgx q1 q2 o1 o2 hrb hob hklt h64 hlen
  go_enter Tryz.func38, Tryz.ntmps38
  go_upto_region 4 with (first
    | (at_builtin; go_must (first
      | ((refine wpList_append_own_at _ rfl _ _ 22 rfl w.heap.size 3 i0 (.int .i64 0) 1 8 Tryz.underlying22 hi hz0 hz1 hz2 rfl (by decide) (.slice a7 ln c7) ln (s.who.map (Value.int .i64)) rfl (World.ownsRow.alloc (Kn.hd K7.out.kn) _) ⟨(w7).heap.size, 0, none⟩ 1 1 [.int .i64 (k : Int)] rfl rfl (cell_one_new _ _ _) (by simp [Value.oneCell']) (by unfold maxLen; omega) (by omega) (by have := K7.out.kn.below.size; simp; omega) ?_; intro v10 w10 hown10 hg10 _ hat10; obtain ⟨a10, c10, rfl⟩ := Dq.own_form hown10; have K10 := hide ((K7.out.alloc (.cells #[.int .i64 (k : Int)] 3)).grow hown10 hg10 hat10); clear hown10 hg10 hat10); have P10 := hide (P0.out.who HA.out K10.out HWF.out (by have := HWB.out; omega)); obtain ⟨x1, x2⟩ := HC.out _ K10.out.kn.below; obtain ⟨⟨p0, p1, p2, p3, p4, p5, p6, p7, p8, p9, p10⟩, pf⟩ := (DqI.Kn.hd2 K10.out.kn).eleven; have pf10 := pf 10; have HP := hide (P10.out.rp); clear pf K7 K10)
      | ((refine app_cells 22 3 Tryz.underlying22 Tryz.infoPInt rfl (by decide) rfl _ _ rfl w.heap.size (.slice (some ⟨w.heap.size + 1 + 1, 0, none⟩) 0 0) 0 [] rfl (Kn.hd K0.out.kn) wa wc wn (s.who.map (Value.int .i64)) rfl (by rw [List.length_map]; exact P0.out.rp.rp.who.1) ((CellsR.of_row P0.out.rp.rp.who.2).keep ((Below.refl _ _).alloc (Nat.le_refl _) _)) (fun u hu => by obtain ⟨n, _, rfl⟩ := List.mem_map.1 hu; rfl) (by have := HWB.out; rw [List.length_map]; omega) K0.out.kn.below.size ?_; intro v7 w7 hown7 hg7 hat7; rw [Nat.zero_add, List.nil_append, ← HLN.out] at hown7; obtain ⟨a7, c7, rfl⟩ := Dq.own_form hown7; have K7 := hide (K0.out.grow hown7 hg7 hat7); clear hown7 hg7 hat7); clear K0))))
  have HP2 : Hid (PB A w w.heap.size (w.heap.size + 1) z11 [] (⟨⟨la, lm, lp⟩, vc, vn, vu, ⟨ra, rn, rc⟩, ⟨some ⟨rb, ro, none⟩, hn, hc⟩, ⟨some ⟨ob, oo, none⟩, on, oc⟩, ⟨da, dn, dc⟩, vst, vnx, ⟨a10, ln + 1, c10⟩, vds⟩ : RV) L c n { s with who := s.who ++ [(k : Int)] } (w10.setCell ⟨w.heap.size, 10, none⟩ (.slice a10 (ln + 1) c10))) := P10
  obtain ⟨VW, hVW⟩ : ∃ VW, VW = (⟨⟨la, lm, lp⟩, vc, vn, vu, ⟨ra, rn, rc⟩, ⟨some ⟨rb, ro, none⟩, hn, hc⟩, ⟨some ⟨ob, oo, none⟩, on, oc⟩, ⟨da, dn, dc⟩, vst, vnx, ⟨a10, ln + 1, c10⟩, vds⟩ : RV) := ⟨_, rfl⟩
  generalize (w10.setCell ⟨w.heap.size, 10, none⟩ (.slice a10 (ln + 1) c10)) = WL at HP2 ⊢
  obtain ⟨bp, hbp⟩ : ∃ bp, bp = w.heap.size := ⟨_, rfl⟩
  obtain ⟨br, hbr⟩ : ∃ br, br = w.heap.size + 1 := ⟨_, rfl⟩
  rw [← hbr, ← hbp] at HP2 ⊢
  have HAB : Hid (∀ k, A k → k < w.heap.size) := HA
  clear hbp hbr p0 p1 p2 p3 p4 p5 p6 p7 p8 p9 p10 x1 x2 pf10 HP P10 P0 HC e1 e2 hVW VW
  obtain ⟨⟨p0, p1, p2, p3, p4, p5, p6, p7, p8, p9, p10⟩, pf⟩ := HP2.out.kn.hd.eleven
  have HP3 := hide HP2.out.rp
  clear pf
  go_upto_region 5 with (go_at_call 61; go_must ((with_reducible refine (hold_any (v := (⟨⟨la, lm, lp⟩, vc, vn, vu, ⟨ra, rn, rc⟩, ⟨some ⟨rb, ro, none⟩, hn, hc⟩, ⟨some ⟨ob, oo, none⟩, on, oc⟩, ⟨da, dn, dc⟩, vst, vnx, ⟨a10, ln + 1, c10⟩, vds⟩ : RV)) HP3 (HP2.out.lt HAB.out) HK.out (x := 0) (wf_of_i64 (by omega) (by omega)) false H64.out).mono ?_); rintro e w11 ⟨v11, rfl, hr11, hb11⟩; obtain ⟨_, qf⟩ := (Kn.hd (HP2.out.kn.keep hb11)).eleven; have f0 := qf 0; have f1 := qf 1; have f2 := qf 2; have f3 := qf 3; have f4 := qf 4; have f5 := qf 5; have f6 := qf 6; have f7 := qf 7; have f8 := qf 8; have f9 := qf 9; have f10 := qf 10; clear qf))
  refine gen_pb (HP2.out.call hr11.out hb11) ?_
  intro W11 P11
  clear HP2 HP3 hr11 hb11 f0 f1 f2 f3 f4 f5 f6 f7 f8 f9 f10 p0 p1 p2 p3 p4 p5 p6 p7 p8 p9 p10
  have K11 := hide (OB.start P11.out.kn 3 P11.out.kn.below.size (g := W11.heap.size) rfl)
  have hz11 : bp < W11.heap.size := Is.lt (Kn.hd P11.out.kn)
  have r7 := P11.out.kn.hd.cell 7 rfl
  obtain ⟨rs, hrs⟩ : ∃ rs, rs = halfL x := ⟨_, rfl⟩
  obtain ⟨m, hm⟩ : ∃ m, m = rs.length := ⟨_, rfl⟩
  have HRS := hide hrs
  have HM := hide hm
  have hm2 : m ≤ 2 := by rw [hm, hrs]; unfold halfL; split <;> simp
  have HWR : Hid (WfL rs) := hide (by rw [hrs]; exact half_wf2 HSMX.out)
  have ROF : Hid (∀ W : World, Calls Tryz.prog 35 #[.int .i64 x] W fun e w' => (∃ a c, e = .returned (.slice a m c) ∧ RowI w' a c rs ∧ ∀ z, a = some z → W.heap.size ≤ z.block) ∧ Below W.heap.size W w') := hide (fun W => by rw [hm, hrs]; exact rof_any10 HSMX.out W)
  clear hm hrs
  go_upto_region 7 with (first
    | (at_builtin; go_must (first
      | ((refine app_cells 22 3 Tryz.underlying22 Tryz.infoPInt rfl (by decide) rfl _ _ rfl w.heap.size (.slice (some ⟨W11.heap.size, 0, none⟩) 0 0) 0 [] rfl (Kn.hd K11.out.kn) v11.done.a v11.done.c v11.done.n (s.dn.map (Value.int .i64)) rfl (by rw [List.length_map]; exact P11.out.rp.rp.done.1) ((CellsR.of_row P11.out.rp.rp.done.2).keep ((Below.refl _ _).alloc (Nat.le_refl _) _)) (fun u hu => by obtain ⟨n, _, rfl⟩ := List.mem_map.1 hu; rfl) (by have := HDL.out; rw [List.length_map]; omega) K11.out.kn.below.size ?_; intro v7 w12 hown7 hg7 hat7; rw [Nat.zero_add, List.nil_append, ← HLD.out] at hown7; obtain ⟨a12, c12, rfl⟩ := Dq.own_form hown7; have K12 := hide (K11.out.grow hown7 hg7 hat7); clear hown7 hg7 hat7); clear K11)
      | ((refine wpList_append_own_at _ rfl _ _ 22 rfl w.heap.size 3 i0 (.int .i64 0) 1 8 Tryz.underlying22 hi hz0 hz1 hz2 rfl (by decide) (.slice a12 lx c12) lx (s.dn.map (Value.int .i64)) rfl (World.ownsRow.alloc (Kn.hd K12.out.kn) _) ⟨(w12).heap.size, 0, none⟩ 1 1 [.int .i64 x] rfl rfl (cell_one_new _ _ _) (by simp [Value.oneCell']) (by unfold maxLen; omega) (by omega) (by have := K12.out.kn.below.size; simp; omega) ?_; intro v10 w13 hown10 hg10 _ hat10; obtain ⟨a13, c13, rfl⟩ := Dq.own_form hown10; have K13 := hide ((K12.out.alloc (.cells #[.int .i64 x] 3)).grow hown10 hg10 hat10); clear hown10 hg10 hat10); have P13 := hide (P11.out.done HAB.out K13.out HWX.out (show s.dn.length ≤ 100000 by have := HDL.out; omega)); obtain ⟨⟨y0, y1, y2, y3, y4, y5, y6, y7, y8, y9, y10⟩, qf⟩ := (DqI.Kn.hd2 K13.out.kn).eleven; have g7 := qf 7; clear qf K12)))
    | (go_at_call 35; go_must ((with_reducible refine (Hid.out ROF _).mono ?_); rintro e w14 ⟨⟨fa, fc, rfl, hfr, hff⟩, hb14⟩; have P14 := hide (P13.out.more hb14 (t := rowT fa fc rs) hfr (fun j hj => by obtain ⟨_, z, hz, rfl⟩ := hj; exact hff z hz)); clear hb14 hfr hff)))
  have P15 : Hid (DoR A w bp br L c n s k κ x rs fa fc (.int .i64 0) w14) := hide ⟨0, _, Nat.zero_le _, rfl, hide (by
    have e : DoS s k κ x rs 0 = ⟨s.ks.set k ⟨κ.l, 0, false⟩, s.nx, s.dn ++ [x], s.st, s.who ++ [(k : Int)]⟩ := by unfold DoS; rw [List.take_zero, List.append_nil]
    rw [e]
    exact P14.out)⟩
  clear P14 P13 P11 hz11 y0 y1 y2 y3 y4 y5 y6 y7 y8 y9 y10 r7 g7
  generalize w14 = W0 at *
  go_wp2
  go_loopw [7] (fun kv wr => DoR A w bp br L c n s k κ x rs fa fc kv wr) (fun kv _ => m - (intOf kv).toNat)
  case atStart => exact P15.out
  case round =>
    obtain ⟨j, v1, hj, rfl, hP⟩ := hrel
    clear P15
    by_cases hlt : j < m
    · have hjl : j < rs.length := by rw [← HM.out]; exact hlt
      obtain ⟨y, hy⟩ : ∃ y, y = rs.getD j 0 := ⟨_, rfl⟩
      have hwfy : (Lit.int .i64 y).wf = true := HWR.out y (by rw [hy, List.getD_eq_getElem?_getD, List.getElem?_eq_getElem hjl]; exact List.getElem_mem _)
      have hrow : RowI wr fa fc rs := hP.out.kn.get (t := rowT fa fc rs) (by simp)
      obtain ⟨b, off, rfl, hcl⟩ := hrow.at (i := j) hjl
      rw [← hy] at hcl
      have HX5 : Hid (∀ W, (rowT (some ⟨b, off, none⟩) fc rs).P W → W.cell? ⟨b, off + j, none⟩ = some (.int .i64 y)) := hide (fun W hr => by
        obtain ⟨b', off', e, hc⟩ := (show RowI W _ _ _ from hr).at (i := j) hjl
        cases e
        rw [hc, ← hy])
      have CP : Hid (Calls Tryz.prog 39 #[.agg #[.slice v1.l.a v1.l.n v1.l.c, .int .i64 v1.c, .int .i64 (v1.n : Int), .int .i64 (v1.u : Int), .slice v1.rows.a v1.rows.n v1.rows.c, .slice v1.held.a v1.held.n v1.held.c, .slice v1.holds.a v1.holds.n v1.holds.c, .slice v1.done.a v1.done.n v1.done.c, .int .i64 (v1.st : Int), .int .i64 (v1.nx : Int), .slice v1.who.a v1.who.n v1.who.c], .int .i64 (k : Int), .int .i64 y] wr.drew fun e w' => ∃ v', e = .returned (.agg #[.slice v'.l.a v'.l.n v'.l.c, .int .i64 v'.c, .int .i64 (v'.n : Int), .int .i64 (v'.u : Int), .slice v'.rows.a v'.rows.n v'.rows.c, .slice v'.held.a v'.held.n v'.held.c, .slice v'.holds.a v'.holds.n v'.holds.c, .slice v'.done.a v'.done.n v'.done.c, .int .i64 (v'.st : Int), .int .i64 (v'.nx : Int), .slice v'.who.a v'.who.n v'.who.c]) ∧ Hid (RPA (PA A bp br) w' v' L c n { DoS s k κ x rs j with ks := (DoS s k κ x rs j).ks.set k { (⟨κ.l ++ rs.take j, 0, false⟩ : W1 Int) with l := (⟨κ.l ++ rs.take j, 0, false⟩ : W1 Int).l ++ [y] } }) ∧ Below wr.drew.heap.size wr.drew w') := hide (push_any (hide (hP.out.rp.keep ((Below.refl _ _).drew))) (fun k q => (hP.out.lt HAB.out k q)) (by show (s.ks.set k _)[k]? = _; rw [List.getElem?_set]; simp [HKN.out]) hwfy (by have := HLEN.out; simp; omega) (by show (s.ks.set k _).length ≤ 64; rw [List.length_set]; exact H64.out))
      obtain ⟨⟨p0, p1, p2, p3, p4, p5, p6, p7, p8, p9, p10⟩, pf⟩ := hP.out.kn.hd.eleven
      have hji : (j : Int) < m := by omega
      have hheld : (fun w' : World => (w'.cell? ⟨bp, 0, none⟩ = some (.slice v1.l.a v1.l.n v1.l.c) ∧ w'.cell? ⟨bp, 1, none⟩ = some (.int .i64 v1.c) ∧ w'.cell? ⟨bp, 2, none⟩ = some (.int .i64 (v1.n : Int)) ∧ w'.cell? ⟨bp, 3, none⟩ = some (.int .i64 (v1.u : Int)) ∧ w'.cell? ⟨bp, 4, none⟩ = some (.slice v1.rows.a v1.rows.n v1.rows.c) ∧ w'.cell? ⟨bp, 5, none⟩ = some (.slice v1.held.a v1.held.n v1.held.c) ∧ w'.cell? ⟨bp, 6, none⟩ = some (.slice v1.holds.a v1.holds.n v1.holds.c) ∧ w'.cell? ⟨bp, 7, none⟩ = some (.slice v1.done.a v1.done.n v1.done.c) ∧ w'.cell? ⟨bp, 8, none⟩ = some (.int .i64 (v1.st : Int)) ∧ w'.cell? ⟨bp, 9, none⟩ = some (.int .i64 (v1.nx : Int)) ∧ w'.cell? ⟨bp, 10, none⟩ = some (.slice v1.who.a v1.who.n v1.who.c)) ∧ w'.cell? ⟨b, off + j, none⟩ = some (.int .i64 y)) wr.drew := ⟨⟨p0, p1, p2, p3, p4, p5, p6, p7, p8, p9, p10⟩, hcl⟩
      have PD : Hid (PB A w bp br z11 [rowT (some ⟨b, off, none⟩) fc rs] v1 L c n (DoS s k κ x rs j) wr.drew) := hide (hP.out.keep ((Below.refl _ _).drew))
      have HJL := hide hjl
      have HY := hide hy
      clear hjl hy hwfy hrow hP pf
      go_wp2
      refine Last.region_last (k := 7) (S := fun w' : World => (w'.cell? ⟨bp, 0, none⟩ = some (.slice v1.l.a v1.l.n v1.l.c) ∧ w'.cell? ⟨bp, 1, none⟩ = some (.int .i64 v1.c) ∧ w'.cell? ⟨bp, 2, none⟩ = some (.int .i64 (v1.n : Int)) ∧ w'.cell? ⟨bp, 3, none⟩ = some (.int .i64 (v1.u : Int)) ∧ w'.cell? ⟨bp, 4, none⟩ = some (.slice v1.rows.a v1.rows.n v1.rows.c) ∧ w'.cell? ⟨bp, 5, none⟩ = some (.slice v1.held.a v1.held.n v1.held.c) ∧ w'.cell? ⟨bp, 6, none⟩ = some (.slice v1.holds.a v1.holds.n v1.holds.c) ∧ w'.cell? ⟨bp, 7, none⟩ = some (.slice v1.done.a v1.done.n v1.done.c) ∧ w'.cell? ⟨bp, 8, none⟩ = some (.int .i64 (v1.st : Int)) ∧ w'.cell? ⟨bp, 9, none⟩ = some (.int .i64 (v1.nx : Int)) ∧ w'.cell? ⟨bp, 10, none⟩ = some (.slice v1.who.a v1.who.n v1.who.c)) ∧ w'.cell? ⟨b, off + j, none⟩ = some (.int .i64 y)) (by kernel_rfl) rfl rfl (by kernel_rfl) (by kernel_rfl) ?_
      refine wpAnyH_take (i := 0) (v := ?_) rfl (by kernel_rfl) (by kernel_rfl) (by kernel_rfl) (fun _ _ _ h => h) (Or.inl ⟨by rfl, ?_⟩) (by assumption) ?_
      rotate_left
      · (intro w hSw; (try dsimp only at hSw); go_simp; try with_reducible rfl)
      try simp only [List.getElem_toArray, List.getElem_cons_succ, List.getElem_cons_zero, Act.put, List.setIfInBounds_toArray, List.set_cons_zero, List.set_cons_succ]
      refine wpAnyH_take (i := 1) (v := ?_) rfl (by kernel_rfl) (by kernel_rfl) (by kernel_rfl) (fun _ _ _ h => h) (Or.inl ⟨by rfl, ?_⟩) (by assumption) ?_
      rotate_left
      · (intro w hSw; (try dsimp only at hSw); go_simp; try with_reducible rfl)
      try simp only [List.getElem_toArray, List.getElem_cons_succ, List.getElem_cons_zero, Act.put, List.setIfInBounds_toArray, List.set_cons_zero, List.set_cons_succ]
      refine wpAnyH_take (i := 2) (v := ?_) rfl (by kernel_rfl) (by kernel_rfl) (by kernel_rfl) (fun _ _ _ h => h) (Or.inl ⟨by rfl, ?_⟩) (by assumption) ?_
      rotate_left
      · (intro w hSw; (try dsimp only at hSw); go_simp; try with_reducible rfl)
      try simp only [List.getElem_toArray, List.getElem_cons_succ, List.getElem_cons_zero, Act.put, List.setIfInBounds_toArray, List.set_cons_zero, List.set_cons_succ]
      refine wpAnyH_take (i := 3) (v := ?_) rfl (by kernel_rfl) (by kernel_rfl) (by kernel_rfl) (fun _ _ _ h => h) (Or.inl ⟨by rfl, ?_⟩) (by assumption) ?_
      rotate_left
      · (intro w hSw; (try dsimp only at hSw); go_simp; try with_reducible rfl)
      try simp only [List.getElem_toArray, List.getElem_cons_succ, List.getElem_cons_zero, Act.put, List.setIfInBounds_toArray, List.set_cons_zero, List.set_cons_succ]
      refine wpAnyH_take (i := 4) (v := ?_) rfl (by kernel_rfl) (by kernel_rfl) (by kernel_rfl) (fun _ _ _ h => h) (Or.inl ⟨by rfl, ?_⟩) (by assumption) ?_
      rotate_left
      · (intro w hSw; (try dsimp only at hSw); go_simp; try with_reducible rfl)
      try simp only [List.getElem_toArray, List.getElem_cons_succ, List.getElem_cons_zero, Act.put, List.setIfInBounds_toArray, List.set_cons_zero, List.set_cons_succ]
      refine wpAnyH_take (i := 5) (v := ?_) rfl (by kernel_rfl) (by kernel_rfl) (by kernel_rfl) (fun _ _ _ h => h) (Or.inl ⟨by rfl, ?_⟩) (by assumption) ?_
      rotate_left
      · (intro w hSw; (try dsimp only at hSw); go_simp; try with_reducible rfl)
      try simp only [List.getElem_toArray, List.getElem_cons_succ, List.getElem_cons_zero, Act.put, List.setIfInBounds_toArray, List.set_cons_zero, List.set_cons_succ]
      refine wpAnyH_ready (rs := [6]) (by kernel_rfl) (by simp) ?_
      refine AllReadyH.cons (by rfl) (fun KK hKK => ?_) AllReadyH.nil
      simp only [List.getElem_toArray, List.getElem_cons_succ, List.getElem_cons_zero]
      go_simp
      go_at_call 39
      (with_reducible refine (Hid.out CP).mono ?_)
      rintro e w5 ⟨v5, rfl, hr5, hb5⟩
      have P5 := hide (PD.out.keep hb5)
      obtain ⟨⟨q0, q1, q2, q3, q4, q5, q6, q7, q8, q9, q10⟩, qf⟩ := P5.out.kn.hd.eleven
      have f0 := qf 0
      have f1 := qf 1
      have f2 := qf 2
      have f3 := qf 3
      have f4 := qf 4
      have f5 := qf 5
      have f6 := qf 6
      have f7 := qf 7
      have f8 := qf 8
      have f9 := qf 9
      have f10 := qf 10
      have hcx5 := HX5.out w5 (P5.out.kn.get (by simp))
      clear qf
      refine hKK.out _ _ (⟨⟨q0, q1, q2, q3, q4, q5, q6, q7, q8, q9, q10⟩, hcx5⟩) (fun hHeld2 => ?_)
      clear hKK KK
      try simp only [List.getElem_toArray, List.getElem_cons_succ, List.getElem_cons_zero, Act.put, List.setIfInBounds_toArray, List.set_cons_zero, List.set_cons_succ]
      refine wpAnyH_done (by kernel_rfl) ?_ _
      refine Last.done_last ?_
      refine wpOp_step rfl (fun KK hKK => ?_)
      simp only [List.getElem_toArray, List.getElem_cons_succ, List.getElem_cons_zero]
      go_simp
      refine hKK _ _ ?_
      clear hKK
      go_simp
      refine gen_pk (PB.call PD.out hr5.out hb5) ?_
      intro W6 P6
      clear q0 q1 q2 q3 q4 q5 q6 q7 q8 q9 q10 f0 f1 f2 f3 f4 f5 f6 f7 f8 f9 f10 hcx5 p0 p1 p2 p3 p4 p5 p6 p7 p8 p9 p10 hcl hheld hr5 hb5 hHeld2 CP
      go_wp2
      go_roundw
      case rel => exact ⟨j + 1, v5, by have := HJL.out; omega, by simp, hide (by
        have e : DoS s k κ x rs (j + 1) = { DoS s k κ x rs j with ks := (DoS s k κ x rs j).ks.set k { (⟨κ.l ++ rs.take j, 0, false⟩ : W1 Int) with l := (⟨κ.l ++ rs.take j, 0, false⟩ : W1 Int).l ++ [y] } } := by
          unfold DoS
          rw [List.set_set, List.take_add_one, List.getElem?_eq_getElem HJL.out, HY.out, List.getD_eq_getElem?_getD, List.getElem?_eq_getElem HJL.out]
          simp
        rw [e]
        exact P6.out)⟩
      case measure => simp [intOf]; omega
    · obtain rfl : j = m := by have := HM.out; omega
      have hjj : ¬ (j : Int) < j := by omega
      have HT : Hid (DoS s k κ x rs j = { s with ks := s.ks.set k ⟨κ.l ++ halfL κ.x, 0, false⟩, dn := s.dn ++ [κ.x], who := s.who ++ [(k : Int)] }) := hide (by
        unfold DoS
        rw [HM.out, List.take_length, HRS.out, HX.out])
      rw [HT.out] at hP
      clear hlt
      obtain ⟨⟨p0, p1, p2, p3, p4, p5, p6, p7, p8, p9, p10⟩, pf⟩ := (Kn.hd hP.out.kn).eleven
      obtain ⟨_, qf⟩ := (DqI.Kn.hd2 hP.out.kn).eleven
      have f0 := qf 0
      have f1 := qf 1
      have f2 := qf 2
      have f3 := qf 3
      have f4 := qf 4
      have f5 := qf 5
      have f6 := qf 6
      have f7 := qf 7
      have f8 := qf 8
      have f9 := qf 9
      have f10 := qf 10
      have hne : ¬ bp = br := (List.pairwise_cons.1 hP.out.kn.sep).1 _ (.head _) bp rfl
      have hne2 : ¬ br = bp := fun e => hne e.symm
      clear pf qf
      go_wp2
      have R := hide (hP.out.ret hP.out.rp (Below.refl _ _))
      obtain ⟨⟨r0, r1, r2, r3, r4, r5, r6, r7, r8, r9, r10⟩, _⟩ := (Kn.hd R.out.1).eleven
      refine bodyPost_ret (v := .agg #[.slice v1.l.a v1.l.n v1.l.c, .int .i64 v1.c, .int .i64 (v1.n : Int), .int .i64 (v1.u : Int), .slice v1.rows.a v1.rows.n v1.rows.c, .slice v1.held.a v1.held.n v1.held.c, .slice v1.holds.a v1.holds.n v1.holds.c, .slice v1.done.a v1.done.n v1.done.c, .int .i64 (v1.st : Int), .int .i64 (v1.nx : Int), .slice v1.who.a v1.who.n v1.who.c]) (by simp [results, Tryz.results38, go_sem, r0, r1, r2, r3, r4, r5, r6, r7, r8, r9, r10]) rfl ?_
      exact ⟨v1, rfl, hide R.out.2, R.out.1.below⟩
end Go.Proofs.YtkjhamcmhijhgaaGreat.PRef

/- How many jobs are still to come of those that are left, plain. -/
namespace Go.Proofs.YtkjhamcmhijhgaaGreat.PRef
open Go.RowKit Go.Proofs.YtkjhamcmhijhgaaGreat.Pool
set_option linter.unusedVariables false

def born1 (κ : W1 Int) : Nat := (jobsL κ.l - κ.l.length) + (if κ.h = true then jobs1 κ.x - 1 else 0)
def bornL (ks : List (W1 Int)) : Nat := (ks.map born1).sum
theorem jobs_len (l : List Int) : l.length ≤ jobsL l := by
  induction l with
  | nil => simp
  | cons x l ih => have := jobs1_pos x; unfold jobsL at *; simp only [List.map_cons, List.sum_cons, List.length_cons]; omega
theorem born_take {ks : List (W1 Int)} {k : Nat} {κ : W1 Int} (h : ks[k]? = some κ) : bornL (ks.take (k + 1)) = bornL (ks.take k) + born1 κ := by
  unfold bornL
  rw [List.take_add_one, h, List.map_append, List.sum_append]
  simp
theorem sumL_cons2 (f : Int → Nat) (κ : W1 Int) (ks : List (W1 Int)) : sumL f (κ :: ks) = (κ.l.map f).sum + (if κ.h = true then f κ.x else 0) + sumL f ks := by simp [sumL]
theorem bornL_cons (κ : W1 Int) (ks : List (W1 Int)) : bornL (κ :: ks) = born1 κ + bornL ks := by simp [bornL]
theorem ones2 (l : List Int) : (l.map fun _ => 1).sum = l.length := by
  induction l with
  | nil => rfl
  | cons x l ih => simp only [List.map_cons, List.sum_cons, List.length_cons, ih]; omega
theorem born_left (ks : List (W1 Int)) : leftL ks + bornL ks = sumL jobs1 ks := by
  rw [left_sum]
  induction ks with
  | nil => rfl
  | cons κ ks ih =>
    have h1 := jobs_len κ.l
    have h2 := jobs1_pos κ.x
    have h4 : jobsL κ.l = (κ.l.map jobs1).sum := rfl
    rw [sumL_cons2, sumL_cons2, bornL_cons, ones2]
    unfold born1
    split <;> omega
/-- What the law asks of what is left. -/
theorem left_born {L : List Int} {c : Int} {r : Nat} {l : List Int} {s : PS Int} (h : Started r l s) (m : Nat) (hm : 2 * jobsL l < m) :
    leftL (runS halfL 0 L c m s 0).1.ks + bornL (runS halfL 0 L c m s 0).1.ks + (runS halfL 0 L c m s 0).1.dn.length = jobsL l := by
  have hr := (run_ran (of := halfL) (d0 := 0) (L := L) (c := c) (J := jobs1) (f := jobs1) (g := fun _ => 1) jobs1_eq jobs1_eq m s 0 (by rw [h.todo]; exact hm)).sum
  rw [h.dn, h.sum jobs1, ← born_left] at hr
  have hd : ∀ d : List Int, (d.map fun _ => 1).sum = d.length := fun d => by
    induction d with
    | nil => rfl
    | cons x d ih => simp only [List.map_cons, List.sum_cons, List.length_cons, ih]; omega
  rw [hd] at hr
  simpa [jobsL] using hr
end Go.Proofs.YtkjhamcmhijhgaaGreat.PRef

/- The document's step, whatever the state. -/
namespace Go.Proofs.YtkjhamcmhijhgaaGreat.PRef
open Go.RowKit Go.Proofs.YtkjhamcmhijhgaaGreat.Dig Go.Proofs.YtkjhamcmhijhgaaGreat.Mem Go.Proofs.YtkjhamcmhijhgaaGreat.Dq Go.Proofs.YtkjhamcmhijhgaaGreat.Thing Go.Proofs.YtkjhamcmhijhgaaGreat.Pick Go.Proofs.YtkjhamcmhijhgaaGreat.Sets Go.Proofs.YtkjhamcmhijhgaaGreat.Pool
set_option linter.unusedVariables false
set_option linter.unusedSimpArgs false

/-- What a run keeps: i steps are done. -/
structure RInv (s : PS Int) (r i : Nat) : Prop where
  len : s.ks.length = r
  sum : sumL jobs1 s.ks + (s.dn.map fun _ => 1).sum ≤ 40000
  all : DqI.AllG SmallJ s.ks
  who : s.who.length ≤ i
  st : s.st ≤ i
theorem sum_ones (d : List Int) : (d.map fun _ => 1).sum = d.length := by
  induction d with
  | nil => rfl
  | cons x d ih => simp only [List.map_cons, List.sum_cons, List.length_cons, ih]; omega
theorem RInv.step {s : PS Int} {r i k : Nat} (h : RInv s r i) (hr : rdy s.ks k = true) : RInv (stepK halfL 0 s k) r (i + 1) := by
  obtain ⟨a1, a2, _, a4, _⟩ := step_len (of := halfL) (d0 := 0) hr
  have := step_sum (of := halfL) (d0 := 0) (f := jobs1) (g := fun _ => 1) jobs1_eq hr
  have h2 := h.sum
  have h3 := h.who
  have h4 := h.st
  exact ⟨a1.trans h.len, by omega, DqI.allG_step half_small h.all hr, by omega, by omega⟩
theorem RInv.row {s : PS Int} {r i k : Nat} (h : RInv s r i) {κ : W1 Int} (hk : s.ks[k]? = some κ) : κ.l.length ≤ 40000 := by
  have h1 := sum_one_row hk
  have h2 := born_left s.ks
  rw [left_sum] at h2
  have := h.sum
  omega
theorem RInv.done {s : PS Int} {r i : Nat} (h : RInv s r i) : s.dn.length ≤ 40000 := by
  have := h.sum
  rw [sum_ones] at this
  omega
theorem rstep_pool {A : Nat → Prop} {w : World} {v : RV} {L : List Int} {c : Int} {n : Nat} {s : PS Int} (h : Hid (RPA A w v L c n s)) (hA : ∀ k, A k → k < w.heap.size) {r i k : Nat} (h64 : r ≤ 64) (hi : i ≤ 40000) (hI : RInv s r i) (hr : rdy s.ks k = true) :
    Calls Tryz.prog 38 #[.agg #[.slice v.l.a v.l.n v.l.c, .int .i64 v.c, .int .i64 (v.n : Int), .int .i64 (v.u : Int), .slice v.rows.a v.rows.n v.rows.c, .slice v.held.a v.held.n v.held.c, .slice v.holds.a v.holds.n v.holds.c, .slice v.done.a v.done.n v.done.c, .int .i64 (v.st : Int), .int .i64 (v.nx : Int), .slice v.who.a v.who.n v.who.c], .int .i64 (k : Int)] w fun e w' => ∃ v', e = .returned (.agg #[.slice v'.l.a v'.l.n v'.l.c, .int .i64 v'.c, .int .i64 (v'.n : Int), .int .i64 (v'.u : Int), .slice v'.rows.a v'.rows.n v'.rows.c, .slice v'.held.a v'.held.n v'.held.c, .slice v'.holds.a v'.holds.n v'.holds.c, .slice v'.done.a v'.done.n v'.done.c, .int .i64 (v'.st : Int), .int .i64 (v'.nx : Int), .slice v'.who.a v'.who.n v'.who.c]) ∧ Hid (RPA A w' v' L c n (stepK halfL 0 s k)) ∧ Below w.heap.size w w' := by
  have hl := hI.len
  have hw := hI.who
  have hst := hI.st
  rcases step_cases halfL 0 hr with ⟨κ, h1, h2, h3⟩ | ⟨κ, l, x, h1, h2, h3, h4⟩ | ⟨κ, z, κv, x, l, d, h1, h2, h3, h4, h5, h6, h7, h8, h9, h10⟩
  · rw [h3]
    exact step_hold h hA (by omega) (by omega) h1 h2 ((hI.all κ (List.mem_of_getElem? h1)).2 h2) (by have := hI.row h1; omega) (by have := hI.done; omega)
  · rw [h4]
    exact step_own h hA (by omega) (by omega) h1 h2 h3 (by have := hI.row h1; rw [h3] at this; simp at this; omega)
  · rw [h10]
    exact step_steal h hA (by omega) (by omega) h1 h2 h3 h4 h6 h5 h7 h8 h9 (by omega) (by have := hI.row h7; rw [h8] at this; simp at this; omega)
end Go.Proofs.YtkjhamcmhijhgaaGreat.PRef

/- The document's ready. -/
namespace Go.Proofs.YtkjhamcmhijhgaaGreat.PRef
open Go.RowKit Go.Proofs.YtkjhamcmhijhgaaGreat.Dig Go.Proofs.YtkjhamcmhijhgaaGreat.Mem Go.Proofs.YtkjhamcmhijhgaaGreat.Dq Go.Proofs.YtkjhamcmhijhgaaGreat.Thing Go.Proofs.YtkjhamcmhijhgaaGreat.Pick Go.Proofs.YtkjhamcmhijhgaaGreat.Sets Go.Proofs.YtkjhamcmhijhgaaGreat.Pool
set_option linter.unusedVariables false
set_option linter.unusedSimpArgs false

def Ready2 (ks : List (W1 Int)) (W0 : World) (ov kv : Value) (wr : World) : Prop := ∃ k : Nat, k ≤ ks.length ∧ kv = .int .i64 (k : Int) ∧ Hid (Kn W0 [ownT W0.heap.size 3 ov (readyTo ks k).length ((readyTo ks k).map (Value.int .i64))] wr)
set_option maxRecDepth 20000 in
set_option maxHeartbeats 4000000 in
theorem ready_ref {w : World} {v : RV} {L : List Int} {c : Int} {n : Nat} {s : PS Int} (h : Hid (RP w v L c n s)) (h64 : s.ks.length ≤ 64) :
    Calls Tryz.prog 36 #[.agg #[.slice v.l.a v.l.n v.l.c, .int .i64 v.c, .int .i64 (v.n : Int), .int .i64 (v.u : Int), .slice v.rows.a v.rows.n v.rows.c, .slice v.held.a v.held.n v.held.c, .slice v.holds.a v.holds.n v.holds.c, .slice v.done.a v.done.n v.done.c, .int .i64 (v.st : Int), .int .i64 (v.nx : Int), .slice v.who.a v.who.n v.who.c]] w fun e w' => (∃ a c', e = .returned (.slice a (readyL s.ks).length c') ∧ RowI w' a c' (readyL s.ks)) ∧ Below w.heap.size w w' := by
  obtain ⟨i0, hi, hz0, hz1, hz2⟩ := info_parts Tryz.infoPInt
  obtain ⟨⟨la, lm, lp⟩, vc, vn, vu, ⟨ra, rn, rc⟩, ⟨ha, hn, hc⟩, ⟨oa, on, oc⟩, ⟨da, dn, dc⟩, vst, vnx, ⟨wa, wn, wc⟩, vds⟩ := v
  obtain ⟨e1, hcr, hrr⟩ := h.out.rows
  obtain ⟨e2, hco⟩ := h.out.holds
  dsimp only at e1 e2 hcr hrr hco ⊢
  have HCR := hide hcr
  have HRR := hide hrr
  have HCO := hide hco
  have HWF : Hid (∀ k, k ≤ s.ks.length → (∀ x ∈ readyTo s.ks k, (Lit.int .i64 x).wf = true) ∧ (readyTo s.ks k).length ≤ 64) := hide (fun k hk => ⟨fun x hx => by
    unfold readyTo at hx
    obtain ⟨j, hj, rfl⟩ := List.mem_map.1 hx
    have := List.mem_range.1 (List.mem_filter.1 hj).1
    exact wf_of_i64 (by omega) (by omega), Nat.le_trans (readyTo_length s.ks k) (by omega)⟩)
  obtain ⟨K, hK⟩ : ∃ K, K = s.ks.length := ⟨_, rfl⟩
  obtain rfl : rn = K := by omega
  obtain rfl : on = rn := by omega
  have HKL := hide hK
  have hK64 : on ≤ 64 := by omega
  have P0 : Hid (Is (w.alloc (.cells #[.slice la lm lp, .int .i64 vc, .int .i64 (vn : Int), .int .i64 (vu : Int), .slice ra on rc, .slice ha hn hc, .slice oa on oc, .slice da dn dc, .int .i64 (vst : Int), .int .i64 (vnx : Int), .slice wa wn wc] 36)) w.heap.size #[.slice la lm lp, .int .i64 vc, .int .i64 (vn : Int), .int .i64 (vu : Int), .slice ra on rc, .slice ha hn hc, .slice oa on oc, .slice da dn dc, .int .i64 (vst : Int), .int .i64 (vnx : Int), .slice wa wn wc] ∧ Below w.heap.size w (w.alloc (.cells #[.slice la lm lp, .int .i64 vc, .int .i64 (vn : Int), .int .i64 (vu : Int), .slice ra on rc, .slice ha hn hc, .slice oa on oc, .slice da dn dc, .int .i64 (vst : Int), .int .i64 (vnx : Int), .slice wa wn wc] 36))) := hide ⟨Is.made _ _ _ rfl, (Below.refl _ _).alloc (Nat.le_refl _) _⟩
  clear h h64 e1 e2 hcr hrr hco hK
  go_enter Tryz.func36, Tryz.ntmps36
  go_wp2
  generalize (w.alloc (.cells #[.slice la lm lp, .int .i64 vc, .int .i64 (vn : Int), .int .i64 (vu : Int), .slice ra on rc, .slice ha hn hc, .slice oa on oc, .slice da dn dc, .int .i64 (vst : Int), .int .i64 (vnx : Int), .slice wa wn wc] 36)) = W0 at *
  have PB := hide P0.out.1
  have BB := hide P0.out.2
  have p4 : W0.cell? ⟨w.heap.size, 4, none⟩ = some (.slice ra on rc) := PB.out.cell 4 rfl
  have p6 : W0.cell? ⟨w.heap.size, 6, none⟩ = some (.slice oa on oc) := PB.out.cell 6 rfl
  clear P0
  go_loopw [3, 4] (fun sv kv wr => ∃ k : Nat, k ≤ on ∧ kv = .int .i64 (k : Int) ∧ (∃ q : Bool, sv = .bool q ∧ Hid (q = decide (0 < waitL (s.ks.take k)))) ∧ wr = W0) (fun _ kv _ => on - (intOf kv).toNat)
  case atStart => exact ⟨0, by omega, rfl, ⟨false, rfl, hide (by simp [waitL])⟩, rfl⟩
  case round =>
    obtain ⟨k, hk, rfl, ⟨q, rfl, hq⟩, hwr⟩ := hrel
    replace hwr := hwr.symm
    subst hwr
    by_cases hlt : k < on
    · have hklt : k < s.ks.length := by rw [← HKL.out]; exact hlt
      obtain ⟨κ, hκ⟩ : ∃ κ, s.ks[k]? = some κ := ⟨s.ks[k], List.getElem?_eq_getElem hklt⟩
      obtain ⟨d, hd, hdn, _⟩ := HRR.out.get (k := k) (l := κ.l) (by rw [List.getElem?_map, hκ]; rfl)
      obtain ⟨b, off, rfl, hcell⟩ := (HCR.out.keep BB.out).at_ k d.v (by rw [List.getElem?_map, hd]; rfl)
      have hcell2 : W0.cell? ⟨b, off + k, none⟩ = some (.slice d.a d.n d.c) := hcell
      have HS := hide (DqI.wait_succ hκ)
      have HDN := hide hdn
      have hki : (k : Int) < on := by omega
      clear hcell hdn hd hκ hklt
      cases q with
      | true =>
        have HQ : Hid (true = decide (0 < waitL (s.ks.take (k + 1)))) := hide (by have := hq.out; have h2 := of_decide_eq_true this.symm; rw [HS.out]; exact (decide_eq_true (by omega)).symm)
        go_wp2
        go_roundw
        case rel => exact ⟨k + 1, by omega, by simp, ⟨true, by first | rfl | (rw [decide_eq_true (show 0 < d.n by omega)]), HQ⟩, trivial⟩
        case measure => simp [intOf]; omega
      | false =>
        have h0 : ¬ 0 < waitL (s.ks.take k) := of_decide_eq_false hq.out.symm
        by_cases hpos : 0 < d.n
        · have hpi : (0 : Int) < (d.n : Int) := by omega
          have HQ : Hid (true = decide (0 < waitL (s.ks.take (k + 1)))) := hide (by rw [HS.out]; exact (decide_eq_true (by have := HDN.out; omega)).symm)
          clear h0 hpos
          go_wp2
          go_roundw
          case rel => exact ⟨k + 1, by omega, by simp, ⟨true, by first | rfl | (rw [decide_eq_true (show 0 < d.n by omega)]), HQ⟩, trivial⟩
          case measure => simp [intOf]; omega
        · have hpi : ¬ (0 : Int) < (d.n : Int) := by omega
          have HQ : Hid (false = decide (0 < waitL (s.ks.take (k + 1)))) := hide (by rw [HS.out]; exact (decide_eq_false (by have := HDN.out; omega)).symm)
          clear h0
          have hpz : d.n = 0 := by omega
          go_wp2
          go_roundw
          case rel => exact ⟨k + 1, by omega, by simp, ⟨false, rfl, HQ⟩, trivial⟩
          case measure => simp [intOf]; omega
    · obtain rfl : k = on := by omega
      have hkk : ¬ (k : Int) < k := by omega
      have HQ2 : Hid (q = decide (0 < waitL s.ks)) := hide (by have := hq.out; rw [HKL.out, List.take_length] at this; exact this)
      have R2 : Hid (Ready2 s.ks W0 (.slice none 0 0) (.int .i64 0) W0) := hide ⟨0, Nat.zero_le _, rfl, hide ((Kn.start W0).more (Below.refl _ _) (t' := ownT W0.heap.size 3 (.slice none 0 0) 0 []) (World.ownsRow_nil _ _ _ _) (fun k hk => by cases hk))⟩
      clear hq hlt
      go_wp2
      go_loopw [5, 6] (fun ov kv wr => Ready2 s.ks W0 ov kv wr) (fun _ kv _ => k - (intOf kv).toNat)
      case atStart => exact R2.out
      case round =>
        obtain ⟨j, hj, rfl, hKn⟩ := hrel
        have hjk : j ≤ k := by rw [HKL.out]; exact hj
        have hz := hKn.out.below.size
        clear p4 p6 hkk R2
        have p4 : wr.cell? ⟨w.heap.size, 4, none⟩ = some (.slice ra k rc) := (PB.out.below hKn.out.below).cell 4 rfl
        have p6 : wr.cell? ⟨w.heap.size, 6, none⟩ = some (.slice oa k oc) := (PB.out.below hKn.out.below).cell 6 rfl
        obtain ⟨va, vc2, rfl⟩ := Dq.own_form (Kn.hd hKn.out)
        obtain ⟨hwf, hrl⟩ := HWF.out j hj
        have BW := hide (BB.out.trans (hKn.out.below.mono BB.out.size))
        by_cases hlt2 : j < k
        · have hjlt : j < s.ks.length := by rw [← HKL.out]; exact hlt2
          obtain ⟨κ, hκ⟩ : ∃ κ, s.ks[j]? = some κ := ⟨s.ks[j], List.getElem?_eq_getElem hjlt⟩
          obtain ⟨b, off, rfl, hcell⟩ := (HCO.out.keep BW.out).at_ j (.bool κ.h) (by rw [List.getElem?_map, hκ]; rfl)
          have hrd : rdy s.ks j = (κ.h || q) := by unfold rdy; rw [hκ, HQ2.out]
          obtain ⟨hb, hhb⟩ : ∃ hb, hb = κ.h := ⟨_, rfl⟩
          rw [← hhb] at hcell hrd
          have HRS := hide (readyTo_succ s.ks j)
          have HRD := hide hrd
          obtain ⟨r, hr⟩ : ∃ r, r = readyTo s.ks j := ⟨_, rfl⟩
          rw [← hr] at hKn HRS hwf hrl ⊢
          obtain ⟨ln, hln⟩ : ∃ ln, ln = r.length := ⟨_, rfl⟩
          rw [← hln] at hKn hrl ⊢
          have HLN := hide hln
          have hji : (j : Int) < k := by omega
          clear hκ hhb hrd hr hln hwf hj hjlt
          have HK2 : Hid ((hb || q) = true → ∀ v W, Kn W0 [ownT W0.heap.size 3 v (ln + 1) (r.map (Value.int .i64) ++ [.int .i64 (j : Int)])] W → Kn W0 [ownT W0.heap.size 3 v (readyTo s.ks (j + 1)).length ((readyTo s.ks (j + 1)).map (Value.int .i64))] W) := hide (fun hq v W hh => by
            have e : readyTo s.ks (j + 1) = r ++ [(j : Int)] := by rw [HRS.out, HRD.out, hq]; rfl
            rw [e, List.length_append, List.map_append, ← HLN.out]; exact hh)
          have HK3 : Hid ((hb || q) = false → Kn W0 [ownT W0.heap.size 3 (.slice va ln vc2) (readyTo s.ks (j + 1)).length ((readyTo s.ks (j + 1)).map (Value.int .i64))] wr) := hide (fun hq => by
            have e : readyTo s.ks (j + 1) = r := by rw [HRS.out, HRD.out, hq]; simp
            rw [e, ← HLN.out]; exact hKn.out)
          clear HRS HRD
          cases q <;> cases hb
          · go_wp2
            go_roundw
            case rel => exact ⟨j + 1, by rw [← HKL.out]; omega, by simp, hide (HK3.out rfl)⟩
            case measure => simp [intOf]; omega
          all_goals
            go_wp2_with (at_builtin; go_must (refine wpList_append_own_at _ rfl _ _ 22 rfl W0.heap.size 3 i0 (.int .i64 0) 1 8 Tryz.underlying22 hi hz0 hz1 hz2 rfl (by decide) (.slice va ln vc2) ln (r.map (Value.int .i64)) rfl (World.ownsRow.alloc (Kn.hd hKn.out) _) ⟨wr.heap.size, 0, none⟩ 1 1 [.int .i64 (j : Int)] rfl rfl (cell_one_new _ _ _) (by simp [Value.oneCell']) (by unfold maxLen; omega) (by omega) (by simp; omega) ?_; intro v7 w7 hown7 hg7 _ hat7; have KA := hide (HK2.out rfl _ _ (grow1 (hKn.out.keep (w' := wr.alloc (.cells #[.int .i64 (j : Int)] 3)) ((Below.refl _ _).alloc (Nat.le_refl _) _)) hown7 hg7 hat7)); clear hown7 hg7 hat7))
            go_roundw
            case rel => exact ⟨j + 1, by rw [← HKL.out]; omega, by simp, KA⟩
            case measure => simp [intOf]; omega
        · obtain rfl : j = k := by omega
          have hjj : ¬ (j : Int) < j := by omega
          have HR := hide (own_ints (l := readyTo s.ks j) (Kn.hd hKn.out) rfl hwf (by omega))
          have HE : Hid (readyTo s.ks j = readyL s.ks) := hide (by unfold readyL; rw [HKL.out])
          rw [HE.out] at HR
          obtain ⟨m, hm⟩ : ∃ m, m = (readyTo s.ks j).length := ⟨_, rfl⟩
          have HMM : Hid (m = (readyL s.ks).length) := hide (by rw [hm, HE.out])
          rw [← hm]
          clear hm hKn hwf hrl
          go_wp2
          go_ret
          exact ⟨⟨va, vc2, by rw [HMM.out]; rfl, HR.out.2⟩, BW.out⟩
end Go.Proofs.YtkjhamcmhijhgaaGreat.PRef

/- The document's Run. -/
namespace Go.Proofs.YtkjhamcmhijhgaaGreat.PRef
open Go.RowKit Go.Proofs.YtkjhamcmhijhgaaGreat.Dig Go.Proofs.YtkjhamcmhijhgaaGreat.Mem Go.Proofs.YtkjhamcmhijhgaaGreat.Dq Go.Proofs.YtkjhamcmhijhgaaGreat.Thing Go.Proofs.YtkjhamcmhijhgaaGreat.Pick Go.Proofs.YtkjhamcmhijhgaaGreat.Sets Go.Proofs.YtkjhamcmhijhgaaGreat.Pool
set_option linter.unusedVariables false
set_option linter.unusedSimpArgs false

def RunR (A : Nat → Prop) (w : World) (bp br : Nat) (L : List Int) (c : Int) (n i0 : Nat) (s' : PS Int) (n' : Nat) (E : Int) (r : Nat) (kv : Value) (wr : World) : Prop := ∃ (i : Nat) (v : RV) (s1 : PS Int) (n1 : Nat), i ≤ 2001 ∧ kv = .int .i64 (i : Int) ∧ Hid (runS halfL 0 L c (2001 - i) s1 n1 = (s', n', E)) ∧ Hid (RInv s1 r (i0 + i)) ∧ n1 ≤ n + i ∧ Hid (PB A w bp br z11 [] v L c n1 s1 wr)
set_option maxRecDepth 20000 in
set_option maxHeartbeats 4000000 in
theorem rrun_any {A : Nat → Prop} {w : World} {v : RV} {L : List Int} {c : Int} {n : Nat} {s : PS Int} (h : Hid (RPA A w v L c n s)) (hA : ∀ k, A k → k < w.heap.size) {r i0 : Nat} (h64 : r ≤ 64) (hi0 : i0 ≤ 1000) (hn : n ≤ 1000) (hL : L.length ≤ 1000) (hI : RInv s r i0) {s' : PS Int} {n' : Nat} {E : Int} (hR : runS halfL 0 L c 2001 s n = (s', n', E)) :
    Calls Tryz.prog 12 #[.agg #[.slice v.l.a v.l.n v.l.c, .int .i64 v.c, .int .i64 (v.n : Int), .int .i64 (v.u : Int), .slice v.rows.a v.rows.n v.rows.c, .slice v.held.a v.held.n v.held.c, .slice v.holds.a v.holds.n v.holds.c, .slice v.done.a v.done.n v.done.c, .int .i64 (v.st : Int), .int .i64 (v.nx : Int), .slice v.who.a v.who.n v.who.c], .int .i64 2000] w fun e w' => ∃ v', e = .returned (.tuple #[.agg #[.slice v'.l.a v'.l.n v'.l.c, .int .i64 v'.c, .int .i64 (v'.n : Int), .int .i64 (v'.u : Int), .slice v'.rows.a v'.rows.n v'.rows.c, .slice v'.held.a v'.held.n v'.held.c, .slice v'.holds.a v'.holds.n v'.holds.c, .slice v'.done.a v'.done.n v'.done.c, .int .i64 (v'.st : Int), .int .i64 (v'.nx : Int), .slice v'.who.a v'.who.n v'.who.c], .int .i64 E]) ∧ Hid (RPA A w' v' L c n' s') ∧ Below w.heap.size w w' := by
  have HAB := hide hA
  have P0 : Hid (RunR A w w.heap.size (w.heap.size + 1) L c n i0 s' n' E r (.int .i64 0) ((w.alloc (.cells #[.slice v.l.a v.l.n v.l.c, .int .i64 v.c, .int .i64 (v.n : Int), .int .i64 (v.u : Int), .slice v.rows.a v.rows.n v.rows.c, .slice v.held.a v.held.n v.held.c, .slice v.holds.a v.holds.n v.holds.c, .slice v.done.a v.done.n v.done.c, .int .i64 (v.st : Int), .int .i64 (v.nx : Int), .slice v.who.a v.who.n v.who.c] 36)).alloc (.cells z11 36))) := hide ⟨0, v, s, n, by omega, rfl, hide hR, hide hI, by omega, hide (PB.start h.out hA z11 rfl)⟩
  unfold z11 at P0
  have HL := hide hL
  clear h hA hI hR
  go_enter Tryz.func12, Tryz.ntmps12
  go_wp2
  obtain ⟨bp, hbp⟩ : ∃ bp, bp = w.heap.size := ⟨_, rfl⟩
  obtain ⟨br, hbr⟩ : ∃ br, br = w.heap.size + 1 := ⟨_, rfl⟩
  rw [← hbr, ← hbp] at P0
  rw [← hbr, ← hbp]
  generalize ((w.alloc (.cells #[.slice v.l.a v.l.n v.l.c, .int .i64 v.c, .int .i64 (v.n : Int), .int .i64 (v.u : Int), .slice v.rows.a v.rows.n v.rows.c, .slice v.held.a v.held.n v.held.c, .slice v.holds.a v.holds.n v.holds.c, .slice v.done.a v.done.n v.done.c, .int .i64 (v.st : Int), .int .i64 (v.nx : Int), .slice v.who.a v.who.n v.who.c] 36)).alloc (.cells #[.slice none 0 0, .int .i64 0, .int .i64 0, .int .i64 0, .slice none 0 0, .slice none 0 0, .slice none 0 0, .slice none 0 0, .int .i64 0, .int .i64 0, .slice none 0 0] 36)) = W0 at *
  clear hbp hbr
  go_loopw [6] (fun kv wr => RunR A w bp br L c n i0 s' n' E r kv wr) (fun kv _ => 2001 - (intOf kv).toNat)
  case atStart => exact P0.out
  case round =>
    obtain ⟨i, v1, s1, n1, hi, rfl, HR, HI, hn1, hP⟩ := hrel
    clear P0
    by_cases hlt : i ≤ 2000
    · have hli : (i : Int) ≤ 2000 := by omega
      obtain ⟨f, hf⟩ : ∃ f, 2001 - i = f + 1 := ⟨2000 - i, by omega⟩
      rw [hf] at HR
      have HF := hide hf
      have RD := hide (ready_ref (hide hP.out.rp.rp) (by rw [HI.out.len]; exact h64))
      obtain ⟨m, hm⟩ : ∃ m, m = (readyL s1.ks).length := ⟨_, rfl⟩
      rw [← hm] at RD
      have hm64 : m ≤ 64 := by have := readyTo_length s1.ks s1.ks.length; have := HI.out.len; unfold readyL at hm; omega
      have HM := hide hm
      obtain ⟨⟨p0, p1, p2, p3, p4, p5, p6, p7, p8, p9, p10⟩, pf⟩ := hP.out.kn.hd.eleven
      clear pf hf hm
      by_cases hm0 : m = 0
      · subst hm0
        have HE : Hid ((s1, n1, (0 : Int)) = (s', n', E)) := hide (by rw [← HR.out]; exact (run_none halfL 0 L c (List.eq_nil_of_length_eq_zero HM.out.symm)).symm)
        go_upto_region 5 with (go_at_call 36; go_must ((with_reducible refine (Hid.out RD).mono ?_); rintro e w4 ⟨⟨ra, rc, rfl, hrr⟩, hb4⟩; have P4 := hide (hP.out.keep hb4); clear hb4 hrr))
        clear p0 p1 p2 p3 p4 p5 p6 p7 p8 p9 p10
        obtain ⟨⟨p0, p1, p2, p3, p4, p5, p6, p7, p8, p9, p10⟩, pf⟩ := (Kn.hd P4.out.kn).eleven
        obtain ⟨_, qf⟩ := (DqI.Kn.hd2 P4.out.kn).eleven
        have f0 := qf 0
        have f1 := qf 1
        have f2 := qf 2
        have f3 := qf 3
        have f4 := qf 4
        have f5 := qf 5
        have f6 := qf 6
        have f7 := qf 7
        have f8 := qf 8
        have f9 := qf 9
        have f10 := qf 10
        have hne : ¬ bp = br := (List.pairwise_cons.1 P4.out.kn.sep).1 _ (.head _) bp rfl
        have hne2 : ¬ br = bp := fun e => hne e.symm
        clear pf qf
        go_wp2
        have R := hide (P4.out.ret P4.out.rp (Below.refl _ _))
        obtain ⟨⟨r0, r1, r2, r3, r4, r5, r6, r7, r8, r9, r10⟩, _⟩ := (Kn.hd R.out.1).eleven
        refine bodyPost_ret (v := .tuple #[.agg #[.slice v1.l.a v1.l.n v1.l.c, .int .i64 v1.c, .int .i64 (v1.n : Int), .int .i64 (v1.u : Int), .slice v1.rows.a v1.rows.n v1.rows.c, .slice v1.held.a v1.held.n v1.held.c, .slice v1.holds.a v1.holds.n v1.holds.c, .slice v1.done.a v1.done.n v1.done.c, .int .i64 (v1.st : Int), .int .i64 (v1.nx : Int), .slice v1.who.a v1.who.n v1.who.c], .int .i64 0]) (by simp [results, Tryz.results12, go_sem, r0, r1, r2, r3, r4, r5, r6, r7, r8, r9, r10]) rfl ?_
        have e := HE.out
        simp only [Prod.mk.injEq] at e
        obtain ⟨rfl, rfl, rfl⟩ := e
        exact ⟨v1, rfl, hide R.out.2, R.out.1.below⟩
      · obtain ⟨x, er, n2, hs⟩ := StepIs.ex L c n1 (readyL s1.ks)
        obtain ⟨u2, hu2⟩ : ∃ u2, u2 = min n2 L.length := ⟨_, rfl⟩
        have hmi : ¬ (m : Int) = 0 := by omega
        have RS : Hid (∀ W ra rc, Below wr.heap.size wr W → RowI W ra rc (readyL s1.ks) → Calls Tryz.prog 37 #[.agg #[.slice v1.l.a v1.l.n v1.l.c, .int .i64 v1.c, .int .i64 (v1.n : Int), .int .i64 (v1.u : Int)], .slice ra m rc] W fun r w' => r = .returned (.tuple #[.agg #[.slice v1.l.a v1.l.n v1.l.c, .int .i64 v1.c, .int .i64 (n2 : Int), .int .i64 (u2 : Int)], .int .i64 x, .int .i64 er]) ∧ Below W.heap.size W w') := hide (fun W ra rc hb hr => by
          have h0 := (hP.out.keep hb).rp.rp
          obtain ⟨e1, e2, e3⟩ := h0.scr
          have hs' : StepIs L v1.c v1.n (readyL s1.ks) x er n2 := by rw [e1, e2]; exact hs
          exact rstep_any W (by omega) h0.l.1 (by have := h0.l.1; have := HL.out; omega) h0.l.2 HM.out (by have := HM.out; omega) hr hs' (by rw [e3, h0.l.1, e2]) (by rw [hu2, h0.l.1]))
        have HS := hide hs
        have HU2 := hide hu2
        clear hs hu2
        go_upto_region 8 with (first
          | (go_at_call 36; go_must ((with_reducible refine (Hid.out RD).mono ?_); rintro e w4 ⟨⟨ra, rc, rfl, hrr⟩, hb4⟩; have P4 := hide (hP.out.keep hb4); have RS4 := hide (RS.out w4 ra rc hb4 hrr); obtain ⟨⟨y0, y1, y2, y3, _⟩, _⟩ := P4.out.kn.hd.eleven; clear hb4 hrr))
          | (go_at_call 37; go_must ((with_reducible refine (Hid.out RS4).mono ?_); rintro e w5 ⟨rfl, hb5⟩; have P5 := hide (P4.out.keep hb5); clear hb5)))
        have P6 : Hid (PB A w bp br z11 [boxT w5.heap.size #[.slice v1.l.a v1.l.n v1.l.c, .int .i64 v1.c, .int .i64 (n2 : Int), .int .i64 (u2 : Int)]] v1 L c n1 s1 (w5.alloc (.cells #[.slice v1.l.a v1.l.n v1.l.c, .int .i64 v1.c, .int .i64 (n2 : Int), .int .i64 (u2 : Int)] 32))) := hide (P5.out.more ((Below.refl _ _).alloc (Nat.le_refl _) _) (Is.made _ _ _ rfl) (fun k hk => by cases hk; exact Nat.le_refl _))
        obtain ⟨g, hg⟩ : ∃ g, g = w5.heap.size := ⟨_, rfl⟩
        rw [← hg] at P6 ⊢
        generalize (w5.alloc (.cells #[.slice v1.l.a v1.l.n v1.l.c, .int .i64 v1.c, .int .i64 (n2 : Int), .int .i64 (u2 : Int)] 32)) = W6 at P6 ⊢
        clear hg P5 P4 RS4 y0 y1 y2 y3 p0 p1 p2 p3 p4 p5 p6 p7 p8 p9 p10 hP RD RS
        have hne0 : readyL s1.ks ≠ [] := fun q => by have := HM.out; rw [q] at this; exact hm0 this
        cases ho : over c n1 with
        | true =>
          have hs := HS.out.is
          rw [step_over ho] at hs
          simp only [Prod.mk.injEq] at hs
          obtain ⟨rfl, rfl, rfl⟩ := hs
          have HE : Hid ((s1, n1, (8 : Int)) = (s', n', E)) := hide (by rw [← HR.out]; exact (run_over halfL 0 L c hne0 ho).symm)
          clear ho hne0
          obtain ⟨⟨p0, p1, p2, p3, p4, p5, p6, p7, p8, p9, p10⟩, pf⟩ := (Kn.hd P6.out.kn).eleven
          obtain ⟨_, qf⟩ := (DqI.Kn.hd2 P6.out.kn).eleven
          have f0 := qf 0
          have f1 := qf 1
          have f2 := qf 2
          have f3 := qf 3
          have f4 := qf 4
          have f5 := qf 5
          have f6 := qf 6
          have f7 := qf 7
          have f8 := qf 8
          have f9 := qf 9
          have f10 := qf 10
          have hne : ¬ bp = br := (List.pairwise_cons.1 P6.out.kn.sep).1 _ (.head _) bp rfl
          have hne2 : ¬ br = bp := fun e => hne e.symm
          clear pf qf
          go_wp2
          have R := hide (P6.out.ret P6.out.rp (Below.refl _ _))
          obtain ⟨⟨r0, r1, r2, r3, r4, r5, r6, r7, r8, r9, r10⟩, _⟩ := (Kn.hd R.out.1).eleven
          refine bodyPost_ret (v := .tuple #[.agg #[.slice v1.l.a v1.l.n v1.l.c, .int .i64 v1.c, .int .i64 (v1.n : Int), .int .i64 (v1.u : Int), .slice v1.rows.a v1.rows.n v1.rows.c, .slice v1.held.a v1.held.n v1.held.c, .slice v1.holds.a v1.holds.n v1.holds.c, .slice v1.done.a v1.done.n v1.done.c, .int .i64 (v1.st : Int), .int .i64 (v1.nx : Int), .slice v1.who.a v1.who.n v1.who.c], .int .i64 8]) (by simp [results, Tryz.results12, go_sem, r0, r1, r2, r3, r4, r5, r6, r7, r8, r9, r10]) rfl ?_
          have e := HE.out
          simp only [Prod.mk.injEq] at e
          obtain ⟨rfl, rfl, rfl⟩ := e
          exact ⟨v1, rfl, hide R.out.2, R.out.1.below⟩
        | false =>
          have hs := HS.out.is
          rw [step_told ho hne0] at hs
          simp only [Prod.mk.injEq] at hs
          obtain ⟨hx, rfl, hn2⟩ := hs
          obtain ⟨k, hk, hrd⟩ := told_rdy L n1 hne0
          rw [hk] at hx
          subst hx
          have HE : Hid (runS halfL 0 L c f (stepK halfL 0 s1 k) n2 = (s', n', E)) := hide (by rw [← HR.out, ← hn2]; exact (run_next halfL 0 L c hne0 ho hk).symm)
          have HRD := hide hrd
          obtain ⟨⟨g0, g1, g2, g3⟩, _⟩ := Is.four (show Is W6 g #[.slice v1.l.a v1.l.n v1.l.c, .int .i64 v1.c, .int .i64 (n2 : Int), .int .i64 (u2 : Int)] from P6.out.kn.get (t := boxT g _) (by simp))
          obtain ⟨⟨p0, p1, p2, p3, _⟩, pf⟩ := (Kn.hd P6.out.kn).eleven
          have hn22 : n2 ≤ n + (i + 1) := by omega
          have f0 := pf 0
          have f1 := pf 1
          have f2 := pf 2
          have f3 := pf 3
          clear pf ho hne0 hk hrd hn2
          go_upto_region 11 with fail
          refine gen_pb (P6.out.scr HU2.out) ?_
          intro W7 P7
          clear f0 f1 f2 f3 g0 g1 g2 g3 p0 p1 p2 p3 P6
          have ST := hide (rstep_pool (hide P7.out.rp) (P7.out.lt HAB.out) h64 (i := i0 + i) (by omega) HI.out HRD.out)
          obtain ⟨⟨p0, p1, p2, p3, p4, p5, p6, p7, p8, p9, p10⟩, pf⟩ := P7.out.kn.hd.eleven
          clear pf
          go_wp2_with (go_at_call 38; go_must ((with_reducible refine (Hid.out ST).mono ?_); rintro e w8 ⟨v8, rfl, hr8, hb8⟩; obtain ⟨⟨q0, q1, q2, q3, q4, q5, q6, q7, q8, q9, q10⟩, qf⟩ := (Kn.hd (P7.out.kn.keep hb8)).eleven; have f0 := qf 0; have f1 := qf 1; have f2 := qf 2; have f3 := qf 3; have f4 := qf 4; have f5 := qf 5; have f6 := qf 6; have f7 := qf 7; have f8 := qf 8; have f9 := qf 9; have f10 := qf 10; clear qf))
          go_roundw
          case rel => exact ⟨i + 1, v8, _, n2, by omega, by simp, hide (by rw [show 2001 - (i + 1) = f by have := HF.out; omega]; exact HE.out), hide (HI.out.step HRD.out), by omega, hide ((P7.out.call hr8.out hb8).drop)⟩
          case measure => simp [intOf]; omega
    · obtain rfl : i = 2001 := by omega
      have HE : Hid ((s1, n1, (0 : Int)) = (s', n', E)) := HR
      clear hlt
      obtain ⟨⟨p0, p1, p2, p3, p4, p5, p6, p7, p8, p9, p10⟩, pf⟩ := (Kn.hd hP.out.kn).eleven
      obtain ⟨_, qf⟩ := (DqI.Kn.hd2 hP.out.kn).eleven
      have f0 := qf 0
      have f1 := qf 1
      have f2 := qf 2
      have f3 := qf 3
      have f4 := qf 4
      have f5 := qf 5
      have f6 := qf 6
      have f7 := qf 7
      have f8 := qf 8
      have f9 := qf 9
      have f10 := qf 10
      have hne : ¬ bp = br := (List.pairwise_cons.1 hP.out.kn.sep).1 _ (.head _) bp rfl
      have hne2 : ¬ br = bp := fun e => hne e.symm
      clear pf qf
      go_wp2
      have R := hide (hP.out.ret hP.out.rp (Below.refl _ _))
      obtain ⟨⟨r0, r1, r2, r3, r4, r5, r6, r7, r8, r9, r10⟩, _⟩ := (Kn.hd R.out.1).eleven
      refine bodyPost_ret (v := .tuple #[.agg #[.slice v1.l.a v1.l.n v1.l.c, .int .i64 v1.c, .int .i64 (v1.n : Int), .int .i64 (v1.u : Int), .slice v1.rows.a v1.rows.n v1.rows.c, .slice v1.held.a v1.held.n v1.held.c, .slice v1.holds.a v1.holds.n v1.holds.c, .slice v1.done.a v1.done.n v1.done.c, .int .i64 (v1.st : Int), .int .i64 (v1.nx : Int), .slice v1.who.a v1.who.n v1.who.c], .int .i64 0]) (by simp [results, Tryz.results12, go_sem, r0, r1, r2, r3, r4, r5, r6, r7, r8, r9, r10]) rfl ?_
      have e := HE.out
      simp only [Prod.mk.injEq] at e
      obtain ⟨rfl, rfl, rfl⟩ := e
      exact ⟨v1, rfl, hide R.out.2, R.out.1.below⟩
end Go.Proofs.YtkjhamcmhijhgaaGreat.PRef
