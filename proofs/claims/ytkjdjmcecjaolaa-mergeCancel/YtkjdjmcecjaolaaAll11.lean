/- Joined out of the texts PickEnv, MrgRun, MrgRef, MrgNo, MrgWorks, RowArg, in that order. -/
import Derived.Test.YtkjdjmcecjaolaaAll10
import Derived.Test.YtkjdjmcecjaolaaAll2
import Derived.Test.YtkjdjmcecjaolaaAll9
import Derived.Test.YtkjdjmcecjaolaaAll5
import Derived.Test.YtkjdjmcecjaolaaAll1
/- What a law knows of its script, beside other things; works. -/
namespace Go.Proofs.Ytkjdjmcecjaolaa.Pick
open Go.RowKit Go.Proofs.Ytkjdjmcecjaolaa.Dig Go.Proofs.Ytkjdjmcecjaolaa.Mem Go.Proofs.Ytkjdjmcecjaolaa.Dq Go.Proofs.Ytkjdjmcecjaolaa.Thing Go.Proofs.Ytkjdjmcecjaolaa.Sets
set_option linter.unusedVariables false
set_option linter.unusedSimpArgs false

theorem wfl_of {l : List Int} (h : l.all (fun x => (Lit.int .i64 x).wf) = true) : WfL l := fun x hx => List.all_eq_true.1 h x hx
def SE (w : World) (b : Nat) (L : List Int) (c : Int) (n : Nat) (ts : List Th) (wx : World) : Prop := ∃ pa pc, Kn w (scrT b pa pc L c n :: ts) wx
section
variable {w wx w' : World} {b n : Nat} {L : List Int} {c : Int} {ts ts' : List Th} {ra : Option Addr} {rc k : Nat} {l : List Int} {x e : Int} {n' : Nat}
theorem SE.kn (h : SE w b L c n ts wx) : Kn w ts wx := let ⟨_, _, h⟩ := h; h.tail
theorem SE.below (h : SE w b L c n ts wx) : Below w.heap.size w wx := h.kn.below
theorem SE.keep (h : SE w b L c n ts wx) (hb : Below wx.heap.size wx w') : SE w b L c n ts w' := let ⟨p, q, h⟩ := h; ⟨p, q, h.keep hb⟩
theorem SE.drewN (h : SE w b L c n ts wx) (q : Nat) : SE w b L c n ts (wx.drewN q) := h.keep (below_of_drewN q)
theorem SE.sub (h : SE w b L c n ts wx) (hs : ts'.Sublist ts) : SE w b L c n ts' wx := let ⟨p, q, h⟩ := h; ⟨p, q, h.sub (hs.cons_cons _)⟩
theorem SE.more {t : Th} (h : SE w b L c n ts wx) (hb : Below wx.heap.size wx w') (hp : t.P w') (hf : ∀ k, t.F k → wx.heap.size ≤ k) : SE w b L c n (t :: ts) w' := let ⟨p, q, h⟩ := h; ⟨p, q, (h.more hb hp hf).swap⟩
theorem SE.turn {t t' : Th} (h : SE w b L c n (t :: ts) wx) (hp : t'.P w') (ho : Only t.F wx w') (hf : ∀ k, t'.F k → t.F k ∨ wx.heap.size ≤ k) : SE w b L c n (t' :: ts) w' := let ⟨p, q, h⟩ := h; ⟨p, q, (h.swap.turn hp ho hf).swap⟩
theorem SE.perm (h : SE w b L c n ts wx) (hs : ts.Perm ts') : SE w b L c n ts' wx := let ⟨p, q, h⟩ := h; ⟨p, q, h.perm (hs.cons _)⟩
theorem newE (h : Hid (Kn w ts wx)) {a : Option Addr} {m p : Nat} (hr : RowI wx a p L) (hm : m = L.length) (hL : L.length ≤ 1000000) (c : Int) : Calls Try.prog 10 #[.slice a m p, .int .i64 c] wx fun e w' => ∃ b, e = .returned (.pointer (some ⟨b, 0, none⟩)) ∧ Hid (SE w b L c 0 ts w') := by
  refine (new_any c hr hm hL).mono ?_
  rintro e w' ⟨b, pa, pc, rfl, h1, h2, h3⟩
  exact ⟨b, rfl, pa, pc, h.out.more h3 h1 h2⟩
theorem stepE (h : Hid (SE w b L c n ts wx)) (hn : n ≤ 1000000) (hk : k = l.length) (hk2 : l.length ≤ 1000000) (hr : RowI wx ra rc l) (hs : StepIs L c n l x e n') :
    Calls Try.prog 25 #[.pointer (some ⟨b, 0, none⟩), .slice ra k rc] wx fun r w' => r = .returned (.tuple #[.int .i64 x, .int .i64 e]) ∧ Hid (SE w b L c n' ts w') := by
  obtain ⟨pa, pc, h⟩ := h.out
  refine (pstep_any h.hd hn hk hk2 hr hs).mono ?_
  rintro r w' ⟨rfl, h1, h2⟩
  exact ⟨rfl, pa, pc, h.turn (t' := scrT b pa pc L c n') h1 (h2.mono (fun k e => .inl e)) (fun k hk => .inl hk)⟩
theorem overE (h : Hid (SE w b L c n ts wx)) {d : Bool} (hd : d = over c n) : Calls Try.prog 39 #[.pointer (some ⟨b, 0, none⟩)] wx fun e w' => e = .returned (.bool d) ∧ ∃ q, w' = wx.drewN q := by
  subst hd
  obtain ⟨pa, pc, h⟩ := h.out
  exact over_any h.hd
theorem stepsE (h : Hid (SE w b L c n ts wx)) {z : Int} (hz : z = n) : Calls Try.prog 17 #[.pointer (some ⟨b, 0, none⟩)] wx fun e w' => e = .returned (.int .i64 z) ∧ w' = wx := by
  subst hz
  obtain ⟨pa, pc, h⟩ := h.out
  exact steps_any h.hd
theorem usedE (h : Hid (SE w b L c n ts wx)) {z : Int} (hz : z = (min n L.length : Nat)) : Calls Try.prog 18 #[.pointer (some ⟨b, 0, none⟩)] wx fun e w' => e = .returned (.int .i64 z) ∧ ∃ q, w' = wx.drewN q := by
  subst hz
  obtain ⟨pa, pc, h⟩ := h.out
  exact used_any h.hd
end
end Go.Proofs.Ytkjdjmcecjaolaa.Pick

/- A run. -/
namespace Go.Proofs.Ytkjdjmcecjaolaa.Mrg
open Go.RowKit Go.Proofs.Ytkjdjmcecjaolaa.Dig Go.Proofs.Ytkjdjmcecjaolaa.Mem Go.Proofs.Ytkjdjmcecjaolaa.Dq Go.Proofs.Ytkjdjmcecjaolaa.Thing Go.Proofs.Ytkjdjmcecjaolaa.Own Go.Proofs.Ytkjdjmcecjaolaa.Sets Go.Proofs.Ytkjdjmcecjaolaa.DqI Go.Proofs.Ytkjdjmcecjaolaa.Pick
set_option linter.unusedVariables false
set_option linter.unusedSimpArgs false

local notation "ordF" => Value.func (Fn.func 12) #[] #[]
/-- What is told. -/
def outE (E : Int) (s : MS) : List Int := if E = 0 then s.out else []
abbrev z3 : Array Value := #[.int .i64 0, .int .i64 0, .int .i64 0]
def RunR (w : World) (r fb br nr sb : Nat) (rows : List (List Int)) (L : List Int) (c : Int) (R : MS × Nat × Int) (N : Nat) (ts : List Th) (g : Nat) (wr : World) : Prop :=
  ∃ (f : Nat) (s : MS) (xs : List Lw) (vS vP vH vO : Value) (pa : Option Addr) (pc n2 : Nat), f ≤ g ∧ Hid (FL w r fb s xs vS vP vH vO (scrT sb pa pc L c n2 :: boxT br z3 :: ts) wr) ∧ Hid (xs.length = nr ∧ Ok r rows s ∧ todo s ≤ f ∧ runM L c r f s n2 = R ∧ n2 + todo s ≤ N)
section
variable {w wx w' : World} {r fb br nr n sb : Nat} {rows : List (List Int)} {L : List Int} {c : Int} {R : MS × Nat × Int} {ts : List Th} {s : MS} {xs : List Lw} {vS vP vH vO : Value}
/-- The script is told of those that are ready. -/
theorem run_step {pa : Option Addr} {pc n2 m : Nat} {ra : Option Addr} {rc : Nat} {x e : Int} {n' : Nat} (h : Hid (FL w r fb s xs vS vP vH vO (ownN w.heap.size 3 1 (.slice ra m rc) m ((rdyL r s.ls).map (Value.int .i64)) :: scrT sb pa pc L c n2 :: ts) wx)) (hm : Hid (m = (rdyL r s.ls).length)) (hx : xs.length ≤ 1000) (hn : n2 ≤ 1000000) (hs : StepIs L c n2 (rdyL r s.ls) x e n') :
    Calls Try.prog 25 #[.pointer (some ⟨sb, 0, none⟩), .slice ra m rc] wx fun rr w' => rr = .returned (.tuple #[.int .i64 x, .int .i64 e]) ∧ ∃ pa' pc', Hid (FL w r fb s xs vS vP vH vO (scrT sb pa' pc' L c n' :: ts) w') := by
  have hl := rdyL_length r s.ls
  rw [h.out.len] at hl
  obtain ⟨oa, oc, e1, hrow, _⟩ := OwnI.row (base := w.heap.size) (w := wx) (v := .slice ra m rc) (l := rdyL r s.ls) (by
    unfold OwnI
    rw [← hm.out]
    exact h.out.nb) (by omega) (fun z hz => by
    rcases mem_rdy.1 hz with ⟨j, rfl, hj, _⟩ | ⟨rfl, _⟩
    · rw [h.out.len] at hj; exact wf_of_i64 (by omega) (by omega)
    · rw [h.out.len]; exact wf_of_i64 (by omega) (by omega))
  injection e1 with e2 e3 e4
  subst e2 e4
  have hk := h.out.kn
  rw [fts_eq] at hk
  have hSE : SE w sb L c n2 ((fsix w fb s xs vS vP vH vO ++ xs.map (Lw.pT r)) ++ ownN w.heap.size 3 1 (.slice ra m rc) m ((rdyL r s.ls).map (Value.int .i64)) :: ts) wx := ⟨pa, pc, (hk.perm (by
    have := List.perm_middle (a := scrT sb pa pc L c n2) (l₁ := (fsix w fb s xs vS vP vH vO ++ xs.map (Lw.pT r)) ++ [ownN w.heap.size 3 1 (.slice ra m rc) m ((rdyL r s.ls).map (Value.int .i64))]) (l₂ := ts)
    simpa using this))⟩
  refine (stepE (hide hSE) hn hm.out (by omega) hrow hs).mono ?_
  rintro rr w' ⟨rfl, pa', pc', hk2⟩
  refine ⟨rfl, pa', pc', hide (h.out.as ?_)⟩
  rw [fts_eq]
  have h3 := hk2.sub (ts' := scrT sb pa' pc' L c n' :: ((fsix w fb s xs vS vP vH vO ++ xs.map (Lw.pT r)) ++ ts)) (.cons_cons _ (List.Sublist.append_left (.cons _ (List.Sublist.refl _)) _))
  exact h3.perm List.perm_middle.symm
/-- How it went is laid. -/
theorem run_fin {pa : Option Addr} {pc n2 : Nat} (h : FL w r fb s xs vS vP vH vO (scrT sb pa pc L c n2 :: boxT br z3 :: ts) wx) (u0 u1 u2 : Value) :
    FL w r fb s xs vS vP vH vO (boxT br #[u0, u1, u2] :: scrT sb pa pc L c n2 :: ts) (((wx.setCell ⟨br, 0, none⟩ u0).setCell ⟨br, 1, none⟩ u1).setCell ⟨br, 2, none⟩ u2).drew := by
  have h1 := h.perm (List.Perm.swap _ _ _)
  exact h1.turn (t' := boxT br #[u0, u1, u2]) (((((Is.set (show Is wx br z3 from h1.nb) 0 u0).set 1 u1).set 2 u2).eq (by simp)).drew) (((((Only.refl _ _).put 0 _).put 1 _).put 2 _).drew) (fun _ e => .inl e)
theorem run_out {m oc : Nat} {oa : Option Addr} (h : FL w r fb s xs vS vP vH (.slice oa m oc) ts wx) (hm : m = s.out.length) (hb : s.st ≤ 100000) : RowI wx oa oc s.out ∧ Fresh w.heap.size oa := by
  obtain ⟨a, c, e, h1, h2⟩ := OwnI.row (base := w.heap.size) (w := wx) (v := .slice oa m oc) (l := s.out) (by
    have := h.kn.get (t := ownN w.heap.size 3 1 (.slice oa m oc) s.out.length (s.out.map (Value.int .i64))) (by simp [fts])
    exact this) (by have := h.out.1; omega) h.out.2
  injection e with e1 e2 e3
  subst e1 e3
  exact ⟨h1, h2⟩
theorem run_se {u0 u1 u2 : Value} {pa : Option Addr} {pc n2 : Nat} (h : FL w r fb s xs vS vP vH vO (boxT br #[u0, u1, u2] :: scrT sb pa pc L c n2 :: ts) wx) : SE w sb L c n2 ts wx := ⟨pa, pc, h.tail.tail⟩
set_option maxHeartbeats 4000000 in
set_option maxRecDepth 20000 in
theorem run_any {a : Option Addr} {cc mm : Nat} {s' : MS} {n' : Nat} {E : Int} (h : Hid (SE w sb L c n ts wx)) (hR : RowsI w a cc rows) (hnr : nr = rows.length) (hnr2 : nr ≤ 900) (hlen : ∀ l ∈ rows, l.length ≤ 1000) (hbig : 3 * cnt rows + rows.length + 1 ≤ 90000) (hr : 1 ≤ r) (hr2 : r ≤ 64) (hn : n ≤ 100000)
    (hmm : 3 * cnt rows + rows.length + 1 ≤ mm) (hrun : runM L c r mm (begM rows) n = (s', n', E)) {rz : Int} (hz : rz = (r : Int)) :
    Calls Try.prog 11 #[.slice a nr cc, ordF, .int .i64 rz, .pointer (some ⟨sb, 0, none⟩)] wx fun e w' => ∃ oa om oc, e = .returned (.tuple #[.slice oa om oc, .agg #[.int .i64 (s'.st : Int), .int .i64 (s'.se : Int), .int .i64 (s'.ec : Int)], .int .i64 E]) ∧
      Hid (om = (outE E s').length ∧ RowI w' oa oc (outE E s') ∧ Fresh w.heap.size oa) ∧ Hid (SE w sb L c n' ts w') := by
  subst hz
  obtain ⟨pa0, pc0, hk0⟩ := h.out
  have K0 : Hid (Kn w (scrT sb pa0 pc0 L c n :: boxT wx.heap.size z3 :: ts) (wx.alloc (.cells z3 29))) := hide ((box0 hk0 z3 29 rfl).swap)
  have HBG := hide (begin_any K0 hR hnr (by omega) hr hr2 hlen)
  have E1 := eql_ordF
  have g1 : ¬ (r : Int) < 1 := by omega
  have g2 : ¬ (64 : Int) < (r : Int) := by omega
  have HNR := hide hnr
  have hto : todo (begM rows) ≤ 3 * cnt rows + rows.length + 1 := by have := (beg_ok r rows).st; omega
  have HRUN : Hid (runM L c r (3 * cnt rows + rows.length + 1) (begM rows) n = (s', n', E)) := hide (by rw [← hrun]; exact run_more hr _ _ _ _ (beg_ok r rows) hto (by omega))
  have HTO := hide hto
  have HBIG := hide hbig
  clear h hk0 hR hnr hlen hrun hmm K0 hto hbig
  go_enter Try.func11, Try.ntmps11
  go_wp2_with (go_at_call 24; go_must ((with_reducible refine (Hid.out HBG).mono ?_); rintro e w1 ⟨fb, rfl, xs0, HX0, vS0, vP0, vH0, K1⟩; clear HBG))
  have M0 : Hid (RunR w r fb wx.heap.size nr sb rows L c (s', n', E) (n + 90000) ts (3 * cnt rows + rows.length + 1) w1) := hide ⟨_, begM rows, xs0, vS0, vP0, vH0, .slice none 0 0, pa0, pc0, n, Nat.le_refl _, K1, hide ⟨HX0.out, beg_ok r rows, HTO.out, HRUN.out, by have := HTO.out; have := HBIG.out; omega⟩⟩
  clear HX0 K1 HRUN
  go_loopg [12, 13] (3 * cnt rows + rows.length + 1) (fun g _ _ wr => RunR w r fb wx.heap.size nr sb rows L c (s', n', E) (n + 90000) ts g wr)
  case atStart => exact M0.out
  case round =>
    obtain ⟨f, s, xs, vS, vP, vH, vO, pa, pc, n2, hfg, K, H⟩ := hrel
    have HFG := hide hfg
    clear hfg
    clear M0
    have c5 := K.out.box.cell 5 rfl
    have HBR := hide K.out.tail.tail.hd
    obtain ⟨oa, oc, eO⟩ := K.out.forms.2.2.2
    have hne : ¬ wx.heap.size = fb ∧ ¬ fb = wx.heap.size := by
      have h1 := (List.pairwise_cons.1 K.out.kn.sep).1 (boxT wx.heap.size z3) (by simp) fb rfl
      exact ⟨fun e => h1 e.symm, h1⟩
    obtain ⟨hne1, hne2⟩ := hne
    obtain ⟨om, hom⟩ : ∃ om, om = s.out.length := ⟨_, rfl⟩
    rw [← hom] at eO
    have HOM := hide hom
    subst eO
    have c4 := K.out.box.cell 4 rfl
    have c6 := K.out.box.cell 6 rfl
    have c7 := K.out.box.cell 7 rfl
    have c8 := K.out.box.cell 8 rfl
    have d0 := HBR.out.cell 0 rfl
    have d1 := HBR.out.cell 1 rfl
    have d2 := HBR.out.cell 2 rfl
    have e0 := HBR.out.frozen 0
    have e1 := HBR.out.frozen 1
    have e2 := HBR.out.frozen 2
    clear hom
    cases hex : s.ex with
    | true =>
      rw [hex] at c5
      have HD : Hid ((s, n2, (0 : Int)) = (s', n', E)) := hide (by rw [← H.out.2.2.2.1, run_done hex])
      clear hex
      have HST : Hid (s.st ≤ 100000) := hide (by have := H.out.2.1.st; have := HBIG.out; omega)
      go_wp2
      go_region
      have KF := hide (run_fin K.out (.int .i64 (s.st : Int)) (.int .i64 (s.se : Int)) (.int .i64 (s.ec : Int)))
      have r0 := KF.out.nb.cell 0 rfl
      have r1 := KF.out.nb.cell 1 rfl
      have r2 := KF.out.nb.cell 2 rfl
      clear c4 c5 c6 c7 c8 d0 d1 d2 e0 e1 e2
      go_wp2
      refine bodyPost_ret (v := .tuple #[.slice oa om oc, .agg #[.int .i64 (s.st : Int), .int .i64 (s.se : Int), .int .i64 (s.ec : Int)], .int .i64 0]) (by simp [results, Try.results11, go_sem, r0, r1, r2]) rfl ?_
      have hd := HD.out
      injection hd with hd1 hd2
      injection hd2 with hd2 hd3
      subst hd1 hd2 hd3
      exact ⟨oa, om, oc, rfl, ⟨HOM.out, run_out KF.out HOM.out HST.out⟩, run_se KF.out⟩
    | false =>
      rw [hex] at c5
      obtain ⟨f0, rfl⟩ : ∃ f0, f = f0 + 1 := ⟨f - 1, by have := todo_pos hex; have := H.out.2.2.1; omega⟩
      have HXL : Hid (xs.length ≤ 1000) := hide (by have := H.out.1; omega)
      have HFR := hide (fready_any K HXL.out)
      have HN2 : Hid (n2 ≤ 1000000) := hide (by have := H.out.2.2.2.2; omega)
      have HST : Hid (s.st ≤ 90000) := hide (by have := H.out.2.1.st; have := HBIG.out; omega)
      have h0 := rdy_ne H.out.2.1 hr
      have HEX := hide hex
      cases ho : over c n2 with
      | true =>
        have HS : Hid (StepIs L c n2 (rdyL r s.ls) 0 8 n2) := hide ⟨by unfold stepS; rw [if_pos ho]⟩
        have HD : Hid ((s, n2, (8 : Int)) = (s', n', E)) := hide (by rw [← H.out.2.2.2.1, run_over hex ho])
        clear hex ho h0 c4 c6 c7 c8 d0 d1 d2 e0 e1 e2
        go_wp2_with (first
          | (go_at_call 26; go_must ((with_reducible refine (Hid.out HFR).mono ?_); rintro e w3 ⟨ra, rm, rc, rfl, HRM, K3⟩; have HSTP := hide (run_step K3 HRM HXL.out HN2.out HS.out); clear HFR))
          | (go_at_call 25; go_must ((with_reducible refine (Hid.out HSTP).mono ?_); rintro e w4 ⟨rfl, pa4, pc4, K4⟩; have c6 := K4.out.box.cell 6 rfl; have c7 := K4.out.box.cell 7 rfl; have c8 := K4.out.box.cell 8 rfl; have d0 := K4.out.tail.tail.hd.cell 0 rfl; have d1 := K4.out.tail.tail.hd.cell 1 rfl; have d2 := K4.out.tail.tail.hd.cell 2 rfl; have e0 := K4.out.tail.tail.hd.frozen 0; have e1 := K4.out.tail.tail.hd.frozen 1; have e2 := K4.out.tail.tail.hd.frozen 2; clear HSTP)))
        go_region
        have KF := hide (run_fin K4.out (.int .i64 (s.st : Int)) (.int .i64 (s.se : Int)) (.int .i64 (s.ec : Int)))
        have r0 := KF.out.nb.cell 0 rfl
        have r1 := KF.out.nb.cell 1 rfl
        have r2 := KF.out.nb.cell 2 rfl
        clear c6 c7 c8 d0 d1 d2 e0 e1 e2
        go_wp2
        refine bodyPost_ret (v := .tuple #[.slice none 0 0, .agg #[.int .i64 (s.st : Int), .int .i64 (s.se : Int), .int .i64 (s.ec : Int)], .int .i64 8]) (by simp [results, Try.results11, go_sem, r0, r1, r2]) rfl ?_
        have hd := HD.out
        injection hd with hd1 hd2
        injection hd2 with hd2 hd3
        subst hd1 hd2 hd3
        exact ⟨none, 0, 0, rfl, ⟨rfl, ⟨Nat.le_refl _, ⟨by simp [outE], fun i hi => by simp [outE] at hi⟩, fun _ => rfl⟩, fun x hx => by cases hx⟩, run_se KF.out⟩
      | false =>
        obtain ⟨k, hk1, hk2⟩ := told_rdy L n2 h0
        have HS : Hid (StepIs L c n2 (rdyL r s.ls) (k : Int) 0 (n2 + 1)) := hide ⟨by unfold stepS; rw [if_neg (by rw [ho]; exact Bool.false_ne_true), if_neg h0, hk1]⟩
        have HSO := hide (step_ok H.out.2.1 hex hk2)
        have HNX := hide (run_next (f := f0) hex ho h0 hk1)
        have HK2 := hide hk2
        have HF : Hid (∀ W pa4 pc4, Hid (FL w r fb s xs vS vP vH (.slice oa om oc) (scrT sb pa4 pc4 L c (n2 + 1) :: boxT wx.heap.size z3 :: ts) W) → _) := hide (fun W pa4 pc4 hW => fstep_any (k := k) hW (by omega) hr2 HXL.out H.out.2.1 HBIG.out HEX.out HK2.out)
        clear hex ho h0 hk1 hk2 c4 c6 c7 c8 d0 d1 d2 e0 e1 e2
        go_wp2_with (first
          | (go_at_call 26; go_must ((with_reducible refine (Hid.out HFR).mono ?_); rintro e w3 ⟨ra, rm, rc, rfl, HRM, K3⟩; have HSTP := hide (run_step K3 HRM HXL.out HN2.out HS.out); clear HFR))
          | (go_at_call 25; go_must ((with_reducible refine (Hid.out HSTP).mono ?_); rintro e w4 ⟨rfl, pa4, pc4, K4⟩; have HF4 := hide (HF.out _ _ _ K4); clear HSTP HF))
          | (go_at_call 27; go_must ((with_reducible refine (Hid.out HF4).mono ?_); rintro e w5 ⟨rfl, xs5, vO5, K5, hx5⟩; have HX5 := hide hx5; clear HF4 hx5)))
        have M5 : Hid (RunR w r fb wx.heap.size nr sb rows L c (s', n', E) (n + 90000) ts f0 w5) := hide ⟨f0, stepM s k, xs5, vS, vP, vH, vO5, pa4, pc4, n2 + 1, Nat.le_refl _, K5, hide ⟨by rw [HX5.out]; exact H.out.1, HSO.out.1, by have h1 := HSO.out.1.st; have h2 := H.out.2.1.st; have h3 := HSO.out.2.1; have h4 := H.out.2.2.1; omega, by rw [← HNX.out]; exact H.out.2.2.2.1, by have h1 := HSO.out.1.st; have h2 := H.out.2.1.st; have h3 := HSO.out.2.1; have h4 := H.out.2.2.2.2; omega⟩⟩
        go_roundg f0
        case measure => have := HFG.out; omega
        case rel => exact M5.out
end
end Go.Proofs.Ytkjdjmcecjaolaa.Mrg

/- The document's answers: which row has the least first thing, what rows make together, how many things there are, whether they are few. -/
namespace Go.Proofs.Ytkjdjmcecjaolaa.Mrg
open Go.RowKit Go.Proofs.Ytkjdjmcecjaolaa.Dig Go.Proofs.Ytkjdjmcecjaolaa.Mem Go.Proofs.Ytkjdjmcecjaolaa.Dq Go.Proofs.Ytkjdjmcecjaolaa.Thing Go.Proofs.Ytkjdjmcecjaolaa.Own Go.Proofs.Ytkjdjmcecjaolaa.Sets
set_option linter.unusedVariables false
set_option linter.unusedSimpArgs false

def optI : Option Nat → Int
  | none => -1
  | some b => (b : Int)
theorem bestI_opt (ls : List (List Int)) : bestI ls = optI (best ls) := by
  unfold bestI optI
  cases best ls <;> rfl
theorem optI_some (b : Nat) : optI (some b) = (b : Int) := rfl
section
variable {w wx W : World} {a : Option Addr} {n c : Nat} {ls : List (List Int)}
set_option maxHeartbeats 1000000 in
theorem rtake_any (h : RowsI w a c ls) (hn : n = ls.length) (hn2 : n ≤ 1000) : Calls Try.prog 34 #[.slice a n c] w fun e w' => e = .returned (.int .i64 (bestI ls)) ∧ ∃ q, w' = w.drewN q := by
  have HR := hide h
  have HN := hide hn
  clear h hn
  go_enter Try.func34, Try.ntmps34
  go_wp2
  go_loopw [3, 4] (fun bv i wr => ∃ k q : Nat, k ≤ n ∧ i = .int .i64 (k : Int) ∧ bv = .int .i64 (optI (bestTo ls k)) ∧ wr = w.drewN q) (fun _ i _ => n - (intOf i).toNat)
  case atStart => exact ⟨0, 0, Nat.zero_le _, rfl, rfl, rfl⟩
  case round =>
    obtain ⟨k, q, hk, rfl, rfl, hw⟩ := hrel
    have HW := hide hw
    by_cases hlt : k < n
    · have HR' := hide (HR.out.keep (below_of_drewN q))
      rw [← hw] at HR'
      have hki : (k : Int) < n := by omega
      have hnc : n ≤ c := by rw [HN.out]; exact HR.out.cap
      have HB : Hid (bestTo ls (k + 1) = if ls.getD k [] = [] then bestTo ls k else match bestTo ls k with
        | none => some k
        | some b => if hd ls k < hd ls b then some k else some b) := hide (by
        conv => lhs; unfold bestTo
        rfl)
      by_cases h0 : ls.getD k [] = []
      · obtain ⟨b, off, la, lc, rfl, hc, _⟩ := HR'.out.at_ k (by rw [← HN.out]; exact hlt)
        rw [h0] at hc
        dsimp only [List.length_nil] at hc
        have HE : Hid (bestTo ls (k + 1) = bestTo ls k) := hide (by rw [HB.out, if_pos h0])
        clear hw h0 HB
        go_wp2
        go_quiet (fail)
        go_wp2
        go_roundw
        case rel => exact ⟨k + 1, q + nq, by omega, by simp, by rw [HE.out], by rw [HW.out, World.drewN_drewN]⟩
        case measure => simp [intOf]; omega
      · obtain ⟨b, off, b1, o1, ln, lc, rfl, f1, f2, f3, f4, f5, f6, f7⟩ := HR'.out.first h0
        have g3 : (0 : Int) < ln := by omega
        cases hb : bestTo ls k with
        | none =>
          have HE : Hid (bestTo ls (k + 1) = some k) := hide (by rw [HB.out, if_neg h0, hb])
          rw [optI]
          clear hw h0 HB f2 f7 hb
          go_wp2
          go_quiet (fail)
          go_wp2
          go_roundw
          case rel => exact ⟨k + 1, q + nq, by omega, by simp, by rw [HE.out, optI_some], by rw [HW.out, World.drewN_drewN]⟩
          case measure => simp [intOf]; omega
        | some j =>
          obtain ⟨j1, j2⟩ := bestTo_some hb
          obtain ⟨b', off', b2, o2, l2, c2, e2, d1, d2, d3, d4, d5, d6, d7⟩ := HR'.out.first j2
          cases e2
          have HE : Hid (bestTo ls (k + 1) = if hd ls k < hd ls j then some k else some j) := hide (by rw [HB.out, if_neg h0, hb])
          rw [optI_some]
          have g4 : (0 : Int) < l2 := by omega
          have g5 : (j : Int) < n := by omega
          have g6 : ¬ (j : Int) < 0 := by omega
          obtain ⟨x, hx⟩ : ∃ x, x = hd ls k := ⟨_, rfl⟩
          obtain ⟨y, hy⟩ : ∃ y, y = hd ls j := ⟨_, rfl⟩
          rw [← hx] at f6 HE
          rw [← hy] at d6 HE
          by_cases hxy : x < y
          · have HE2 : Hid (bestTo ls (k + 1) = some k) := hide (by rw [HE.out, if_pos hxy])
            clear hw h0 HB f2 f7 hb d2 d7 j2 HE hx hy
            go_wp2
            go_quiet (fail)
            go_wp2
            go_roundw
            case rel => exact ⟨k + 1, q + nq, by omega, by simp, by rw [HE2.out, optI_some], by rw [HW.out, World.drewN_drewN]⟩
            case measure => simp [intOf]; omega
          · have HE2 : Hid (bestTo ls (k + 1) = some j) := hide (by rw [HE.out, if_neg hxy])
            clear hw h0 HB f2 f7 hb d2 d7 j2 HE hx hy
            go_wp2
            go_quiet (fail)
            go_wp2
            go_roundw
            case rel => exact ⟨k + 1, q + nq, by omega, by simp, by rw [HE2.out, optI_some], by rw [HW.out, World.drewN_drewN]⟩
            case measure => simp [intOf]; omega
    · obtain rfl : k = n := by omega
      have hki : ¬ (k : Int) < k := by omega
      have HE : Hid (optI (bestTo ls k) = bestI ls) := hide (by rw [bestI_opt, best, HN.out])
      clear hw
      go_wp2
      go_ret
      rw [HE.out]
      exact ⟨rfl, q, HW.out⟩
theorem cnt_take_le (ls : List (List Int)) (k : Nat) : cnt (ls.take k) ≤ cnt ls := by
  unfold cnt
  conv => rhs; rw [← List.take_append_drop k ls]
  rw [List.map_append, List.sum_append]
  omega
theorem cnt_take_succ {ls : List (List Int)} {k : Nat} (h : k < ls.length) : cnt (ls.take (k + 1)) = cnt (ls.take k) + (ls.getD k []).length := by
  unfold cnt
  rw [List.take_add_one, List.map_append, List.sum_append, List.getD_eq_getElem?_getD, List.getElem?_eq_getElem h]
  simp
set_option maxHeartbeats 1000000 in
theorem count_any (h : RowsI w a c ls) (hn : n = ls.length) (hn2 : n ≤ 1000) (hb : cnt ls ≤ 1000000) : Calls Try.prog 19 #[.slice a n c] w fun e w' => e = .returned (.int .i64 (cnt ls : Int)) ∧ w' = w := by
  have HR := hide h
  have HN := hide hn
  have HB : Hid (∀ k, k < ls.length → cnt (ls.take (k + 1)) = cnt (ls.take k) + (ls.getD k []).length ∧ cnt (ls.take (k + 1)) ≤ 1000000) := hide (fun k hk => ⟨cnt_take_succ hk, Nat.le_trans (cnt_take_le ls _) hb⟩)
  have hnc : n ≤ c := by rw [hn]; exact h.cap
  clear h hn hb
  go_enter Try.func19, Try.ntmps19
  go_wp2
  go_loopw [3, 4] (fun s i wr => wr = w ∧ ∃ k : Nat, k ≤ n ∧ i = .int .i64 (k : Int) ∧ s = .int .i64 (cnt (ls.take k) : Int)) (fun _ i _ => n - (intOf i).toNat)
  case atStart => exact ⟨rfl, 0, Nat.zero_le _, rfl, by simp [cnt]⟩
  case round =>
    obtain ⟨hw, k, hk, rfl, rfl⟩ := hrel
    replace hw := hw.symm
    subst hw
    by_cases hlt : k < n
    · obtain ⟨b, off, la, lc, rfl, hc, hr⟩ := HR.out.at_ k (by rw [← HN.out]; exact hlt)
      obtain ⟨h1, h2⟩ := HB.out k (by rw [← HN.out]; exact hlt)
      obtain ⟨ln, hln⟩ : ∃ ln, ln = (ls.getD k []).length := ⟨_, rfl⟩
      obtain ⟨m, hm⟩ : ∃ m, m = cnt (ls.take k) := ⟨_, rfl⟩
      rw [← hln] at hc h1
      rw [← hm] at h1 ⊢
      rw [h1] at h2
      have H1 := hide h1
      have hki : (k : Int) < n := by omega
      clear h1 hln hm hr
      go_wp2
      go_roundw
      case rel => exact ⟨trivial, k + 1, by omega, by simp, by rw [H1.out]; simp⟩
      case measure => simp [intOf]; omega
    · obtain rfl : k = n := by omega
      have hki : ¬ (k : Int) < k := by omega
      have HE : Hid (cnt (ls.take k) = cnt ls) := hide (by rw [List.take_of_length_le (by rw [HN.out]; exact Nat.le_refl _)])
      go_wp2
      go_ret
      rw [HE.out]
      exact ⟨rfl, rfl⟩
def fewL (ls : List (List Int)) : Bool := decide (ls.length ≤ 20) && ls.all fun l => decide (l.length ≤ 40)
theorem fewL_iff {ls : List (List Int)} : fewL ls = true ↔ ls.length ≤ 20 ∧ ∀ l ∈ ls, l.length ≤ 40 := by
  unfold fewL
  simp
theorem few_cnt {ls : List (List Int)} (h : ls.length ≤ 20 ∧ ∀ l ∈ ls, l.length ≤ 40) : cnt ls ≤ 800 := by
  have : ∀ ls : List (List Int), (∀ l ∈ ls, l.length ≤ 40) → cnt ls ≤ 40 * ls.length := by
    intro ls
    induction ls with
    | nil => intro _; simp [cnt]
    | cons l ls ih =>
      intro hl
      have h1 := hl l (by simp)
      have h2 := ih (fun x hx => hl x (by simp [hx]))
      unfold cnt at *
      simp only [List.map_cons, List.sum_cons, List.length_cons]
      omega
  have := this ls h.2
  omega
set_option maxHeartbeats 1000000 in
theorem few_any {F : Nat → Prop} (h : ListsAt F w (.slice a n c) ls) : Calls Try.prog 8 #[.slice a n c] w fun e w' => e = .returned (.bool (fewL ls)) ∧ w' = w := by
  obtain ⟨a', c', e1, h1, h2⟩ := h.shape
  injection e1 with e2 e3 e4
  have HN := hide e3
  have hnm : n ≤ 9223372036854775807 := by rw [e3]; unfold maxLen at h2; omega
  have hnc : n ≤ c := by omega
  have H := hide h
  clear h e2 e3 e4 h1 h2
  by_cases h20 : 20 < n
  · have g : (20 : Int) < n := by omega
    have HE : Hid (fewL ls = false) := hide (by unfold fewL; rw [decide_eq_false (by rw [← HN.out]; omega)]; rfl)
    go_enter Try.func8, Try.ntmps8
    go_wp2
    go_ret
    rw [HE.out]
    exact ⟨rfl, rfl⟩
  · have g : ¬ (20 : Int) < n := by omega
    have HF : Hid (fewL ls = ls.all fun l => decide (l.length ≤ 40)) := hide (by unfold fewL; rw [decide_eq_true (by rw [← HN.out]; omega)]; rfl)
    go_enter Try.func8, Try.ntmps8
    go_wp2
    go_loopw [3] (fun i wr => wr = w ∧ ∃ k : Nat, k ≤ n ∧ i = .int .i64 (k : Int) ∧ Hid (∀ j, j < k → (ls.getD j []).length ≤ 40)) (fun i _ => n - (intOf i).toNat)
    case atStart => exact ⟨rfl, 0, Nat.zero_le _, rfl, fun j hj => by omega⟩
    case round =>
      obtain ⟨hw, k, hk, rfl, HB⟩ := hrel
      replace hw := hw.symm
      subst hw
      by_cases hlt : k < n
      · obtain ⟨b, off, la, lc, rfl, hc, _, hlm⟩ := H.out.at (i := k) (by rw [← HN.out]; exact hlt)
        obtain ⟨ln, hln⟩ : ∃ ln, ln = (ls.getD k []).length := ⟨_, rfl⟩
        have HLN := hide hln
        rw [← hln] at hc hlm
        have hlm2 : ln ≤ 9223372036854775807 := by unfold maxLen at hlm; omega
        have hki : (k : Int) < n := by omega
        clear hln hlm
        by_cases hbig : 40 < ln
        · have g3 : (40 : Int) < ln := by omega
          have HE : Hid (fewL ls = false) := hide (by
            rw [HF.out, List.all_eq_false]
            refine ⟨ls.getD k [], ?_, by rw [decide_eq_true_eq, ← HLN.out]; omega⟩
            rw [List.getD_eq_getElem?_getD, List.getElem?_eq_getElem (by rw [← HN.out]; exact hlt)]
            exact List.getElem_mem _)
          go_wp2
          go_ret
          rw [HE.out]
          exact ⟨rfl, rfl⟩
        · have g3 : ¬ (40 : Int) < ln := by omega
          have HB2 : Hid (∀ j, j < k + 1 → (ls.getD j []).length ≤ 40) := hide (fun j hj => by
            by_cases e : j = k
            · subst e; rw [← HLN.out]; omega
            · exact HB.out j (by omega))
          go_wp2
          go_roundw
          case rel => exact ⟨trivial, k + 1, by omega, by simp, HB2⟩
          case measure => simp [intOf]; omega
      · obtain rfl : k = n := by omega
        have hki : ¬ (k : Int) < k := by omega
        have HE : Hid (fewL ls = true) := hide (by
          rw [HF.out, List.all_eq_true]
          intro l hl
          obtain ⟨j, hj⟩ := List.getElem?_of_mem hl
          have hj2 := (List.getElem?_eq_some_iff.1 hj).1
          have := HB.out j (by rw [HN.out]; exact hj2)
          rw [List.getD_eq_getElem?_getD, hj] at this
          simpa using this)
        go_wp2
        go_ret
        rw [HE.out]
        exact ⟨rfl, rfl⟩
def RrR (w : World) (n : Nat) (ga : Option Addr) (gc : Nat) (r : List Int) (g : Nat) (ov kv : Value) (wr : World) : Prop := ∃ (hs : List Hd) (out : List Int), (ov = ov) ∧ (n = n) ∧ kv = .int .i64 (optI (best (hs.map Hd.l))) ∧ Hid (Kn w [ownN w.heap.size 23 1 (.slice ga n gc) n (hs.map Hd.v), ownN w.heap.size 3 1 ov out.length (out.map (Value.int .i64))] wr) ∧
  Hid (n = hs.length ∧ (∀ h ∈ hs, h.R w) ∧ mixF (cnt (hs.map Hd.l)) (hs.map Hd.l) out = r ∧ out.length + cnt (hs.map Hd.l) ≤ 100000 ∧ WfL out) ∧ Hid (cnt (hs.map Hd.l) ≤ g)
set_option maxHeartbeats 4000000 in
set_option maxRecDepth 20000 in
theorem rrows_any (h : RowsI w a c ls) (hn : n = ls.length) (hn2 : n ≤ 1000) (hc2 : cnt ls ≤ 100000) : Calls Try.prog 20 #[.slice a n c] w fun e w' => ∃ oa om oc, e = .returned (.slice oa om oc) ∧ Hid (om = (mixL ls).length ∧ RowI w' oa oc (mixL ls) ∧ Fresh w.heap.size oa) ∧ Below w.heap.size w w' := by
  obtain ⟨i0, hi, hz0, hz1, hz2⟩ := info_parts Try.infoI
  obtain ⟨hs, h1, h2, h3⟩ := h.hds
  have hnl : n = hs.length := by rw [hn, ← h1, List.length_map]
  have HI : Hid (n = hs.length ∧ (∀ h ∈ hs, h.R w) ∧ mixF (cnt (hs.map Hd.l)) (hs.map Hd.l) [] = mixL ls ∧ ([] : List Int).length + cnt (hs.map Hd.l) ≤ 100000 ∧ WfL []) := hide ⟨hnl, h3, by rw [h1]; rfl, by rw [h1]; simpa using hc2, fun x hx => by cases hx⟩
  have K1 := hide (own0 (Kn.start w) 23 1 (Nat.le_refl _) (g := w.heap.size) rfl)
  have HR := hide (CellsR.keep h2 (w' := w.alloc (.cells #[] 23)) ((Below.refl _ _).alloc (Nat.le_refl _) _))
  have HNL := hide hnl
  clear h h1 h2 h3 hn hc2 hnl
  go_enter Try.func20, Try.ntmps20
  go_wp2_with (first
    | (at_builtin; go_must (refine app_cells 22 23 Try.underlying22 Try.infoIs rfl (by decide) rfl _ _ rfl w.heap.size (.slice (some ⟨w.heap.size, 0, none⟩) 0 0) 0 [] rfl K1.out.hd a c n (hs.map Hd.v) rfl (by rw [List.length_map]; exact HNL.out) HR.out (hd_one hs) (by have := HNL.out; rw [List.length_map]; omega) (by simp) ?_; intro v7 w7 hown7 hg7 hat7; rw [Nat.zero_add, List.nil_append, List.length_map, ← HNL.out] at hown7; obtain ⟨ga, gc, rfl⟩ := Own.own_form hown7; have K7 := hide (growAt (pre := []) K1.out hown7 hg7 hat7); have HTK := hide (rtake_any (rowsI_own K7.out.hd HNL.out (fun h hh => RowI.keep (HI.out.2.1 h hh) K7.out.below)) (by rw [List.length_map]; exact HNL.out) hn2); clear hown7 hg7 hat7))
    | (go_at_call 34; go_must ((with_reducible refine (Hid.out HTK).mono ?_); rintro e w1 ⟨rfl, q1, hq1⟩; have K8 := hide (K7.out.drewN q1); rw [← hq1] at K8; clear hq1 HTK)))
  have M0 : Hid (RrR w n ga gc (mixL ls) (cnt (hs.map Hd.l)) (.slice none 0 0) (.int .i64 (bestI (hs.map Hd.l))) w1) := hide ⟨hs, [], rfl, rfl, by rw [bestI_opt], hide ((ownNil K8.out _ _ _).swap), HI, hide (Nat.le_refl _)⟩
  clear K1 K7 K8 HI HNL HR
  go_loopg [4, 5] (cnt (hs.map Hd.l)) (fun g ov kv wr => RrR w n ga gc (mixL ls) g ov kv wr)
  case atStart => exact M0.out
  case round =>
    clear M0
    obtain ⟨hs, out, _, _, rfl, K, H, G⟩ := hrel
    obtain ⟨oa, oc, e⟩ := Own.own_form (Knget (pre := [_]) K.out)
    subst e
    obtain ⟨m, hm⟩ : ∃ m, m = out.length := ⟨_, rfl⟩
    have HM := hide hm
    have hmb : m ≤ 100000 := by have := H.out.2.2.2.1; omega
    rw [← hm] at K ⊢
    have hmc : m ≤ oc := (own_cap (Knget (pre := [_]) K.out)).1
    clear hm
    cases hb1 : best (hs.map Hd.l) with
    | none =>
      have HE : Hid (mixL ls = out) := hide (by rw [← H.out.2.2.1, mixF_end hb1])
      have HROW : Hid (RowI wr oa oc out ∧ Fresh w.heap.size oa) := hide (by
        obtain ⟨oa', oc', e, hr, hf⟩ := OwnI.row (show OwnI w.heap.size wr (.slice oa m oc) out from by unfold OwnI; rw [← HM.out]; exact Knget (pre := [_]) K.out) (by rw [← HM.out]; omega) H.out.2.2.2.2
        injection e with e1 e2 e3
        subst e1 e3
        exact ⟨hr, hf⟩)
      rw [optI]
      clear hb1
      go_wp2
      go_ret
      rw [HE.out]
      exact ⟨oa, m, oc, rfl, ⟨HM.out, HROW.out⟩, K.out.below⟩
    | some k =>
      rw [optI_some]
      have RI := rowsI_own K.out.hd H.out.1 (fun h hh => RowI.keep (H.out.2.1 h hh) K.out.below)
      obtain ⟨b1, b2⟩ := best_some hb1
      rw [List.length_map] at b1
      obtain ⟨g, off, b3, o3, ln, lc, e1, f1, f2, f3, f4, f5, f6, f7⟩ := RI.first b2
      obtain ⟨g', gc', e2, f8, f9⟩ := own_at (j := k) K.out.hd (hds_at b1)
      cases e2
      cases e1
      rw [hds_getD] at b2
      have hrk : (hs.getD k hd0).R w := H.out.2.1 _ (by
        rw [List.getD_eq_getElem?_getD, List.getElem?_eq_getElem b1]
        exact List.getElem_mem _)
      obtain ⟨h', g1, g2, g3⟩ := hd_cut hrk b2
      have HNX0 := take_next H.out hb1 g1 g3
      obtain ⟨kh, hkh⟩ : ∃ kh, kh = hs.getD k hd0 := ⟨_, rfl⟩
      rw [Nat.zero_add, f8] at f1
      rw [← hkh] at f1 g1 g2 g3 f8 hrk
      obtain ⟨x, hx⟩ : ∃ x, x = hd (hs.map Hd.l) k := ⟨_, rfl⟩
      rw [← hx] at f6 HNX0
      have HNX := hide HNX0
      obtain ⟨ka, kc, kl⟩ := kh
      injection f1 with f1
      injection f1 with q1 q2 q3
      subst q1 q3
      replace g2 : ∀ (V : World), (Instr.slice 23 (.slice (some ⟨b3, o3, none⟩) ln kc) (some (.int .i64 1)) none none).run Try.prog V = .ok h'.v V := by rw [← q2]; exact g2
      replace f8 : wr.cell? ⟨g, k, none⟩ = some (.slice (some ⟨b3, o3, none⟩) ln kc) := by rw [← q2]; exact f8
      obtain ⟨ha, hc', hl⟩ := h'
      obtain ⟨l2, hl2⟩ : ∃ l2, l2 = hl.length := ⟨_, rfl⟩
      replace g2 : ∀ (V : World), (Instr.slice 23 (.slice (some ⟨b3, o3, none⟩) ln kc) (some (.int .i64 1)) none none).run Try.prog V = .ok (.slice ha l2 hc') V := by rw [hl2]; exact g2
      have HKH := hide hkh
      have HKV : Hid (some (Hd.v ⟨some ⟨b3, o3, none⟩, kc, kl⟩) = some (.slice (some ⟨b3, o3, none⟩) ln kc)) := hide (by rw [← q2])
      have HHS : Hid ((hs.map Hd.v).set k (.slice ha l2 hc') = ((hs.set k ⟨ha, hc', hl⟩).map Hd.v)) := hide (by rw [List.map_set, hl2])
      have HB1 := hide b1
      have hgl : n ≤ gc := (own_cap K.out.hd).1
      have hkn : (k : Int) < n := by have := H.out.1; omega
      have hln : (0 : Int) < ln := by omega
      clear q2 hl2 hb1 RI b1 b2 f2 f7 hrk hkh hx g1 g3 HNX0
      by_cases h0 : m = 0
      · subst h0
        have HP : Hid (putL out x = [x]) := hide (by
          have : out = [] := List.eq_nil_of_length_eq_zero HM.out.symm
          subst this
          rfl)
        have HO : Hid (out = []) := hide (List.eq_nil_of_length_eq_zero HM.out.symm)
        go_upto_region 8 with (at_builtin; go_must ((refine wpList_append_own_at _ rfl _ _ 23 rfl w.heap.size 3 i0 (.int .i64 0) 1 8 Try.underlying23 hi hz0 hz1 hz2 rfl (by decide) (.slice oa 0 oc) 0 (out.map (Value.int .i64)) rfl (World.ownsRow.alloc (Knget (pre := [_]) (K).out) _) ⟨(wr).heap.size, 0, none⟩ 1 1 [(.int .i64 x)] rfl rfl (cell_one_new _ _ _) (by simp [Value.oneCell']) (by unfold maxLen; omega) (by omega) (by have := (K).out.below.size; simp at this ⊢; omega) ?_); intro v4 w4 hown4 hg4 _ hat4; obtain ⟨a4, c4, rfl⟩ := Own.own_form hown4; have K4 := hide (growAt (pre := [_]) ((K).out.keep ((Below.refl _ _).alloc (Nat.le_refl _) _)) hown4 hg4 hat4); clear hown4 hg4 hat4; skip))
        have K5 : Kn w [ownN w.heap.size 23 1 (.slice (some ⟨g, 0, none⟩) n gc) n (hs.map Hd.v), ownN w.heap.size 3 1 (.slice a4 (0 + 1) c4) (putL out x).length ((putL out x).map (Value.int .i64))] w4 := by
          rw [HP.out]
          have := K4.out
          rw [HO.out] at this
          exact this
        clear f6 f8 f9
        have HK7 : Hid (Kn w [ownN w.heap.size 23 1 (.slice (some ⟨g, 0, none⟩) n gc) n (hs.map Hd.v), ownN w.heap.size 3 1 (.slice a4 (0 + 1) c4) (putL out x).length ((putL out x).map (Value.int .i64))] w4) := hide K5
        obtain ⟨g7, cg7, eg7, f7, f8⟩ := own_at (j := k) HK7.out.hd (hds_at HB1.out)
        cases eg7
        rw [← HKH.out] at f7
        have f7' : World.cell? w4 ⟨g, k, none⟩ = some (.slice (some ⟨b3, o3, none⟩) ln kc) := by rw [f7]; exact HKV.out
        have K9 := hide (ownPut (pre := []) HK7.out k (.slice ha l2 hc') HK7.out.hd)
        simp only [List.nil_append] at K9
        rw [HHS.out] at K9
        clear f7
        go_upto_region 9 with fail
        generalize (World.setCell w4 ⟨g, k, none⟩ (.slice ha l2 hc')) = W9 at K9 ⊢
        have HTK := hide (rtake_any (rowsI_own K9.out.hd HNX.out.1.1 (fun h hh => RowI.keep (HNX.out.1.2.1 h hh) K9.out.below)) (by rw [List.length_map]; exact HNX.out.1.1) hn2)
        clear f7' f8 HK7
        go_wp2_with (go_at_call 34; go_must ((with_reducible refine (Hid.out HTK).mono ?_); rintro e w8 ⟨rfl, q8, hq8⟩; have K8 := hide (K9.out.drewN q8); rw [← hq8] at K8; clear hq8 HTK))
        go_roundg (cnt ((hs.set k ⟨ha, hc', hl⟩).map Hd.l))
        case measure => have := HNX.out.2; have := G.out; omega
        case rel => exact ⟨hs.set k ⟨ha, hc', hl⟩, _, rfl, rfl, by simp only [bestI_opt, List.map_set], K8, hide HNX.out.1, hide (Nat.le_refl _)⟩
      · obtain ⟨go', co', e4, f1, _⟩ := own_at (j := m - 1) (Knget (pre := [_]) K.out) (u := .int .i64 (out.getD (m - 1) 0)) (by
          rw [List.getElem?_map, List.getD_eq_getElem?_getD, List.getElem?_eq_getElem (show m - 1 < out.length by rw [← HM.out]; omega)]
          rfl)
        cases e4
        have HLA := hide (last_at HM.out (by omega) x)
        obtain ⟨y, hy⟩ : ∃ y, y = out.getD (m - 1) 0 := ⟨_, rfl⟩
        rw [← hy] at f1 HLA
        have hmi : ((m : Int) == 0) = false := by simp; omega
        have hm1 : (m : Int) - 1 < m := by omega
        have hm2' : ¬ (m : Int) - 1 < 0 := by omega
        have ht : ((m : Int) - 1).toNat = m - 1 := by omega
        have hw0 : IntKind.i64.wrap ((m : Int) - 1) = (m : Int) - 1 := by rw [IntKind.wrap_i64]; omega
        by_cases hyx : y = x
        · have HP : Hid (putL out x = out) := hide (by unfold putL; rw [if_pos (HLA.out.2 hyx)])
          have hzz : (y != x) = false := by simp [hyx]
          clear hy hyx h0
          go_upto_region 8 with fail
          have K5 : Kn w [ownN w.heap.size 23 1 (.slice (some ⟨g, 0, none⟩) n gc) n (hs.map Hd.v), ownN w.heap.size 3 1 (.slice (some ⟨go', 0, none⟩) m oc) (putL out x).length ((putL out x).map (Value.int .i64))] wr := by
            rw [HP.out, ← HM.out]
            exact K.out
          clear f1 f6 f8 f9
          have HK7 : Hid (Kn w [ownN w.heap.size 23 1 (.slice (some ⟨g, 0, none⟩) n gc) n (hs.map Hd.v), ownN w.heap.size 3 1 (.slice (some ⟨go', 0, none⟩) m oc) (putL out x).length ((putL out x).map (Value.int .i64))] wr) := hide K5
          obtain ⟨g7, cg7, eg7, f7, f8⟩ := own_at (j := k) HK7.out.hd (hds_at HB1.out)
          cases eg7
          rw [← HKH.out] at f7
          have f7' : World.cell? wr ⟨g, k, none⟩ = some (.slice (some ⟨b3, o3, none⟩) ln kc) := by rw [f7]; exact HKV.out
          have K9 := hide (ownPut (pre := []) HK7.out k (.slice ha l2 hc') HK7.out.hd)
          simp only [List.nil_append] at K9
          rw [HHS.out] at K9
          clear f7
          go_upto_region 9 with fail
          generalize (World.setCell wr ⟨g, k, none⟩ (.slice ha l2 hc')) = W9 at K9 ⊢
          have HTK := hide (rtake_any (rowsI_own K9.out.hd HNX.out.1.1 (fun h hh => RowI.keep (HNX.out.1.2.1 h hh) K9.out.below)) (by rw [List.length_map]; exact HNX.out.1.1) hn2)
          clear f7' f8 HK7
          go_wp2_with (go_at_call 34; go_must ((with_reducible refine (Hid.out HTK).mono ?_); rintro e w8 ⟨rfl, q8, hq8⟩; have K8 := hide (K9.out.drewN q8); rw [← hq8] at K8; clear hq8 HTK))
          go_roundg (cnt ((hs.set k ⟨ha, hc', hl⟩).map Hd.l))
          case measure => have := HNX.out.2; have := G.out; omega
          case rel => exact ⟨hs.set k ⟨ha, hc', hl⟩, _, rfl, rfl, by simp only [bestI_opt, List.map_set], K8, hide HNX.out.1, hide (Nat.le_refl _)⟩
        · have HP : Hid (putL out x = out ++ [x]) := hide (by unfold putL; rw [if_neg (fun z => hyx (HLA.out.1 z))])
          have hz3 : (y != x) = true := by simp [hyx]
          clear hy hyx h0
          go_upto_region 8 with (at_builtin; go_must ((refine wpList_append_own_at _ rfl _ _ 23 rfl w.heap.size 3 i0 (.int .i64 0) 1 8 Try.underlying23 hi hz0 hz1 hz2 rfl (by decide) (.slice (some ⟨go', 0, none⟩) m oc) m (out.map (Value.int .i64)) rfl (World.ownsRow.alloc (Knget (pre := [_]) (K).out) _) ⟨(wr).heap.size, 0, none⟩ 1 1 [(.int .i64 x)] rfl rfl (cell_one_new _ _ _) (by simp [Value.oneCell']) (by unfold maxLen; omega) (by omega) (by have := (K).out.below.size; simp at this ⊢; omega) ?_); intro v4 w4 hown4 hg4 _ hat4; obtain ⟨a4, c4, rfl⟩ := Own.own_form hown4; have K4 := hide (growAt (pre := [_]) ((K).out.keep ((Below.refl _ _).alloc (Nat.le_refl _) _)) hown4 hg4 hat4); clear hown4 hg4 hat4; skip))
          have K5 : Kn w [ownN w.heap.size 23 1 (.slice (some ⟨g, 0, none⟩) n gc) n (hs.map Hd.v), ownN w.heap.size 3 1 (.slice a4 (m + 1) c4) (putL out x).length ((putL out x).map (Value.int .i64))] w4 := by
            rw [HP.out, List.length_append, ← HM.out, List.map_append]
            exact K4.out
          clear f1 f6 f8 f9
          have HK7 : Hid (Kn w [ownN w.heap.size 23 1 (.slice (some ⟨g, 0, none⟩) n gc) n (hs.map Hd.v), ownN w.heap.size 3 1 (.slice a4 (m + 1) c4) (putL out x).length ((putL out x).map (Value.int .i64))] w4) := hide K5
          obtain ⟨g7, cg7, eg7, f7, f8⟩ := own_at (j := k) HK7.out.hd (hds_at HB1.out)
          cases eg7
          rw [← HKH.out] at f7
          have f7' : World.cell? w4 ⟨g, k, none⟩ = some (.slice (some ⟨b3, o3, none⟩) ln kc) := by rw [f7]; exact HKV.out
          have K9 := hide (ownPut (pre := []) HK7.out k (.slice ha l2 hc') HK7.out.hd)
          simp only [List.nil_append] at K9
          rw [HHS.out] at K9
          clear f7
          go_upto_region 9 with fail
          generalize (World.setCell w4 ⟨g, k, none⟩ (.slice ha l2 hc')) = W9 at K9 ⊢
          have HTK := hide (rtake_any (rowsI_own K9.out.hd HNX.out.1.1 (fun h hh => RowI.keep (HNX.out.1.2.1 h hh) K9.out.below)) (by rw [List.length_map]; exact HNX.out.1.1) hn2)
          clear f7' f8 HK7
          go_wp2_with (go_at_call 34; go_must ((with_reducible refine (Hid.out HTK).mono ?_); rintro e w8 ⟨rfl, q8, hq8⟩; have K8 := hide (K9.out.drewN q8); rw [← hq8] at K8; clear hq8 HTK))
          go_roundg (cnt ((hs.set k ⟨ha, hc', hl⟩).map Hd.l))
          case measure => have := HNX.out.2; have := G.out; omega
          case rel => exact ⟨hs.set k ⟨ha, hc', hl⟩, _, rfl, rfl, by simp only [bestI_opt, List.map_set], K8, hide HNX.out.1, hide (Nat.le_refl _)⟩
end
end Go.Proofs.Ytkjdjmcecjaolaa.Mrg

/- A run that may not be; what a whole run comes to. -/
namespace Go.Proofs.Ytkjdjmcecjaolaa.Mrg
open Go.RowKit Go.Proofs.Ytkjdjmcecjaolaa.Dig Go.Proofs.Ytkjdjmcecjaolaa.Mem Go.Proofs.Ytkjdjmcecjaolaa.Dq Go.Proofs.Ytkjdjmcecjaolaa.Thing Go.Proofs.Ytkjdjmcecjaolaa.Own Go.Proofs.Ytkjdjmcecjaolaa.Sets Go.Proofs.Ytkjdjmcecjaolaa.DqI Go.Proofs.Ytkjdjmcecjaolaa.Pick
set_option linter.unusedVariables false
set_option linter.unusedSimpArgs false

local notation "ordF" => Value.func (Fn.func 12) #[] #[]
/-- When all is done. -/
theorem done_facts {room : Nat} {rows : List (List Int)} {s : MS} (h : Ok room rows s) (hx : s.ex = true) : s.st = 3 * cnt rows + rows.length + 1 ∧ s.se = cnt rows ∧ s.ec = rows.length + 1 ∧ s.out = mixL rows := by
  have h0 := h.ex hx
  have h1 := h.st
  have h2 := h.se
  have h3 := h.ec
  unfold todo at h0
  rw [hx] at h0 h3
  simp only [↓reduceIte, Nat.add_zero] at h0 h3
  have hz : ∀ κ ∈ s.ls, tdo κ = 0 := fun κ hκ => by
    obtain ⟨j, hj⟩ := List.getElem?_of_mem hκ
    have := sum_get tdo s.ls j κ hj
    omega
  have hl : ∀ κ ∈ s.ls, κ.row = [] ∧ κ.q = [] ∧ κ.h = [] ∧ κ.c = true := fun κ hκ => by
    have := hz κ hκ
    unfold tdo at this
    refine ⟨List.eq_nil_of_length_eq_zero (by omega), List.eq_nil_of_length_eq_zero (by omega), List.eq_nil_of_length_eq_zero (by omega), ?_⟩
    cases hc : κ.c with
    | true => rfl
    | false => rw [hc] at this; simp at this
  have hs : ∀ (f : Ln → Nat), (∀ κ ∈ s.ls, f κ = 0) → (s.ls.map f).sum = 0 := fun f hf => by
    rcases Nat.eq_zero_or_pos (s.ls.map f).sum with q | q
    · exact q
    · obtain ⟨k, κ, hk, hp⟩ := sum_pos f s.ls q
      have := hf κ (List.mem_of_getElem? hk)
      omega
  have e1 := hs rws (fun κ hκ => by unfold rws; rw [(hl κ hκ).1]; rfl)
  have e2 := hs opn (fun κ hκ => by unfold opn; rw [(hl κ hκ).2.2.2]; rfl)
  have e3 : todo s = 0 := by unfold todo; rw [hx, h0]; rfl
  refine ⟨by omega, by omega, by omega, ?_⟩
  rw [← h.mix, mixF_end]
  refine bestTo_nil (fun k hk => ?_)
  rw [List.length_map] at hk
  rw [List.getD_eq_getElem?_getD, List.getElem?_map, List.getElem?_eq_getElem hk]
  obtain ⟨a, b, c, _⟩ := hl _ (List.getElem_mem hk)
  simp [rem, a, b, c]
section
variable {w wx w' : World} {n : Nat} {a : Option Addr} {cc : Nat}
theorem run_no (r : Int) (p : Value) (hr : r < 1 ∨ 64 < r) (w : World) : Calls Try.prog 11 #[.slice a n cc, ordF, .int .i64 r, p] w fun e w' => e = .returned (.tuple #[.slice none 0 0, .agg z3, .int .i64 2]) ∧ Below w.heap.size w w' := by
  have E1 := eql_ordF
  have hI := Is.made w z3 29 (b := w.heap.size) rfl
  have c0 := hI.cell 0 rfl
  have c1 := hI.cell 1 rfl
  have c2 := hI.cell 2 rfl
  have f0 := hI.frozen 0
  have f1 := hI.frozen 1
  have f2 := hI.frozen 2
  have H3 := hide ((((hI.set 0 (.int .i64 0)).set 1 (.int .i64 0)).set 2 (.int .i64 0)).eq (cs' := z3) (by simp))
  clear hI
  have r0 := H3.out.cell 0 rfl
  have r1 := H3.out.cell 1 rfl
  have r2 := H3.out.cell 2 rfl
  by_cases g1 : r < 1
  · go_enter Try.func11, Try.ntmps11
    go_wp2
    refine bodyPost_ret (v := .tuple #[.slice none 0 0, .agg z3, .int .i64 2]) (by simp [results, Try.results11, go_sem, r0, r1, r2]) rfl ?_
    exact ⟨rfl, by (repeat (first | exact Below.refl _ _ | refine Below.alloc ?_ (Nat.le_refl _) _ | refine Below.setCell ?_ (Nat.le_refl _) _))⟩
  · have g2 : (64 : Int) < r := by omega
    clear hr
    go_enter Try.func11, Try.ntmps11
    go_wp2
    refine bodyPost_ret (v := .tuple #[.slice none 0 0, .agg z3, .int .i64 2]) (by simp [results, Try.results11, go_sem, r0, r1, r2]) rfl ?_
    exact ⟨rfl, by (repeat (first | exact Below.refl _ _ | refine Below.alloc ?_ (Nat.le_refl _) _ | refine Below.setCell ?_ (Nat.le_refl _) _))⟩
theorem run_nilc (r : Int) (p : Value) (w : World) : Calls Try.prog 11 #[.slice a n cc, .nilFunc, .int .i64 r, p] w fun e w' => e = .returned (.tuple #[.slice none 0 0, .agg z3, .int .i64 2]) ∧ Below w.heap.size w w' := by
  have E1 := eql_nilF
  have hI := Is.made w z3 29 (b := w.heap.size) rfl
  have c0 := hI.cell 0 rfl
  have c1 := hI.cell 1 rfl
  have c2 := hI.cell 2 rfl
  have f0 := hI.frozen 0
  have f1 := hI.frozen 1
  have f2 := hI.frozen 2
  have H3 := hide ((((hI.set 0 (.int .i64 0)).set 1 (.int .i64 0)).set 2 (.int .i64 0)).eq (cs' := z3) (by simp))
  clear hI
  have r0 := H3.out.cell 0 rfl
  have r1 := H3.out.cell 1 rfl
  have r2 := H3.out.cell 2 rfl
  go_enter Try.func11, Try.ntmps11
  go_wp2
  refine bodyPost_ret (v := .tuple #[.slice none 0 0, .agg z3, .int .i64 2]) (by simp [results, Try.results11, go_sem, r0, r1, r2]) rfl ?_
  exact ⟨rfl, by (repeat (first | exact Below.refl _ _ | refine Below.alloc ?_ (Nat.le_refl _) _ | refine Below.setCell ?_ (Nat.le_refl _) _))⟩
theorem rows_nilc (w : World) : Calls Try.prog 21 #[.slice a n cc, .nilFunc] w fun e w' => e = .returned (.slice none 0 0) ∧ w' = w := by
  have E1 := eql_nilF
  go_enter Try.func21, Try.ntmps21
  go_wp2
  go_ret
  exact ⟨rfl, rfl⟩
set_option maxHeartbeats 4000000 in
set_option maxRecDepth 20000 in
/-- Without a script. -/
theorem run_nils {rows : List (List Int)} {r : Nat} (hR : RowsI w a cc rows) (hnr : n = rows.length) (hnr2 : n ≤ 900) (hlen : ∀ l ∈ rows, l.length ≤ 1000) (hr : 1 ≤ r) (hr2 : r ≤ 64) :
    Calls Try.prog 11 #[.slice a n cc, ordF, .int .i64 (r : Int), .pointer none] w fun e w' => e = .returned (.tuple #[.slice none 0 0, .agg z3, .int .i64 1]) ∧ Below w.heap.size w w' := by
  have K0 := hide (box0 (Kn.start w) z3 29 (g := w.heap.size) rfl)
  have HBG := hide (begin_any K0 hR hnr (by omega) hr hr2 hlen)
  have E1 := eql_ordF
  have g1 : ¬ (r : Int) < 1 := by omega
  have g2 : ¬ (64 : Int) < (r : Int) := by omega
  have HNR := hide hnr
  clear hR hnr hlen K0
  go_enter Try.func11, Try.ntmps11
  go_wp2_with (go_at_call 24; go_must ((with_reducible refine (Hid.out HBG).mono ?_); rintro e w1 ⟨fb, rfl, xs0, HX0, vS0, vP0, vH0, K1⟩; clear HBG))
  go_loopw [12, 13] (fun _ _ wr => Hid (FL w r fb (begM rows) xs0 vS0 vP0 vH0 (.slice none 0 0) [boxT w.heap.size z3] wr)) (fun _ _ _ => 0)
  case atStart => exact K1
  case round =>
    have K := hide hrel.out
    clear K1 hrel
    have c5 := K.out.box.cell 5 rfl
    have HFR := hide (fready_any K (by have := HX0.out; omega))
    have hne : ¬ w.heap.size = fb ∧ ¬ fb = w.heap.size := by
      have h1 := (List.pairwise_cons.1 K.out.kn.sep).1 (boxT w.heap.size z3) (by simp) fb rfl
      exact ⟨fun e => h1 e.symm, h1⟩
    obtain ⟨hne1, hne2⟩ := hne
    go_wp2_with (first
      | (go_at_call 26; go_must ((with_reducible refine (Hid.out HFR).mono ?_); rintro e w3 ⟨ra, rm, rc, rfl, HRM, K3⟩; clear HFR))
      | (go_at_call 25; go_must ((with_reducible refine (pstep_nil _ _).mono ?_); rintro e w4 ⟨rfl, rfl⟩; have c6 : w4.cell? ⟨fb, 6, none⟩ = some (.int .i64 0) := K3.out.box.cell 6 rfl; have c7 : w4.cell? ⟨fb, 7, none⟩ = some (.int .i64 0) := K3.out.box.cell 7 rfl; have c8 : w4.cell? ⟨fb, 8, none⟩ = some (.int .i64 0) := K3.out.box.cell 8 rfl; have d0 := K3.out.tail.tail.hd.cell 0 rfl; have d1 := K3.out.tail.tail.hd.cell 1 rfl; have d2 := K3.out.tail.tail.hd.cell 2 rfl; have e0 := K3.out.tail.tail.hd.frozen 0; have e1 := K3.out.tail.tail.hd.frozen 1; have e2 := K3.out.tail.tail.hd.frozen 2)))
    go_region
    have HB4 := hide K3.out.tail.tail.hd
    have HBL := hide K3.out.below
    have H3 := hide (((((HB4.out.set 0 (.int .i64 0)).set 1 (.int .i64 0)).set 2 (.int .i64 0)).eq (cs' := z3) (by simp)).drew)
    have r0 := H3.out.cell 0 rfl
    have r1 := H3.out.cell 1 rfl
    have r2 := H3.out.cell 2 rfl
    clear c6 c7 c8 d0 d1 d2 e0 e1 e2
    go_wp2
    refine bodyPost_ret (v := .tuple #[.slice none 0 0, .agg z3, .int .i64 1]) (by simp [results, Try.results11, go_sem, r0, r1, r2]) rfl ?_
    exact ⟨rfl, ((((HBL.out.setCell (p := ⟨w.heap.size, 0, none⟩) (Nat.le_refl _) _).setCell (p := ⟨w.heap.size, 1, none⟩) (Nat.le_refl _) _).setCell (p := ⟨w.heap.size, 2, none⟩) (Nat.le_refl _) _).drew)⟩
end
end Go.Proofs.Ytkjdjmcecjaolaa.Mrg

/- works. -/
namespace Go.Proofs.Ytkjdjmcecjaolaa.Mrg
open Go.RowKit Go.Proofs.Ytkjdjmcecjaolaa.Dig Go.Proofs.Ytkjdjmcecjaolaa.Mem Go.Proofs.Ytkjdjmcecjaolaa.Dq Go.Proofs.Ytkjdjmcecjaolaa.Thing Go.Proofs.Ytkjdjmcecjaolaa.Own Go.Proofs.Ytkjdjmcecjaolaa.Sets Go.Proofs.Ytkjdjmcecjaolaa.DqI Go.Proofs.Ytkjdjmcecjaolaa.Pick
set_option linter.unusedVariables false
set_option linter.unusedSimpArgs false

local notation "ordF" => Value.func (Fn.func 12) #[] #[]
theorem rowi_nil0 (w : World) : RowI w none 0 [] := ⟨Nat.le_refl _, ⟨by simp, fun i hi => by simp at hi⟩, fun _ => rfl⟩
/-- A run that nobody cancels. -/
theorem run_whole {L : List Int} {c : Int} {room : Nat} {rows : List (List Int)} {n mm : Nat} (hr : 1 ≤ room) (hc : c < 0) (hmm : 3 * cnt rows + rows.length + 1 ≤ mm) : ∃ s' n', runM L c room mm (begM rows) n = (s', n', 0) ∧ s'.st = 3 * cnt rows + rows.length + 1 ∧ s'.se = cnt rows ∧ s'.ec = rows.length + 1 ∧ s'.out = mixL rows ∧ n' = n + s'.st := by
  have hto : todo (begM rows) ≤ mm := by have := (beg_ok room rows).st; omega
  have R := run_ran L c hr (d := n) mm (begM rows) n (beg_ok room rows) hto rfl (fun h => by omega)
  obtain ⟨⟨s', n', E⟩, hR⟩ : ∃ R, R = runM L c room mm (begM rows) n := ⟨_, rfl⟩
  rw [← hR] at R
  rcases R.e with ⟨e1, e2⟩ | ⟨_, _, e3⟩
  · obtain ⟨a, b, c, d⟩ := done_facts R.ok e2
    dsimp only at e1
    subst e1
    exact ⟨s', n', hR.symm, a, b, c, d, R.st⟩
  · unfold over at e3
    rw [decide_eq_false (by omega)] at e3
    cases e3
/-- What works knows. -/
structure WS (w : World) (B : Nat) (oa : Option Addr) (oc : Nat) (W : World) : Prop where
  below : Below w.heap.size w W
  box : Is W B #[.int .i64 15, .int .i64 4, .int .i64 3]
  row : RowI W oa oc [1, 2, 3]
theorem WS.keep {w W W' : World} {B oc : Nat} {oa : Option Addr} (h : WS w B oa oc W) (hb : Below W.heap.size W W') : WS w B oa oc W' := ⟨h.below.trans (hb.mono h.below.size), h.box.below hb, h.row.keep hb⟩
theorem mix_works : mixL [[1, 3], [1, 2]] = [1, 2, 3] := by decide
set_option maxHeartbeats 4000000 in
set_option maxRecDepth 20000 in
theorem works_any (w : World) : Calls Try.prog 9 #[] w fun e w' => e = .returned (.bool true) ∧ Below w.heap.size w w' := by
  obtain ⟨W3, hW3⟩ : ∃ W3, W3 = ((w.alloc (.cells #[.int .i64 1, .int .i64 3] 3)).alloc (.cells #[.int .i64 1, .int .i64 2] 3)).alloc (.cells #[.slice (some ⟨w.heap.size, 0, none⟩) 2 2, .slice (some ⟨w.heap.size + 1, 0, none⟩) 2 2] 23) := ⟨_, rfl⟩
  have hB3 : Below w.heap.size w W3 := by
    rw [hW3]
    exact (((Below.refl _ _).alloc (Nat.le_refl _) _).alloc (by simp) _).alloc (by simp; omega) _
  have hs3 : W3.heap.size = w.heap.size + 3 := by rw [hW3]; simp
  have hw1 : WfL [1, 3] := wfl_of (by decide)
  have hw2 : WfL [1, 2] := wfl_of (by decide)
  have r1 : RowI W3 (some ⟨w.heap.size, 0, none⟩) 2 [1, 3] := by
    have h0 := rowi_made w [1, 3] 3 (p := w.heap.size) (n := 2) rfl rfl (by simp) hw1
    rw [hW3]
    exact (h0.keep ((Below.refl _ _).alloc (Nat.le_refl _) _)).keep ((Below.refl _ _).alloc (Nat.le_refl _) _)
  have r2 : RowI W3 (some ⟨w.heap.size + 1, 0, none⟩) 2 [1, 2] := by
    have h0 := rowi_made (w.alloc (.cells #[.int .i64 1, .int .i64 3] 3)) [1, 2] 3 (p := w.heap.size + 1) (n := 2) (by simp) rfl (by simp) hw2
    rw [hW3]
    exact h0.keep ((Below.refl _ _).alloc (Nat.le_refl _) _)
  have hI : Is W3 (w.heap.size + 1 + 1) #[.slice (some ⟨w.heap.size, 0, none⟩) 2 2, .slice (some ⟨w.heap.size + 1, 0, none⟩) 2 2] := by
    rw [hW3]
    exact Is.made _ _ _ (by simp)
  have HROWS : Hid (RowsI W3 (some ⟨w.heap.size + 1 + 1, 0, none⟩) 2 [[1, 3], [1, 2]]) := hide ⟨by simp, (fun e => by cases e), fun i hi => by
    have : i = 0 ∨ i = 1 := by simp at hi; omega
    rcases this with rfl | rfl
    · exact ⟨_, 0, _, _, rfl, hI.cell 0 rfl, r1⟩
    · exact ⟨_, 0, _, _, rfl, hI.cell 1 rfl, r2⟩⟩
  have N0 := hide (newE (w := W3) (wx := W3) (hide (Kn.start W3)) (rowi_nil0 W3) (m := 0) rfl (by simp) (-1))
  obtain ⟨s', n', hrun, hst, hse, hec, hout, _⟩ := run_whole (L := []) (c := -1) (room := 1) (rows := [[1, 3], [1, 2]]) (n := 0) (mm := 15) (by decide) (by decide) (by decide)
  have HRUN : Hid (∀ b W, Hid (SE W3 b [] (-1) 0 [] W) → _) := hide (fun b W hW => run_any (nr := 2) hW HROWS.out rfl (by decide) (by simp) (by decide) (by decide) (by decide) (by decide) (by decide) hrun (rz := 1) rfl)
  have e1 : s'.st = 15 := by rw [hst]; decide
  have e2 : s'.se = 4 := by rw [hse]; decide
  have e3 : s'.ec = 3 := by rw [hec]; rfl
  have e4 : outE 0 s' = [1, 2, 3] := by unfold outE; rw [if_pos rfl, hout]; exact mix_works
  rw [e1, e2, e3, e4] at HRUN
  have HB3 := hide hB3
  clear hB3 hs3 hw1 hw2 r1 r2 hI hrun hst hse hec hout e1 e2 e3 e4
  go_enter Try.func9, Try.ntmps9
  go_upto_region 2 with fail
  rw [← hW3]
  clear hW3
  have HN : Hid (∀ W, Calls Try.prog 10 #[.slice none 0 0, .int .i64 (-1)] W fun e w' => ∃ b, e = .returned (.pointer (some ⟨b, 0, none⟩)) ∧ Hid (SE W b [] (-1) 0 [] w')) := hide (fun W => newE (w := W) (wx := W) (hide (Kn.start W)) (rowi_nil0 W) (m := 0) rfl (by simp) (-1))
  go_upto_region 3 with (first
    | (go_at_call 10; go_must ((with_reducible refine (Hid.out N0).mono ?_); rintro e w1 ⟨b, rfl, H0⟩; have R1 := hide (HRUN.out b w1 H0); clear N0))
    | (go_at_call 11; go_must ((with_reducible refine (Hid.out R1).mono ?_); rintro e w2 ⟨oa, om, oc, rfl, HO, HS⟩; clear R1)))
  have K4 : Hid (WS w w2.heap.size oa oc (w2.alloc (.cells #[.int .i64 15, .int .i64 4, .int .i64 3] 29))) := hide ⟨(HB3.out.trans (HS.out.below.mono HB3.out.size)).alloc (Nat.le_trans HB3.out.size HS.out.below.size) _, Is.made _ _ _ rfl, HO.out.2.1.keep ((Below.refl _ _).alloc (Nat.le_refl _) _)⟩
  have hom : om = 3 := HO.out.1
  subst hom
  generalize w2.heap.size = B at K4 ⊢
  generalize (w2.alloc (.cells #[.int .i64 15, .int .i64 4, .int .i64 3] 29)) = W5 at K4 ⊢
  clear HO HS HRUN HROWS
  go_upto_region 4 with (first
    | (go_at_call 10; go_must ((with_reducible refine (HN.out _).mono ?_); rintro e w6 ⟨b6, rfl, H6⟩; have K6 := hide (K4.out.keep H6.out.below); clear HN))
    | (go_at_call 11; go_must ((with_reducible refine (run_no 0 _ (.inl (by decide)) _).mono ?_); rintro e w7 ⟨rfl, hb7⟩; have K7 := hide (K6.out.keep hb7); clear hb7)))
  have K8 := hide (K7.out.keep (W' := w7.alloc (.cells #[.int .i64 0, .int .i64 0, .int .i64 0] 29)) ((Below.refl _ _).alloc (Nat.le_refl _) _))
  generalize (w7.alloc (.cells #[.int .i64 0, .int .i64 0, .int .i64 0] 29)) = W8 at K8 ⊢
  have HSM : Hid (Calls Try.prog 14 #[.slice oa 3 oc, .slice (some ⟨W8.heap.size, 0, none⟩) 3 3] (W8.alloc (.cells #[.int .i64 1, .int .i64 2, .int .i64 3] 3)) fun e w' => e = .returned (.bool true) ∧ Below (W8.alloc (.cells #[.int .i64 1, .int .i64 2, .int .i64 3] 3)).heap.size (W8.alloc (.cells #[.int .i64 1, .int .i64 2, .int .i64 3] 3)) w') := hide (same_is oa (some ⟨W8.heap.size, 0, none⟩) oc 3 [1, 2, 3] [1, 2, 3] _ (K8.out.row.keep ((Below.refl _ _).alloc (Nat.le_refl _) _)) (rowi_made W8 [1, 2, 3] 3 rfl rfl (by simp) (wfl_of (by decide))))
  go_wp2_with (go_at_call 14; go_must ((with_reducible refine (Hid.out HSM).mono ?_); rintro e w9 ⟨rfl, hb9⟩; have K9 := hide ((K8.out.keep ((Below.refl _ _).alloc (Nat.le_refl _) _)).keep hb9); have c0 := K9.out.box.cell 0 rfl; have c1 := K9.out.box.cell 1 rfl; have c2 := K9.out.box.cell 2 rfl; clear hb9 HSM))
  go_ret
  exact ⟨rfl, K9.out.below⟩
end Go.Proofs.Ytkjdjmcecjaolaa.Mrg

/- An argument []int as a row that is read. -/
namespace Go.Proofs.Ytkjdjmcecjaolaa.Frame
open Go.RowKit Go.Proofs.Ytkjdjmcecjaolaa.Dig Go.Proofs.Ytkjdjmcecjaolaa.Dq
set_option linter.unusedVariables false

theorem IsRow.rowi {w : World} {a : Option Addr} {len cap : Nat} {zs : List Int} (h : IsRow .i64 w a len cap zs) (hl : len ≤ 1000000000000) : ∃ l : List Int, len = l.length ∧ RowI w a cap l := by
  obtain ⟨l, e, h1, h2, h3⟩ := h.list hl
  exact ⟨l, e, ⟨by rw [← e]; exact h.cap.1, h1, fun q => (h3 q).2⟩⟩
end Go.Proofs.Ytkjdjmcecjaolaa.Frame
