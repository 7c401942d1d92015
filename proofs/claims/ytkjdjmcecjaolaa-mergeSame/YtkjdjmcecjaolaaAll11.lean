/- Joined out of the texts MrgMerger, MrgBegin, MrgRun, in that order. -/
import Derived.Test.YtkjdjmcecjaolaaAll10
import Derived.Laws.MakeOwn
import Derived.Test.YtkjdjmcecjaolaaAll5
/- A step of the merger, and of one of all. -/
namespace Go.Proofs.Ytkjdjmcecjaolaa.Mrg
open Go.RowKit Go.Proofs.Ytkjdjmcecjaolaa.Dig Go.Proofs.Ytkjdjmcecjaolaa.Mem Go.Proofs.Ytkjdjmcecjaolaa.Dq Go.Proofs.Ytkjdjmcecjaolaa.Thing Go.Proofs.Ytkjdjmcecjaolaa.Own Go.Proofs.Ytkjdjmcecjaolaa.Sets Go.Proofs.Ytkjdjmcecjaolaa.DqI
set_option linter.unusedVariables false
set_option linter.unusedSimpArgs false

local notation "ordF" => Value.func (Fn.func 12) #[] #[]
theorem perm6 {α : Type} (a b c d e f : α) (l : List α) : (a :: b :: c :: d :: e :: f :: l).Perm (d :: f :: a :: b :: c :: e :: l) :=
  (List.perm_middle (l₁ := [a, b, c])).trans (.cons _ (List.perm_middle (l₁ := [a, b, c, e])))
section
variable {w wx w' : World} {r fb : Nat} {s : MS} {xs : List Lw} {vS vP vH vO : Value} {ts ts' : List Th} {k : Nat} {x : Lw} {t t' : Th}
set_option maxHeartbeats 2000000 in
set_option maxRecDepth 20000 in
/-- The merger receives a head. -/
theorem mstep_recv {y : Int} {q : List Int} (h : Hid (FL w r fb s xs vS vP vH vO ts wx)) (hn : xs.length ≤ 1000) (hnx : nxt s.ls = some k) (hk : xs[k]? = some x) (hq : x.q = y :: q) (h0 : x.h.l = []) :
    Calls Try.prog 47 #[.pointer (some ⟨fb, 1, none⟩), .pointer (some ⟨fb, 6, none⟩)] wx fun e w' => e = .returned (.tuple #[]) ∧ ∃ xs', Hid (FL w r fb (mrgK s) xs' vS vP vH vO ts w') ∧ xs'.length = xs.length := by
  have HNX : Hid (Calls Try.prog 61 #[.pointer (some ⟨fb, 1, none⟩)] wx fun e w' => e = .returned (.int .i64 (k : Int)) ∧ w' = wx) := hide (by
    have := mnext_any h.out hn
    unfold nxtI at this
    rw [hnx] at this
    exact this)
  have HP : Hid ((pipeT x.pb r x.n x.c (y :: q) x.s).P wx) := hide (by rw [← hq]; exact h.out.pipe hk)
  have HRC := hide (recv_ok HP.out)
  obtain ⟨gp, cp, eP, l1, f1⟩ := h.out.ptrs hk
  obtain ⟨gh, ch, eH, l2, f2⟩ := h.out.heads hk
  subst eP eH
  have hkl := (List.getElem?_eq_some_iff.1 hk).1
  have c1 := h.out.box.cell 1 rfl
  have hki : (k : Int) < xs.length := by omega
  have HK := hide hk
  have HX0 := hide h0
  have HNN := hide hnx
  have HLAN := hide (h.out.lan hk)
  have HFL := h
  obtain ⟨r1, r2, r3⟩ := h.out.row x (List.mem_of_getElem? hk)
  have HR1 := hide r1
  have HWY : Hid ((Lit.int .i64 y).wf = true) := hide (r2 y (by rw [hq]; simp))
  have HWQ : Hid (WfL q) := hide (fun z hz => r2 z (by rw [hq]; simp [hz]))
  have HR3 := hide r3
  have HQ := hide hq
  obtain ⟨m, hm⟩ : ∃ m, m = xs.length := ⟨_, rfl⟩
  have HM := hide hm
  rw [← hm] at c1 l1 l2 hki hn
  have HVH : Hid (∀ W xs', Kn w (fts w r fb s xs' vS (.slice (some ⟨gp, 0, none⟩) xs.length cp) (.slice (some ⟨gh, 0, none⟩) xs.length ch) vO ts) W → xs'.length = xs.length → W.cell? ⟨fb, 2, none⟩ = some (.slice (some ⟨gh, 0, none⟩) m ch) ∧ (∃ u, W.cell? ⟨gh, k, none⟩ = some u) ∧ W.frozen? ⟨gh, k, none⟩ = false ∧ gh < W.heap.size) := hide (fun W xs' hW hl => by
    have hB := Knget (pre := []) hW
    have hH := Knget (pre := [_, _, _]) hW
    refine ⟨by rw [hm]; exact Is.cell hB 2 rfl, ?_, ?_, (World.ownsRow.lt hH gh rfl).2⟩
    · rw [← hl] at hH
      have hk2 : k < xs'.length := by omega
      obtain ⟨_, _, e, hc, _⟩ := own_at (j := k) (u := (xs'[k]'hk2).h.v) hH (by rw [List.getElem?_map, List.getElem?_eq_getElem hk2]; rfl)
      cases e
      exact ⟨_, hc⟩
    · rw [← hl] at hH
      exact World.ownsRow.frozenAt hH k)
  obtain ⟨row, pb, n1, q1, cc, ss, ⟨ha, hc, hl⟩⟩ := x
  dsimp only [Lw.ptr] at f1 HRC
  clear h hm hnx hk hq h0 HP r1 r2 r3 f2 hkl
  go_enter Try.func47, Try.ntmps47
  go_wp2_with (first
    | (go_at_call 61; go_must ((with_reducible refine (Hid.out HNX).mono ?_); rintro e w9 ⟨rfl, rfl⟩; clear HNX))
    | (go_at_call 63; go_must ((with_reducible refine (Hid.out HRC).mono ?_); rintro e w2 ⟨rfl, hn⟩; obtain ⟨s', hK⟩ := kn_pipe HFL.out.kn HK.out hn; have K2 := hide hK; obtain ⟨d1, ⟨d2, d3⟩, d4, d5⟩ := HVH.out _ _ hK List.length_set; clear hn hK HRC f1 c1)))
  refine bodyPost_ret (results_none rfl _ _ _) rfl ?_
  have hkl := (List.getElem?_eq_some_iff.1 HK.out).1
  have K3 := kn_head (y := y) K2.out (k := k) (x := ⟨row, pb, n1, q, cc, s', ⟨ha, hc, hl⟩⟩) (by rw [List.getElem?_set_self hkl]) (by rw [List.length_set]) HX0.out HWY.out rfl
  rw [List.set_set, World.setCell_alloc_past _ _ _ _ d5] at K3
  refine ⟨rfl, xs.set k ⟨row, pb, n1, q, cc, s', ⟨some ⟨w2.heap.size, 0, none⟩, 1, [y]⟩⟩, ?_, List.length_set⟩
  have e : mrgK s = { s with ls := s.ls.set k ⟨row.l, q, [y], cc⟩ } := by
    unfold mrgK
    rw [HNN.out]
    simp only [HLAN.out]
    have hq2 : q1 = y :: q := HQ.out
    subst hq2
    rfl
  rw [e]
  exact ⟨K3, by rw [ls_set HFL.out]; rfl, row_set HFL.out.row ⟨HR1.out, HWQ.out, HR3.out⟩ k, HFL.out.out⟩
/-- The heads as take has them. -/
theorem FL.heads_kn (h : FL w r fb s xs vS vP vH vO ts wx) : Kn w (ownN w.heap.size 23 1 vH xs.length ((xs.map Lw.h).map Hd.v) :: ownN w.heap.size 3 1 vO s.out.length (s.out.map (Value.int .i64)) :: boxT fb (fcells vS vP vH vO s.ex s.st s.se s.ec) :: ownN w.heap.size 84 2 vS xs.length (sndL xs) :: ownN w.heap.size 80 1 vP xs.length (xs.map Lw.ptr) :: hdsT (xs.map Lw.h) :: (xs.map (Lw.pT r) ++ ts)) wx := by
  rw [List.map_map]
  exact h.kn.perm (perm6 _ _ _ _ _ _ _)
theorem ls_heads (h : FL w r fb s xs vS vP vH vO ts wx) : (xs.map Lw.h).map Hd.l = s.ls.map Ln.h := by
  rw [← h.ls, List.map_map, List.map_map]
  rfl
set_option maxHeartbeats 2000000 in
set_option maxRecDepth 20000 in
/-- The merger puts the least head behind. -/
theorem mstep_put (h : Hid (FL w r fb s xs vS vP vH vO ts wx)) (hn : xs.length ≤ 1000) (hnx : nxt s.ls = none) (hb : best (s.ls.map Ln.h) = some k) (hl1 : ∀ κ ∈ s.ls, κ.h.length ≤ 1) (ho : s.out.length < s.st) (ho2 : s.st ≤ 100000) :
    Calls Try.prog 47 #[.pointer (some ⟨fb, 1, none⟩), .pointer (some ⟨fb, 6, none⟩)] wx fun e w' => e = .returned (.tuple #[]) ∧ ∃ xs' vO', Hid (FL w r fb (mrgK s) xs' vS vP vH vO' ts w') ∧ xs'.length = xs.length := by
  have HNX : Hid (Calls Try.prog 61 #[.pointer (some ⟨fb, 1, none⟩)] wx fun e w' => e = .returned (.int .i64 (-1)) ∧ w' = wx) := hide (by
    have := mnext_any h.out hn
    unfold nxtI at this
    rw [hnx] at this
    exact this)
  have hb2 : best ((xs.map Lw.h).map Hd.l) = some k := by rw [ls_heads h.out]; exact hb
  obtain ⟨_, _, ⟨ah, ch, eH⟩, _⟩ := h.out.forms
  subst eH
  have HTK := hide (take_some (o := 3) (hide (h.out.heads_kn.keep (w' := wx.drew) ((Below.refl _ _).drew))) hb2 (by rw [List.length_map]) hn rfl (by omega) rfl rfl (fun W hW => Knget (pre := [_, _]) hW))
  have c2 := h.out.box.cell 2 rfl
  have HFL := h
  have HNN := hide hnx
  have HBB := hide hb
  have HB2 := hide hb2
  have HL1 := hide hl1
  have HO := hide ho
  obtain ⟨m, hm⟩ : ∃ m, m = xs.length := ⟨_, rfl⟩
  have HM := hide hm
  rw [← hm] at c2
  rw [← hm] at HTK
  clear h hm hnx hb hb2 hl1 ho
  go_enter Try.func47, Try.ntmps47
  go_wp2_with (go_at_call 61; go_must ((with_reducible refine (Hid.out HNX).mono ?_); rintro e w9 ⟨rfl, rfl⟩; clear HNX))
  go_region_held3 (fun w' => w'.cell? ⟨fb, 2, none⟩ = some (.slice ah m ch)) (first | (with_reducible assumption) | go_keep)
    (first | (go_at_call 36; (with_reducible refine (Hid.out HTK).mono ?_); rintro e w2 ⟨rfl, h', v', q1, q2, K2⟩; have d2 : w2.cell? ⟨fb, 2, none⟩ = some (.slice ah m ch) := (Knget (pre := [_, _]) K2.out).cell 2 rfl; clear HTK))
  go_simp
  go_wp2
  first | go_end0 | refine bodyPost_ret (results_none rfl _ _ _) rfl ?_
  rw [HM.out] at K2
  have hk2 : ((xs.map Lw.h).map Hd.l).getD k [] ≠ [] := (best_some HB2.out).2
  have hkl : k < xs.length := by
    have := (best_some HB2.out).1
    rw [List.length_map, List.length_map] at this
    exact this
  obtain ⟨x, hx⟩ : ∃ x, xs[k]? = some x := ⟨xs[k]'hkl, List.getElem?_eq_getElem _⟩
  have hgx : (xs.map Lw.h).getD k hd0 = x.h := by rw [List.getD_eq_getElem?_getD, List.getElem?_map, hx]; rfl
  have hlan := HFL.out.lan hx
  have hlen : x.h.l.length ≤ 1 := HL1.out x.ln (List.mem_of_getElem? hlan)
  rw [hgx] at q1 q2
  have hl0 : h'.l = [] := by
    rw [q1]
    exact List.eq_nil_of_length_eq_zero (by rw [List.length_tail]; omega)
  have hput := putL_length s.out (hd ((xs.map Lw.h).map Hd.l) k)
  have e : mrgK s = { s with ls := s.ls.set k ⟨x.row.l, x.q, [], x.c⟩, out := putL s.out (hd ((xs.map Lw.h).map Hd.l) k) } := by
    unfold mrgK
    rw [HNN.out]
    simp only [HBB.out, hlan]
    rw [ls_heads HFL.out]
    have ht : x.ln.h.tail = [] := by
      show x.h.l.tail = []
      rw [← q1, hl0]
    rw [ht]
    rfl
  have hwo : WfL (putL s.out (hd ((xs.map Lw.h).map Hd.l) k)) := wfl_put HFL.out.out.2 (by
    have hR := Knget (pre := [_, _, _, _]) HFL.out.kn x.h (List.mem_map.2 ⟨x, List.mem_of_getElem? hx, rfl⟩)
    refine RowI.wf hR _ ?_
    rw [hds_getD, hgx] at hk2
    unfold hd
    rw [hds_getD, hgx]
    cases q : x.h.l with
    | nil => exact absurd q hk2
    | cons y t => simp)
  obtain ⟨m1, m2, m3, m4, m5⟩ := maps (r := r) hx { x with h := h' }
  refine ⟨rfl, xs.set k { x with h := h' }, v', ?_, List.length_set⟩
  rw [e]
  refine ⟨?_, by rw [ls_set HFL.out]; show _ = s.ls.set k ⟨x.row.l, x.q, [], x.c⟩; rw [← hl0]; rfl, row_set (x' := { x with h := h' }) HFL.out.row (HFL.out.row x (List.mem_of_getElem? hx)) k, ⟨by have := HO.out; show (putL _ _).length ≤ s.st; omega, hwo⟩⟩
  have K3 := K2.out.perm (perm6 _ _ _ _ _ _ _).symm
  have hh := Knget (pre := [_, _, _, _]) K3
  have K4 := turnAt (pre := [_, _, _, _]) (t := hdsT (xs.map Lw.h)) (t' := hdsT ((xs.map Lw.h).set k h')) K3 (fun z hz => by
    rcases List.mem_or_eq_of_mem_set hz with q | q
    · exact hh z q
    · subst q
      exact q2 _ (hh _ (List.mem_map.2 ⟨x, List.mem_of_getElem? hx, rfl⟩))) (Only.refl _ _) (fun j hj => by
    obtain ⟨z, hz, hl, y, e1, e2⟩ := hj
    rcases List.mem_or_eq_of_mem_set hz with q | q
    · exact .inl ⟨z, q, hl, y, e1, e2⟩
    · subst q
      rw [hl0] at hl
      simp at hl)
  unfold fts
  rw [m1 rfl, m4 rfl rfl, m5 rfl, List.length_set, List.map_set, List.map_set]
  rw [List.map_set, List.map_map] at K4
  exact K4
set_option maxHeartbeats 2000000 in
set_option maxRecDepth 20000 in
/-- The merger exits. -/
theorem mstep_exit (h : Hid (FL w r fb s xs vS vP vH vO ts wx)) (hn : xs.length ≤ 1000) (hnx : nxt s.ls = none) (hb : best (s.ls.map Ln.h) = none) (he : s.ec ≤ 100000) :
    Calls Try.prog 47 #[.pointer (some ⟨fb, 1, none⟩), .pointer (some ⟨fb, 6, none⟩)] wx fun e w' => e = .returned (.tuple #[]) ∧ Hid (FL w r fb (mrgK s) xs vS vP vH vO ts w') := by
  have HNX : Hid (Calls Try.prog 61 #[.pointer (some ⟨fb, 1, none⟩)] wx fun e w' => e = .returned (.int .i64 (-1)) ∧ w' = wx) := hide (by
    have := mnext_any h.out hn
    unfold nxtI at this
    rw [hnx] at this
    exact this)
  have hb2 : best ((xs.map Lw.h).map Hd.l) = none := by rw [ls_heads h.out]; exact hb
  obtain ⟨_, _, ⟨ah, ch, eH⟩, _⟩ := h.out.forms
  subst eH
  have HTK := hide (take_none (o := 3) (hide ((h.out.heads_kn.keep (w' := wx.drew) ((Below.refl _ _).drew)).sub (.cons_cons _ (.cons _ (List.Sublist.refl _))))) hb2 (by rw [List.length_map]) hn rfl (fun W hW => Knget (pre := [_, _]) hW))
  have c2 := h.out.box.cell 2 rfl
  have HFL := h
  have KD := hide (h.out.keep (w' := wx.drew) ((Below.refl _ _).drew))
  have HNN := hide hnx
  have HBB := hide hb
  obtain ⟨m, hm⟩ : ∃ m, m = xs.length := ⟨_, rfl⟩
  have HM := hide hm
  rw [← hm] at c2 HTK
  clear h hm hnx hb hb2
  go_enter Try.func47, Try.ntmps47
  go_wp2_with (go_at_call 61; go_must ((with_reducible refine (Hid.out HNX).mono ?_); rintro e w9 ⟨rfl, rfl⟩; clear HNX))
  go_region_held3 (fun w' => w'.cell? ⟨fb, 2, none⟩ = some (.slice ah m ch)) (first | (with_reducible assumption) | go_keep)
    (first | (go_at_call 36; (with_reducible refine (Hid.out HTK).mono ?_); rintro e w2 ⟨rfl, hb2⟩; have K2 := hide (KD.out.keep hb2); have d2 : w2.cell? ⟨fb, 2, none⟩ = some (.slice ah m ch) := (by rw [HM.out]; exact K2.out.box.cell 2 rfl); clear HTK hb2))
  go_simp
  have d5 := K2.out.box.cell 5 rfl
  have f5 := K2.out.box.frozen 5
  have d8 := K2.out.box.cell 8 rfl
  have f8 := K2.out.box.frozen 8
  go_wp2
  first | go_end0 | refine bodyPost_ret (results_none rfl _ _ _) rfl ?_
  have e : mrgK s = { s with ex := true, ec := s.ec + 1 } := by
    unfold mrgK
    rw [HNN.out]
    simp only [HBB.out]
  rw [e]
  exact ⟨rfl, kn_ec (kn_ex K2.out.kn), HFL.out.ls, HFL.out.row, HFL.out.out⟩
theorem mstep_any (h : Hid (FL w r fb s xs vS vP vH vO ts wx)) (hn : xs.length ≤ 1000) (hl1 : ∀ κ ∈ s.ls, κ.h.length ≤ 1) (ho : s.out.length < s.st) (ho2 : s.st ≤ 100000) (he : s.ec ≤ 100000) :
    Calls Try.prog 47 #[.pointer (some ⟨fb, 1, none⟩), .pointer (some ⟨fb, 6, none⟩)] wx fun e w' => e = .returned (.tuple #[]) ∧ ∃ xs' vO', Hid (FL w r fb (mrgK s) xs' vS vP vH vO' ts w') ∧ xs'.length = xs.length := by
  cases hnx : nxt s.ls with
  | some k =>
    obtain ⟨κ, h1, h2, h3⟩ := nxt_some hnx
    have hkl := (List.getElem?_eq_some_iff.1 h1).1
    rw [h.out.len] at hkl
    obtain ⟨x, hx⟩ : ∃ x, xs[k]? = some x := ⟨xs[k]'hkl, List.getElem?_eq_getElem _⟩
    have e := h.out.lan hx
    rw [h1] at e
    cases e
    obtain ⟨y, q, hq⟩ := List.exists_cons_of_ne_nil h3
    refine (mstep_recv h hn hnx hx hq h2).mono ?_
    rintro e w' ⟨rfl, xs', h1, h2⟩
    exact ⟨rfl, xs', vO, h1, h2⟩
  | none =>
    cases hb : best (s.ls.map Ln.h) with
    | some k => exact mstep_put h hn hnx hb hl1 ho ho2
    | none =>
      refine (mstep_exit h hn hnx hb he).mono ?_
      rintro e w' ⟨rfl, h1⟩
      exact ⟨rfl, xs, vO, h1, rfl⟩
theorem sstep_any {g c n : Nat} (h : Hid (FL w r fb s xs (.slice (some ⟨g, 0, none⟩) n c) vP vH vO ts wx)) (hr : r ≠ 0) (hr2 : r ≤ 64) (hk : xs[k]? = some x) (hs : sndR r x.ln = true) (hb : s.se ≤ 100000) (hb2 : s.ec ≤ 100000) :
    Calls Try.prog 48 #[.pointer (some ⟨g, k * 2, none⟩), .pointer (some ⟨fb, 6, none⟩)] wx fun e w' => e = .returned (.tuple #[]) ∧ ∃ xs', Hid (FL w r fb (sndK s k) xs' (.slice (some ⟨g, 0, none⟩) n c) vP vH vO ts w') ∧ xs'.length = xs.length := by
  have hc : x.c = false := by
    unfold sndR Lw.ln at hs
    simp at hs
    exact hs.1
  cases hrow : x.row.l with
  | nil => exact sstep_exit h hr hk hrow hc hb2
  | cons y l =>
    have hq : x.q.length < r := by
      unfold sndR Lw.ln at hs
      simp [hrow] at hs
      exact hs.2
    exact sstep_send h hr hr2 hk hrow hc hq hb
set_option maxHeartbeats 2000000 in
set_option maxRecDepth 20000 in
/-- One of them takes a step. -/
theorem fstep_any {rows : List (List Int)} (h : Hid (FL w r fb s xs vS vP vH vO ts wx)) (hr : r ≠ 0) (hr2 : r ≤ 64) (hn : xs.length ≤ 1000) (hok : Ok r rows s) (hbig : 3 * cnt rows + rows.length + 1 ≤ 90000) (hx : s.ex = false) (hk : (k : Int) ∈ rdyL r s.ls) :
    Calls Try.prog 27 #[.pointer (some ⟨fb, 0, none⟩), .int .i64 (k : Int)] wx fun e w' => e = .returned (.tuple #[]) ∧ ∃ xs' vO', Hid (FL w r fb (stepM s k) xs' vS vP vH vO' ts w') ∧ xs'.length = xs.length := by
  have b1 := hok.st
  have b2 := hok.se
  have b3 := hok.ec
  have hst : s.st ≤ 90000 := by omega
  have hse : s.se ≤ 100000 := by omega
  have hec : s.ec ≤ 100000 := by omega
  have HL1 : Hid (∀ κ ∈ s.ls, κ.h.length ≤ 1) := hide (fun κ hκ => (hok.lane κ hκ).1)
  have c6 := h.out.box.cell 6 rfl
  have f6 := h.out.box.frozen 6
  have K1 : Hid (FL w r fb (stp s) xs vS vP vH vO ts (wx.setCell ⟨fb, 6, none⟩ (.int .i64 ((s.st : Int) + 1)))) := hide ⟨kn_st h.out.kn, h.out.ls, h.out.row, ⟨by have := h.out.out.1; show s.out.length ≤ s.st + 1; omega, h.out.out.2⟩⟩
  have HOUT := hide h.out.out.1
  obtain ⟨⟨aS, cS, eS⟩, _⟩ := h.out.forms
  subst eS
  have HLEN : Hid (s.ls.length = xs.length) := hide h.out.len
  have HK := hide hk
  clear h hok b1 b2 b3 hk hx
  go_enter Try.func27, Try.ntmps27
  go_upto_region 1 with fail
  generalize (wx.setCell ⟨fb, 6, none⟩ (.int .i64 ((s.st : Int) + 1))) = W1 at K1 ⊢
  clear c6 f6
  have c0 := K1.out.box.cell 0 rfl
  have KD := hide (K1.out.keep (w' := W1.drew) ((Below.refl _ _).drew))
  obtain ⟨m, hm⟩ : ∃ m, m = xs.length := ⟨_, rfl⟩
  have HM := hide hm
  by_cases he : k = xs.length
  · have HMS := hide (mstep_any KD hn HL1.out (by have := HOUT.out; show s.out.length < s.st + 1; omega) (by show s.st + 1 ≤ 100000; omega) hec)
    have e : stepM s k = mrgK (stp s) := by unfold stepM; rw [if_pos (by rw [HLEN.out]; exact he)]
    have HE := hide e
    rw [← hm] at he c0
    subst he
    clear e hm
    go_wp2
    go_region_held3 (fun w' => True) (exact trivial)
      (first | (go_at_call 47; (with_reducible refine (Hid.out HMS).mono ?_); rintro e w2 ⟨rfl, xs', vO', K2, hl2⟩))
    go_simp
    go_wp2
    first | go_end0 | refine bodyPost_ret (results_none rfl _ _ _) rfl ?_
    rw [HE.out]
    exact ⟨rfl, xs', vO', K2, hl2⟩
  · have hkl : k < xs.length := by
      rcases mem_rdy.1 HK.out with ⟨j, e, hj, _⟩ | ⟨e, _⟩
      · rw [HLEN.out] at hj; omega
      · rw [HLEN.out] at e; omega
    have hsa : sndAt r s.ls k = true := by
      rcases mem_rdy.1 HK.out with ⟨j, e, hj, h1⟩ | ⟨e, _⟩
      · obtain rfl : k = j := by omega
        exact h1
      · rw [HLEN.out] at e; omega
    obtain ⟨x, hx⟩ : ∃ x, xs[k]? = some x := ⟨xs[k]'hkl, List.getElem?_eq_getElem _⟩
    have hsr : sndR r x.ln = true := by
      unfold sndAt at hsa
      rw [show s.ls[k]? = some x.ln from K1.out.lan hx] at hsa
      exact hsa
    obtain ⟨g, cc, e1, l1, _, _⟩ := K1.out.snd hx
    injection e1 with e1 e2 e3
    subst e1 e3
    have HMS := hide (sstep_any KD hr hr2 hx hsr hse hec)
    have e : stepM s k = sndK (stp s) k := by unfold stepM; rw [if_neg (by rw [HLEN.out]; exact he)]
    have HE := hide e
    rw [← hm] at he c0 l1 hkl
    have hki : (k : Int) < m := by omega
    have hkz : ((k : Int) == m) = false := by simp; omega
    clear e hm he hsr hsa e2 hx
    go_wp2
    go_region_held3 (fun w' => w'.cell? ⟨fb, 0, none⟩ = some (.slice (some ⟨g, 0, none⟩) m cS)) (first | (with_reducible assumption) | go_keep)
      (first | (go_at_call 48; (with_reducible refine (Hid.out HMS).mono ?_); rintro e w2 ⟨rfl, xs', K2, hl2⟩; have d0 : w2.cell? ⟨fb, 0, none⟩ = some (.slice (some ⟨g, 0, none⟩) m cS) := (by rw [HM.out]; exact K2.out.box.cell 0 rfl)))
    go_simp
    go_wp2
    first | go_end0 | refine bodyPost_ret (results_none rfl _ _ _) rfl ?_
    rw [HE.out]
    exact ⟨rfl, xs', vO, K2, hl2⟩
end
end Go.Proofs.Ytkjdjmcecjaolaa.Mrg

/- Where nothing is sent yet. -/
namespace Go.Proofs.Ytkjdjmcecjaolaa.Mrg
open Go.RowKit Go.Proofs.Ytkjdjmcecjaolaa.Dig Go.Proofs.Ytkjdjmcecjaolaa.Mem Go.Proofs.Ytkjdjmcecjaolaa.Dq Go.Proofs.Ytkjdjmcecjaolaa.Thing Go.Proofs.Ytkjdjmcecjaolaa.Own Go.Proofs.Ytkjdjmcecjaolaa.Sets Go.Proofs.Ytkjdjmcecjaolaa.DqI
set_option linter.unusedVariables false
set_option linter.unusedSimpArgs false

local notation "ordF" => Value.func (Fn.func 12) #[] #[]
theorem Try.infoSnd : (Try.prog.info? 84).map (fun i => (i.zero, i.size, i.bytes)) = some (some (.agg #[.slice none 0 0, .pointer none]), 2, 32) := by kernel_rfl
theorem Try.infoPtr : (Try.prog.info? 80).map (fun i => (i.zero, i.size, i.bytes)) = some (some (.pointer none), 1, 8) := by kernel_rfl
theorem cell_two_new (w : World) (x y : Value) (t : TypeId) : ∀ j u, [x, y][j]? = some u → (w.alloc (.cells #[x, y] t)).cell? ((⟨w.heap.size, 0, none⟩ : Addr).add j) = some u := by
  intro j u hj
  match j, hj with
  | 0, hj => simp at hj; subst hj; simp [Addr.add]
  | 1, hj => simp at hj; subst hj; simp [Addr.add]
theorem madeCells_one {z : Value} (hz : z.cells = #[z]) (n : Nat) : madeCells z.cells n = (List.replicate n z).toArray := by
  rw [hz]
  apply Array.ext_getElem?
  intro j
  by_cases h : j < n
  · simp [madeCells, h, Nat.mod_one]
  · simp [madeCells, h]
theorem mk_heads (n : Nat) (hn : n ≤ 1000) : ∀ w : World, (Instr.makeSlice 22 (.int .i64 (n : Int)) (.int .i64 (n : Int))).run Try.prog w = .ok (.slice (some ⟨w.heap.size, 0, none⟩) n n) (w.alloc (.cells (Array.replicate n (Value.slice none 0 0)) 23)) := by
  intro w
  obtain ⟨i0, hi, hz0, hz1, hz2⟩ := info_parts Try.infoIs
  have hr := run_makeSlice (P := Try.prog) w 22 23 i0 (.slice none 0 0) Try.underlying22 hi hz0 .i64 .i64 (n : Int) (n : Int) (by omega) (by omega) (by rw [hz1]; simp; omega) (by rw [hz2]; omega) (by omega)
  simp only [Int.toNat_natCast] at hr
  rw [hz1, Nat.mul_one, madeCells_one rfl, List.toArray_replicate] at hr
  exact hr
def bts (w : World) (r fb : Nat) (xs : List Lw) (n : Nat) (vS vP vH : Value) (ts : List Th) : List Th :=
  [boxT fb (fcells vS vP vH (.slice none 0 0) false 0 0 0), ownN w.heap.size 84 2 vS xs.length (sndL xs), ownN w.heap.size 80 1 vP xs.length (xs.map Lw.ptr), ownN w.heap.size 23 1 vH n (List.replicate n (.slice none 0 0))] ++ (xs.map (Lw.pT r) ++ ts)
/-- A sender that has sent nothing. -/
structure New0 (w : World) (r : List Int) (x : Lw) : Prop where
  row : x.row.l = r ∧ x.row.R w
  q : x.q = []
  c : x.c = false
  n : x.n = 0
  h : x.h = hd0
def BgR (w : World) (r fb n : Nat) (rows : List (List Int)) (vH : Value) (ts : List Th) (i : Value) (wr : World) : Prop := ∃ (k : Nat) (xs : List Lw) (vS vP : Value), k ≤ n ∧ i = .int .i64 (k : Int) ∧ Hid (xs.length = k ∧ ∀ j x, xs[j]? = some x → New0 w (rows.getD j []) x) ∧ Hid (Kn w (bts w r fb xs n vS vP vH ts) wr)
section
variable {w wx w' : World} {r fb n : Nat} {xs : List Lw} {vS vP vH : Value} {ts : List Th}
theorem sndL_app (xs : List Lw) (x : Lw) : sndL (xs ++ [x]) = sndL xs ++ [x.row.v, x.ptr] := by simp [sndL]
/-- One more pipe. -/
theorem bts_pipe (h : Kn w (bts w r fb xs n vS vP vH ts) wx) {x : Lw} (hb : Below wx.heap.size wx w') (hp : (x.pT r).P w') (hf : ∀ k, (x.pT r).F k → wx.heap.size ≤ k) :
    Kn w ([boxT fb (fcells vS vP vH (.slice none 0 0) false 0 0 0), ownN w.heap.size 84 2 vS xs.length (sndL xs), ownN w.heap.size 80 1 vP xs.length (xs.map Lw.ptr), ownN w.heap.size 23 1 vH n (List.replicate n (.slice none 0 0))] ++ ((xs ++ [x]).map (Lw.pT r) ++ ts)) w' := by
  have h1 := h.more hb hp hf
  unfold bts at h1
  rw [← List.append_assoc] at h1
  have h2 := h1.perm List.perm_middle.symm
  simpa using h2
theorem begin_fl {rows : List (List Int)} (h : Kn w (bts w r fb xs n vS vP vH ts) wx) (hn : n = rows.length) (hx : xs.length = n ∧ ∀ j x, xs[j]? = some x → New0 w (rows.getD j []) x) (hlen : ∀ l ∈ rows, l.length ≤ 1000) : FL w r fb (begM rows) xs vS vP vH (.slice none 0 0) ts wx := by
  obtain ⟨hl, ha⟩ := hx
  have hall : ∀ x ∈ xs, x.q = [] ∧ x.n = 0 ∧ x.h = hd0 ∧ x.row.R w ∧ x.row.l.length ≤ 1000 := fun x hm => by
    obtain ⟨j, hj⟩ := List.getElem?_of_mem hm
    have hj2 := (List.getElem?_eq_some_iff.1 hj).1
    have := ha j x hj
    refine ⟨this.q, this.n, this.h, this.row.2, ?_⟩
    rw [this.row.1]
    apply hlen
    rw [List.getD_eq_getElem?_getD, List.getElem?_eq_getElem (by omega)]
    exact List.getElem_mem _
  have e1 : (xs.map fun x => x.h.v) = List.replicate n (.slice none 0 0) := by
    rw [← hl]
    exact List.eq_replicate_iff.2 ⟨by simp, fun v hv => by
      obtain ⟨x, hm, rfl⟩ := List.mem_map.1 hv
      rw [(hall x hm).2.2.1]
      rfl⟩
  refine ⟨?_, ?_, fun x hm => ?_, ⟨Nat.le_refl _, fun z hz => by cases hz⟩⟩
  · unfold bts at h
    rw [← e1, ← hl] at h
    have k1 := ownNil h w.heap.size 3 1
    have k2 := k1.more (w' := wx) (t' := hdsT (xs.map Lw.h)) (Below.refl _ _) (fun z hz => by
      obtain ⟨x, hm, rfl⟩ := List.mem_map.1 hz
      rw [(hall x hm).2.2.1]
      exact ⟨Nat.le_refl _, ⟨by simp [hd0], fun i hi => by simp [hd0] at hi⟩, fun _ => rfl⟩) (fun k hk => by
      obtain ⟨z, hz, hl, _⟩ := hk
      obtain ⟨x, hm, rfl⟩ := List.mem_map.1 hz
      rw [(hall x hm).2.2.1] at hl
      simp [hd0] at hl)
    exact k2.perm (List.perm_append_comm_assoc [_, _] [_, _, _, _] _)
  · apply List.ext_getElem?
    intro j
    show (xs.map Lw.ln)[j]? = (rows.map ln0)[j]?
    rw [List.getElem?_map, List.getElem?_map]
    cases hj : xs[j]? with
    | none =>
      rw [List.getElem?_eq_none (by rw [List.getElem?_eq_none_iff] at hj; omega)]
      rfl
    | some x =>
      have hj2 := (List.getElem?_eq_some_iff.1 hj).1
      have := ha j x hj
      rw [List.getElem?_eq_getElem (show j < rows.length by omega)]
      have e : rows.getD j [] = rows[j] := by rw [List.getD_eq_getElem?_getD, List.getElem?_eq_getElem (show j < rows.length by omega)]; rfl
      rw [List.getD_eq_getElem?_getD] at e
      simp [Lw.ln, ln0, this.q, this.c, this.h, this.row.1, hd0]
      exact e
  · obtain ⟨h1, h2, h3, h4, h5⟩ := hall x hm
    exact ⟨h4, (by rw [h1]; exact fun z hz => (by cases hz)), by omega⟩
set_option maxHeartbeats 4000000 in
set_option maxRecDepth 20000 in
theorem begin_any {a : Option Addr} {c : Nat} {rows : List (List Int)} (h : Hid (Kn w ts wx)) (hR : RowsI w a c rows) (hn : n = rows.length) (hn2 : n ≤ 1000) (hr : 1 ≤ r) (hr2 : r ≤ 64) (hlen : ∀ l ∈ rows, l.length ≤ 1000) :
    Calls Try.prog 24 #[.slice a n c, ordF, .int .i64 (r : Int)] wx fun e w' => ∃ fb, e = .returned (.pointer (some ⟨fb, 0, none⟩)) ∧ ∃ xs, Hid (xs.length = n) ∧ ∃ vS vP vH, Hid (FL w r fb (begM rows) xs vS vP vH (.slice none 0 0) ts w') := by
  obtain ⟨iS, hiS, hzS0, hzS1, hzS2⟩ := info_parts Try.infoSnd
  obtain ⟨iP, hiP, hzP0, hzP1, hzP2⟩ := info_parts Try.infoPtr
  have hmk := mk_heads n hn2
  have HBB := hide h.out.below.size
  have k1 := ownMade (n := n) h.out (Array.replicate n (Value.slice none 0 0)) 23 1 HBB.out (by unfold maxLen; omega) (by simp) (g := wx.heap.size) rfl
  rw [Array.toList_replicate] at k1
  have k2 := box0 k1 (fcells (.slice none 0 0) (.slice none 0 0) (.slice (some ⟨wx.heap.size, 0, none⟩) n n) (.slice none 0 0) false 0 0 0) 66 (g := wx.heap.size + 1) (by simp)
  have k3 := ownNil (ownNil k2 w.heap.size 80 1) w.heap.size 84 2
  have K0 : Hid (Kn w (bts w r (wx.heap.size + 1) [] n (.slice none 0 0) (.slice none 0 0) (.slice (some ⟨wx.heap.size, 0, none⟩) n n) ts) _) := hide (k3.perm (List.perm_append_comm_assoc [_, _] [_] _))
  have HR := hide hR
  have HN := hide hn
  have HLEN := hide hlen
  clear h k1 k2 k3 hR hn hlen
  go_enter Try.func24, Try.ntmps24
  go_wp2
  have M0 : Hid (BgR w r (wx.heap.size + 1) n rows (.slice (some ⟨wx.heap.size, 0, none⟩) n n) ts (.int .i64 0) _) := hide ⟨0, [], .slice none 0 0, .slice none 0 0, Nat.zero_le _, rfl, hide ⟨rfl, fun j x hj => by simp at hj⟩, K0⟩
  obtain ⟨fb, hfb⟩ : ∃ fb, fb = wx.heap.size + 1 := ⟨_, rfl⟩
  rw [← hfb] at M0
  rw [← hfb]
  clear K0 hfb hmk
  go_loopw [22] (fun i wr => BgR w r fb n rows (.slice (some ⟨wx.heap.size, 0, none⟩) n n) ts i wr) (fun i _ => n - (intOf i).toNat)
  case atStart => exact M0.out
  case round =>
    obtain ⟨k, xs, vS, vP, hk, rfl, HX, K⟩ := hrel
    obtain ⟨sa, sc, eS⟩ := Own.own_form (Knget (pre := [_]) K.out)
    obtain ⟨pa, pc, eP⟩ := Own.own_form (Knget (pre := [_, _]) K.out)
    clear M0
    have hxl : xs.length = k := HX.out.1
    by_cases hlt : k < n
    · obtain ⟨b, off, la, lc, rfl, hc, hrow⟩ := (HR.out.keep K.out.below).at_ k (by rw [← HN.out]; exact hlt)
      have HRW : Hid (RowI w la lc (rows.getD k [])) := hide (by
        obtain ⟨b', off', la', lc', e', hc', hr'⟩ := HR.out.at_ k (by rw [← HN.out]; exact hlt)
        cases e'
        have := (K.out.below.cell (p := ⟨b, off + k, none⟩) (lt_of_cell hc')).trans hc'
        rw [hc] at this
        injection this with this
        injection this with e1 e2 e3
        subst e1 e3
        exact hr')
      have hki : (k : Int) < n := by omega
      have hnc : n ≤ c := by rw [HN.out]; exact HR.out.cap
      obtain ⟨ln, hln⟩ : ∃ ln, ln = (rows.getD k []).length := ⟨_, rfl⟩
      have HLN := hide hln
      rw [← hln] at hc
      have hlm : ln ≤ 4611686018427387903 := by have := hrow.rd.1; omega
      obtain ⟨pb, hpb⟩ : ∃ pb, pb = wr.heap.size := ⟨_, rfl⟩
      have HPN := hide (new_ok r hr hr2 wr)
      rw [← hpb] at HPN
      have HP : Hid (∀ w2, w2 = wr.alloc (.cells #[.slice none 0 0, .int .i64 0, .int .i64 0, .int .i64 (r : Int), .int .i64 0, .bool false] 106) → Kn w _ w2) := hide (fun w2 e => by
        rw [e]
        exact bts_pipe K.out (x := ⟨⟨la, lc, rows.getD k []⟩, pb, 0, [], false, .bare pb 0 (pcs r 0 false), hd0⟩) ((Below.refl _ _).alloc (Nat.le_refl _) _) (pipe_made wr r 106 hpb) (fun j hj => by cases hj; exact Nat.le_of_eq hpb.symm))
      subst eS eP
      rw [hxl] at HP
      obtain ⟨yl, hyl⟩ : ∃ yl, yl = sndL xs := ⟨_, rfl⟩
      have HYL := hide hyl
      rw [← hyl] at HP
      clear hrow hln hpb hyl hxl K
      go_upto_region 7 with (first
        | (go_at_call 38; go_must ((with_reducible refine (Hid.out HPN).mono ?_); rintro e w2 ⟨rfl, hq⟩; have K2 := hide (HP.out _ hq); have b0 := (Knget (pre := []) K2.out).cell 0 rfl; clear hq HPN HP hc))
        | (at_builtin; go_must ((refine wpList_append_own_at _ rfl _ _ 64 rfl w.heap.size 84 iS (.agg #[.slice none 0 0, .pointer none]) 2 32 Try.underlying64 hiS hzS0 hzS1 hzS2 rfl (by decide) (.slice sa k sc) k yl rfl (World.ownsRow.alloc (Knget (pre := [_]) K2.out) _) ⟨w2.heap.size, 0, none⟩ 1 1 [.slice la ln lc, .pointer (some ⟨pb, 0, none⟩)] rfl rfl (cell_two_new _ _ _ _) (by simp [Value.oneCell']) (by unfold maxLen; omega) (by omega) (by have := K2.out.below.size; simp at this ⊢; omega) ?_); intro v4 w4 hown4 hg4 _ hat4; obtain ⟨a4, c4, rfl⟩ := Own.own_form hown4; have K4 := hide (growAt (pre := [_]) (K2.out.keep ((Below.refl _ _).alloc (Nat.le_refl _) _)) hown4 hg4 hat4); have b4 := (Knget (pre := []) K4.out).cell 0 rfl; have f4 := (Knget (pre := []) K4.out).frozen 0; clear hown4 hg4 hat4 b0)))
      have K5 := hide (putBox (pre := []) K4.out 0 (.slice a4 (k + 1) c4) (cs' := fcells (.slice a4 (k + 1) c4) (.slice pa k pc) (.slice (some ⟨wx.heap.size, 0, none⟩) n n) (.slice none 0 0) false 0 0 0) (by simp) (Knget (pre := []) K4.out))
      generalize (w4.setCell ⟨fb, 0, none⟩ (.slice a4 (k + 1) c4)) = W5 at K5 ⊢
      clear K4 b4 f4 K2
      have b1 := (Knget (pre := []) K5.out).cell 1 rfl
      go_wp2_with (at_builtin; go_must ((refine wpList_append_own_at _ rfl _ _ 59 rfl w.heap.size 80 iP (.pointer none) 1 8 Try.underlying59 hiP hzP0 hzP1 hzP2 rfl (by decide) (.slice pa k pc) k (xs.map Lw.ptr) rfl (World.ownsRow.alloc (Knget (pre := [_, _]) K5.out) _) ⟨W5.heap.size, 0, none⟩ 1 1 [.pointer (some ⟨pb, 0, none⟩)] rfl rfl (cell_one_new _ _ _) (by simp [Value.oneCell']) (by unfold maxLen; omega) (by omega) (by have := K5.out.below.size; simp at this ⊢; omega) ?_); intro v6 w6 hown6 hg6 _ hat6; obtain ⟨a6, c6, rfl⟩ := Own.own_form hown6; have K6 := hide (growAt (pre := [_, _]) (K5.out.keep ((Below.refl _ _).alloc (Nat.le_refl _) _)) hown6 hg6 hat6); have b6 := (Knget (pre := []) K6.out).cell 1 rfl; have f6 := (Knget (pre := []) K6.out).frozen 1; clear hown6 hg6 hat6 b1))
      go_roundw
      case rel =>
        have K7 := putBox (pre := []) K6.out 1 (.slice a6 (k + 1) c6) (cs' := fcells (.slice a4 (k + 1) c4) (.slice a6 (k + 1) c6) (.slice (some ⟨wx.heap.size, 0, none⟩) n n) (.slice none 0 0) false 0 0 0) (by simp) (Knget (pre := []) K6.out)
        refine ⟨k + 1, xs ++ [⟨⟨la, lc, rows.getD k []⟩, pb, 0, [], false, .bare pb 0 (pcs r 0 false), hd0⟩], .slice a4 (k + 1) c4, .slice a6 (k + 1) c6, by omega, by simp, hide ⟨by rw [List.length_append, HX.out.1]; rfl, fun j x hj => ?_⟩, hide ?_⟩
        · rcases Nat.lt_or_ge j k with q | q
          · rw [List.getElem?_append_left (by rw [HX.out.1]; exact q)] at hj
            exact HX.out.2 j x hj
          · rw [List.getElem?_append_right (by rw [HX.out.1]; exact q), HX.out.1] at hj
            have e0 : j - k = 0 := by
              rcases Nat.eq_zero_or_pos (j - k) with z | z
              · exact z
              · rw [List.getElem?_eq_none (by simp; omega)] at hj; cases hj
            rw [e0] at hj
            obtain rfl : j = k := by omega
            cases hj
            exact ⟨⟨rfl, HRW.out⟩, rfl, rfl, rfl, rfl⟩
        · unfold bts
          rw [sndL_app, List.length_append, HX.out.1, List.map_append (f := Lw.ptr), ← HYL.out]
          rw [HLN.out] at K7
          exact K7
      case measure => simp [intOf]; omega
    · obtain rfl : k = n := by omega
      have hki : ¬ (k : Int) < k := by omega
      go_wp2
      go_ret
      exact ⟨fb, rfl, xs, HX.out.1, vS, vP, _, begin_fl K.out HN.out HX.out HLEN.out⟩
end
end Go.Proofs.Ytkjdjmcecjaolaa.Mrg

/- A run. -/
namespace Go.Proofs.Ytkjdjmcecjaolaa.Mrg
open Go.RowKit Go.Proofs.Ytkjdjmcecjaolaa.Dig Go.Proofs.Ytkjdjmcecjaolaa.Mem Go.Proofs.Ytkjdjmcecjaolaa.Dq Go.Proofs.Ytkjdjmcecjaolaa.Thing Go.Proofs.Ytkjdjmcecjaolaa.Own Go.Proofs.Ytkjdjmcecjaolaa.Sets Go.Proofs.Ytkjdjmcecjaolaa.DqI Go.Proofs.Ytkjdjmcecjaolaa.Pick
set_option linter.unusedVariables false
set_option linter.unusedSimpArgs false

local notation "ordF" => Value.func (Fn.func 12) #[] #[]
/-- What is told. -/
def outE (E : Int) (s : MS) : List Int := if E = 0 then s.out else []
abbrev z3 : Array Value := #[.int .i64 0, .int .i64 0, .int .i64 0]
def RunR (w : World) (r fb br nr sb : Nat) (rows : List (List Int)) (L : List Int) (c : Int) (R : MS × Nat × Int) (N : Nat) (ts : List Th) (g : Nat) (wr : World) : Prop :=
  ∃ (f : Nat) (s : MS) (xs : List Lw) (vS vP vH vO : Value) (pa : Option Addr) (pc n2 : Nat), f ≤ g ∧ Hid (FL w r fb s xs vS vP vH vO (scrT sb pa pc L c n2 :: boxT br z3 :: ts) wr) ∧ Hid (xs.length = nr ∧ Ok r rows s ∧ todo s ≤ f ∧ runM L c r f s n2 = R ∧ n2 + todo s ≤ N)
section
variable {w wx w' : World} {r fb br nr n sb : Nat} {rows : List (List Int)} {L : List Int} {c : Int} {R : MS × Nat × Int} {ts : List Th} {s : MS} {xs : List Lw} {vS vP vH vO : Value}
/-- The script is told of those that are ready. -/
theorem run_step {pa : Option Addr} {pc n2 m : Nat} {ra : Option Addr} {rc : Nat} {x e : Int} {n' : Nat} (h : Hid (FL w r fb s xs vS vP vH vO (ownN w.heap.size 3 1 (.slice ra m rc) m ((rdyL r s.ls).map (Value.int .i64)) :: scrT sb pa pc L c n2 :: ts) wx)) (hm : Hid (m = (rdyL r s.ls).length)) (hx : xs.length ≤ 1000) (hn : n2 ≤ 1000000) (hs : StepIs L c n2 (rdyL r s.ls) x e n') :
    Calls Try.prog 25 #[.pointer (some ⟨sb, 0, none⟩), .slice ra m rc] wx fun rr w' => rr = .returned (.tuple #[.int .i64 x, .int .i64 e]) ∧ ∃ pa' pc', Hid (FL w r fb s xs vS vP vH vO (scrT sb pa' pc' L c n' :: ts) w') := by
  have hl := rdyL_length r s.ls
  rw [h.out.len] at hl
  obtain ⟨oa, oc, e1, hrow, _⟩ := OwnI.row (base := w.heap.size) (w := wx) (v := .slice ra m rc) (l := rdyL r s.ls) (by
    unfold OwnI
    rw [← hm.out]
    exact h.out.nb) (by omega) (fun z hz => by
    rcases mem_rdy.1 hz with ⟨j, rfl, hj, _⟩ | ⟨rfl, _⟩
    · rw [h.out.len] at hj; exact wf_of_i64 (by omega) (by omega)
    · rw [h.out.len]; exact wf_of_i64 (by omega) (by omega))
  injection e1 with e2 e3 e4
  subst e2 e4
  have hk := h.out.kn
  rw [fts_eq] at hk
  have hSE : SE w sb L c n2 ((fsix w fb s xs vS vP vH vO ++ xs.map (Lw.pT r)) ++ ownN w.heap.size 3 1 (.slice ra m rc) m ((rdyL r s.ls).map (Value.int .i64)) :: ts) wx := ⟨pa, pc, (hk.perm (by
    have := List.perm_middle (a := scrT sb pa pc L c n2) (l₁ := (fsix w fb s xs vS vP vH vO ++ xs.map (Lw.pT r)) ++ [ownN w.heap.size 3 1 (.slice ra m rc) m ((rdyL r s.ls).map (Value.int .i64))]) (l₂ := ts)
    simpa using this))⟩
  refine (stepE (hide hSE) hn hm.out (by omega) hrow hs).mono ?_
  rintro rr w' ⟨rfl, pa', pc', hk2⟩
  refine ⟨rfl, pa', pc', hide (h.out.as ?_)⟩
  rw [fts_eq]
  have h3 := hk2.sub (ts' := scrT sb pa' pc' L c n' :: ((fsix w fb s xs vS vP vH vO ++ xs.map (Lw.pT r)) ++ ts)) (.cons_cons _ (List.Sublist.append_left (.cons _ (List.Sublist.refl _)) _))
  exact h3.perm List.perm_middle.symm
/-- How it went is laid. -/
theorem run_fin {pa : Option Addr} {pc n2 : Nat} (h : FL w r fb s xs vS vP vH vO (scrT sb pa pc L c n2 :: boxT br z3 :: ts) wx) (u0 u1 u2 : Value) :
    FL w r fb s xs vS vP vH vO (boxT br #[u0, u1, u2] :: scrT sb pa pc L c n2 :: ts) (((wx.setCell ⟨br, 0, none⟩ u0).setCell ⟨br, 1, none⟩ u1).setCell ⟨br, 2, none⟩ u2).drew := by
  have h1 := h.perm (List.Perm.swap _ _ _)
  exact h1.turn (t' := boxT br #[u0, u1, u2]) (((((Is.set (show Is wx br z3 from h1.nb) 0 u0).set 1 u1).set 2 u2).eq (by simp)).drew) (((((Only.refl _ _).put 0 _).put 1 _).put 2 _).drew) (fun _ e => .inl e)
theorem run_out {m oc : Nat} {oa : Option Addr} (h : FL w r fb s xs vS vP vH (.slice oa m oc) ts wx) (hm : m = s.out.length) (hb : s.st ≤ 100000) : RowI wx oa oc s.out ∧ Fresh w.heap.size oa := by
  obtain ⟨a, c, e, h1, h2⟩ := OwnI.row (base := w.heap.size) (w := wx) (v := .slice oa m oc) (l := s.out) (by
    have := h.kn.get (t := ownN w.heap.size 3 1 (.slice oa m oc) s.out.length (s.out.map (Value.int .i64))) (by simp [fts])
    exact this) (by have := h.out.1; omega) h.out.2
  injection e with e1 e2 e3
  subst e1 e3
  exact ⟨h1, h2⟩
theorem run_se {u0 u1 u2 : Value} {pa : Option Addr} {pc n2 : Nat} (h : FL w r fb s xs vS vP vH vO (boxT br #[u0, u1, u2] :: scrT sb pa pc L c n2 :: ts) wx) : SE w sb L c n2 ts wx := ⟨pa, pc, h.tail.tail⟩
set_option maxHeartbeats 4000000 in
set_option maxRecDepth 20000 in
theorem run_any {a : Option Addr} {cc mm : Nat} {s' : MS} {n' : Nat} {E : Int} (h : Hid (SE w sb L c n ts wx)) (hR : RowsI w a cc rows) (hnr : nr = rows.length) (hnr2 : nr ≤ 900) (hlen : ∀ l ∈ rows, l.length ≤ 1000) (hbig : 3 * cnt rows + rows.length + 1 ≤ 90000) (hr : 1 ≤ r) (hr2 : r ≤ 64) (hn : n ≤ 100000)
    (hmm : 3 * cnt rows + rows.length + 1 ≤ mm) (hrun : runM L c r mm (begM rows) n = (s', n', E)) {rz : Int} (hz : rz = (r : Int)) :
    Calls Try.prog 11 #[.slice a nr cc, ordF, .int .i64 rz, .pointer (some ⟨sb, 0, none⟩)] wx fun e w' => ∃ oa om oc, e = .returned (.tuple #[.slice oa om oc, .agg #[.int .i64 (s'.st : Int), .int .i64 (s'.se : Int), .int .i64 (s'.ec : Int)], .int .i64 E]) ∧
      Hid (om = (outE E s').length ∧ RowI w' oa oc (outE E s') ∧ Fresh w.heap.size oa) ∧ Hid (SE w sb L c n' ts w') := by
  subst hz
  obtain ⟨pa0, pc0, hk0⟩ := h.out
  have K0 : Hid (Kn w (scrT sb pa0 pc0 L c n :: boxT wx.heap.size z3 :: ts) (wx.alloc (.cells z3 29))) := hide ((box0 hk0 z3 29 rfl).swap)
  have HBG := hide (begin_any K0 hR hnr (by omega) hr hr2 hlen)
  have E1 := eql_ordF
  have g1 : ¬ (r : Int) < 1 := by omega
  have g2 : ¬ (64 : Int) < (r : Int) := by omega
  have HNR := hide hnr
  have hto : todo (begM rows) ≤ 3 * cnt rows + rows.length + 1 := by have := (beg_ok r rows).st; omega
  have HRUN : Hid (runM L c r (3 * cnt rows + rows.length + 1) (begM rows) n = (s', n', E)) := hide (by rw [← hrun]; exact run_more hr _ _ _ _ (beg_ok r rows) hto (by omega))
  have HTO := hide hto
  have HBIG := hide hbig
  clear h hk0 hR hnr hlen hrun hmm K0 hto hbig
  go_enter Try.func11, Try.ntmps11
  go_wp2_with (go_at_call 24; go_must ((with_reducible refine (Hid.out HBG).mono ?_); rintro e w1 ⟨fb, rfl, xs0, HX0, vS0, vP0, vH0, K1⟩; clear HBG))
  have M0 : Hid (RunR w r fb wx.heap.size nr sb rows L c (s', n', E) (n + 90000) ts (3 * cnt rows + rows.length + 1) w1) := hide ⟨_, begM rows, xs0, vS0, vP0, vH0, .slice none 0 0, pa0, pc0, n, Nat.le_refl _, K1, hide ⟨HX0.out, beg_ok r rows, HTO.out, HRUN.out, by have := HTO.out; have := HBIG.out; omega⟩⟩
  clear HX0 K1 HRUN
  go_loopg [12, 13] (3 * cnt rows + rows.length + 1) (fun g _ _ wr => RunR w r fb wx.heap.size nr sb rows L c (s', n', E) (n + 90000) ts g wr)
  case atStart => exact M0.out
  case round =>
    obtain ⟨f, s, xs, vS, vP, vH, vO, pa, pc, n2, hfg, K, H⟩ := hrel
    have HFG := hide hfg
    clear hfg
    clear M0
    have c5 := K.out.box.cell 5 rfl
    have HBR := hide K.out.tail.tail.hd
    obtain ⟨oa, oc, eO⟩ := K.out.forms.2.2.2
    have hne : ¬ wx.heap.size = fb ∧ ¬ fb = wx.heap.size := by
      have h1 := (List.pairwise_cons.1 K.out.kn.sep).1 (boxT wx.heap.size z3) (by simp) fb rfl
      exact ⟨fun e => h1 e.symm, h1⟩
    obtain ⟨hne1, hne2⟩ := hne
    obtain ⟨om, hom⟩ : ∃ om, om = s.out.length := ⟨_, rfl⟩
    rw [← hom] at eO
    have HOM := hide hom
    subst eO
    have c4 := K.out.box.cell 4 rfl
    have c6 := K.out.box.cell 6 rfl
    have c7 := K.out.box.cell 7 rfl
    have c8 := K.out.box.cell 8 rfl
    have d0 := HBR.out.cell 0 rfl
    have d1 := HBR.out.cell 1 rfl
    have d2 := HBR.out.cell 2 rfl
    have e0 := HBR.out.frozen 0
    have e1 := HBR.out.frozen 1
    have e2 := HBR.out.frozen 2
    clear hom
    cases hex : s.ex with
    | true =>
      rw [hex] at c5
      have HD : Hid ((s, n2, (0 : Int)) = (s', n', E)) := hide (by rw [← H.out.2.2.2.1, run_done hex])
      clear hex
      have HST : Hid (s.st ≤ 100000) := hide (by have := H.out.2.1.st; have := HBIG.out; omega)
      go_wp2
      go_region
      have KF := hide (run_fin K.out (.int .i64 (s.st : Int)) (.int .i64 (s.se : Int)) (.int .i64 (s.ec : Int)))
      have r0 := KF.out.nb.cell 0 rfl
      have r1 := KF.out.nb.cell 1 rfl
      have r2 := KF.out.nb.cell 2 rfl
      clear c4 c5 c6 c7 c8 d0 d1 d2 e0 e1 e2
      go_wp2
      refine bodyPost_ret (v := .tuple #[.slice oa om oc, .agg #[.int .i64 (s.st : Int), .int .i64 (s.se : Int), .int .i64 (s.ec : Int)], .int .i64 0]) (by simp [results, Try.results11, go_sem, r0, r1, r2]) rfl ?_
      have hd := HD.out
      injection hd with hd1 hd2
      injection hd2 with hd2 hd3
      subst hd1 hd2 hd3
      exact ⟨oa, om, oc, rfl, ⟨HOM.out, run_out KF.out HOM.out HST.out⟩, run_se KF.out⟩
    | false =>
      rw [hex] at c5
      obtain ⟨f0, rfl⟩ : ∃ f0, f = f0 + 1 := ⟨f - 1, by have := todo_pos hex; have := H.out.2.2.1; omega⟩
      have HXL : Hid (xs.length ≤ 1000) := hide (by have := H.out.1; omega)
      have HFR := hide (fready_any K HXL.out)
      have HN2 : Hid (n2 ≤ 1000000) := hide (by have := H.out.2.2.2.2; omega)
      have HST : Hid (s.st ≤ 90000) := hide (by have := H.out.2.1.st; have := HBIG.out; omega)
      have h0 := rdy_ne H.out.2.1 hr
      have HEX := hide hex
      cases ho : over c n2 with
      | true =>
        have HS : Hid (StepIs L c n2 (rdyL r s.ls) 0 8 n2) := hide ⟨by unfold stepS; rw [if_pos ho]⟩
        have HD : Hid ((s, n2, (8 : Int)) = (s', n', E)) := hide (by rw [← H.out.2.2.2.1, run_over hex ho])
        clear hex ho h0 c4 c6 c7 c8 d0 d1 d2 e0 e1 e2
        go_wp2_with (first
          | (go_at_call 26; go_must ((with_reducible refine (Hid.out HFR).mono ?_); rintro e w3 ⟨ra, rm, rc, rfl, HRM, K3⟩; have HSTP := hide (run_step K3 HRM HXL.out HN2.out HS.out); clear HFR))
          | (go_at_call 25; go_must ((with_reducible refine (Hid.out HSTP).mono ?_); rintro e w4 ⟨rfl, pa4, pc4, K4⟩; have c6 := K4.out.box.cell 6 rfl; have c7 := K4.out.box.cell 7 rfl; have c8 := K4.out.box.cell 8 rfl; have d0 := K4.out.tail.tail.hd.cell 0 rfl; have d1 := K4.out.tail.tail.hd.cell 1 rfl; have d2 := K4.out.tail.tail.hd.cell 2 rfl; have e0 := K4.out.tail.tail.hd.frozen 0; have e1 := K4.out.tail.tail.hd.frozen 1; have e2 := K4.out.tail.tail.hd.frozen 2; clear HSTP)))
        go_region
        have KF := hide (run_fin K4.out (.int .i64 (s.st : Int)) (.int .i64 (s.se : Int)) (.int .i64 (s.ec : Int)))
        have r0 := KF.out.nb.cell 0 rfl
        have r1 := KF.out.nb.cell 1 rfl
        have r2 := KF.out.nb.cell 2 rfl
        clear c6 c7 c8 d0 d1 d2 e0 e1 e2
        go_wp2
        refine bodyPost_ret (v := .tuple #[.slice none 0 0, .agg #[.int .i64 (s.st : Int), .int .i64 (s.se : Int), .int .i64 (s.ec : Int)], .int .i64 8]) (by simp [results, Try.results11, go_sem, r0, r1, r2]) rfl ?_
        have hd := HD.out
        injection hd with hd1 hd2
        injection hd2 with hd2 hd3
        subst hd1 hd2 hd3
        exact ⟨none, 0, 0, rfl, ⟨rfl, ⟨Nat.le_refl _, ⟨by simp [outE], fun i hi => by simp [outE] at hi⟩, fun _ => rfl⟩, fun x hx => by cases hx⟩, run_se KF.out⟩
      | false =>
        obtain ⟨k, hk1, hk2⟩ := told_rdy L n2 h0
        have HS : Hid (StepIs L c n2 (rdyL r s.ls) (k : Int) 0 (n2 + 1)) := hide ⟨by unfold stepS; rw [if_neg (by rw [ho]; exact Bool.false_ne_true), if_neg h0, hk1]⟩
        have HSO := hide (step_ok H.out.2.1 hex hk2)
        have HNX := hide (run_next (f := f0) hex ho h0 hk1)
        have HK2 := hide hk2
        have HF : Hid (∀ W pa4 pc4, Hid (FL w r fb s xs vS vP vH (.slice oa om oc) (scrT sb pa4 pc4 L c (n2 + 1) :: boxT wx.heap.size z3 :: ts) W) → _) := hide (fun W pa4 pc4 hW => fstep_any (k := k) hW (by omega) hr2 HXL.out H.out.2.1 HBIG.out HEX.out HK2.out)
        clear hex ho h0 hk1 hk2 c4 c6 c7 c8 d0 d1 d2 e0 e1 e2
        go_wp2_with (first
          | (go_at_call 26; go_must ((with_reducible refine (Hid.out HFR).mono ?_); rintro e w3 ⟨ra, rm, rc, rfl, HRM, K3⟩; have HSTP := hide (run_step K3 HRM HXL.out HN2.out HS.out); clear HFR))
          | (go_at_call 25; go_must ((with_reducible refine (Hid.out HSTP).mono ?_); rintro e w4 ⟨rfl, pa4, pc4, K4⟩; have HF4 := hide (HF.out _ _ _ K4); clear HSTP HF))
          | (go_at_call 27; go_must ((with_reducible refine (Hid.out HF4).mono ?_); rintro e w5 ⟨rfl, xs5, vO5, K5, hx5⟩; have HX5 := hide hx5; clear HF4 hx5)))
        have M5 : Hid (RunR w r fb wx.heap.size nr sb rows L c (s', n', E) (n + 90000) ts f0 w5) := hide ⟨f0, stepM s k, xs5, vS, vP, vH, vO5, pa4, pc4, n2 + 1, Nat.le_refl _, K5, hide ⟨by rw [HX5.out]; exact H.out.1, HSO.out.1, by have h1 := HSO.out.1.st; have h2 := H.out.2.1.st; have h3 := HSO.out.2.1; have h4 := H.out.2.2.1; omega, by rw [← HNX.out]; exact H.out.2.2.2.1, by have h1 := HSO.out.1.st; have h2 := H.out.2.1.st; have h3 := HSO.out.2.1; have h4 := H.out.2.2.2.2; omega⟩⟩
        go_roundg f0
        case measure => have := HFG.out; omega
        case rel => exact M5.out
end
end Go.Proofs.Ytkjdjmcecjaolaa.Mrg
