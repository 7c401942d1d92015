/- Joined out of the texts MrgMerger, MrgBegin, PickMem, ShelfI, SetCmp, SetRow, in that order. -/
import Derived.Test.YtkjdjmcecjaolaaAll8
import Derived.Laws.MakeOwn
import Derived.Test.YtkjdjmcecjaolaaAll3
import Derived.Deep.DeepMust
import Derived.BigQuiet
import Derived.Shelf.Small.Wraps
import Derived.Shelf.Sort.Plain
import Derived.Shelf.Slices.Clone
import Derived.Shelf.Slices.CompactI
import Derived.Shelf.Slices.CompactS
import Derived.Shelf.Slices.SearchI
import Derived.Shelf.Slices.In.SortNone
import Derived.Shelf.Slices.Empties
import Derived.Test.YtkjdjmcecjaolaaProg
import Derived.Test.YtkjdjmcecjaolaaAll2
import Derived.Test.YtkjdjmcecjaolaaAll1
import Derived.Sort.Grow
import Derived.Lib.SlicesCompact
/- A step of the merger, and of one of all. -/
namespace Go.Proofs.Ytkjdjmcecjaolaa.Mrg
open Go.RowKit Go.Proofs.Ytkjdjmcecjaolaa.Dig Go.Proofs.Ytkjdjmcecjaolaa.Mem Go.Proofs.Ytkjdjmcecjaolaa.Dq Go.Proofs.Ytkjdjmcecjaolaa.Thing Go.Proofs.Ytkjdjmcecjaolaa.Own Go.Proofs.Ytkjdjmcecjaolaa.Sets Go.Proofs.Ytkjdjmcecjaolaa.DqI
set_option linter.unusedVariables false
set_option linter.unusedSimpArgs false

local notation "ordF" => Value.func (Fn.func 12) #[] #[]
theorem perm6 {α : Type} (a b c d e f : α) (l : List α) : (a :: b :: c :: d :: e :: f :: l).Perm (d :: f :: a :: b :: c :: e :: l) :=
  (List.perm_middle (l₁ := [a, b, c])).trans (.cons _ (List.perm_middle (l₁ := [a, b, c, e])))
section
variable {w wx w' : World} {r fb : Nat} {s : MS} {xs : List Lw} {vS vP vH vO : Value} {ts ts' : List Th} {k : Nat} {x : Lw} {t t' : Th}
set_option maxHeartbeats 2000000 in
set_option maxRecDepth 20000 in
/-- The merger receives a head. -/
theorem mstep_recv {y : Int} {q : List Int} (h : Hid (FL w r fb s xs vS vP vH vO ts wx)) (hn : xs.length ≤ 1000) (hnx : nxt s.ls = some k) (hk : xs[k]? = some x) (hq : x.q = y :: q) (h0 : x.h.l = []) :
    Calls Try.prog 47 #[.pointer (some ⟨fb, 1, none⟩), .pointer (some ⟨fb, 6, none⟩)] wx fun e w' => e = .returned (.tuple #[]) ∧ ∃ xs', Hid (FL w r fb (mrgK s) xs' vS vP vH vO ts w') ∧ xs'.length = xs.length := by
  have HNX : Hid (Calls Try.prog 61 #[.pointer (some ⟨fb, 1, none⟩)] wx fun e w' => e = .returned (.int .i64 (k : Int)) ∧ w' = wx) := hide (by
    have := mnext_any h.out hn
    unfold nxtI at this
    rw [hnx] at this
    exact this)
  have HP : Hid ((pipeT x.pb r x.n x.c (y :: q) x.s).P wx) := hide (by rw [← hq]; exact h.out.pipe hk)
  have HRC := hide (recv_ok HP.out)
  obtain ⟨gp, cp, eP, l1, f1⟩ := h.out.ptrs hk
  obtain ⟨gh, ch, eH, l2, f2⟩ := h.out.heads hk
  subst eP eH
  have hkl := (List.getElem?_eq_some_iff.1 hk).1
  have c1 := h.out.box.cell 1 rfl
  have hki : (k : Int) < xs.length := by omega
  have HK := hide hk
  have HX0 := hide h0
  have HNN := hide hnx
  have HLAN := hide (h.out.lan hk)
  have HFL := h
  obtain ⟨r1, r2, r3⟩ := h.out.row x (List.mem_of_getElem? hk)
  have HR1 := hide r1
  have HWY : Hid ((Lit.int .i64 y).wf = true) := hide (r2 y (by rw [hq]; simp))
  have HWQ : Hid (WfL q) := hide (fun z hz => r2 z (by rw [hq]; simp [hz]))
  have HR3 := hide r3
  have HQ := hide hq
  obtain ⟨m, hm⟩ : ∃ m, m = xs.length := ⟨_, rfl⟩
  have HM := hide hm
  rw [← hm] at c1 l1 l2 hki hn
  have HVH : Hid (∀ W xs', Kn w (fts w r fb s xs' vS (.slice (some ⟨gp, 0, none⟩) xs.length cp) (.slice (some ⟨gh, 0, none⟩) xs.length ch) vO ts) W → xs'.length = xs.length → W.cell? ⟨fb, 2, none⟩ = some (.slice (some ⟨gh, 0, none⟩) m ch) ∧ (∃ u, W.cell? ⟨gh, k, none⟩ = some u) ∧ W.frozen? ⟨gh, k, none⟩ = false ∧ gh < W.heap.size) := hide (fun W xs' hW hl => by
    have hB := Knget (pre := []) hW
    have hH := Knget (pre := [_, _, _]) hW
    refine ⟨by rw [hm]; exact Is.cell hB 2 rfl, ?_, ?_, (World.ownsRow.lt hH gh rfl).2⟩
    · rw [← hl] at hH
      have hk2 : k < xs'.length := by omega
      obtain ⟨_, _, e, hc, _⟩ := own_at (j := k) (u := (xs'[k]'hk2).h.v) hH (by rw [List.getElem?_map, List.getElem?_eq_getElem hk2]; rfl)
      cases e
      exact ⟨_, hc⟩
    · rw [← hl] at hH
      exact World.ownsRow.frozenAt hH k)
  obtain ⟨row, pb, n1, q1, cc, ss, ⟨ha, hc, hl⟩⟩ := x
  dsimp only [Lw.ptr] at f1 HRC
  clear h hm hnx hk hq h0 HP r1 r2 r3 f2 hkl
  go_enter Try.func47, Try.ntmps47
  go_wp2_with (first
    | (go_at_call 61; go_must ((with_reducible refine (Hid.out HNX).mono ?_); rintro e w9 ⟨rfl, rfl⟩; clear HNX))
    | (go_at_call 63; go_must ((with_reducible refine (Hid.out HRC).mono ?_); rintro e w2 ⟨rfl, hn⟩; obtain ⟨s', hK⟩ := kn_pipe HFL.out.kn HK.out hn; have K2 := hide hK; obtain ⟨d1, ⟨d2, d3⟩, d4, d5⟩ := HVH.out _ _ hK List.length_set; clear hn hK HRC f1 c1)))
  refine bodyPost_ret (results_none rfl _ _ _) rfl ?_
  have hkl := (List.getElem?_eq_some_iff.1 HK.out).1
  have K3 := kn_head (y := y) K2.out (k := k) (x := ⟨row, pb, n1, q, cc, s', ⟨ha, hc, hl⟩⟩) (by rw [List.getElem?_set_self hkl]) (by rw [List.length_set]) HX0.out HWY.out rfl
  rw [List.set_set, World.setCell_alloc_past _ _ _ _ d5] at K3
  refine ⟨rfl, xs.set k ⟨row, pb, n1, q, cc, s', ⟨some ⟨w2.heap.size, 0, none⟩, 1, [y]⟩⟩, ?_, List.length_set⟩
  have e : mrgK s = { s with ls := s.ls.set k ⟨row.l, q, [y], cc⟩ } := by
    unfold mrgK
    rw [HNN.out]
    simp only [HLAN.out]
    have hq2 : q1 = y :: q := HQ.out
    subst hq2
    rfl
  rw [e]
  exact ⟨K3, by rw [ls_set HFL.out]; rfl, row_set HFL.out.row ⟨HR1.out, HWQ.out, HR3.out⟩ k, HFL.out.out⟩
/-- The heads as take has them. -/
theorem FL.heads_kn (h : FL w r fb s xs vS vP vH vO ts wx) : Kn w (ownN w.heap.size 23 1 vH xs.length ((xs.map Lw.h).map Hd.v) :: ownN w.heap.size 3 1 vO s.out.length (s.out.map (Value.int .i64)) :: boxT fb (fcells vS vP vH vO s.ex s.st s.se s.ec) :: ownN w.heap.size 84 2 vS xs.length (sndL xs) :: ownN w.heap.size 80 1 vP xs.length (xs.map Lw.ptr) :: hdsT (xs.map Lw.h) :: (xs.map (Lw.pT r) ++ ts)) wx := by
  rw [List.map_map]
  exact h.kn.perm (perm6 _ _ _ _ _ _ _)
theorem ls_heads (h : FL w r fb s xs vS vP vH vO ts wx) : (xs.map Lw.h).map Hd.l = s.ls.map Ln.h := by
  rw [← h.ls, List.map_map, List.map_map]
  rfl
set_option maxHeartbeats 2000000 in
set_option maxRecDepth 20000 in
/-- The merger puts the least head behind. -/
theorem mstep_put (h : Hid (FL w r fb s xs vS vP vH vO ts wx)) (hn : xs.length ≤ 1000) (hnx : nxt s.ls = none) (hb : best (s.ls.map Ln.h) = some k) (hl1 : ∀ κ ∈ s.ls, κ.h.length ≤ 1) (ho : s.out.length < s.st) (ho2 : s.st ≤ 100000) :
    Calls Try.prog 47 #[.pointer (some ⟨fb, 1, none⟩), .pointer (some ⟨fb, 6, none⟩)] wx fun e w' => e = .returned (.tuple #[]) ∧ ∃ xs' vO', Hid (FL w r fb (mrgK s) xs' vS vP vH vO' ts w') ∧ xs'.length = xs.length := by
  have HNX : Hid (Calls Try.prog 61 #[.pointer (some ⟨fb, 1, none⟩)] wx fun e w' => e = .returned (.int .i64 (-1)) ∧ w' = wx) := hide (by
    have := mnext_any h.out hn
    unfold nxtI at this
    rw [hnx] at this
    exact this)
  have hb2 : best ((xs.map Lw.h).map Hd.l) = some k := by rw [ls_heads h.out]; exact hb
  obtain ⟨_, _, ⟨ah, ch, eH⟩, _⟩ := h.out.forms
  subst eH
  have HTK := hide (take_some (o := 3) (hide (h.out.heads_kn.keep (w' := wx.drew) ((Below.refl _ _).drew))) hb2 (by rw [List.length_map]) hn rfl (by omega) rfl rfl (fun W hW => Knget (pre := [_, _]) hW))
  have c2 := h.out.box.cell 2 rfl
  have HFL := h
  have HNN := hide hnx
  have HBB := hide hb
  have HB2 := hide hb2
  have HL1 := hide hl1
  have HO := hide ho
  obtain ⟨m, hm⟩ : ∃ m, m = xs.length := ⟨_, rfl⟩
  have HM := hide hm
  rw [← hm] at c2
  rw [← hm] at HTK
  clear h hm hnx hb hb2 hl1 ho
  go_enter Try.func47, Try.ntmps47
  go_wp2_with (go_at_call 61; go_must ((with_reducible refine (Hid.out HNX).mono ?_); rintro e w9 ⟨rfl, rfl⟩; clear HNX))
  go_region_held3 (fun w' => w'.cell? ⟨fb, 2, none⟩ = some (.slice ah m ch)) (first | (with_reducible assumption) | go_keep)
    (first | (go_at_call 36; (with_reducible refine (Hid.out HTK).mono ?_); rintro e w2 ⟨rfl, h', v', q1, q2, K2⟩; have d2 : w2.cell? ⟨fb, 2, none⟩ = some (.slice ah m ch) := (Knget (pre := [_, _]) K2.out).cell 2 rfl; clear HTK))
  go_simp
  go_wp2
  first | go_end0 | refine bodyPost_ret (results_none rfl _ _ _) rfl ?_
  rw [HM.out] at K2
  have hk2 : ((xs.map Lw.h).map Hd.l).getD k [] ≠ [] := (best_some HB2.out).2
  have hkl : k < xs.length := by
    have := (best_some HB2.out).1
    rw [List.length_map, List.length_map] at this
    exact this
  obtain ⟨x, hx⟩ : ∃ x, xs[k]? = some x := ⟨xs[k]'hkl, List.getElem?_eq_getElem _⟩
  have hgx : (xs.map Lw.h).getD k hd0 = x.h := by rw [List.getD_eq_getElem?_getD, List.getElem?_map, hx]; rfl
  have hlan := HFL.out.lan hx
  have hlen : x.h.l.length ≤ 1 := HL1.out x.ln (List.mem_of_getElem? hlan)
  rw [hgx] at q1 q2
  have hl0 : h'.l = [] := by
    rw [q1]
    exact List.eq_nil_of_length_eq_zero (by rw [List.length_tail]; omega)
  have hput := putL_length s.out (hd ((xs.map Lw.h).map Hd.l) k)
  have e : mrgK s = { s with ls := s.ls.set k ⟨x.row.l, x.q, [], x.c⟩, out := putL s.out (hd ((xs.map Lw.h).map Hd.l) k) } := by
    unfold mrgK
    rw [HNN.out]
    simp only [HBB.out, hlan]
    rw [ls_heads HFL.out]
    have ht : x.ln.h.tail = [] := by
      show x.h.l.tail = []
      rw [← q1, hl0]
    rw [ht]
    rfl
  have hwo : WfL (putL s.out (hd ((xs.map Lw.h).map Hd.l) k)) := wfl_put HFL.out.out.2 (by
    have hR := Knget (pre := [_, _, _, _]) HFL.out.kn x.h (List.mem_map.2 ⟨x, List.mem_of_getElem? hx, rfl⟩)
    refine RowI.wf hR _ ?_
    rw [hds_getD, hgx] at hk2
    unfold hd
    rw [hds_getD, hgx]
    cases q : x.h.l with
    | nil => exact absurd q hk2
    | cons y t => simp)
  obtain ⟨m1, m2, m3, m4, m5⟩ := maps (r := r) hx { x with h := h' }
  refine ⟨rfl, xs.set k { x with h := h' }, v', ?_, List.length_set⟩
  rw [e]
  refine ⟨?_, by rw [ls_set HFL.out]; show _ = s.ls.set k ⟨x.row.l, x.q, [], x.c⟩; rw [← hl0]; rfl, row_set (x' := { x with h := h' }) HFL.out.row (HFL.out.row x (List.mem_of_getElem? hx)) k, ⟨by have := HO.out; show (putL _ _).length ≤ s.st; omega, hwo⟩⟩
  have K3 := K2.out.perm (perm6 _ _ _ _ _ _ _).symm
  have hh := Knget (pre := [_, _, _, _]) K3
  have K4 := turnAt (pre := [_, _, _, _]) (t := hdsT (xs.map Lw.h)) (t' := hdsT ((xs.map Lw.h).set k h')) K3 (fun z hz => by
    rcases List.mem_or_eq_of_mem_set hz with q | q
    · exact hh z q
    · subst q
      exact q2 _ (hh _ (List.mem_map.2 ⟨x, List.mem_of_getElem? hx, rfl⟩))) (Only.refl _ _) (fun j hj => by
    obtain ⟨z, hz, hl, y, e1, e2⟩ := hj
    rcases List.mem_or_eq_of_mem_set hz with q | q
    · exact .inl ⟨z, q, hl, y, e1, e2⟩
    · subst q
      rw [hl0] at hl
      simp at hl)
  unfold fts
  rw [m1 rfl, m4 rfl rfl, m5 rfl, List.length_set, List.map_set, List.map_set]
  rw [List.map_set, List.map_map] at K4
  exact K4
set_option maxHeartbeats 2000000 in
set_option maxRecDepth 20000 in
/-- The merger exits. -/
theorem mstep_exit (h : Hid (FL w r fb s xs vS vP vH vO ts wx)) (hn : xs.length ≤ 1000) (hnx : nxt s.ls = none) (hb : best (s.ls.map Ln.h) = none) (he : s.ec ≤ 100000) :
    Calls Try.prog 47 #[.pointer (some ⟨fb, 1, none⟩), .pointer (some ⟨fb, 6, none⟩)] wx fun e w' => e = .returned (.tuple #[]) ∧ Hid (FL w r fb (mrgK s) xs vS vP vH vO ts w') := by
  have HNX : Hid (Calls Try.prog 61 #[.pointer (some ⟨fb, 1, none⟩)] wx fun e w' => e = .returned (.int .i64 (-1)) ∧ w' = wx) := hide (by
    have := mnext_any h.out hn
    unfold nxtI at this
    rw [hnx] at this
    exact this)
  have hb2 : best ((xs.map Lw.h).map Hd.l) = none := by rw [ls_heads h.out]; exact hb
  obtain ⟨_, _, ⟨ah, ch, eH⟩, _⟩ := h.out.forms
  subst eH
  have HTK := hide (take_none (o := 3) (hide ((h.out.heads_kn.keep (w' := wx.drew) ((Below.refl _ _).drew)).sub (.cons_cons _ (.cons _ (List.Sublist.refl _))))) hb2 (by rw [List.length_map]) hn rfl (fun W hW => Knget (pre := [_, _]) hW))
  have c2 := h.out.box.cell 2 rfl
  have HFL := h
  have KD := hide (h.out.keep (w' := wx.drew) ((Below.refl _ _).drew))
  have HNN := hide hnx
  have HBB := hide hb
  obtain ⟨m, hm⟩ : ∃ m, m = xs.length := ⟨_, rfl⟩
  have HM := hide hm
  rw [← hm] at c2 HTK
  clear h hm hnx hb hb2
  go_enter Try.func47, Try.ntmps47
  go_wp2_with (go_at_call 61; go_must ((with_reducible refine (Hid.out HNX).mono ?_); rintro e w9 ⟨rfl, rfl⟩; clear HNX))
  go_region_held3 (fun w' => w'.cell? ⟨fb, 2, none⟩ = some (.slice ah m ch)) (first | (with_reducible assumption) | go_keep)
    (first | (go_at_call 36; (with_reducible refine (Hid.out HTK).mono ?_); rintro e w2 ⟨rfl, hb2⟩; have K2 := hide (KD.out.keep hb2); have d2 : w2.cell? ⟨fb, 2, none⟩ = some (.slice ah m ch) := (by rw [HM.out]; exact K2.out.box.cell 2 rfl); clear HTK hb2))
  go_simp
  have d5 := K2.out.box.cell 5 rfl
  have f5 := K2.out.box.frozen 5
  have d8 := K2.out.box.cell 8 rfl
  have f8 := K2.out.box.frozen 8
  go_wp2
  first | go_end0 | refine bodyPost_ret (results_none rfl _ _ _) rfl ?_
  have e : mrgK s = { s with ex := true, ec := s.ec + 1 } := by
    unfold mrgK
    rw [HNN.out]
    simp only [HBB.out]
  rw [e]
  exact ⟨rfl, kn_ec (kn_ex K2.out.kn), HFL.out.ls, HFL.out.row, HFL.out.out⟩
theorem mstep_any (h : Hid (FL w r fb s xs vS vP vH vO ts wx)) (hn : xs.length ≤ 1000) (hl1 : ∀ κ ∈ s.ls, κ.h.length ≤ 1) (ho : s.out.length < s.st) (ho2 : s.st ≤ 100000) (he : s.ec ≤ 100000) :
    Calls Try.prog 47 #[.pointer (some ⟨fb, 1, none⟩), .pointer (some ⟨fb, 6, none⟩)] wx fun e w' => e = .returned (.tuple #[]) ∧ ∃ xs' vO', Hid (FL w r fb (mrgK s) xs' vS vP vH vO' ts w') ∧ xs'.length = xs.length := by
  cases hnx : nxt s.ls with
  | some k =>
    obtain ⟨κ, h1, h2, h3⟩ := nxt_some hnx
    have hkl := (List.getElem?_eq_some_iff.1 h1).1
    rw [h.out.len] at hkl
    obtain ⟨x, hx⟩ : ∃ x, xs[k]? = some x := ⟨xs[k]'hkl, List.getElem?_eq_getElem _⟩
    have e := h.out.lan hx
    rw [h1] at e
    cases e
    obtain ⟨y, q, hq⟩ := List.exists_cons_of_ne_nil h3
    refine (mstep_recv h hn hnx hx hq h2).mono ?_
    rintro e w' ⟨rfl, xs', h1, h2⟩
    exact ⟨rfl, xs', vO, h1, h2⟩
  | none =>
    cases hb : best (s.ls.map Ln.h) with
    | some k => exact mstep_put h hn hnx hb hl1 ho ho2
    | none =>
      refine (mstep_exit h hn hnx hb he).mono ?_
      rintro e w' ⟨rfl, h1⟩
      exact ⟨rfl, xs, vO, h1, rfl⟩
theorem sstep_any {g c n : Nat} (h : Hid (FL w r fb s xs (.slice (some ⟨g, 0, none⟩) n c) vP vH vO ts wx)) (hr : r ≠ 0) (hr2 : r ≤ 64) (hk : xs[k]? = some x) (hs : sndR r x.ln = true) (hb : s.se ≤ 100000) (hb2 : s.ec ≤ 100000) :
    Calls Try.prog 48 #[.pointer (some ⟨g, k * 2, none⟩), .pointer (some ⟨fb, 6, none⟩)] wx fun e w' => e = .returned (.tuple #[]) ∧ ∃ xs', Hid (FL w r fb (sndK s k) xs' (.slice (some ⟨g, 0, none⟩) n c) vP vH vO ts w') ∧ xs'.length = xs.length := by
  have hc : x.c = false := by
    unfold sndR Lw.ln at hs
    simp at hs
    exact hs.1
  cases hrow : x.row.l with
  | nil => exact sstep_exit h hr hk hrow hc hb2
  | cons y l =>
    have hq : x.q.length < r := by
      unfold sndR Lw.ln at hs
      simp [hrow] at hs
      exact hs.2
    exact sstep_send h hr hr2 hk hrow hc hq hb
set_option maxHeartbeats 2000000 in
set_option maxRecDepth 20000 in
/-- One of them takes a step. -/
theorem fstep_any {rows : List (List Int)} (h : Hid (FL w r fb s xs vS vP vH vO ts wx)) (hr : r ≠ 0) (hr2 : r ≤ 64) (hn : xs.length ≤ 1000) (hok : Ok r rows s) (hbig : 3 * cnt rows + rows.length + 1 ≤ 90000) (hx : s.ex = false) (hk : (k : Int) ∈ rdyL r s.ls) :
    Calls Try.prog 27 #[.pointer (some ⟨fb, 0, none⟩), .int .i64 (k : Int)] wx fun e w' => e = .returned (.tuple #[]) ∧ ∃ xs' vO', Hid (FL w r fb (stepM s k) xs' vS vP vH vO' ts w') ∧ xs'.length = xs.length := by
  have b1 := hok.st
  have b2 := hok.se
  have b3 := hok.ec
  have hst : s.st ≤ 90000 := by omega
  have hse : s.se ≤ 100000 := by omega
  have hec : s.ec ≤ 100000 := by omega
  have HL1 : Hid (∀ κ ∈ s.ls, κ.h.length ≤ 1) := hide (fun κ hκ => (hok.lane κ hκ).1)
  have c6 := h.out.box.cell 6 rfl
  have f6 := h.out.box.frozen 6
  have K1 : Hid (FL w r fb (stp s) xs vS vP vH vO ts (wx.setCell ⟨fb, 6, none⟩ (.int .i64 ((s.st : Int) + 1)))) := hide ⟨kn_st h.out.kn, h.out.ls, h.out.row, ⟨by have := h.out.out.1; show s.out.length ≤ s.st + 1; omega, h.out.out.2⟩⟩
  have HOUT := hide h.out.out.1
  obtain ⟨⟨aS, cS, eS⟩, _⟩ := h.out.forms
  subst eS
  have HLEN : Hid (s.ls.length = xs.length) := hide h.out.len
  have HK := hide hk
  clear h hok b1 b2 b3 hk hx
  go_enter Try.func27, Try.ntmps27
  go_upto_region 1 with fail
  generalize (wx.setCell ⟨fb, 6, none⟩ (.int .i64 ((s.st : Int) + 1))) = W1 at K1 ⊢
  clear c6 f6
  have c0 := K1.out.box.cell 0 rfl
  have KD := hide (K1.out.keep (w' := W1.drew) ((Below.refl _ _).drew))
  obtain ⟨m, hm⟩ : ∃ m, m = xs.length := ⟨_, rfl⟩
  have HM := hide hm
  by_cases he : k = xs.length
  · have HMS := hide (mstep_any KD hn HL1.out (by have := HOUT.out; show s.out.length < s.st + 1; omega) (by show s.st + 1 ≤ 100000; omega) hec)
    have e : stepM s k = mrgK (stp s) := by unfold stepM; rw [if_pos (by rw [HLEN.out]; exact he)]
    have HE := hide e
    rw [← hm] at he c0
    subst he
    clear e hm
    go_wp2
    go_region_held3 (fun w' => True) (exact trivial)
      (first | (go_at_call 47; (with_reducible refine (Hid.out HMS).mono ?_); rintro e w2 ⟨rfl, xs', vO', K2, hl2⟩))
    go_simp
    go_wp2
    first | go_end0 | refine bodyPost_ret (results_none rfl _ _ _) rfl ?_
    rw [HE.out]
    exact ⟨rfl, xs', vO', K2, hl2⟩
  · have hkl : k < xs.length := by
      rcases mem_rdy.1 HK.out with ⟨j, e, hj, _⟩ | ⟨e, _⟩
      · rw [HLEN.out] at hj; omega
      · rw [HLEN.out] at e; omega
    have hsa : sndAt r s.ls k = true := by
      rcases mem_rdy.1 HK.out with ⟨j, e, hj, h1⟩ | ⟨e, _⟩
      · obtain rfl : k = j := by omega
        exact h1
      · rw [HLEN.out] at e; omega
    obtain ⟨x, hx⟩ : ∃ x, xs[k]? = some x := ⟨xs[k]'hkl, List.getElem?_eq_getElem _⟩
    have hsr : sndR r x.ln = true := by
      unfold sndAt at hsa
      rw [show s.ls[k]? = some x.ln from K1.out.lan hx] at hsa
      exact hsa
    obtain ⟨g, cc, e1, l1, _, _⟩ := K1.out.snd hx
    injection e1 with e1 e2 e3
    subst e1 e3
    have HMS := hide (sstep_any KD hr hr2 hx hsr hse hec)
    have e : stepM s k = sndK (stp s) k := by unfold stepM; rw [if_neg (by rw [HLEN.out]; exact he)]
    have HE := hide e
    rw [← hm] at he c0 l1 hkl
    have hki : (k : Int) < m := by omega
    have hkz : ((k : Int) == m) = false := by simp; omega
    clear e hm he hsr hsa e2 hx
    go_wp2
    go_region_held3 (fun w' => w'.cell? ⟨fb, 0, none⟩ = some (.slice (some ⟨g, 0, none⟩) m cS)) (first | (with_reducible assumption) | go_keep)
      (first | (go_at_call 48; (with_reducible refine (Hid.out HMS).mono ?_); rintro e w2 ⟨rfl, xs', K2, hl2⟩; have d0 : w2.cell? ⟨fb, 0, none⟩ = some (.slice (some ⟨g, 0, none⟩) m cS) := (by rw [HM.out]; exact K2.out.box.cell 0 rfl)))
    go_simp
    go_wp2
    first | go_end0 | refine bodyPost_ret (results_none rfl _ _ _) rfl ?_
    rw [HE.out]
    exact ⟨rfl, xs', vO, K2, hl2⟩
end
end Go.Proofs.Ytkjdjmcecjaolaa.Mrg

/- Where nothing is sent yet. -/
namespace Go.Proofs.Ytkjdjmcecjaolaa.Mrg
open Go.RowKit Go.Proofs.Ytkjdjmcecjaolaa.Dig Go.Proofs.Ytkjdjmcecjaolaa.Mem Go.Proofs.Ytkjdjmcecjaolaa.Dq Go.Proofs.Ytkjdjmcecjaolaa.Thing Go.Proofs.Ytkjdjmcecjaolaa.Own Go.Proofs.Ytkjdjmcecjaolaa.Sets Go.Proofs.Ytkjdjmcecjaolaa.DqI
set_option linter.unusedVariables false
set_option linter.unusedSimpArgs false

local notation "ordF" => Value.func (Fn.func 12) #[] #[]
theorem Try.infoSnd : (Try.prog.info? 84).map (fun i => (i.zero, i.size, i.bytes)) = some (some (.agg #[.slice none 0 0, .pointer none]), 2, 32) := by kernel_rfl
theorem Try.infoPtr : (Try.prog.info? 80).map (fun i => (i.zero, i.size, i.bytes)) = some (some (.pointer none), 1, 8) := by kernel_rfl
theorem cell_two_new (w : World) (x y : Value) (t : TypeId) : ∀ j u, [x, y][j]? = some u → (w.alloc (.cells #[x, y] t)).cell? ((⟨w.heap.size, 0, none⟩ : Addr).add j) = some u := by
  intro j u hj
  match j, hj with
  | 0, hj => simp at hj; subst hj; simp [Addr.add]
  | 1, hj => simp at hj; subst hj; simp [Addr.add]
theorem madeCells_one {z : Value} (hz : z.cells = #[z]) (n : Nat) : madeCells z.cells n = (List.replicate n z).toArray := by
  rw [hz]
  apply Array.ext_getElem?
  intro j
  by_cases h : j < n
  · simp [madeCells, h, Nat.mod_one]
  · simp [madeCells, h]
theorem mk_heads (n : Nat) (hn : n ≤ 1000) : ∀ w : World, (Instr.makeSlice 22 (.int .i64 (n : Int)) (.int .i64 (n : Int))).run Try.prog w = .ok (.slice (some ⟨w.heap.size, 0, none⟩) n n) (w.alloc (.cells (Array.replicate n (Value.slice none 0 0)) 23)) := by
  intro w
  obtain ⟨i0, hi, hz0, hz1, hz2⟩ := info_parts Try.infoIs
  have hr := run_makeSlice (P := Try.prog) w 22 23 i0 (.slice none 0 0) Try.underlying22 hi hz0 .i64 .i64 (n : Int) (n : Int) (by omega) (by omega) (by rw [hz1]; simp; omega) (by rw [hz2]; omega) (by omega)
  simp only [Int.toNat_natCast] at hr
  rw [hz1, Nat.mul_one, madeCells_one rfl, List.toArray_replicate] at hr
  exact hr
def bts (w : World) (r fb : Nat) (xs : List Lw) (n : Nat) (vS vP vH : Value) (ts : List Th) : List Th :=
  [boxT fb (fcells vS vP vH (.slice none 0 0) false 0 0 0), ownN w.heap.size 84 2 vS xs.length (sndL xs), ownN w.heap.size 80 1 vP xs.length (xs.map Lw.ptr), ownN w.heap.size 23 1 vH n (List.replicate n (.slice none 0 0))] ++ (xs.map (Lw.pT r) ++ ts)
/-- A sender that has sent nothing. -/
structure New0 (w : World) (r : List Int) (x : Lw) : Prop where
  row : x.row.l = r ∧ x.row.R w
  q : x.q = []
  c : x.c = false
  n : x.n = 0
  h : x.h = hd0
def BgR (w : World) (r fb n : Nat) (rows : List (List Int)) (vH : Value) (ts : List Th) (i : Value) (wr : World) : Prop := ∃ (k : Nat) (xs : List Lw) (vS vP : Value), k ≤ n ∧ i = .int .i64 (k : Int) ∧ Hid (xs.length = k ∧ ∀ j x, xs[j]? = some x → New0 w (rows.getD j []) x) ∧ Hid (Kn w (bts w r fb xs n vS vP vH ts) wr)
section
variable {w wx w' : World} {r fb n : Nat} {xs : List Lw} {vS vP vH : Value} {ts : List Th}
theorem sndL_app (xs : List Lw) (x : Lw) : sndL (xs ++ [x]) = sndL xs ++ [x.row.v, x.ptr] := by simp [sndL]
/-- One more pipe. -/
theorem bts_pipe (h : Kn w (bts w r fb xs n vS vP vH ts) wx) {x : Lw} (hb : Below wx.heap.size wx w') (hp : (x.pT r).P w') (hf : ∀ k, (x.pT r).F k → wx.heap.size ≤ k) :
    Kn w ([boxT fb (fcells vS vP vH (.slice none 0 0) false 0 0 0), ownN w.heap.size 84 2 vS xs.length (sndL xs), ownN w.heap.size 80 1 vP xs.length (xs.map Lw.ptr), ownN w.heap.size 23 1 vH n (List.replicate n (.slice none 0 0))] ++ ((xs ++ [x]).map (Lw.pT r) ++ ts)) w' := by
  have h1 := h.more hb hp hf
  unfold bts at h1
  rw [← List.append_assoc] at h1
  have h2 := h1.perm List.perm_middle.symm
  simpa using h2
theorem begin_fl {rows : List (List Int)} (h : Kn w (bts w r fb xs n vS vP vH ts) wx) (hn : n = rows.length) (hx : xs.length = n ∧ ∀ j x, xs[j]? = some x → New0 w (rows.getD j []) x) (hlen : ∀ l ∈ rows, l.length ≤ 1000) : FL w r fb (begM rows) xs vS vP vH (.slice none 0 0) ts wx := by
  obtain ⟨hl, ha⟩ := hx
  have hall : ∀ x ∈ xs, x.q = [] ∧ x.n = 0 ∧ x.h = hd0 ∧ x.row.R w ∧ x.row.l.length ≤ 1000 := fun x hm => by
    obtain ⟨j, hj⟩ := List.getElem?_of_mem hm
    have hj2 := (List.getElem?_eq_some_iff.1 hj).1
    have := ha j x hj
    refine ⟨this.q, this.n, this.h, this.row.2, ?_⟩
    rw [this.row.1]
    apply hlen
    rw [List.getD_eq_getElem?_getD, List.getElem?_eq_getElem (by omega)]
    exact List.getElem_mem _
  have e1 : (xs.map fun x => x.h.v) = List.replicate n (.slice none 0 0) := by
    rw [← hl]
    exact List.eq_replicate_iff.2 ⟨by simp, fun v hv => by
      obtain ⟨x, hm, rfl⟩ := List.mem_map.1 hv
      rw [(hall x hm).2.2.1]
      rfl⟩
  refine ⟨?_, ?_, fun x hm => ?_, ⟨Nat.le_refl _, fun z hz => by cases hz⟩⟩
  · unfold bts at h
    rw [← e1, ← hl] at h
    have k1 := ownNil h w.heap.size 3 1
    have k2 := k1.more (w' := wx) (t' := hdsT (xs.map Lw.h)) (Below.refl _ _) (fun z hz => by
      obtain ⟨x, hm, rfl⟩ := List.mem_map.1 hz
      rw [(hall x hm).2.2.1]
      exact ⟨Nat.le_refl _, ⟨by simp [hd0], fun i hi => by simp [hd0] at hi⟩, fun _ => rfl⟩) (fun k hk => by
      obtain ⟨z, hz, hl, _⟩ := hk
      obtain ⟨x, hm, rfl⟩ := List.mem_map.1 hz
      rw [(hall x hm).2.2.1] at hl
      simp [hd0] at hl)
    exact k2.perm (List.perm_append_comm_assoc [_, _] [_, _, _, _] _)
  · apply List.ext_getElem?
    intro j
    show (xs.map Lw.ln)[j]? = (rows.map ln0)[j]?
    rw [List.getElem?_map, List.getElem?_map]
    cases hj : xs[j]? with
    | none =>
      rw [List.getElem?_eq_none (by rw [List.getElem?_eq_none_iff] at hj; omega)]
      rfl
    | some x =>
      have hj2 := (List.getElem?_eq_some_iff.1 hj).1
      have := ha j x hj
      rw [List.getElem?_eq_getElem (show j < rows.length by omega)]
      have e : rows.getD j [] = rows[j] := by rw [List.getD_eq_getElem?_getD, List.getElem?_eq_getElem (show j < rows.length by omega)]; rfl
      rw [List.getD_eq_getElem?_getD] at e
      simp [Lw.ln, ln0, this.q, this.c, this.h, this.row.1, hd0]
      exact e
  · obtain ⟨h1, h2, h3, h4, h5⟩ := hall x hm
    exact ⟨h4, (by rw [h1]; exact fun z hz => (by cases hz)), by omega⟩
set_option maxHeartbeats 4000000 in
set_option maxRecDepth 20000 in
theorem begin_any {a : Option Addr} {c : Nat} {rows : List (List Int)} (h : Hid (Kn w ts wx)) (hR : RowsI w a c rows) (hn : n = rows.length) (hn2 : n ≤ 1000) (hr : 1 ≤ r) (hr2 : r ≤ 64) (hlen : ∀ l ∈ rows, l.length ≤ 1000) :
    Calls Try.prog 24 #[.slice a n c, ordF, .int .i64 (r : Int)] wx fun e w' => ∃ fb, e = .returned (.pointer (some ⟨fb, 0, none⟩)) ∧ ∃ xs, Hid (xs.length = n) ∧ ∃ vS vP vH, Hid (FL w r fb (begM rows) xs vS vP vH (.slice none 0 0) ts w') := by
  obtain ⟨iS, hiS, hzS0, hzS1, hzS2⟩ := info_parts Try.infoSnd
  obtain ⟨iP, hiP, hzP0, hzP1, hzP2⟩ := info_parts Try.infoPtr
  have hmk := mk_heads n hn2
  have HBB := hide h.out.below.size
  have k1 := ownMade (n := n) h.out (Array.replicate n (Value.slice none 0 0)) 23 1 HBB.out (by unfold maxLen; omega) (by simp) (g := wx.heap.size) rfl
  rw [Array.toList_replicate] at k1
  have k2 := box0 k1 (fcells (.slice none 0 0) (.slice none 0 0) (.slice (some ⟨wx.heap.size, 0, none⟩) n n) (.slice none 0 0) false 0 0 0) 66 (g := wx.heap.size + 1) (by simp)
  have k3 := ownNil (ownNil k2 w.heap.size 80 1) w.heap.size 84 2
  have K0 : Hid (Kn w (bts w r (wx.heap.size + 1) [] n (.slice none 0 0) (.slice none 0 0) (.slice (some ⟨wx.heap.size, 0, none⟩) n n) ts) _) := hide (k3.perm (List.perm_append_comm_assoc [_, _] [_] _))
  have HR := hide hR
  have HN := hide hn
  have HLEN := hide hlen
  clear h k1 k2 k3 hR hn hlen
  go_enter Try.func24, Try.ntmps24
  go_wp2
  have M0 : Hid (BgR w r (wx.heap.size + 1) n rows (.slice (some ⟨wx.heap.size, 0, none⟩) n n) ts (.int .i64 0) _) := hide ⟨0, [], .slice none 0 0, .slice none 0 0, Nat.zero_le _, rfl, hide ⟨rfl, fun j x hj => by simp at hj⟩, K0⟩
  obtain ⟨fb, hfb⟩ : ∃ fb, fb = wx.heap.size + 1 := ⟨_, rfl⟩
  rw [← hfb] at M0
  rw [← hfb]
  clear K0 hfb hmk
  go_loopw [22] (fun i wr => BgR w r fb n rows (.slice (some ⟨wx.heap.size, 0, none⟩) n n) ts i wr) (fun i _ => n - (intOf i).toNat)
  case atStart => exact M0.out
  case round =>
    obtain ⟨k, xs, vS, vP, hk, rfl, HX, K⟩ := hrel
    obtain ⟨sa, sc, eS⟩ := Own.own_form (Knget (pre := [_]) K.out)
    obtain ⟨pa, pc, eP⟩ := Own.own_form (Knget (pre := [_, _]) K.out)
    clear M0
    have hxl : xs.length = k := HX.out.1
    by_cases hlt : k < n
    · obtain ⟨b, off, la, lc, rfl, hc, hrow⟩ := (HR.out.keep K.out.below).at_ k (by rw [← HN.out]; exact hlt)
      have HRW : Hid (RowI w la lc (rows.getD k [])) := hide (by
        obtain ⟨b', off', la', lc', e', hc', hr'⟩ := HR.out.at_ k (by rw [← HN.out]; exact hlt)
        cases e'
        have := (K.out.below.cell (p := ⟨b, off + k, none⟩) (lt_of_cell hc')).trans hc'
        rw [hc] at this
        injection this with this
        injection this with e1 e2 e3
        subst e1 e3
        exact hr')
      have hki : (k : Int) < n := by omega
      have hnc : n ≤ c := by rw [HN.out]; exact HR.out.cap
      obtain ⟨ln, hln⟩ : ∃ ln, ln = (rows.getD k []).length := ⟨_, rfl⟩
      have HLN := hide hln
      rw [← hln] at hc
      have hlm : ln ≤ 4611686018427387903 := by have := hrow.rd.1; omega
      obtain ⟨pb, hpb⟩ : ∃ pb, pb = wr.heap.size := ⟨_, rfl⟩
      have HPN := hide (new_ok r hr hr2 wr)
      rw [← hpb] at HPN
      have HP : Hid (∀ w2, w2 = wr.alloc (.cells #[.slice none 0 0, .int .i64 0, .int .i64 0, .int .i64 (r : Int), .int .i64 0, .bool false] 106) → Kn w _ w2) := hide (fun w2 e => by
        rw [e]
        exact bts_pipe K.out (x := ⟨⟨la, lc, rows.getD k []⟩, pb, 0, [], false, .bare pb 0 (pcs r 0 false), hd0⟩) ((Below.refl _ _).alloc (Nat.le_refl _) _) (pipe_made wr r 106 hpb) (fun j hj => by cases hj; exact Nat.le_of_eq hpb.symm))
      subst eS eP
      rw [hxl] at HP
      obtain ⟨yl, hyl⟩ : ∃ yl, yl = sndL xs := ⟨_, rfl⟩
      have HYL := hide hyl
      rw [← hyl] at HP
      clear hrow hln hpb hyl hxl K
      go_upto_region 7 with (first
        | (go_at_call 38; go_must ((with_reducible refine (Hid.out HPN).mono ?_); rintro e w2 ⟨rfl, hq⟩; have K2 := hide (HP.out _ hq); have b0 := (Knget (pre := []) K2.out).cell 0 rfl; clear hq HPN HP hc))
        | (at_builtin; go_must ((refine wpList_append_own_at _ rfl _ _ 64 rfl w.heap.size 84 iS (.agg #[.slice none 0 0, .pointer none]) 2 32 Try.underlying64 hiS hzS0 hzS1 hzS2 rfl (by decide) (.slice sa k sc) k yl rfl (World.ownsRow.alloc (Knget (pre := [_]) K2.out) _) ⟨w2.heap.size, 0, none⟩ 1 1 [.slice la ln lc, .pointer (some ⟨pb, 0, none⟩)] rfl rfl (cell_two_new _ _ _ _) (by simp [Value.oneCell']) (by unfold maxLen; omega) (by omega) (by have := K2.out.below.size; simp at this ⊢; omega) ?_); intro v4 w4 hown4 hg4 _ hat4; obtain ⟨a4, c4, rfl⟩ := Own.own_form hown4; have K4 := hide (growAt (pre := [_]) (K2.out.keep ((Below.refl _ _).alloc (Nat.le_refl _) _)) hown4 hg4 hat4); have b4 := (Knget (pre := []) K4.out).cell 0 rfl; have f4 := (Knget (pre := []) K4.out).frozen 0; clear hown4 hg4 hat4 b0)))
      have K5 := hide (putBox (pre := []) K4.out 0 (.slice a4 (k + 1) c4) (cs' := fcells (.slice a4 (k + 1) c4) (.slice pa k pc) (.slice (some ⟨wx.heap.size, 0, none⟩) n n) (.slice none 0 0) false 0 0 0) (by simp) (Knget (pre := []) K4.out))
      generalize (w4.setCell ⟨fb, 0, none⟩ (.slice a4 (k + 1) c4)) = W5 at K5 ⊢
      clear K4 b4 f4 K2
      have b1 := (Knget (pre := []) K5.out).cell 1 rfl
      go_wp2_with (at_builtin; go_must ((refine wpList_append_own_at _ rfl _ _ 59 rfl w.heap.size 80 iP (.pointer none) 1 8 Try.underlying59 hiP hzP0 hzP1 hzP2 rfl (by decide) (.slice pa k pc) k (xs.map Lw.ptr) rfl (World.ownsRow.alloc (Knget (pre := [_, _]) K5.out) _) ⟨W5.heap.size, 0, none⟩ 1 1 [.pointer (some ⟨pb, 0, none⟩)] rfl rfl (cell_one_new _ _ _) (by simp [Value.oneCell']) (by unfold maxLen; omega) (by omega) (by have := K5.out.below.size; simp at this ⊢; omega) ?_); intro v6 w6 hown6 hg6 _ hat6; obtain ⟨a6, c6, rfl⟩ := Own.own_form hown6; have K6 := hide (growAt (pre := [_, _]) (K5.out.keep ((Below.refl _ _).alloc (Nat.le_refl _) _)) hown6 hg6 hat6); have b6 := (Knget (pre := []) K6.out).cell 1 rfl; have f6 := (Knget (pre := []) K6.out).frozen 1; clear hown6 hg6 hat6 b1))
      go_roundw
      case rel =>
        have K7 := putBox (pre := []) K6.out 1 (.slice a6 (k + 1) c6) (cs' := fcells (.slice a4 (k + 1) c4) (.slice a6 (k + 1) c6) (.slice (some ⟨wx.heap.size, 0, none⟩) n n) (.slice none 0 0) false 0 0 0) (by simp) (Knget (pre := []) K6.out)
        refine ⟨k + 1, xs ++ [⟨⟨la, lc, rows.getD k []⟩, pb, 0, [], false, .bare pb 0 (pcs r 0 false), hd0⟩], .slice a4 (k + 1) c4, .slice a6 (k + 1) c6, by omega, by simp, hide ⟨by rw [List.length_append, HX.out.1]; rfl, fun j x hj => ?_⟩, hide ?_⟩
        · rcases Nat.lt_or_ge j k with q | q
          · rw [List.getElem?_append_left (by rw [HX.out.1]; exact q)] at hj
            exact HX.out.2 j x hj
          · rw [List.getElem?_append_right (by rw [HX.out.1]; exact q), HX.out.1] at hj
            have e0 : j - k = 0 := by
              rcases Nat.eq_zero_or_pos (j - k) with z | z
              · exact z
              · rw [List.getElem?_eq_none (by simp; omega)] at hj; cases hj
            rw [e0] at hj
            obtain rfl : j = k := by omega
            cases hj
            exact ⟨⟨rfl, HRW.out⟩, rfl, rfl, rfl, rfl⟩
        · unfold bts
          rw [sndL_app, List.length_append, HX.out.1, List.map_append (f := Lw.ptr), ← HYL.out]
          rw [HLN.out] at K7
          exact K7
      case measure => simp [intOf]; omega
    · obtain rfl : k = n := by omega
      have hki : ¬ (k : Int) < k := by omega
      go_wp2
      go_ret
      exact ⟨fb, rfl, xs, HX.out.1, vS, vP, _, begin_fl K.out HN.out HX.out HLEN.out⟩
end
end Go.Proofs.Ytkjdjmcecjaolaa.Mrg

/- A script as it lies, and what each call of it does but for New and Step. -/
namespace Go.Proofs.Ytkjdjmcecjaolaa.Pick
open Go.RowKit Go.Proofs.Ytkjdjmcecjaolaa.Dig Go.Proofs.Ytkjdjmcecjaolaa.Mem Go.Proofs.Ytkjdjmcecjaolaa.Dq Go.Proofs.Ytkjdjmcecjaolaa.Thing Go.Proofs.Ytkjdjmcecjaolaa.Sets
set_option linter.unusedVariables false
set_option linter.unusedSimpArgs false

/-- A script that a call made: its picks, the step at which all is cancelled, how many steps there were. -/
structure Scr (w : World) (b : Nat) (pa : Option Addr) (pc : Nat) (L : List Int) (c : Int) (n : Nat) : Prop where
  box : Is w b #[.slice pa L.length pc, .int .i64 c, .int .i64 (n : Int), .bool true]
  row : RowI w pa pc L
  ne : 0 < L.length → ∀ x, pa = some x → x.block ≠ b
def scrT (b : Nat) (pa : Option Addr) (pc : Nat) (L : List Int) (c : Int) (n : Nat) : Th where
  P w := Scr w b pa pc L c n
  F k := k = b ∨ (0 < L.length ∧ ∃ x, pa = some x ∧ x.block = k)
  keep h ho hs := ⟨h.box.keep ho (hs b (.inl rfl)), ⟨h.row.cap, h.row.rd.only' ho (fun hl x e => hs x.block (.inr ⟨hl, x, e, rfl⟩)), h.row.nil⟩, h.ne⟩
  lt h k hk := by
    rcases hk with rfl | ⟨hl, x, e, rfl⟩
    · exact h.box.lt
    · exact Rd.lt h.row.rd hl x e
section
variable {w w' : World} {b n : Nat} {pa : Option Addr} {pc : Nat} {L : List Int} {c : Int}
theorem Scr.keep (h : Scr w b pa pc L c n) (hb : Below w.heap.size w w') : Scr w' b pa pc L c n :=
  (scrT b pa pc L c n).keep (S := fun _ => False) h (Only.of_below hb) (fun _ _ q => q)
/-- One step more. -/
theorem Scr.more (h : Scr w b pa pc L c n) (m : Nat) : Scr (w.setCell ⟨b, 2, none⟩ (.int .i64 (m : Int))) b pa pc L c m :=
  ⟨h.box.set 2 (.int .i64 (m : Int)), ⟨h.row.cap, h.row.rd.only' (S := fun k => k = b) ((Only.refl _ _).put 2 _) (fun hl x e => h.ne hl x e), h.row.nil⟩, h.ne⟩
theorem over_any (h : Scr w b pa pc L c n) : Calls Try.prog 39 #[.pointer (some ⟨b, 0, none⟩)] w fun e w' => e = .returned (.bool (over c n)) ∧ ∃ q, w' = w.drewN q := by
  obtain ⟨⟨c0, c1, c2, c3⟩, _⟩ := h.box.four
  clear h
  unfold over
  by_cases h1 : 0 ≤ c
  · by_cases h2 : c ≤ (n : Int)
    · rw [decide_eq_true h1, decide_eq_true h2]
      have d1 : decide (0 ≤ c) = true := decide_eq_true h1
      have d2 : decide (c ≤ (n : Int)) = true := decide_eq_true h2
      go_enter Try.func39, Try.ntmps39
      go_wp2
      go_quiet (fail)
      go_wp2
      go_ret
      exact ⟨rfl, _, rfl⟩
    · rw [decide_eq_true h1, decide_eq_false h2]
      have d1 : decide (0 ≤ c) = true := decide_eq_true h1
      have d2 : decide (c ≤ (n : Int)) = false := decide_eq_false h2
      go_enter Try.func39, Try.ntmps39
      go_wp2
      go_quiet (fail)
      go_wp2
      go_ret
      exact ⟨rfl, _, rfl⟩
  · rw [decide_eq_false h1]
    have d1 : decide (0 ≤ c) = false := decide_eq_false h1
    go_enter Try.func39, Try.ntmps39
    go_wp2
    go_quiet (fail)
    go_wp2
    go_ret
    exact ⟨rfl, _, rfl⟩
theorem over_nil (w : World) : Calls Try.prog 39 #[.pointer none] w fun e w' => e = .returned (.bool false) ∧ ∃ q, w' = w.drewN q := by
  go_enter Try.func39, Try.ntmps39
  go_wp2
  go_quiet (fail)
  go_wp2
  go_ret
  exact ⟨rfl, _, rfl⟩
theorem steps_any (h : Scr w b pa pc L c n) : Calls Try.prog 17 #[.pointer (some ⟨b, 0, none⟩)] w fun e w' => e = .returned (.int .i64 (n : Int)) ∧ w' = w := by
  obtain ⟨⟨c0, c1, c2, c3⟩, _⟩ := h.box.four
  clear h
  go_enter Try.func17, Try.ntmps17
  go_wp2
  go_ret
  exact ⟨rfl, rfl⟩
theorem steps_nil (w : World) : Calls Try.prog 17 #[.pointer none] w fun e w' => e = .returned (.int .i64 0) ∧ w' = w := by
  go_enter Try.func17, Try.ntmps17
  go_wp2
  go_ret
  exact ⟨rfl, rfl⟩
theorem used_any (h : Scr w b pa pc L c n) : Calls Try.prog 18 #[.pointer (some ⟨b, 0, none⟩)] w fun e w' => e = .returned (.int .i64 (min n L.length : Nat)) ∧ ∃ q, w' = w.drewN q := by
  obtain ⟨⟨c0, c1, c2, c3⟩, _⟩ := h.box.four
  clear h
  obtain ⟨m, hm⟩ : ∃ m, m = L.length := ⟨_, rfl⟩
  rw [← hm] at c0 ⊢
  clear hm
  by_cases h : ¬ m < n
  · have d1 : ¬ (m : Int) < (n : Int) := by omega
    have d3 : min (n : Int) (m : Int) = (n : Int) := by omega
    rw [show min n m = n by omega]
    go_enter Try.func18, Try.ntmps18
    go_wp2
    go_quiet (fail)
    go_wp2
    go_ret
    exact ⟨rfl, _, rfl⟩
  · have d1 : (m : Int) < (n : Int) := by omega
    have d2 : m < n := by omega
    have d3 : min (n : Int) (m : Int) = (m : Int) := by omega
    clear h
    rw [show min n m = m by omega]
    go_enter Try.func18, Try.ntmps18
    go_wp2
    go_quiet (fail)
    go_wp2
    go_ret
    exact ⟨rfl, _, rfl⟩
theorem used_nil (w : World) : Calls Try.prog 18 #[.pointer none] w fun e w' => e = .returned (.int .i64 0) ∧ ∃ q, w' = w.drewN q := by
  go_enter Try.func18, Try.ntmps18
  go_wp2
  go_ret
  exact ⟨rfl, 0, rfl⟩
theorem next_any (h : Scr w b pa pc L c n) : Calls Try.prog 42 #[.pointer (some ⟨b, 0, none⟩)] w fun e w' => e = .returned (.int .i64 (L.getD n 0)) ∧ ∃ q, w' = w.drewN q := by
  obtain ⟨⟨c0, c1, c2, c3⟩, _⟩ := h.box.four
  by_cases hlt : n < L.length
  · obtain ⟨b1, o1, rfl, hc⟩ := h.row.at hlt
    obtain ⟨z, hz⟩ : ∃ z, z = L.getD n 0 := ⟨_, rfl⟩
    obtain ⟨m, hm⟩ : ∃ m, m = L.length := ⟨_, rfl⟩
    rw [← hm] at c0 hlt
    rw [← hz] at hc ⊢
    have d1 : (n : Int) < (m : Int) := by omega
    have d2 : decide ((n : Int) < (m : Int)) = true := decide_eq_true d1
    have l1 := h.row.rd.1
    rw [← hm] at l1
    clear h hm hz
    go_enter Try.func42, Try.ntmps42
    go_wp2
    go_quiet (fail)
    go_wp2
    go_quiet (fail)
    go_wp2
    go_ret
    exact ⟨rfl, _, World.drewN_drewN _ _ _⟩
  · have e : L.getD n 0 = 0 := by rw [List.getD_eq_getElem?_getD, List.getElem?_eq_none (by omega)]; rfl
    rw [e]
    obtain ⟨m, hm⟩ : ∃ m, m = L.length := ⟨_, rfl⟩
    rw [← hm] at c0 hlt
    have d1 : ¬ (n : Int) < (m : Int) := by omega
    have d2 : decide ((n : Int) < (m : Int)) = false := decide_eq_false d1
    clear h hm e
    go_enter Try.func42, Try.ntmps42
    go_wp2
    go_quiet (fail)
    go_wp2
    go_ret
    exact ⟨rfl, _, rfl⟩
end
theorem mod_any (x : Int) (m : Nat) (w : World) (hx : (Lit.int .i64 x).wf = true) (hm : 0 < m) (hm2 : m ≤ 1000000) {z : Int} (hz : x % (m : Int) = z) : Calls Try.prog 41 #[.int .i64 x, .int .i64 (m : Int)] w fun e w' => e = .returned (.int .i64 z) ∧ w' = w := by
  have hb := bounds_i64 hx
  obtain ⟨q1, q2⟩ := hb
  have hp := tmod_place x hm
  rw [hz] at hp
  have g0 : ¬ ((m : Int) = 0) := by omega
  have a1 : -(m : Int) < x.tmod (m : Int) ∧ x.tmod (m : Int) < (m : Int) := by
    have h1 := Int.emod_nonneg x (show (m : Int) ≠ 0 by omega)
    have h2 := Int.emod_lt_of_pos x (show (0 : Int) < m by omega)
    rw [Int.tmod_eq_emod]
    split <;> omega
  obtain ⟨a2, a3⟩ := a1
  have g3 : IntKind.i64.wrap (x.tmod (m : Int)) = x.tmod (m : Int) := IntWalk.i64_in _ (by omega)
  by_cases h0 : x.tmod (m : Int) < 0
  · rw [if_pos h0] at hp
    clear hx hz
    go_enter Try.func41, Try.ntmps41
    go_wp2
    go_ret
    rw [← hp]
    exact ⟨rfl, rfl⟩
  · rw [if_neg h0] at hp
    clear hx hz
    go_enter Try.func41, Try.ntmps41
    go_wp2
    go_ret
    rw [← hp]
    exact ⟨rfl, rfl⟩
end Go.Proofs.Ytkjdjmcecjaolaa.Pick

/- The library's contracts, by the shelf, over this program's numbers. -/
namespace Go.Proofs
open Go.Shelf
def Try.lays189_ren : Go.Shelf.Ren := ⟨fun | 189 => 56 | 125 => 69 | 257 => 68 | 128 => 85 | 129 => 86 | 294 => 76 | 295 => 77 | 296 => 78 | 297 => 79 | 298 => 80 | 299 => 81 | 216 => 82 | 300 => 83 | 301 => 84 | 328 => 91 | 329 => 92 | 330 => 93 | 331 => 94 | 332 => 95 | 215 => 96 | 343 => 98 | n => n, fun | 28 => 23 | 3 => 3 | 46 => 116 | 0 => 0 | 51 => 127 | 53 => 129 | 4 => 4 | 183 => 120 | 182 => 119 | 131 => 94 | 5 => 5 | 9 => 9 | 218 => 131 | 222 => 135 | 228 => 141 | 229 => 142 | n => n, fun | n => n⟩
theorem Try.lays189 : Go.Proofs.Lays.n189 Try.prog Try.lays189_ren := {
  mixed := by kernel_rfl
  f125 := Try.func69.trans (congrArg some (by kernel_rfl))
  f128 := Try.func85.trans (congrArg some (by kernel_rfl))
  f129 := Try.func86.trans (congrArg some (by kernel_rfl))
  f189 := Try.func56.trans (congrArg some (by kernel_rfl))
  f215 := Try.func96.trans (congrArg some (by kernel_rfl))
  f216 := Try.func82.trans (congrArg some (by kernel_rfl))
  f257 := Try.func68.trans (congrArg some (by kernel_rfl))
  f294 := Try.func76.trans (congrArg some (by kernel_rfl))
  f295 := Try.func77.trans (congrArg some (by kernel_rfl))
  f296 := Try.func78.trans (congrArg some (by kernel_rfl))
  f297 := Try.func79.trans (congrArg some (by kernel_rfl))
  f298 := Try.func80.trans (congrArg some (by kernel_rfl))
  f299 := Try.func81.trans (congrArg some (by kernel_rfl))
  f300 := Try.func83.trans (congrArg some (by kernel_rfl))
  f301 := Try.func84.trans (congrArg some (by kernel_rfl))
  f328 := Try.func91.trans (congrArg some (by kernel_rfl))
  f329 := Try.func92.trans (congrArg some (by kernel_rfl))
  f330 := Try.func93.trans (congrArg some (by kernel_rfl))
  f331 := Try.func94.trans (congrArg some (by kernel_rfl))
  f332 := Try.func95.trans (congrArg some (by kernel_rfl))
  f343 := Try.func98.trans (congrArg some (by kernel_rfl))
  t0 := Try.underlying0
  a0 := Try.isAgg0
  z0 := Try.sizeOf0
  v0 := Try.zeroValue0
  t3 := Try.underlying3
  a3 := Try.isAgg3
  z3 := Try.sizeOf3
  v3 := Try.zeroValue3
  t4 := Try.underlying4
  a4 := Try.isAgg4
  z4 := Try.sizeOf4
  v4 := Try.zeroValue4
  t5 := Try.underlying5
  a5 := Try.isAgg5
  z5 := Try.sizeOf5
  v5 := Try.zeroValue5
  t9 := Try.underlying9
  a9 := Try.isAgg9
  z9 := Try.sizeOf9
  v9 := Try.zeroValue9
  t28 := Try.underlying23
  a28 := Try.isAgg23
  z28 := Try.sizeOf23
  v28 := Try.zeroValue23
  t46 := Try.underlying116
  a46 := Try.isAgg116
  z46 := Try.sizeOf116
  v46 := Try.zeroValue116
  t51 := Try.underlying127
  a51 := Try.isAgg127
  z51 := Try.sizeOf127
  v51 := Try.zeroValue127
  t53 := Try.underlying129
  a53 := Try.isAgg129
  z53 := Try.sizeOf129
  v53 := Try.zeroValue129
  t131 := Try.underlying94
  a131 := Try.isAgg94
  z131 := Try.sizeOf94
  v131 := Try.zeroValue94
  t182 := Try.underlying119
  a182 := Try.isAgg119
  z182 := Try.sizeOf119
  v182 := Try.zeroValue119
  t183 := Try.underlying120
  a183 := Try.isAgg120
  z183 := Try.sizeOf120
  v183 := Try.zeroValue120
  t218 := Try.underlying131
  a218 := Try.isAgg131
  z218 := Try.sizeOf131
  v218 := Try.zeroValue131
  t222 := Try.underlying135
  a222 := Try.isAgg135
  z222 := Try.sizeOf135
  v222 := Try.zeroValue135
  t228 := Try.underlying141
  a228 := Try.isAgg141
  z228 := Try.sizeOf141
  v228 := Try.zeroValue141
  t229 := Try.underlying142
  a229 := Try.isAgg142
  z229 := Try.sizeOf142
  v229 := Try.zeroValue142 }
open Go.Sort Go.RowKit in
theorem Try.slices_Sort_int (blk off cap : Nat) (zs : List Int) (w : World) (hH : Holds (Value.int .i64) w blk off zs.toArray) (hblk : blk < w.heap.size) (hsz : zs.length < 4611686018427387904) :
    Calls Try.prog 56 #[.slice (some ⟨blk, off, none⟩) zs.length cap] w fun e w' =>
      e = .returned (.tuple #[]) ∧ ∃ n os, w' = grow (putRow (Value.int .i64) (Sort.ahead w n) blk off (zs.mergeSort fun x y => decide (x ≤ y)).toArray) os := Any.slices_Sort_int Try.lays189 blk off cap zs w hH hblk hsz
def Try.laysNm215_ren : Go.Shelf.Ren := ⟨fun | 15 => 23 | n => n, fun | 22 => 23 | 3 => 3 | 4 => 4 | n => n, fun | n => n⟩
theorem Try.laysNm215 : Go.Proofs.Lays2.n15 Try.prog Try.laysNm215_ren := {
  mixed := by kernel_rfl
  f15 := Try.func23.trans (congrArg some (by kernel_rfl))
  t3 := Try.underlying3
  a3 := Try.isAgg3
  z3 := Try.sizeOf3
  v3 := Try.zeroValue3
  t4 := Try.underlying4
  a4 := Try.isAgg4
  z4 := Try.sizeOf4
  v4 := Try.zeroValue4
  t22 := Try.underlying23
  a22 := Try.isAgg23
  z22 := Try.sizeOf23
  v22 := Try.zeroValue23
  i3 := by kernel_rfl }
open Go.RowKit Go.Lib in
theorem Try.slices_Clone_int (b off n c : Nat) (zs : List Int) (w : World) (hz : n ≤ zs.length) (hbig : n * 8 ≤ 140737488355328) (hc : ∀ j, j < zs.length → w.cell? ⟨b, off + j, none⟩ = some (.int .i64 (zs.getD j 0))) :
    Calls Try.prog 23 #[.slice (some ⟨b, off, none⟩) n c] w fun e w' => ∃ v', e = .returned v' ∧ w'.ownsRow w.heap.size 3 1 v' n ((zs.take n).map (Value.int .i64)) ∧ v' ≠ .slice none 0 0 ∧ Below w.heap.size w w' := Any.slices_Clone_int Try.laysNm215 b off n c zs w hz hbig hc
open Go.RowKit Go.Lib in
theorem Try.slices_Clone_int_nil (n c : Nat) (w : World) :
    Calls Try.prog 23 #[.slice none n c] w fun e w' => e = .returned (.slice none 0 0) ∧ w' = w := Any.slices_Clone_int_nil Try.laysNm215 n c w
open Go.RowKit Go.Lib in
theorem Try.slices_Clone_int_zero (a : Addr) (c : Nat) (w : World) :
    Calls Try.prog 23 #[.slice (some a) 0 c] w fun e w' => ∃ v', e = .returned v' ∧ w'.ownsRow w.heap.size 3 1 v' 0 [] ∧ v' ≠ .slice none 0 0 ∧ Below w.heap.size w w' := Any.slices_Clone_int_zero Try.laysNm215 a c w
def Try.laysNm220_ren : Go.Shelf.Ren := ⟨fun | 20 => 57 | n => n, fun | 22 => 23 | 3 => 3 | 4 => 4 | 0 => 0 | n => n, fun | n => n⟩
theorem Try.laysNm220 : Go.Proofs.Lays2.n20 Try.prog Try.laysNm220_ren := {
  mixed := by kernel_rfl
  f20 := Try.func57.trans (congrArg some (by kernel_rfl))
  t0 := Try.underlying0
  a0 := Try.isAgg0
  z0 := Try.sizeOf0
  v0 := Try.zeroValue0
  t3 := Try.underlying3
  a3 := Try.isAgg3
  z3 := Try.sizeOf3
  v3 := Try.zeroValue3
  t4 := Try.underlying4
  a4 := Try.isAgg4
  z4 := Try.sizeOf4
  v4 := Try.zeroValue4
  t22 := Try.underlying23
  a22 := Try.isAgg23
  z22 := Try.sizeOf23
  v22 := Try.zeroValue23
  i3 := by kernel_rfl }
open Go.RowKit Go.Lib Go.Sort in
theorem Try.slices_Compact_int_arr (blk off cap : Nat) (d : Array Int) (w : World) (hH : Holds encI w blk off d) (hsz : d.size ≤ 9223372036854775807) (hcap : d.size ≤ cap) :
    Calls Try.prog 57 #[.slice (some ⟨blk, off, none⟩) d.size cap] w fun e w' => e = .returned (.slice (some ⟨blk, off, none⟩) (compactUpTo d d.size).length cap) ∧ ∃ q, w' = putRow encI (Sort.ahead w q) blk off (compactUpTo d d.size ++ List.replicate (d.size - (compactUpTo d d.size).length) 0).toArray := Any.slices_Compact_int_arr Try.laysNm220 blk off cap d w hH hsz hcap
open Go.RowKit Go.Lib Go.Sort in
theorem Try.slices_Compact_int (blk off cap : Nat) (zs : List Int) (w : World) (hH : Holds (Value.int .i64) w blk off zs.toArray) (hsz : zs.length ≤ 9223372036854775807) (hcap : zs.length ≤ cap) :
    Calls Try.prog 57 #[.slice (some ⟨blk, off, none⟩) zs.length cap] w fun e w' => e = .returned (.slice (some ⟨blk, off, none⟩) (Lib.compact zs).length cap) ∧ ∃ q, w' = putRow (Value.int .i64) (Sort.ahead w q) blk off (Lib.compact zs ++ List.replicate (zs.length - (Lib.compact zs).length) 0).toArray := Any.slices_Compact_int Try.laysNm220 blk off cap zs w hH hsz hcap
open Go.RowKit Go.Lib Go.Sort in
theorem Try.slices_Compact_int_empty (a : Option Addr) (cap : Nat) (w : World) :
    Calls Try.prog 57 #[.slice a 0 cap] w fun e w' => e = .returned (.slice a 0 cap) ∧ w' = w := Any.slices_Compact_int_empty Try.laysNm220 a cap w
def Try.laysNm237_ren : Go.Shelf.Ren := ⟨fun | 37 => 96 | n => n, fun | 3 => 3 | 4 => 4 | n => n, fun | n => n⟩
theorem Try.laysNm237 : Go.Proofs.Lays2.n37 Try.prog Try.laysNm237_ren := {
  mixed := by kernel_rfl
  f37 := Try.func96.trans (congrArg some (by kernel_rfl))
  t3 := Try.underlying3
  a3 := Try.isAgg3
  z3 := Try.sizeOf3
  v3 := Try.zeroValue3
  t4 := Try.underlying4
  a4 := Try.isAgg4
  z4 := Try.sizeOf4
  v4 := Try.zeroValue4 }
open Go.RowKit Go.Lib in
theorem Try.cmp_isNaN_int2 (x : Int) (w : World) :
    Calls Try.prog 96 #[.int .i64 x] w fun e w' => e = .returned (.bool false) ∧ w' = w := Any.cmp_isNaN_int2 Try.laysNm237 x w
def Try.laysNm231_ren : Go.Shelf.Ren := ⟨fun | 31 => 82 | 37 => 96 | n => n, fun | 3 => 3 | 4 => 4 | n => n, fun | n => n⟩
theorem Try.laysNm231 : Go.Proofs.Lays2.n31 Try.prog Try.laysNm231_ren := {
  mixed := by kernel_rfl
  f31 := Try.func82.trans (congrArg some (by kernel_rfl))
  f37 := Try.func96.trans (congrArg some (by kernel_rfl))
  t3 := Try.underlying3
  a3 := Try.isAgg3
  z3 := Try.sizeOf3
  v3 := Try.zeroValue3
  t4 := Try.underlying4
  a4 := Try.isAgg4
  z4 := Try.sizeOf4
  v4 := Try.zeroValue4 }
open Go.RowKit Go.Lib in
theorem Try.cmp_Less_int2 (x y : Int) (w : World) :
    Calls Try.prog 82 #[.int .i64 x, .int .i64 y] w fun e w' => e = .returned (.bool (decide (x < y))) ∧ w' = w := Any.cmp_Less_int2 Try.laysNm231 x y w
open Go.RowKit Go.Sort in
theorem Try.slices_Sort_int_none (p : Option Addr) (cap : Nat) (w : World) :
    Calls Try.prog 56 #[.slice p 0 cap] w fun e w' => e = .returned (.tuple #[]) ∧ w' = w := Any.slices_Sort_int_none Try.lays189 p cap w
end Go.Proofs

/- How lists of numbers stand: the program's Compare and Same, the document's Compare and Has. -/
namespace Go.Proofs.Ytkjdjmcecjaolaa.Sets
open Go.RowKit Go.Proofs.Ytkjdjmcecjaolaa.Dig Go.Proofs.Ytkjdjmcecjaolaa.Mem
set_option linter.unusedVariables false
set_option linter.unusedSimpArgs false

/-- A slice value that reads a list of numbers. -/
structure RowV (w : World) (a : Option Addr) (c : Nat) (l : List Int) : Prop where
  cap : l.length ≤ c
  rd : Rd .i64 w a l.length (fun i => l.getD i 0)
  nil : a = none → c = 0
theorem RowV.keep {w w' : World} {a : Option Addr} {c : Nat} {l : List Int} (h : RowV w a c l) (hb : Below w.heap.size w w') : RowV w' a c l := ⟨h.cap, h.rd.keep hb, h.nil⟩
theorem RowV.at {w : World} {a : Option Addr} {c : Nat} {l : List Int} (h : RowV w a c l) {i : Nat} (hi : i < l.length) : ∃ b off, a = some ⟨b, off, none⟩ ∧ w.cell? ⟨b, off + i, none⟩ = some (.int .i64 (l.getD i 0)) := by
  obtain ⟨b, off, e, hc, _⟩ := h.rd.2 i hi
  exact ⟨b, off, e, hc⟩
theorem drop_at {l : List Int} {i : Nat} (h : i < l.length) : l.drop i = l.getD i 0 :: l.drop (i + 1) := by
  rw [List.drop_eq_getElem_cons h]; simp [List.getD_eq_getElem?_getD, List.getElem?_eq_getElem h]

theorem cmpI_lt {x y : Int} (h : x < y) : cmpI x y = -1 := by simp [cmpI, h]
theorem cmpI_gt {x y : Int} (h : y < x) : cmpI x y = 1 := by simp [cmpI, h, show ¬ x < y by omega]
theorem cmpI_eq {x y : Int} (h : x = y) : cmpI x y = 0 := by simp [cmpI, h]
theorem lexI_cons (x y : Int) (a b : List Int) : lexL ltI (x :: a) (y :: b) = if cmpI x y = 0 then lexL ltI a b else cmpI x y := by
  rw [lexL]
  generalize lexL ltI a b = r
  unfold cmpI ltI
  by_cases h1 : x < y
  · simp [h1]
  · by_cases h2 : y < x
    · simp [h1, h2]
    · simp [h1, h2]
theorem lexI_step {a b : List Int} {i : Nat} (ha : i < a.length) (hb : i < b.length) :
    lexL ltI (a.drop i) (b.drop i) = if cmpI (a.getD i 0) (b.getD i 0) = 0 then lexL ltI (a.drop (i + 1)) (b.drop (i + 1)) else cmpI (a.getD i 0) (b.getD i 0) := by
  rw [drop_at ha, drop_at hb, lexI_cons]
theorem lexI_end {a b : List Int} {i : Nat} (ha : a.length ≤ i) : lexL ltI (a.drop i) (b.drop i) = 0 := by
  rw [List.drop_eq_nil_of_le ha]; simp [lexL]
def LRel2 (a b : List Int) (i : Value) : Prop := ∃ k : Nat, k ≤ a.length ∧ i = .int .i64 (k : Int) ∧ Hid (lexL ltI (a.drop k) (b.drop k) = lexL ltI a b)
/-- The document's Same of two rows that read one list. -/
theorem same_rows (x y : Option Addr) (c d : Nat) (a b : List Int) (w : World) (ha : RowV w x c a) (hb : RowV w y d b) (h : a = b) :
    Calls Try.prog 14 #[.slice x a.length c, .slice y b.length d] w fun e w' => e = .returned (.bool true) ∧ Below w.heap.size w w' := by
  subst h
  exact same_yes x y a.length c d _ w ha.rd hb.rd
/-- The document's Has. -/
theorem rhas_any (x : Option Addr) (c : Nat) (a : List Int) (v : Int) (w : World) (ha : RowV w x c a) :
    Calls Try.prog 37 #[.slice x a.length c, .int .i64 v] w fun e w' => e = .returned (.bool (decide (v ∈ a))) ∧ w' = w := by
  have hlen := ha.rd.le
  have HA := hide ha
  obtain ⟨n, hn⟩ : ∃ n, n = a.length := ⟨_, rfl⟩
  rw [← hn] at hlen ⊢
  have HN : Hid (n = a.length) := hn
  clear hn ha
  go_enter Try.func37, Try.ntmps37
  go_wp2
  go_loopw [5] (fun i wr => (∃ k : Nat, k ≤ n ∧ i = .int .i64 (k : Int) ∧ ∀ j, j < k → a.getD j 0 ≠ v) ∧ wr = w) (fun i _ => n - (intOf i).toNat)
  case atStart => exact ⟨⟨0, by omega, rfl, by omega⟩, rfl⟩
  case round =>
    obtain ⟨⟨k, hk, rfl, hx⟩, rfl⟩ := hrel
    have HX := hide hx
    clear hx
    by_cases hlt : k < n
    · obtain ⟨b1, o1, rfl, hc1⟩ := HA.out.at (show k < a.length by rw [← HN.out]; exact hlt)
      obtain ⟨p, hp⟩ : ∃ p, p = a.getD k 0 := ⟨_, rfl⟩
      rw [← hp] at hc1
      have HP : Hid (p = a.getD k 0) := hp
      clear hp
      by_cases he : p = v
      · have g1 : (p == v) = true := by simp [he]
        have HM : Hid (decide (v ∈ a) = true) := by
          show _ = _
          rw [decide_eq_true_eq, ← he, HP.out, List.getD_eq_getElem?_getD, List.getElem?_eq_getElem (by rw [← HN.out]; exact hlt)]
          exact List.getElem_mem _
        clear he
        go_wp2
        go_ret
        rw [HM.out]
        exact ⟨rfl, rfl⟩
      · have g1 : (p == v) = false := by simpa using he
        have HE : Hid (a.getD k 0 ≠ v) := by rw [← HP.out]; exact he
        clear he
        go_wp2
        go_roundw
        case rel => exact ⟨⟨k + 1, by omega, by go_num, fun j hj => by
          by_cases e : j = k
          · rw [e]; exact HE.out
          · exact HX.out j (by omega)⟩, trivial⟩
        case measure => simp [intOf]; omega
    · have HM : Hid (decide (v ∈ a) = false) := by
        show _ = _
        rw [decide_eq_false_iff_not]
        intro hm
        obtain ⟨j, hj, e⟩ := List.getElem_of_mem hm
        exact HX.out j (by rw [← HN.out] at hj; omega) (by rw [List.getD_eq_getElem?_getD, List.getElem?_eq_getElem hj]; exact e)
      go_wp2
      go_ret
      rw [HM.out]
      exact ⟨rfl, rfl⟩
end Go.Proofs.Ytkjdjmcecjaolaa.Sets

/- Rows of one cell an element: what a block holds, behind the shelf's sort and compact; the encoding may be whatever. -/
namespace Go.Proofs.Ytkjdjmcecjaolaa.Sets
open Go.RowKit Go.Proofs.Ytkjdjmcecjaolaa.Dig Go.Proofs.Ytkjdjmcecjaolaa.Mem Go.Sort
set_option linter.unusedVariables false
set_option linter.unusedSimpArgs false

section
variable {α : Type} [Inhabited α] {enc : α → Value}
theorem is_putRow {w : World} {b q : Nat} {cs : Array Value} {d : Array α} (h : Is w b cs) (hs : cs.size = d.size) : Is (putRow enc (Sort.ahead w q) b 0 d) b (d.map enc) := by
  obtain ⟨T, h⟩ := h
  refine ⟨T, ?_⟩
  have e : putCells enc 0 d cs = d.map enc := by
    apply Array.ext
    · simp [putCells, hs]
    · intro i h1 h2
      have hi : i < d.size := by simpa using h2
      simp [putCells, hi, getElem!_pos]
  simp [putRow, mapBlock, Sort.ahead, Array.getElem?_modify, h, onCells, e]
theorem only_putRow {S : Nat → Prop} {w : World} {b q : Nat} {d : Array α} (hb : S b) : Only S w (putRow enc (Sort.ahead w q) b 0 d) :=
  ⟨rfl, rfl, rfl, by simp [putRow, mapBlock, Sort.ahead], fun k _ hk => by
    simp [putRow, mapBlock, Sort.ahead, Array.getElem?_modify, show b ≠ k from fun e => hk (e ▸ hb)]⟩
theorem is_grow {w : World} {b : Nat} {cs : Array Value} {os : Array Obj} (h : Is w b cs) : Is (grow w os) b cs := by
  have hl := h.lt
  obtain ⟨T, h⟩ := h
  exact ⟨T, by rw [heap_grow_old w os hl]; exact h⟩
theorem only_grow {S : Nat → Prop} {w : World} {os : Array Obj} : Only S w (grow w os) :=
  ⟨rfl, rfl, rfl, by simp, fun k hk _ => heap_grow_old w os hk⟩
theorem holds_is {w : World} {b : Nat} {d : Array α} (h : Is w b (d.map enc)) : Holds enc w b 0 d := fun j hj => by
  refine ⟨h.cell _ ?_, h.frozen _⟩
  simp [hj, getElem!_pos]
end
section
variable {α : Type} {enc : α → Value}
/-- The first k of a row laid, zero values behind. -/
def fillZ (enc : α → Value) (z : Value) (l : List α) (n k : Nat) : Array Value := ((l.take k).map enc ++ List.replicate (n - k) z).toArray
theorem fillZ_size {z : Value} {l : List α} {n k : Nat} (hl : l.length = n) (hk : k ≤ n) : (fillZ enc z l n k).size = n := by simp [fillZ]; omega
theorem fillZ_zero {z : Value} {l : List α} {n : Nat} : fillZ enc z l n 0 = (List.replicate n z).toArray := by simp [fillZ]
theorem fillZ_all {z : Value} {l : List α} {n : Nat} (hl : l.length = n) : fillZ enc z l n n = l.toArray.map enc := by subst hl; simp [fillZ]
theorem fillZ_set {z : Value} {l : List α} {n k : Nat} {x : α} (hl : l.length = n) (hk : k < n) (hx : l[k]? = some x) : (fillZ enc z l n k).setIfInBounds k (enc x) = fillZ enc z l n (k + 1) := by
  unfold fillZ
  obtain ⟨r, hr⟩ : ∃ r, n - k = r + 1 := ⟨n - k - 1, by omega⟩
  have e : n - (k + 1) = r := by omega
  have e2 : ((l.take k).map enc).length = k := by simp; omega
  rw [hr, e, List.setIfInBounds_toArray, List.set_append_right _ _ (by omega), e2, Nat.sub_self, List.replicate_succ (n := r), List.set_cons_zero, List.take_add_one, hx]
  simp
theorem fillZ_get {z : Value} {l : List α} {n k : Nat} (hl : l.length = n) (hk : k < n) : (fillZ enc z l n k)[k]? = some z := by
  unfold fillZ
  have e2 : ((l.take k).map enc).length = k := by simp; omega
  rw [List.getElem?_toArray, List.getElem?_append_right (by omega), e2, Nat.sub_self, List.getElem?_replicate, if_pos (by omega)]
end
theorem compactUpTo_le {α : Type} [Inhabited α] [DecidableEq α] (d : Array α) (m : Nat) : (Lib.compactUpTo d m).length ≤ m := by
  unfold Lib.compactUpTo
  rw [List.length_map]
  exact Nat.le_trans (List.length_filter_le _ _) (by simp)
theorem compact_le {α : Type} [Inhabited α] [DecidableEq α] (zs : List α) : (Lib.compact zs).length ≤ zs.length := compactUpTo_le _ _
theorem madeCells_one (z : Value) (hz : z.cells = #[z]) (n : Nat) : madeCells z.cells n = (List.replicate n z).toArray := by
  rw [hz]
  apply Array.ext
  · simp [madeCells]
  · intro i h1 h2
    simp [madeCells, Nat.mod_one]
end Go.Proofs.Ytkjdjmcecjaolaa.Sets
