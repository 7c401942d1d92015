/- Joined out of the texts PoolRefTakeF, PoolRefTakeL, PoolRefBox, PoolRefSteal, PoolRefPush, in that order. -/
import Derived.Test.YtkjhamcmhijhgaaGreatAll14
/- The document's take: a row's first job. -/
namespace Go.Proofs.YtkjhamcmhijhgaaGreat.PRef
open Go.RowKit Go.Proofs.YtkjhamcmhijhgaaGreat.Dig Go.Proofs.YtkjhamcmhijhgaaGreat.Mem Go.Proofs.YtkjhamcmhijhgaaGreat.Dq Go.Proofs.YtkjhamcmhijhgaaGreat.Thing Go.Proofs.YtkjhamcmhijhgaaGreat.Pick Go.Proofs.YtkjhamcmhijhgaaGreat.Sets Go.Proofs.YtkjhamcmhijhgaaGreat.Pool
set_option linter.unusedVariables false
set_option linter.unusedSimpArgs false

set_option maxRecDepth 20000 in
set_option maxHeartbeats 4000000 in
theorem take_first {A : Nat → Prop} {w : World} {v : RV} {L : List Int} {c : Int} {n : Nat} {s : PS Int} (h : Hid (RPA A w v L c n s)) (hA : ∀ k, A k → k < w.heap.size) {z k : Nat} {κz κ2 : W1 Int} {x : Int} {l : List Int} (hz : s.ks[z]? = some κz) (hl : κz.l = x :: l) (hk : (s.ks.set z { κz with l := l })[k]? = some κ2) (hlen : l.length ≤ 100000) (h64 : s.ks.length ≤ 64) :
    Calls Tryz.prog 62 #[.agg #[.slice v.l.a v.l.n v.l.c, .int .i64 v.c, .int .i64 (v.n : Int), .int .i64 (v.u : Int), .slice v.rows.a v.rows.n v.rows.c, .slice v.held.a v.held.n v.held.c, .slice v.holds.a v.holds.n v.holds.c, .slice v.done.a v.done.n v.done.c, .int .i64 (v.st : Int), .int .i64 (v.nx : Int), .slice v.who.a v.who.n v.who.c], .int .i64 (k : Int), .int .i64 (z : Int), .bool false] w fun e w' => ∃ v', e = .returned (.agg #[.slice v'.l.a v'.l.n v'.l.c, .int .i64 v'.c, .int .i64 (v'.n : Int), .int .i64 (v'.u : Int), .slice v'.rows.a v'.rows.n v'.rows.c, .slice v'.held.a v'.held.n v'.held.c, .slice v'.holds.a v'.holds.n v'.holds.c, .slice v'.done.a v'.done.n v'.done.c, .int .i64 (v'.st : Int), .int .i64 (v'.nx : Int), .slice v'.who.a v'.who.n v'.who.c]) ∧ Hid (RPA A w' v' L c n { s with ks := (s.ks.set z { κz with l := l }).set k { κ2 with x := x, h := true } }) ∧ Below w.heap.size w w' := by
  obtain ⟨ds, hds⟩ : ∃ ds, ds = v.ds := ⟨_, rfl⟩
  obtain ⟨hn, hcr, hrr⟩ := h.out.rp.rows
  rw [← hds] at hcr hrr
  have hzlt : z < s.ks.length := (List.getElem?_eq_some_iff.1 hz).1
  have hz2 : (s.ks.map fun κ => κ.l)[z]? = some (x :: l) := by rw [List.getElem?_map, hz]; exact congrArg some hl
  obtain ⟨⟨da, dn, dc⟩, hd, hdn, hdr⟩ := hrr.get (k := z) hz2
  obtain ⟨ln, hln⟩ : ∃ ln, ln = l.length := ⟨_, rfl⟩
  obtain rfl : dn = ln + 1 := by rw [hln]; exact hdn
  obtain ⟨b, off, e, hc0⟩ := hdr.at (i := 0) (by simp)
  obtain rfl : da = some ⟨b, off, none⟩ := e
  have hbw := lt_of_cell hc0
  obtain ⟨a2, c2, hsl, hrow⟩ := slice_from hdr 1 (by simp)
  have hsl' : ∀ W : World, (Instr.slice 22 (.slice (some ⟨b, off, none⟩) (ln + 1) dc) (some (.int .i64 1)) none none).run Tryz.prog W = .ok (.slice a2 ln c2) W := by
    have e : ln = ((x :: l).drop 1).length := hln
    intro W
    have := hsl W
    rw [← e] at this
    rw [hln]
    rw [hln] at this
    exact this
  have hvn : v.rows.n = (ds.map SL.v).length := by rw [List.length_map, hrr.1, List.length_map]; exact hn
  have HVN := hide hvn
  have HCR := hide hcr
  have HDK : Hid ((ds.map SL.v)[z]? = some (.slice (some ⟨b, off, none⟩) (ln + 1) dc)) := hide (by rw [List.getElem?_map, hd]; rfl)
  have HX : Hid (∀ W, Below w.heap.size w W → W.cell? ⟨b, off, none⟩ = some (.int .i64 x)) := hide (fun W hb => (hb.cell (p := ⟨b, off, none⟩) hbw).trans hc0)
  have HJ : Hid ((Lit.int .i64 x).wf = true) := hdr.wf x (by simp)
  have HDL : Hid ((ds.map SL.v).length ≤ 64) := hide (by omega)
  have HK := hide hk
  have hkn : z < v.rows.n := by omega
  have hki : (z : Int) < v.rows.n := by omega
  have hl0 : (0 : Int) < (ln : Int) + 1 := by omega
  have H64 : Hid ((s.ks.set z { κz with l := l }).length ≤ 64) := hide (by rw [List.length_set]; exact h64)
  have K0 : Hid (Kn w [ownT w.heap.size 22 (.slice (some ⟨w.heap.size + 1 + 1, 0, none⟩) 0 0) 0 [], boxT (w.heap.size + 1) #[.slice none 0 0, .int .i64 0, .int .i64 0, .int .i64 0, .slice none 0 0, .slice none 0 0, .slice none 0 0, .slice none 0 0, .int .i64 0, .int .i64 0, .slice none 0 0], boxT w.heap.size #[.slice v.l.a v.l.n v.l.c, .int .i64 v.c, .int .i64 (v.n : Int), .int .i64 (v.u : Int), .slice v.rows.a v.rows.n v.rows.c, .slice v.held.a v.held.n v.held.c, .slice v.holds.a v.holds.n v.holds.c, .slice v.done.a v.done.n v.done.c, .int .i64 (v.st : Int), .int .i64 (v.nx : Int), .slice v.who.a v.who.n v.who.c]] (((w.alloc (.cells #[.slice v.l.a v.l.n v.l.c, .int .i64 v.c, .int .i64 (v.n : Int), .int .i64 (v.u : Int), .slice v.rows.a v.rows.n v.rows.c, .slice v.held.a v.held.n v.held.c, .slice v.holds.a v.holds.n v.holds.c, .slice v.done.a v.done.n v.done.c, .int .i64 (v.st : Int), .int .i64 (v.nx : Int), .slice v.who.a v.who.n v.who.c] 36)).alloc (.cells #[.slice none 0 0, .int .i64 0, .int .i64 0, .int .i64 0, .slice none 0 0, .slice none 0 0, .slice none 0 0, .slice none 0 0, .int .i64 0, .int .i64 0, .slice none 0 0] 36)).alloc (.cells #[] 22))) :=
    hide (own0 (box0 (box0 (Kn.start w) _ _ rfl) _ _ (by simp)) _ (by simp; omega) (by simp))
  have HFIN : Hid (∀ W g c' cs zs, Kn w [boxT w.heap.size cs, ownT w.heap.size 22 (.slice (some ⟨g, 0, none⟩) v.rows.n c') v.rows.n ((ds.map SL.v).set z (.slice a2 ln c2)), boxT (w.heap.size + 1) zs] W → RPA (fun k => A k ∨ k = w.heap.size + 1) W { v with rows := ⟨some ⟨g, 0, none⟩, v.rows.n, c'⟩, ds := ds.set z ⟨a2, ln, c2⟩ } L c n { s with ks := s.ks.set z { κz with l := l } }) := hide (fun Wa g c' cs zs hK W hOn => by
    have h0 := h.out W (Only.trans' (Only.of_below hK.below) hOn (fun i q => q.elim .inl (fun q => .inr (by omega))))
    have hown : (ownT w.heap.size 22 (.slice (some ⟨g, 0, none⟩) v.rows.n c') v.rows.n ((ds.map SL.v).set z (.slice a2 ln c2))).P W := by
      have hh := hK.swap
      have h1 := hh.has _ (.head _)
      obtain ⟨s1, _⟩ := sep_box (b := w.heap.size + 1) hh (.tail _ (.head _))
      refine Th.keep _ h1.1 hOn (fun k hk q => ?_)
      have h2 := h1.2 k hk
      rcases q with q | q
      · have := hA k q; omega
      · have hk' : g = k := Option.some.inj hk
        exact s1 (hk'.trans q)
    have hrd := h0.rows.2.2
    rw [← hds] at hrd
    have hr2 : RowI W a2 c2 l := hrow W (hrd.2 z _ _ hd hz2).2
    refine ⟨h0.l, h0.scr, ⟨?_, ?_, ?_⟩, ⟨?_, ?_⟩, ⟨?_, ?_⟩, h0.done, h0.num, h0.who⟩
    · show v.rows.n = (s.ks.set z _).length
      rw [List.length_set]; exact hn
    · show CellsR W _ _ ((ds.set z ⟨a2, ln, c2⟩).map SL.v)
      rw [List.map_set]
      exact CellsR.of_own hown
    · show ReadR W (ds.set z ⟨a2, ln, c2⟩) ((s.ks.set z { κz with l := l }).map fun κ => κ.l)
      rw [List.map_set]
      exact hrd.set (d := ⟨a2, ln, c2⟩) hln hr2 z
    · show v.held.n = (s.ks.set z _).length
      rw [List.length_set]; exact h0.held.1
    · show RowI W v.held.a v.held.c ((s.ks.set z { κz with l := l }).map fun κ => κ.x)
      rw [map_keep (κ' := { κz with l := l }) hz (fun κ => κ.x) rfl]; exact h0.held.2
    · show v.holds.n = (s.ks.set z _).length
      rw [List.length_set]; exact h0.holds.1
    · show CellsR W v.holds.a v.holds.c ((s.ks.set z { κz with l := l }).map fun κ => Value.bool κ.h)
      rw [map_keep (κ' := { κz with l := l }) hz (fun κ => Value.bool κ.h) rfl]; exact h0.holds.2)
  have HAW := hide hA
  clear h hA hcr hrr hds hd hdn hdr hn hvn hln hk hzlt hz2 hz hl hsl hrow hc0
  go_enter Tryz.func62, Tryz.ntmps62
  go_wp2_with (first
    | (at_builtin; go_must (refine app_cells 33 22 Tryz.underlying33 Tryz.infoPInts rfl (by decide) rfl _ _ rfl w.heap.size (.slice (some ⟨w.heap.size + 1 + 1, 0, none⟩) 0 0) 0 [] rfl (Kn.hd K0.out) v.rows.a v.rows.c v.rows.n (ds.map SL.v) rfl HVN.out (HCR.out.keep K0.out.below) (fun u hu => by obtain ⟨n, _, rfl⟩ := List.mem_map.1 hu; rfl) (by have := HDL.out; omega) K0.out.below.size ?_; intro v7 w7 hown7 hg7 hat7; rw [Nat.zero_add, List.nil_append, ← HVN.out] at hown7; obtain ⟨g7, c7, rfl⟩ := own_some hown7 (Nat.lt_of_le_of_lt (Nat.zero_le _) hkn); have K7 := hide (grow1 K0.out hown7 hg7 hat7); have c7z := own_cell (Kn.hd K7.out) HDK.out; have f7z := World.ownsRow.frozenAt (Kn.hd K7.out) z; have x7 := HX.out _ K7.out.below; obtain ⟨n1, n2⟩ := sep_box (b := w.heap.size) K7.out (.tail _ (.head _)); obtain ⟨n3, n4⟩ := sep_box (b := w.heap.size + 1) K7.out (.head _); obtain ⟨⟨p0, p1, p2, p3, p4, p5, p6, p7, p8, p9, p10⟩, pf⟩ := (DqI.Kn.hd3 K7.out).eleven; have pf4 := pf 4; have K8 := hide (putBox ((ownPut K7.out z (.slice a2 ln c2)).perm (List.perm_middle (l₁ := [_, _]))) 4 (.slice (some ⟨g7, 0, none⟩) v.rows.n c7) rfl); clear pf hown7 hg7 hat7))
    | (go_at_call 61; go_must (refine (hold_any (A := fun k => A k ∨ k = w.heap.size + 1) (hide (HFIN.out _ _ _ _ _ K8.out)) (fun k q => q.elim (fun q => Nat.lt_of_lt_of_le (HAW.out k q) K8.out.below.size) (fun q => by rw [q]; exact Is.lt (DqI.Kn.hd3 K8.out))) HK.out HJ.out true H64.out).mono ?_; rintro e w9 ⟨v9, rfl, hr9, hb9⟩; have K9 := hide (K8.out.keep hb9); obtain ⟨⟨q0, q1, q2, q3, q4, q5, q6, q7, q8, q9, q10⟩, qf⟩ := (DqI.Kn.hd3 K9.out).eleven; have f0 := qf 0; have f1 := qf 1; have f2 := qf 2; have f3 := qf 3; have f4 := qf 4; have f5 := qf 5; have f6 := qf 6; have f7 := qf 7; have f8 := qf 8; have f9 := qf 9; have f10 := qf 10; clear qf hb9)))
  have K13 := hide (put11 (K9.out.perm (List.perm_middle (l₁ := [_, _]))) (.slice v9.l.a v9.l.n v9.l.c) (.int .i64 v9.c) (.int .i64 (v9.n : Int)) (.int .i64 (v9.u : Int)) (.slice v9.rows.a v9.rows.n v9.rows.c) (.slice v9.held.a v9.held.n v9.held.c) (.slice v9.holds.a v9.holds.n v9.holds.c) (.slice v9.done.a v9.done.n v9.done.c) (.int .i64 (v9.st : Int)) (.int .i64 (v9.nx : Int)) (.slice v9.who.a v9.who.n v9.who.c))
  obtain ⟨⟨r0, r1, r2, r3, r4, r5, r6, r7, r8, r9, r10⟩, _⟩ := (Kn.hd K13.out).eleven
  refine bodyPost_ret (v := .agg #[.slice v9.l.a v9.l.n v9.l.c, .int .i64 v9.c, .int .i64 (v9.n : Int), .int .i64 (v9.u : Int), .slice v9.rows.a v9.rows.n v9.rows.c, .slice v9.held.a v9.held.n v9.held.c, .slice v9.holds.a v9.holds.n v9.holds.c, .slice v9.done.a v9.done.n v9.done.c, .int .i64 (v9.st : Int), .int .i64 (v9.nx : Int), .slice v9.who.a v9.who.n v9.who.c]) (by simp [results, Tryz.results62, go_sem, r0, r1, r2, r3, r4, r5, r6, r7, r8, r9, r10]) rfl ?_
  exact ⟨v9, rfl, hide ((hr9.out.only ((only11 w9 _ _ _ _ _ _ _ _ _ _ _).mono (fun k q => .inr q))).less (fun k q => .inl q)), K13.out.below⟩
end Go.Proofs.YtkjhamcmhijhgaaGreat.PRef

/- The document's take: a row's last job. -/
namespace Go.Proofs.YtkjhamcmhijhgaaGreat.PRef
open Go.RowKit Go.Proofs.YtkjhamcmhijhgaaGreat.Dig Go.Proofs.YtkjhamcmhijhgaaGreat.Mem Go.Proofs.YtkjhamcmhijhgaaGreat.Dq Go.Proofs.YtkjhamcmhijhgaaGreat.Thing Go.Proofs.YtkjhamcmhijhgaaGreat.Pick Go.Proofs.YtkjhamcmhijhgaaGreat.Sets Go.Proofs.YtkjhamcmhijhgaaGreat.Pool
set_option linter.unusedVariables false
set_option linter.unusedSimpArgs false

set_option maxRecDepth 20000 in
set_option maxHeartbeats 4000000 in
theorem take_last {A : Nat → Prop} {w : World} {v : RV} {L : List Int} {c : Int} {n : Nat} {s : PS Int} (h : Hid (RPA A w v L c n s)) (hA : ∀ k, A k → k < w.heap.size) {z k : Nat} {κz κ2 : W1 Int} {x : Int} {l : List Int} (hz : s.ks[z]? = some κz) (hl : κz.l = l ++ [x]) (hk : (s.ks.set z { κz with l := l })[k]? = some κ2) (hlen : l.length ≤ 100000) (h64 : s.ks.length ≤ 64) :
    Calls Tryz.prog 62 #[.agg #[.slice v.l.a v.l.n v.l.c, .int .i64 v.c, .int .i64 (v.n : Int), .int .i64 (v.u : Int), .slice v.rows.a v.rows.n v.rows.c, .slice v.held.a v.held.n v.held.c, .slice v.holds.a v.holds.n v.holds.c, .slice v.done.a v.done.n v.done.c, .int .i64 (v.st : Int), .int .i64 (v.nx : Int), .slice v.who.a v.who.n v.who.c], .int .i64 (k : Int), .int .i64 (z : Int), .bool true] w fun e w' => ∃ v', e = .returned (.agg #[.slice v'.l.a v'.l.n v'.l.c, .int .i64 v'.c, .int .i64 (v'.n : Int), .int .i64 (v'.u : Int), .slice v'.rows.a v'.rows.n v'.rows.c, .slice v'.held.a v'.held.n v'.held.c, .slice v'.holds.a v'.holds.n v'.holds.c, .slice v'.done.a v'.done.n v'.done.c, .int .i64 (v'.st : Int), .int .i64 (v'.nx : Int), .slice v'.who.a v'.who.n v'.who.c]) ∧ Hid (RPA A w' v' L c n { s with ks := (s.ks.set z { κz with l := l }).set k { κ2 with x := x, h := true } }) ∧ Below w.heap.size w w' := by
  obtain ⟨ds, hds⟩ : ∃ ds, ds = v.ds := ⟨_, rfl⟩
  obtain ⟨hn, hcr, hrr⟩ := h.out.rp.rows
  rw [← hds] at hcr hrr
  have hzlt : z < s.ks.length := (List.getElem?_eq_some_iff.1 hz).1
  have hz2 : (s.ks.map fun κ => κ.l)[z]? = some (l ++ [x]) := by rw [List.getElem?_map, hz]; exact congrArg some hl
  obtain ⟨⟨da, dn, dc⟩, hd, hdn, hdr⟩ := hrr.get (k := z) hz2
  obtain ⟨ln, hln⟩ : ∃ ln, ln = l.length := ⟨_, rfl⟩
  obtain rfl : dn = ln + 1 := by have q : dn = (l ++ [x]).length := hdn; rw [hln, q]; simp
  obtain ⟨b, off, e, hc0⟩ := hdr.at (i := 0) (by simp)
  obtain rfl : da = some ⟨b, off, none⟩ := e
  have hbw : b < w.heap.size := lt_of_cell hc0
  obtain ⟨y, hy⟩ : ∃ y, y = (l ++ [x]).getD 0 0 := ⟨_, rfl⟩
  rw [← hy] at hc0
  obtain ⟨b', off', e, hc1⟩ := hdr.at (i := ln) (by rw [hln]; simp)
  cases e
  have hxe : (l ++ [x]).getD ln 0 = x := by rw [hln, List.getD_eq_getElem?_getD, List.getElem?_append_right (Nat.le_refl _), Nat.sub_self]; rfl
  rw [hxe] at hc1
  have hcap : ln ≤ dc := by have := hdr.cap; rw [List.length_append] at this; simp at this; omega
  obtain ⟨a2, c2, hsl, hrow⟩ := slice_from hdr 1 (by simp)
  have hsl' : ∀ W : World, (Instr.slice 22 (.slice (some ⟨b, off, none⟩) (ln + 1) dc) (some (.int .i64 1)) none none).run Tryz.prog W = .ok (.slice a2 ln c2) W := by
    have e : ln = ((l ++ [x]).drop 1).length := by rw [List.length_drop, hln]; simp
    have e2 : (l ++ [x]).length = ln + 1 := by rw [hln]; simp
    intro W
    have := hsl W
    rw [← e, e2] at this
    exact this
  have hvn : v.rows.n = (ds.map SL.v).length := by rw [List.length_map, hrr.1, List.length_map]; exact hn
  have HVN := hide hvn
  have HCR := hide hcr
  have HDK : Hid ((ds.map SL.v)[z]? = some (.slice (some ⟨b, off, none⟩) (ln + 1) dc)) := hide (by rw [List.getElem?_map, hd]; rfl)
  have HX : Hid (∀ W, Below w.heap.size w W → W.cell? ⟨b, off, none⟩ = some (.int .i64 y) ∧ W.cell? ⟨b, off + ln, none⟩ = some (.int .i64 x)) := hide (fun W hb => ⟨(hb.cell (p := ⟨b, off, none⟩) hbw).trans hc0, (hb.cell (p := ⟨b, off + ln, none⟩) hbw).trans hc1⟩)
  have HJ : Hid ((Lit.int .i64 x).wf = true) := hdr.wf x (by simp)
  have HDL : Hid ((ds.map SL.v).length ≤ 64) := hide (by omega)
  have HK := hide hk
  have hkn : z < v.rows.n := by omega
  have hki : (z : Int) < v.rows.n := by omega
  have hl0 : (0 : Int) < (ln : Int) + 1 := by omega
  have hlb : ln ≤ 100000 := by omega
  have hll : (ln : Int) < (ln : Int) + 1 := by omega
  have H64 : Hid ((s.ks.set z { κz with l := l }).length ≤ 64) := hide (by rw [List.length_set]; exact h64)
  have K0 : Hid (Kn w [ownT w.heap.size 22 (.slice (some ⟨w.heap.size + 1 + 1, 0, none⟩) 0 0) 0 [], boxT (w.heap.size + 1) #[.slice none 0 0, .int .i64 0, .int .i64 0, .int .i64 0, .slice none 0 0, .slice none 0 0, .slice none 0 0, .slice none 0 0, .int .i64 0, .int .i64 0, .slice none 0 0], boxT w.heap.size #[.slice v.l.a v.l.n v.l.c, .int .i64 v.c, .int .i64 (v.n : Int), .int .i64 (v.u : Int), .slice v.rows.a v.rows.n v.rows.c, .slice v.held.a v.held.n v.held.c, .slice v.holds.a v.holds.n v.holds.c, .slice v.done.a v.done.n v.done.c, .int .i64 (v.st : Int), .int .i64 (v.nx : Int), .slice v.who.a v.who.n v.who.c]] (((w.alloc (.cells #[.slice v.l.a v.l.n v.l.c, .int .i64 v.c, .int .i64 (v.n : Int), .int .i64 (v.u : Int), .slice v.rows.a v.rows.n v.rows.c, .slice v.held.a v.held.n v.held.c, .slice v.holds.a v.holds.n v.holds.c, .slice v.done.a v.done.n v.done.c, .int .i64 (v.st : Int), .int .i64 (v.nx : Int), .slice v.who.a v.who.n v.who.c] 36)).alloc (.cells #[.slice none 0 0, .int .i64 0, .int .i64 0, .int .i64 0, .slice none 0 0, .slice none 0 0, .slice none 0 0, .slice none 0 0, .int .i64 0, .int .i64 0, .slice none 0 0] 36)).alloc (.cells #[] 22))) :=
    hide (own0 (box0 (box0 (Kn.start w) _ _ rfl) _ _ (by simp)) _ (by simp; omega) (by simp))
  have HFIN : Hid (∀ W g c' cs zs, Kn w [boxT w.heap.size cs, ownT w.heap.size 22 (.slice (some ⟨g, 0, none⟩) v.rows.n c') v.rows.n (((ds.map SL.v).set z (.slice a2 ln c2)).set z (.slice (some ⟨b, off, none⟩) ln dc)), boxT (w.heap.size + 1) zs] W → RPA (fun k => A k ∨ k = w.heap.size + 1) W { v with rows := ⟨some ⟨g, 0, none⟩, v.rows.n, c'⟩, ds := ds.set z ⟨some ⟨b, off, none⟩, ln, dc⟩ } L c n { s with ks := s.ks.set z { κz with l := l } }) := hide (fun Wa g c' cs zs hK W hOn => by
    have h0 := h.out W (Only.trans' (Only.of_below hK.below) hOn (fun i q => q.elim .inl (fun q => .inr (by omega))))
    have hown : (ownT w.heap.size 22 (.slice (some ⟨g, 0, none⟩) v.rows.n c') v.rows.n ((ds.map SL.v).set z (.slice (some ⟨b, off, none⟩) ln dc))).P W := by
      rw [List.set_set] at hK
      have hh := hK.swap
      have h1 := hh.has _ (.head _)
      obtain ⟨s1, _⟩ := sep_box (b := w.heap.size + 1) hh (.tail _ (.head _))
      refine Th.keep _ h1.1 hOn (fun k hk q => ?_)
      have h2 := h1.2 k hk
      rcases q with q | q
      · have := hA k q; omega
      · have hk' : g = k := Option.some.inj hk
        exact s1 (hk'.trans q)
    have hrd := h0.rows.2.2
    rw [← hds] at hrd
    have hr2 : RowI W (some ⟨b, off, none⟩) dc l := by
      have := rowi_take (hrd.2 z _ _ hd hz2).2 ln
      rw [hln, List.take_left' rfl] at this
      exact this
    refine ⟨h0.l, h0.scr, ⟨?_, ?_, ?_⟩, ⟨?_, ?_⟩, ⟨?_, ?_⟩, h0.done, h0.num, h0.who⟩
    · show v.rows.n = (s.ks.set z _).length
      rw [List.length_set]; exact hn
    · show CellsR W _ _ ((ds.set z ⟨some ⟨b, off, none⟩, ln, dc⟩).map SL.v)
      rw [List.map_set]
      exact CellsR.of_own hown
    · show ReadR W (ds.set z ⟨some ⟨b, off, none⟩, ln, dc⟩) ((s.ks.set z { κz with l := l }).map fun κ => κ.l)
      rw [List.map_set]
      exact hrd.set (d := ⟨some ⟨b, off, none⟩, ln, dc⟩) hln hr2 z
    · show v.held.n = (s.ks.set z _).length
      rw [List.length_set]; exact h0.held.1
    · show RowI W v.held.a v.held.c ((s.ks.set z { κz with l := l }).map fun κ => κ.x)
      rw [map_keep (κ' := { κz with l := l }) hz (fun κ => κ.x) rfl]; exact h0.held.2
    · show v.holds.n = (s.ks.set z _).length
      rw [List.length_set]; exact h0.holds.1
    · show CellsR W v.holds.a v.holds.c ((s.ks.set z { κz with l := l }).map fun κ => Value.bool κ.h)
      rw [map_keep (κ' := { κz with l := l }) hz (fun κ => Value.bool κ.h) rfl]; exact h0.holds.2)
  have HAW := hide hA
  clear h hA hcr hrr hds hd hdn hdr hn hvn hln hk hzlt hz2 hz hl hsl hrow hc0 hc1 hxe hy
  go_enter Tryz.func62, Tryz.ntmps62
  go_wp2_with (first
    | (at_builtin; go_must (refine app_cells 33 22 Tryz.underlying33 Tryz.infoPInts rfl (by decide) rfl _ _ rfl w.heap.size (.slice (some ⟨w.heap.size + 1 + 1, 0, none⟩) 0 0) 0 [] rfl (Kn.hd K0.out) v.rows.a v.rows.c v.rows.n (ds.map SL.v) rfl HVN.out (HCR.out.keep K0.out.below) (fun u hu => by obtain ⟨n, _, rfl⟩ := List.mem_map.1 hu; rfl) (by have := HDL.out; omega) K0.out.below.size ?_; intro v7 w7 hown7 hg7 hat7; rw [Nat.zero_add, List.nil_append, ← HVN.out] at hown7; obtain ⟨g7, c7, rfl⟩ := own_some hown7 (Nat.lt_of_le_of_lt (Nat.zero_le _) hkn); have K7 := hide (grow1 K0.out hown7 hg7 hat7); have c7z := own_cell (Kn.hd K7.out) HDK.out; have f7z := World.ownsRow.frozenAt (Kn.hd K7.out) z; obtain ⟨x7, x8⟩ := HX.out _ K7.out.below; have hg7w : w.heap.size ≤ g7 := (K7.out.has _ (.head _)).2 g7 rfl; have n5 : ¬ g7 = b := (by omega); have n6 : ¬ b = g7 := (by omega); clear hg7w; obtain ⟨n1, n2⟩ := sep_box (b := w.heap.size) K7.out (.tail _ (.head _)); obtain ⟨n3, n4⟩ := sep_box (b := w.heap.size + 1) K7.out (.head _); obtain ⟨⟨p0, p1, p2, p3, p4, p5, p6, p7, p8, p9, p10⟩, pf⟩ := (DqI.Kn.hd3 K7.out).eleven; have pf4 := pf 4; have K8 := hide (putBox ((ownPut (ownPut K7.out z (.slice a2 ln c2)) z (.slice (some ⟨b, off, none⟩) ln dc)).perm (List.perm_middle (l₁ := [_, _]))) 4 (.slice (some ⟨g7, 0, none⟩) v.rows.n c7) rfl); clear pf hown7 hg7 hat7))
    | (go_at_call 61; go_must (refine (hold_any (A := fun k => A k ∨ k = w.heap.size + 1) (hide (HFIN.out _ _ _ _ _ K8.out)) (fun k q => q.elim (fun q => Nat.lt_of_lt_of_le (HAW.out k q) K8.out.below.size) (fun q => by rw [q]; exact Is.lt (DqI.Kn.hd3 K8.out))) HK.out HJ.out true H64.out).mono ?_; rintro e w9 ⟨v9, rfl, hr9, hb9⟩; have K9 := hide (K8.out.keep hb9); obtain ⟨⟨q0, q1, q2, q3, q4, q5, q6, q7, q8, q9, q10⟩, qf⟩ := (DqI.Kn.hd3 K9.out).eleven; have f0 := qf 0; have f1 := qf 1; have f2 := qf 2; have f3 := qf 3; have f4 := qf 4; have f5 := qf 5; have f6 := qf 6; have f7 := qf 7; have f8 := qf 8; have f9 := qf 9; have f10 := qf 10; clear qf hb9)))
  have K13 := hide (put11 (K9.out.perm (List.perm_middle (l₁ := [_, _]))) (.slice v9.l.a v9.l.n v9.l.c) (.int .i64 v9.c) (.int .i64 (v9.n : Int)) (.int .i64 (v9.u : Int)) (.slice v9.rows.a v9.rows.n v9.rows.c) (.slice v9.held.a v9.held.n v9.held.c) (.slice v9.holds.a v9.holds.n v9.holds.c) (.slice v9.done.a v9.done.n v9.done.c) (.int .i64 (v9.st : Int)) (.int .i64 (v9.nx : Int)) (.slice v9.who.a v9.who.n v9.who.c))
  obtain ⟨⟨r0, r1, r2, r3, r4, r5, r6, r7, r8, r9, r10⟩, _⟩ := (Kn.hd K13.out).eleven
  refine bodyPost_ret (v := .agg #[.slice v9.l.a v9.l.n v9.l.c, .int .i64 v9.c, .int .i64 (v9.n : Int), .int .i64 (v9.u : Int), .slice v9.rows.a v9.rows.n v9.rows.c, .slice v9.held.a v9.held.n v9.held.c, .slice v9.holds.a v9.holds.n v9.holds.c, .slice v9.done.a v9.done.n v9.done.c, .int .i64 (v9.st : Int), .int .i64 (v9.nx : Int), .slice v9.who.a v9.who.n v9.who.c]) (by simp [results, Tryz.results62, go_sem, r0, r1, r2, r3, r4, r5, r6, r7, r8, r9, r10]) rfl ?_
  exact ⟨v9, rfl, hide ((hr9.out.only ((only11 w9 _ _ _ _ _ _ _ _ _ _ _).mono (fun k q => .inr q))).less (fun k q => .inl q)), K13.out.below⟩
end Go.Proofs.YtkjhamcmhijhgaaGreat.PRef

/- A function of the document's pool: its own box with the pool, and the box of its answer. -/
namespace Go.Proofs.YtkjhamcmhijhgaaGreat.PRef
open Go.RowKit Go.Proofs.YtkjhamcmhijhgaaGreat.Dig Go.Proofs.YtkjhamcmhijhgaaGreat.Mem Go.Proofs.YtkjhamcmhijhgaaGreat.Dq Go.Proofs.YtkjhamcmhijhgaaGreat.Thing Go.Proofs.YtkjhamcmhijhgaaGreat.Pick Go.Proofs.YtkjhamcmhijhgaaGreat.Sets Go.Proofs.YtkjhamcmhijhgaaGreat.Pool
set_option linter.unusedVariables false
set_option linter.unusedSimpArgs false

def PA (A : Nat → Prop) (bp br : Nat) (k : Nat) : Prop := A k ∨ k = bp ∨ k = br
structure PB (A : Nat → Prop) (w : World) (bp br : Nat) (zs : Array Value) (ts : List Th) (v : RV) (L : List Int) (c : Int) (n : Nat) (s : PS Int) (W : World) : Prop where
  kn : Kn w (boxT bp #[.slice v.l.a v.l.n v.l.c, .int .i64 v.c, .int .i64 (v.n : Int), .int .i64 (v.u : Int), .slice v.rows.a v.rows.n v.rows.c, .slice v.held.a v.held.n v.held.c, .slice v.holds.a v.holds.n v.holds.c, .slice v.done.a v.done.n v.done.c, .int .i64 (v.st : Int), .int .i64 (v.nx : Int), .slice v.who.a v.who.n v.who.c] :: boxT br zs :: ts) W
  rp : RPA (PA A bp br) W v L c n s
section
variable {A : Nat → Prop} {w W w' : World} {bp br : Nat} {zs : Array Value} {ts : List Th} {v v' : RV} {L : List Int} {c : Int} {n n' : Nat} {s s' : PS Int}
theorem RP.nx (h : RP w v L c n s) (m : Nat) : RP w { v with nx := m } L c n { s with nx := m } := ⟨h.l, h.scr, h.rows, h.held, h.holds, h.done, ⟨h.num.1, rfl⟩, h.who⟩
theorem RP.st (h : RP w v L c n s) (m : Nat) : RP w { v with st := m } L c n { s with st := m } := ⟨h.l, h.scr, h.rows, h.held, h.holds, h.done, ⟨rfl, h.num.2⟩, h.who⟩
theorem RP.who' (h : RP w v L c n s) {a : Option Addr} {m cp : Nat} {l : List Int} (hm : m = l.length) (hr : RowI w a cp l) : RP w { v with who := ⟨a, m, cp⟩ } L c n { s with who := l } := ⟨h.l, h.scr, h.rows, h.held, h.holds, h.done, h.num, ⟨hm, hr⟩⟩
theorem RP.done' (h : RP w v L c n s) {a : Option Addr} {m cp : Nat} {l : List Int} (hm : m = l.length) (hr : RowI w a cp l) : RP w { v with done := ⟨a, m, cp⟩ } L c n { s with dn := l } := ⟨h.l, h.scr, h.rows, h.held, h.holds, ⟨hm, hr⟩, h.num, h.who⟩
theorem RP.scr' (h : RP w v L c n s) {m u : Nat} (hu : u = min m L.length) : RP w { v with n := m, u := u } L c m s := ⟨h.l, ⟨h.scr.1, rfl, hu⟩, h.rows, h.held, h.holds, h.done, h.num, h.who⟩
theorem PB.start (h : RPA A w v L c n s) (hA : ∀ k, A k → k < w.heap.size) (zs : Array Value) {br : Nat} (hbr : br = w.heap.size + 1) : PB A w w.heap.size br zs [] v L c n s ((w.alloc (.cells #[.slice v.l.a v.l.n v.l.c, .int .i64 v.c, .int .i64 (v.n : Int), .int .i64 (v.u : Int), .slice v.rows.a v.rows.n v.rows.c, .slice v.held.a v.held.n v.held.c, .slice v.holds.a v.holds.n v.holds.c, .slice v.done.a v.done.n v.done.c, .int .i64 (v.st : Int), .int .i64 (v.nx : Int), .slice v.who.a v.who.n v.who.c] 36)).alloc (.cells zs 36)) := by
  subst hbr
  have hK : Kn w [boxT w.heap.size #[.slice v.l.a v.l.n v.l.c, .int .i64 v.c, .int .i64 (v.n : Int), .int .i64 (v.u : Int), .slice v.rows.a v.rows.n v.rows.c, .slice v.held.a v.held.n v.held.c, .slice v.holds.a v.holds.n v.holds.c, .slice v.done.a v.done.n v.done.c, .int .i64 (v.st : Int), .int .i64 (v.nx : Int), .slice v.who.a v.who.n v.who.c], boxT (w.heap.size + 1) zs] ((w.alloc (.cells #[.slice v.l.a v.l.n v.l.c, .int .i64 v.c, .int .i64 (v.n : Int), .int .i64 (v.u : Int), .slice v.rows.a v.rows.n v.rows.c, .slice v.held.a v.held.n v.held.c, .slice v.holds.a v.holds.n v.holds.c, .slice v.done.a v.done.n v.done.c, .int .i64 (v.st : Int), .int .i64 (v.nx : Int), .slice v.who.a v.who.n v.who.c] 36)).alloc (.cells zs 36)) := (box0 (box0 (Kn.start w) _ _ rfl) _ _ (by simp)).swap
  exact ⟨hK, fun W2 hOn => h W2 (Only.trans' (Only.of_below hK.below) hOn (fun i q => q.elim .inl (fun q => .inr (by omega))))⟩
theorem PB.lt (h : PB A w bp br zs ts v L c n s W) (hA : ∀ k, A k → k < w.heap.size) : ∀ k, PA A bp br k → k < W.heap.size := fun k q => by
  rcases q with q | rfl | rfl
  · exact Nat.lt_of_lt_of_le (hA k q) h.kn.below.size
  · exact Is.lt h.kn.hd
  · exact Is.lt (DqI.Kn.hd2 h.kn)
theorem PB.keep (h : PB A w bp br zs ts v L c n s W) (hb : Below W.heap.size W w') : PB A w bp br zs ts v L c n s w' := ⟨h.kn.keep hb, h.rp.keep hb⟩
theorem PB.more {t : Th} (h : PB A w bp br zs [] v L c n s W) (hb : Below W.heap.size W w') (hp : t.P w') (hf : ∀ k, t.F k → W.heap.size ≤ k) : PB A w bp br zs [t] v L c n s w' :=
  ⟨(h.kn.more hb hp hf).perm (List.perm_middle (l₁ := [_, _])).symm, h.rp.keep hb⟩
/-- A callee has answered, and its answer is laid into the box. -/
theorem PB.call (h : PB A w bp br zs ts v L c n s W) (hr : RPA (PA A bp br) w' v' L c n' s') (hb : Below W.heap.size W w') : PB A w bp br zs ts v' L c n' s' (((((((((((w'.setCell ⟨bp, 0, none⟩ (.slice v'.l.a v'.l.n v'.l.c)).setCell ⟨bp, 1, none⟩ (.int .i64 v'.c)).setCell ⟨bp, 2, none⟩ (.int .i64 (v'.n : Int))).setCell ⟨bp, 3, none⟩ (.int .i64 (v'.u : Int))).setCell ⟨bp, 4, none⟩ (.slice v'.rows.a v'.rows.n v'.rows.c)).setCell ⟨bp, 5, none⟩ (.slice v'.held.a v'.held.n v'.held.c)).setCell ⟨bp, 6, none⟩ (.slice v'.holds.a v'.holds.n v'.holds.c)).setCell ⟨bp, 7, none⟩ (.slice v'.done.a v'.done.n v'.done.c)).setCell ⟨bp, 8, none⟩ (.int .i64 (v'.st : Int))).setCell ⟨bp, 9, none⟩ (.int .i64 (v'.nx : Int))).setCell ⟨bp, 10, none⟩ (.slice v'.who.a v'.who.n v'.who.c)) :=
  ⟨put11 (h.kn.keep hb) _ _ _ _ _ _ _ _ _ _ _, hr.only ((only11 w' _ _ _ _ _ _ _ _ _ _ _).mono (fun k q => .inr (.inl q)))⟩
/-- The pool is laid into the answer's box. -/
theorem PB.ret {u0 u1 u2 u3 u4 u5 u6 u7 u8 u9 u10 : Value} (h : PB A w bp br #[u0, u1, u2, u3, u4, u5, u6, u7, u8, u9, u10] ts v L c n s W) (hr : RPA (PA A bp br) w' v' L c n' s') (hb : Below W.heap.size W w') : Kn w (boxT br #[.slice v'.l.a v'.l.n v'.l.c, .int .i64 v'.c, .int .i64 (v'.n : Int), .int .i64 (v'.u : Int), .slice v'.rows.a v'.rows.n v'.rows.c, .slice v'.held.a v'.held.n v'.held.c, .slice v'.holds.a v'.holds.n v'.holds.c, .slice v'.done.a v'.done.n v'.done.c, .int .i64 (v'.st : Int), .int .i64 (v'.nx : Int), .slice v'.who.a v'.who.n v'.who.c] :: boxT bp #[.slice v.l.a v.l.n v.l.c, .int .i64 v.c, .int .i64 (v.n : Int), .int .i64 (v.u : Int), .slice v.rows.a v.rows.n v.rows.c, .slice v.held.a v.held.n v.held.c, .slice v.holds.a v.holds.n v.holds.c, .slice v.done.a v.done.n v.done.c, .int .i64 (v.st : Int), .int .i64 (v.nx : Int), .slice v.who.a v.who.n v.who.c] :: ts) (((((((((((w'.setCell ⟨br, 0, none⟩ (.slice v'.l.a v'.l.n v'.l.c)).setCell ⟨br, 1, none⟩ (.int .i64 v'.c)).setCell ⟨br, 2, none⟩ (.int .i64 (v'.n : Int))).setCell ⟨br, 3, none⟩ (.int .i64 (v'.u : Int))).setCell ⟨br, 4, none⟩ (.slice v'.rows.a v'.rows.n v'.rows.c)).setCell ⟨br, 5, none⟩ (.slice v'.held.a v'.held.n v'.held.c)).setCell ⟨br, 6, none⟩ (.slice v'.holds.a v'.holds.n v'.holds.c)).setCell ⟨br, 7, none⟩ (.slice v'.done.a v'.done.n v'.done.c)).setCell ⟨br, 8, none⟩ (.int .i64 (v'.st : Int))).setCell ⟨br, 9, none⟩ (.int .i64 (v'.nx : Int))).setCell ⟨br, 10, none⟩ (.slice v'.who.a v'.who.n v'.who.c)) ∧
    RPA A (((((((((((w'.setCell ⟨br, 0, none⟩ (.slice v'.l.a v'.l.n v'.l.c)).setCell ⟨br, 1, none⟩ (.int .i64 v'.c)).setCell ⟨br, 2, none⟩ (.int .i64 (v'.n : Int))).setCell ⟨br, 3, none⟩ (.int .i64 (v'.u : Int))).setCell ⟨br, 4, none⟩ (.slice v'.rows.a v'.rows.n v'.rows.c)).setCell ⟨br, 5, none⟩ (.slice v'.held.a v'.held.n v'.held.c)).setCell ⟨br, 6, none⟩ (.slice v'.holds.a v'.holds.n v'.holds.c)).setCell ⟨br, 7, none⟩ (.slice v'.done.a v'.done.n v'.done.c)).setCell ⟨br, 8, none⟩ (.int .i64 (v'.st : Int))).setCell ⟨br, 9, none⟩ (.int .i64 (v'.nx : Int))).setCell ⟨br, 10, none⟩ (.slice v'.who.a v'.who.n v'.who.c)) v' L c n' s' :=
  ⟨put11 (h.kn.keep hb).swap _ _ _ _ _ _ _ _ _ _ _, (hr.only ((only11 w' _ _ _ _ _ _ _ _ _ _ _).mono (fun k q => .inr (.inr q)))).less (fun k q => .inl q)⟩
theorem PB.nx (h : PB A w bp br zs ts v L c n s W) (m : Nat) : PB A w bp br zs ts { v with nx := m } L c n { s with nx := m } (W.setCell ⟨bp, 9, none⟩ (.int .i64 (m : Int))) :=
  ⟨putBox h.kn 9 _ rfl, fun W2 ho => (h.rp W2 ((((Only.refl (fun k => k = bp) W).put 9 _).mono (fun k q => .inr (.inl q))).trans ho)).nx m⟩
theorem PB.st (h : PB A w bp br zs ts v L c n s W) (m : Nat) {z : Int} (hz : z = (m : Int)) : PB A w bp br zs ts { v with st := m } L c n { s with st := m } (W.setCell ⟨bp, 8, none⟩ (.int .i64 z)) := hz ▸
  ⟨putBox h.kn 8 _ rfl, fun W2 ho => (h.rp W2 ((((Only.refl (fun k => k = bp) W).put 8 _).mono (fun k q => .inr (.inl q))).trans ho)).st m⟩
/-- The script's struct is laid into the box. -/
theorem PB.scr (h : PB A w bp br zs ts v L c n s W) {m u : Nat} (hu : u = min m L.length) : PB A w bp br zs ts { v with n := m, u := u } L c m s ((((W.setCell ⟨bp, 0, none⟩ (.slice v.l.a v.l.n v.l.c)).setCell ⟨bp, 1, none⟩ (.int .i64 v.c)).setCell ⟨bp, 2, none⟩ (.int .i64 (m : Int))).setCell ⟨bp, 3, none⟩ (.int .i64 (u : Int))) :=
  ⟨putBox (putBox (putBox (putBox h.kn 0 _ rfl) 1 _ rfl) 2 _ rfl) 3 _ rfl, fun W2 ho => (h.rp W2 (((((((Only.refl (fun k => k = bp) W).put 0 _).put 1 _).put 2 _).put 3 _).mono (fun k q => .inr (.inl q))).trans ho)).scr' hu⟩
/-- A row of one's own is laid into the box. -/
theorem PB.row (h : PB A w bp br zs ts v L c n s W) (hA : ∀ k, A k → k < w.heap.size) {base e m : Nat} {xs : List Value} {a : Option Addr} {cp : Nat} (hK : Kn w (ownT base e (.slice a m cp) m xs :: boxT bp #[.slice v.l.a v.l.n v.l.c, .int .i64 v.c, .int .i64 (v.n : Int), .int .i64 (v.u : Int), .slice v.rows.a v.rows.n v.rows.c, .slice v.held.a v.held.n v.held.c, .slice v.holds.a v.holds.n v.holds.c, .slice v.done.a v.done.n v.done.c, .int .i64 (v.st : Int), .int .i64 (v.nx : Int), .slice v.who.a v.who.n v.who.c] :: boxT br zs :: ts) w') (hb : Below W.heap.size W w') (i : Nat) : ∀ W2, Only (PA A bp br) (w'.setCell ⟨bp, i, none⟩ (.slice a m cp)) W2 → (ownT base e (.slice a m cp) m xs).P W2 ∧ RP W2 v L c n s := fun W2 ho => by
  have ho2 : Only (PA A bp br) w' W2 := (((Only.refl (fun k => k = bp) w').put i _).mono (fun k q => .inr (.inl q))).trans ho
  refine ⟨Th.keep _ hK.hd ho2 (fun k hk q => ?_), h.rp.keep hb W2 ho2⟩
  have h2 := (hK.has _ (.head _)).2 k hk
  rcases q with q | q | q
  · have := hA k q; omega
  · exact (List.pairwise_cons.1 hK.sep).1 _ (.head _) k hk q
  · exact (List.pairwise_cons.1 hK.sep).1 _ (.tail _ (.head _)) k hk q
/-- A row of one's own that is made, and grows, meanwhile: since W0 nothing older has turned. -/
structure OB (w W0 : World) (ts : List Th) (base : Nat) (e : TypeId) (v : Value) (m : Nat) (xs : List Value) (W : World) : Prop where
  kn : Kn w (ownT base e v m xs :: ts) W
  below : Below W0.heap.size W0 W
  own : ∀ k, v.ownBlock = some k → W0.heap.size ≤ k
theorem OB.start (h : Kn w ts W) (T : TypeId) {base : Nat} (hb : base ≤ W.heap.size) {g : Nat} (hg : g = W.heap.size) : OB w W ts base T (.slice (some ⟨g, 0, none⟩) 0 0) 0 [] (W.alloc (.cells #[] T)) :=
  ⟨own0 h T hb hg, (Below.refl _ _).alloc (Nat.le_refl _) _, fun k q => by cases q; exact Nat.le_of_eq hg.symm⟩
theorem OB.alloc {W0 : World} {base : Nat} {e : TypeId} {u : Value} {m : Nat} {xs : List Value} (h : OB w W0 ts base e u m xs W) (o : Obj) : OB w W0 ts base e u m xs (W.alloc o) :=
  ⟨h.kn.keep ((Below.refl _ _).alloc (Nat.le_refl _) o), h.below.alloc h.below.size o, h.own⟩
theorem OB.grow {W0 : World} {base : Nat} {e : TypeId} {u u' : Value} {m m' : Nat} {xs xs' : List Value} (h : OB w W0 ts base e u m xs W) (ho : w'.ownsRow base e 1 u' m' xs') (hg : W.grownBy w' u.ownBlock) (hat : u'.ownBlock = u.ownBlock ∨ u'.ownBlock = some W.heap.size) : OB w W0 ts base e u' m' xs' w' :=
  ⟨grow1 h.kn ho hg hat, h.below.only (S := fun k => u.ownBlock = some k) ⟨hg.os, hg.tape, hg.output, hg.size, fun k hk hn => hg.block k hk (fun e => hn e.symm)⟩ (fun k q => h.own k q) h.below.size, fun k q => by
    rcases hat with q2 | q2
    · exact h.own k (q2 ▸ q)
    · rw [q2] at q
      cases q
      exact h.below.size⟩
/-- Who took the step, is put behind. -/
theorem PB.who (h : PB A w bp br zs ts v L c n s W) (hA : ∀ k, A k → k < w.heap.size) {base m : Nat} {a : Option Addr} {cp : Nat} {x : Int} (hK : OB w W (boxT bp #[.slice v.l.a v.l.n v.l.c, .int .i64 v.c, .int .i64 (v.n : Int), .int .i64 (v.u : Int), .slice v.rows.a v.rows.n v.rows.c, .slice v.held.a v.held.n v.held.c, .slice v.holds.a v.holds.n v.holds.c, .slice v.done.a v.done.n v.done.c, .int .i64 (v.st : Int), .int .i64 (v.nx : Int), .slice v.who.a v.who.n v.who.c] :: boxT br zs :: ts) base 3 (.slice a m cp) m (s.who.map (Value.int .i64) ++ [.int .i64 x]) w') (hx : (Lit.int .i64 x).wf = true) (hl : s.who.length ≤ 100000) : PB A w bp br zs ts { v with who := ⟨a, m, cp⟩ } L c n { s with who := s.who ++ [x] } (w'.setCell ⟨bp, 10, none⟩ (.slice a m cp)) := by
  refine ⟨(putBox hK.kn.tail 10 _ rfl), fun W2 ho => ?_⟩
  obtain ⟨h1, h2⟩ := h.row hA hK.kn hK.below 10 W2 ho
  have h3 := own_ints (l := s.who ++ [x]) h1 (by rw [List.map_append]; rfl) (fun y hy => by
    rcases List.mem_append.1 hy with q | q
    · exact h2.who.2.wf y q
    · rw [List.mem_singleton.1 q]; exact hx) (by simp; omega)
  exact h2.who' h3.1 h3.2
theorem PB.done (h : PB A w bp br zs ts v L c n s W) (hA : ∀ k, A k → k < w.heap.size) {base m : Nat} {a : Option Addr} {cp : Nat} {x : Int} (hK : OB w W (boxT bp #[.slice v.l.a v.l.n v.l.c, .int .i64 v.c, .int .i64 (v.n : Int), .int .i64 (v.u : Int), .slice v.rows.a v.rows.n v.rows.c, .slice v.held.a v.held.n v.held.c, .slice v.holds.a v.holds.n v.holds.c, .slice v.done.a v.done.n v.done.c, .int .i64 (v.st : Int), .int .i64 (v.nx : Int), .slice v.who.a v.who.n v.who.c] :: boxT br zs :: ts) base 3 (.slice a m cp) m (s.dn.map (Value.int .i64) ++ [.int .i64 x]) w') (hx : (Lit.int .i64 x).wf = true) (hl : s.dn.length ≤ 100000) : PB A w bp br zs ts { v with done := ⟨a, m, cp⟩ } L c n { s with dn := s.dn ++ [x] } (w'.setCell ⟨bp, 7, none⟩ (.slice a m cp)) := by
  refine ⟨(putBox hK.kn.tail 7 _ rfl), fun W2 ho => ?_⟩
  obtain ⟨h1, h2⟩ := h.row hA hK.kn hK.below 7 W2 ho
  have h3 := own_ints (l := s.dn ++ [x]) h1 (by rw [List.map_append]; rfl) (fun y hy => by
    rcases List.mem_append.1 hy with q | q
    · exact h2.done.2.wf y q
    · rw [List.mem_singleton.1 q]; exact hx) (by simp; omega)
  exact h2.done' h3.1 h3.2
theorem PB.drop {t : Th} (h : PB A w bp br zs (t :: ts) v L c n s W) : PB A w bp br zs ts v L c n s W := ⟨h.kn.sub (by simp), h.rp⟩
theorem gen_pb {code : Code} {Q : Exit → Act → World → Prop} {a : Act} (h : PB A w bp br zs ts v L c n s W) (k : ∀ W, Hid (PB A w bp br zs ts v L c n s W) → code.wp Tryz.prog Q a W) : code.wp Tryz.prog Q a W := k W h
theorem gen_pk {K : Act → World → Prop} {a : Act} (h : PB A w bp br zs ts v L c n s W) (k : ∀ W, Hid (PB A w bp br zs ts v L c n s W) → K a W) : K a W := k W h
end
end Go.Proofs.YtkjhamcmhijhgaaGreat.PRef

/- The document's step: a worker that holds nothing takes a job of its own row, or steals one. -/
namespace Go.Proofs.YtkjhamcmhijhgaaGreat.PRef
open Go.RowKit Go.Proofs.YtkjhamcmhijhgaaGreat.Dig Go.Proofs.YtkjhamcmhijhgaaGreat.Mem Go.Proofs.YtkjhamcmhijhgaaGreat.Dq Go.Proofs.YtkjhamcmhijhgaaGreat.Thing Go.Proofs.YtkjhamcmhijhgaaGreat.Pick Go.Proofs.YtkjhamcmhijhgaaGreat.Sets Go.Proofs.YtkjhamcmhijhgaaGreat.Pool
set_option linter.unusedVariables false
set_option linter.unusedSimpArgs false

set_option maxRecDepth 20000 in
set_option maxHeartbeats 4000000 in
theorem step_own {A : Nat → Prop} {w : World} {v : RV} {L : List Int} {c : Int} {n : Nat} {s : PS Int} (h : Hid (RPA A w v L c n s)) (hA : ∀ k, A k → k < w.heap.size) (h64 : s.ks.length ≤ 64) (hwho : s.who.length ≤ 50000) {k : Nat} {κ : W1 Int} {l : List Int} {x : Int} (hk : s.ks[k]? = some κ) (hh : κ.h = false) (hl : κ.l = l ++ [x]) (hlen : l.length ≤ 50000) :
    Calls Tryz.prog 38 #[.agg #[.slice v.l.a v.l.n v.l.c, .int .i64 v.c, .int .i64 (v.n : Int), .int .i64 (v.u : Int), .slice v.rows.a v.rows.n v.rows.c, .slice v.held.a v.held.n v.held.c, .slice v.holds.a v.holds.n v.holds.c, .slice v.done.a v.done.n v.done.c, .int .i64 (v.st : Int), .int .i64 (v.nx : Int), .slice v.who.a v.who.n v.who.c], .int .i64 (k : Int)] w fun e w' => ∃ v', e = .returned (.agg #[.slice v'.l.a v'.l.n v'.l.c, .int .i64 v'.c, .int .i64 (v'.n : Int), .int .i64 (v'.u : Int), .slice v'.rows.a v'.rows.n v'.rows.c, .slice v'.held.a v'.held.n v'.held.c, .slice v'.holds.a v'.holds.n v'.holds.c, .slice v'.done.a v'.done.n v'.done.c, .int .i64 (v'.st : Int), .int .i64 (v'.nx : Int), .slice v'.who.a v'.who.n v'.who.c]) ∧ Hid (RPA A w' v' L c n { s with ks := s.ks.set k ⟨l, x, true⟩, who := s.who ++ [(k : Int)] }) ∧ Below w.heap.size w w' := by
  obtain ⟨i0, hi, hz0, hz1, hz2⟩ := info_parts Tryz.infoPInt
  obtain ⟨⟨la, lm, lp⟩, vc, vn, vu, ⟨ra, rn, rc⟩, ⟨ha, hn, hc⟩, ⟨oa, on, oc⟩, ⟨da, dn, dc⟩, vst, vnx, ⟨wa, wn, wc⟩, vds⟩ := v
  have hklt : k < s.ks.length := (List.getElem?_eq_some_iff.1 hk).1
  obtain ⟨q1, q2, q3⟩ := h.out.rp.rows
  obtain ⟨d, hd, hdn, hdr⟩ := q3.get (k := k) (l := κ.l) (by rw [List.getElem?_map, hk]; rfl)
  obtain ⟨rb, ro, rfl, hrc⟩ := q2.at_ k d.v (by rw [List.getElem?_map, hd]; rfl)
  obtain ⟨o1, o2⟩ := h.out.rp.holds
  obtain ⟨ob, oo, rfl, hoc⟩ := o2.at_ k (.bool κ.h) (by rw [List.getElem?_map, hk]; rfl)
  rw [hh] at hoc
  have HA := hide hA
  have P0 : Hid (PB A w w.heap.size (w.heap.size + 1) #[.slice none 0 0, .int .i64 0, .int .i64 0, .int .i64 0, .slice none 0 0, .slice none 0 0, .slice none 0 0, .slice none 0 0, .int .i64 0, .int .i64 0, .slice none 0 0] [] ⟨⟨la, lm, lp⟩, vc, vn, vu, ⟨some ⟨rb, ro, none⟩, rn, rc⟩, ⟨ha, hn, hc⟩, ⟨some ⟨ob, oo, none⟩, on, oc⟩, ⟨da, dn, dc⟩, vst, vnx, ⟨wa, wn, wc⟩, vds⟩ L c n s ((w.alloc (.cells #[.slice la lm lp, .int .i64 vc, .int .i64 (vn : Int), .int .i64 (vu : Int), .slice (some ⟨rb, ro, none⟩) rn rc, .slice ha hn hc, .slice (some ⟨ob, oo, none⟩) on oc, .slice da dn dc, .int .i64 (vst : Int), .int .i64 (vnx : Int), .slice wa wn wc] 36)).alloc (.cells #[.slice none 0 0, .int .i64 0, .int .i64 0, .int .i64 0, .slice none 0 0, .slice none 0 0, .slice none 0 0, .slice none 0 0, .int .i64 0, .int .i64 0, .slice none 0 0] 36))) := hide (PB.start h.out hA _ rfl)
  have K0 := hide (OB.start P0.out.kn 3 P0.out.kn.below.size (g := w.heap.size + 1 + 1) (by simp))
  obtain ⟨ln, hln⟩ : ∃ ln, ln = (s.who.map (Value.int .i64)).length := ⟨_, rfl⟩
  have HLN := hide hln
  have hlb : ln ≤ 50000 := by rw [hln, List.length_map]; exact hwho
  have HWB := hide hwho
  have HWF : Hid ((Lit.int .i64 (k : Int)).wf = true) := hide (wf_of_i64 (by omega) (by omega))
  have HC : Hid (∀ W, Below w.heap.size w W → W.cell? ⟨rb, ro + k, none⟩ = some (.slice d.a d.n d.c) ∧ W.cell? ⟨ob, oo + k, none⟩ = some (.bool false)) := hide (fun W ho => ⟨(ho.cell (p := ⟨rb, ro + k, none⟩) (lt_of_cell hrc)).trans hrc, (ho.cell (p := ⟨ob, oo + k, none⟩) (lt_of_cell hoc)).trans hoc⟩)
  have hrb : rb < w.heap.size := lt_of_cell hrc
  have hob : ob < w.heap.size := lt_of_cell hoc
  have e1 : ¬ rb = w.heap.size := by omega
  have e2 : ¬ ob = w.heap.size := by omega
  have q1' : rn = s.ks.length := q1
  have o1' : on = s.ks.length := o1
  have hkr : (k : Int) < rn := by omega
  have hko : (k : Int) < on := by omega
  have hdn0 : (0 : Int) < d.n := by rw [hdn, hl]; simp
  have HH := hide h
  have HK := hide hk
  have HKL := hide hl
  have HHF := hide hh
  have H64 := hide h64
  have HLEN := hide hlen
  have HKN : Hid (k < s.ks.length) := hide hklt
  clear q1' o1' h hA hk hh hl hln hwho hd hdn hdr hrc hoc q1 q2 q3 o1 o2 hrb hob hklt h64 hlen
  go_enter Tryz.func38, Tryz.ntmps38
  go_wp2_with (first
    | (at_builtin; go_must (first
      | (refine app_cells 22 3 Tryz.underlying22 Tryz.infoPInt rfl (by decide) rfl _ _ rfl w.heap.size (.slice (some ⟨w.heap.size + 1 + 1, 0, none⟩) 0 0) 0 [] rfl (Kn.hd K0.out.kn) wa wc wn (s.who.map (Value.int .i64)) rfl (by rw [List.length_map]; exact P0.out.rp.rp.who.1) ((CellsR.of_row P0.out.rp.rp.who.2).keep ((Below.refl _ _).alloc (Nat.le_refl _) _)) (fun u hu => by obtain ⟨n, _, rfl⟩ := List.mem_map.1 hu; rfl) (by have := HWB.out; rw [List.length_map]; omega) K0.out.kn.below.size ?_; intro v7 w7 hown7 hg7 hat7; rw [Nat.zero_add, List.nil_append, ← HLN.out] at hown7; obtain ⟨a7, c7, rfl⟩ := Dq.own_form hown7; have K7 := hide (K0.out.grow hown7 hg7 hat7); clear hown7 hg7 hat7)
      | ((refine wpList_append_own_at _ rfl _ _ 22 rfl w.heap.size 3 i0 (.int .i64 0) 1 8 Tryz.underlying22 hi hz0 hz1 hz2 rfl (by decide) (.slice a7 ln c7) ln (s.who.map (Value.int .i64)) rfl (World.ownsRow.alloc (Kn.hd K7.out.kn) _) ⟨(w7).heap.size, 0, none⟩ 1 1 [.int .i64 (k : Int)] rfl rfl (cell_one_new _ _ _) (by simp [Value.oneCell']) (by unfold maxLen; omega) (by omega) (by have := K7.out.kn.below.size; simp; omega) ?_; intro v10 w10 hown10 hg10 _ hat10; obtain ⟨a10, c10, rfl⟩ := Dq.own_form hown10; have K10 := hide ((K7.out.alloc (.cells #[.int .i64 (k : Int)] 3)).grow hown10 hg10 hat10); clear hown10 hg10 hat10); have P10 := hide (P0.out.who HA.out K10.out HWF.out (by have := HWB.out; omega)); obtain ⟨x1, x2⟩ := HC.out _ K10.out.kn.below; obtain ⟨⟨p0, p1, p2, p3, p4, p5, p6, p7, p8, p9, p10⟩, pf⟩ := (DqI.Kn.hd2 K10.out.kn).eleven; have pf10 := pf 10; have HP := hide (P10.out.rp); clear pf)))
    | (go_at_call 62; go_must ((with_reducible refine (take_last (v := (⟨⟨la, lm, lp⟩, vc, vn, vu, ⟨some ⟨rb, ro, none⟩, rn, rc⟩, ⟨ha, hn, hc⟩, ⟨some ⟨ob, oo, none⟩, on, oc⟩, ⟨da, dn, dc⟩, vst, vnx, ⟨a10, ln + 1, c10⟩, vds⟩ : RV)) HP (P10.out.lt HA.out) HK.out HKL.out (κ2 := { κ with l := l }) (by rw [List.getElem?_set]; simp [HKN.out]) (by have := HLEN.out; omega) H64.out).mono ?_); rintro e w11 ⟨v11, rfl, hr11, hb11⟩; obtain ⟨⟨b0, b1, b2, b3, b4, b5, b6, b7, b8, b9, b10⟩, qf⟩ := (DqI.Kn.hd2 (P10.out.kn.keep hb11)).eleven; have f0 := qf 0; have f1 := qf 1; have f2 := qf 2; have f3 := qf 3; have f4 := qf 4; have f5 := qf 5; have f6 := qf 6; have f7 := qf 7; have f8 := qf 8; have f9 := qf 9; have f10 := qf 10; clear qf)))
  have R := hide (P10.out.ret hr11.out hb11)
  obtain ⟨⟨r0, r1, r2, r3, r4, r5, r6, r7, r8, r9, r10⟩, _⟩ := (Kn.hd R.out.1).eleven
  refine bodyPost_ret (v := .agg #[.slice v11.l.a v11.l.n v11.l.c, .int .i64 v11.c, .int .i64 (v11.n : Int), .int .i64 (v11.u : Int), .slice v11.rows.a v11.rows.n v11.rows.c, .slice v11.held.a v11.held.n v11.held.c, .slice v11.holds.a v11.holds.n v11.holds.c, .slice v11.done.a v11.done.n v11.done.c, .int .i64 (v11.st : Int), .int .i64 (v11.nx : Int), .slice v11.who.a v11.who.n v11.who.c]) (by simp [results, Tryz.results38, go_sem, r0, r1, r2, r3, r4, r5, r6, r7, r8, r9, r10]) rfl ?_
  refine ⟨v11, rfl, hide ?_, R.out.1.below⟩
  have := R.out.2
  rw [List.set_set] at this
  exact this
end Go.Proofs.YtkjhamcmhijhgaaGreat.PRef

/- The document's push. -/
namespace Go.Proofs.YtkjhamcmhijhgaaGreat.PRef
open Go.RowKit Go.Proofs.YtkjhamcmhijhgaaGreat.Dig Go.Proofs.YtkjhamcmhijhgaaGreat.Mem Go.Proofs.YtkjhamcmhijhgaaGreat.Dq Go.Proofs.YtkjhamcmhijhgaaGreat.Thing Go.Proofs.YtkjhamcmhijhgaaGreat.Pick Go.Proofs.YtkjhamcmhijhgaaGreat.Sets Go.Proofs.YtkjhamcmhijhgaaGreat.Pool
set_option linter.unusedVariables false
set_option linter.unusedSimpArgs false

set_option maxRecDepth 20000 in
set_option maxHeartbeats 2000000 in
theorem push_any {A : Nat → Prop} {w : World} {v : RV} {L : List Int} {c : Int} {n : Nat} {s : PS Int} (h : Hid (RPA A w v L c n s)) (hA : ∀ k, A k → k < w.heap.size) {k : Nat} {κ : W1 Int} (hk : s.ks[k]? = some κ) {job : Int} (hj : (Lit.int .i64 job).wf = true) (hl : κ.l.length ≤ 100000) (h64 : s.ks.length ≤ 64) :
    Calls Tryz.prog 39 #[.agg #[.slice v.l.a v.l.n v.l.c, .int .i64 v.c, .int .i64 (v.n : Int), .int .i64 (v.u : Int), .slice v.rows.a v.rows.n v.rows.c, .slice v.held.a v.held.n v.held.c, .slice v.holds.a v.holds.n v.holds.c, .slice v.done.a v.done.n v.done.c, .int .i64 (v.st : Int), .int .i64 (v.nx : Int), .slice v.who.a v.who.n v.who.c], .int .i64 (k : Int), .int .i64 job] w fun e w' => ∃ v', e = .returned (.agg #[.slice v'.l.a v'.l.n v'.l.c, .int .i64 v'.c, .int .i64 (v'.n : Int), .int .i64 (v'.u : Int), .slice v'.rows.a v'.rows.n v'.rows.c, .slice v'.held.a v'.held.n v'.held.c, .slice v'.holds.a v'.holds.n v'.holds.c, .slice v'.done.a v'.done.n v'.done.c, .int .i64 (v'.st : Int), .int .i64 (v'.nx : Int), .slice v'.who.a v'.who.n v'.who.c]) ∧ Hid (RPA A w' v' L c n { s with ks := s.ks.set k { κ with l := κ.l ++ [job] } }) ∧ Below w.heap.size w w' := by
  obtain ⟨i0, hi, hz0, hz1, hz2⟩ := info_parts Tryz.infoPInt
  obtain ⟨ds, hds⟩ : ∃ ds, ds = v.ds := ⟨_, rfl⟩
  obtain ⟨hn, hcr, hrr⟩ := h.out.rp.rows
  rw [← hds] at hcr hrr
  have hklt : k < s.ks.length := (List.getElem?_eq_some_iff.1 hk).1
  obtain ⟨d, hd, hdn, hdr⟩ := hrr.get (k := k) (l := κ.l) (by rw [List.getElem?_map, hk]; rfl)
  have hvn : v.rows.n = (ds.map SL.v).length := by rw [List.length_map, hrr.1, List.length_map]; exact hn
  have HVN := hide hvn
  have HCR := hide hcr
  have HDR := hide hdr
  have HDN := hide hdn
  have HDK : Hid ((ds.map SL.v)[k]? = some (.slice d.a d.n d.c)) := hide (by rw [List.getElem?_map, hd]; rfl)
  have hkn : k < v.rows.n := by omega
  have hki : (k : Int) < v.rows.n := by omega
  have h64' : v.rows.n ≤ 64 := by omega
  have K0 : Hid (Kn w [ownT w.heap.size 22 (.slice (some ⟨w.heap.size + 1 + 1, 0, none⟩) 0 0) 0 [], boxT (w.heap.size + 1) #[.slice none 0 0, .int .i64 0, .int .i64 0, .int .i64 0, .slice none 0 0, .slice none 0 0, .slice none 0 0, .slice none 0 0, .int .i64 0, .int .i64 0, .slice none 0 0], boxT w.heap.size #[.slice v.l.a v.l.n v.l.c, .int .i64 v.c, .int .i64 (v.n : Int), .int .i64 (v.u : Int), .slice v.rows.a v.rows.n v.rows.c, .slice v.held.a v.held.n v.held.c, .slice v.holds.a v.holds.n v.holds.c, .slice v.done.a v.done.n v.done.c, .int .i64 (v.st : Int), .int .i64 (v.nx : Int), .slice v.who.a v.who.n v.who.c]] (((w.alloc (.cells #[.slice v.l.a v.l.n v.l.c, .int .i64 v.c, .int .i64 (v.n : Int), .int .i64 (v.u : Int), .slice v.rows.a v.rows.n v.rows.c, .slice v.held.a v.held.n v.held.c, .slice v.holds.a v.holds.n v.holds.c, .slice v.done.a v.done.n v.done.c, .int .i64 (v.st : Int), .int .i64 (v.nx : Int), .slice v.who.a v.who.n v.who.c] 36)).alloc (.cells #[.slice none 0 0, .int .i64 0, .int .i64 0, .int .i64 0, .slice none 0 0, .slice none 0 0, .slice none 0 0, .slice none 0 0, .int .i64 0, .int .i64 0, .slice none 0 0] 36)).alloc (.cells #[] 22))) :=
    hide (own0 (box0 (box0 (Kn.start w) _ _ rfl) _ _ (by simp)) _ (by simp; omega) (by simp))
  have HFIN : Hid (∀ W g g' c' n' c'', Kn w [boxT (w.heap.size + 1) #[.slice v.l.a v.l.n v.l.c, .int .i64 v.c, .int .i64 (v.n : Int), .int .i64 (v.u : Int), .slice (some ⟨g, 0, none⟩) v.rows.n c', .slice v.held.a v.held.n v.held.c, .slice v.holds.a v.holds.n v.holds.c, .slice v.done.a v.done.n v.done.c, .int .i64 (v.st : Int), .int .i64 (v.nx : Int), .slice v.who.a v.who.n v.who.c], ownT w.heap.size 22 (.slice (some ⟨g, 0, none⟩) v.rows.n c') v.rows.n ((ds.map SL.v).set k (.slice g' n' c'')), ownT w.heap.size 3 (.slice g' n' c'') n' (κ.l.map (Value.int .i64) ++ [.int .i64 job])] W → RPA A W { v with rows := ⟨some ⟨g, 0, none⟩, v.rows.n, c'⟩, ds := ds.set k ⟨g', n', c''⟩ } L c n { s with ks := s.ks.set k { κ with l := κ.l ++ [job] } }) := hide (fun Wa g g' c' n' c'' hK W hOn => by
    have h0 := h.out W (only_past hK hOn)
    have ho := past hK hA hOn (.tail _ (.tail _ (.head _)))
    have ho1 := past hK hA hOn (.tail _ (.head _))
    have hn' : n' = (κ.l ++ [job]).length := by have := (show W.ownsRow _ _ 1 _ n' _ from ho).1; simp at this ⊢; omega
    have hr : RowI W g' c'' (κ.l ++ [job]) := by
      have ho2 : OwnI w.heap.size W (.slice g' n' c'') (κ.l ++ [job]) := by unfold OwnI; rw [← hn', List.map_append]; exact ho
      obtain ⟨a, c3, e, hr, _⟩ := ho2.row (by simp; omega) (fun x hx => by
        rcases List.mem_append.1 hx with q | q
        · exact hdr.wf x q
        · rw [List.mem_singleton.1 q]; exact hj)
      cases e
      exact hr
    have e1 : (s.ks.set k { κ with l := κ.l ++ [job] }).map (fun κ => κ.l) = (s.ks.map fun κ => κ.l).set k (κ.l ++ [job]) := by rw [List.map_set]
    have same : ∀ {β : Type} (f : W1 Int → β), f { κ with l := κ.l ++ [job] } = f κ → (s.ks.set k { κ with l := κ.l ++ [job] }).map f = s.ks.map f := fun f hf => by
      rw [List.map_set, hf]
      apply List.ext_getElem?
      intro i
      rw [List.getElem?_set]
      split
      · rename_i e
        subst e
        rw [if_pos (by rw [List.length_map]; exact hklt), List.getElem?_map, hk]
        rfl
      · rfl
    refine ⟨h0.l, h0.scr, ⟨?_, ?_, ?_⟩, ⟨?_, ?_⟩, ⟨?_, ?_⟩, h0.done, h0.num, h0.who⟩
    · show v.rows.n = (s.ks.set k _).length
      rw [List.length_set]; exact hn
    · show CellsR W _ _ ((ds.set k ⟨g', n', c''⟩).map SL.v)
      rw [List.map_set]
      exact CellsR.of_own ho1
    · show ReadR W (ds.set k ⟨g', n', c''⟩) ((s.ks.set k { κ with l := κ.l ++ [job] }).map fun κ => κ.l)
      rw [e1]
      have := h0.rows.2.2
      rw [← hds] at this
      exact this.set (d := ⟨g', n', c''⟩) hn' hr k
    · show v.held.n = (s.ks.set k _).length
      rw [List.length_set]; exact h0.held.1
    · show RowI W v.held.a v.held.c ((s.ks.set k { κ with l := κ.l ++ [job] }).map fun κ => κ.x)
      rw [same (fun κ => κ.x) rfl]; exact h0.held.2
    · show v.holds.n = (s.ks.set k _).length
      rw [List.length_set]; exact h0.holds.1
    · show CellsR W v.holds.a v.holds.c ((s.ks.set k { κ with l := κ.l ++ [job] }).map fun κ => Value.bool κ.h)
      rw [same (fun κ => Value.bool κ.h) rfl]; exact h0.holds.2)
  obtain ⟨ln, hln⟩ : ∃ ln, ln = (κ.l.map (Value.int .i64)).length := ⟨_, rfl⟩
  have HLN := hide hln
  have hlb : ln ≤ 100000 := by rw [hln, List.length_map]; exact hl
  have HXL : Hid (d.n = (κ.l.map (Value.int .i64)).length) := hide (by rw [List.length_map]; exact hdn)
  have HDL : Hid ((ds.map SL.v).length ≤ 64) := hide (by omega)
  have HXB : Hid ((κ.l.map (Value.int .i64)).length ≤ 100000) := hide (by omega)
  clear h hA hcr hrr hds hd hdn hdr hn hvn hl hln hk hklt
  go_enter Tryz.func39, Tryz.ntmps39
  go_wp2_with (at_builtin; go_must (first
    | (refine app_cells 33 22 Tryz.underlying33 Tryz.infoPInts rfl (by decide) rfl _ _ rfl w.heap.size (.slice (some ⟨w.heap.size + 1 + 1, 0, none⟩) 0 0) 0 [] rfl (Kn.hd K0.out) v.rows.a v.rows.c v.rows.n (ds.map SL.v) rfl HVN.out (HCR.out.keep K0.out.below) (fun u hu => by obtain ⟨n, _, rfl⟩ := List.mem_map.1 hu; rfl) (by have := HDL.out; omega) K0.out.below.size ?_; intro v7 w7 hown7 hg7 hat7; rw [Nat.zero_add, List.nil_append, ← HVN.out] at hown7; obtain ⟨g7, c7, rfl⟩ := own_some hown7 (Nat.lt_of_le_of_lt (Nat.zero_le _) hkn); have K7 := hide (grow1 K0.out hown7 hg7 hat7); have K8 := hide (own0 K7.out 3 K7.out.below.size rfl); have c8k := own_cell (DqI.Kn.hd2 K8.out) HDK.out; clear hown7 hg7 hat7)
    | (refine app_cells 22 3 Tryz.underlying22 Tryz.infoPInt rfl (by decide) rfl _ _ rfl w.heap.size (.slice (some ⟨w7.heap.size, 0, none⟩) 0 0) 0 [] rfl (Kn.hd K8.out) d.a d.c d.n (κ.l.map (Value.int .i64)) rfl HXL.out ((CellsR.of_row HDR.out).keep K8.out.below) (fun u hu => by obtain ⟨n, _, rfl⟩ := List.mem_map.1 hu; rfl) (by have := HXB.out; omega) K8.out.below.size ?_; intro v9 w9 hown9 hg9 hat9; rw [Nat.zero_add, List.nil_append, ← HLN.out] at hown9; obtain ⟨a9, c9, rfl⟩ := Dq.own_form hown9; have K9 := hide (grow1 K8.out hown9 hg9 hat9); clear hown9 hg9 hat9)
    | (refine wpList_append_own_at _ rfl _ _ 22 rfl w.heap.size 3 i0 (.int .i64 0) 1 8 Tryz.underlying22 hi hz0 hz1 hz2 rfl (by decide) (.slice a9 ln c9) ln (κ.l.map (Value.int .i64)) rfl (World.ownsRow.alloc (Kn.hd K9.out) _) ⟨w9.heap.size, 0, none⟩ 1 1 [.int .i64 job] rfl rfl (cell_one_new _ _ _) (by simp [Value.oneCell']) (by unfold maxLen; omega) (by omega) (by have := K9.out.below.size; simp; omega) ?_; intro v10 w10 hown10 hg10 _ hat10; obtain ⟨a10, c10, rfl⟩ := Dq.own_form hown10; have K10 := hide ((grow1 (K9.out.keep (w' := w9.alloc (.cells #[.int .i64 job] 3)) ((Below.refl _ _).alloc (Nat.le_refl _) _)) hown10 hg10 hat10).swap); have c10k := own_cell (Kn.hd K10.out) HDK.out; have f10k := World.ownsRow.frozenAt (Kn.hd K10.out) k; obtain ⟨n1, n2⟩ := sep_box (b := w.heap.size) K10.out (.tail _ (.tail _ (.head _))); obtain ⟨n3, n4⟩ := sep_box (b := w.heap.size + 1) K10.out (.tail _ (.head _)); obtain ⟨⟨p0, p1, p2, p3, p4, p5, p6, p7, p8, p9, p10⟩, pf⟩ := (DqI.Kn.hd4 K10.out).eleven; have pf4 := pf 4; obtain ⟨⟨q0, q1, q2, q3, q4, q5, q6, q7, q8, q9, q10⟩, qf⟩ := (DqI.Kn.hd3 K10.out).eleven; have f0 := qf 0; have f1 := qf 1; have f2 := qf 2; have f3 := qf 3; have f4 := qf 4; have f5 := qf 5; have f6 := qf 6; have f7 := qf 7; have f8 := qf 8; have f9 := qf 9; have f10 := qf 10; clear pf qf hown10 hg10 hat10)))
  have K13 := hide (put11 (((putBox ((ownPut K10.out k (.slice a10 (ln + 1) c10)).perm (List.perm_middle (l₁ := [_, _, _]))) 4 (.slice (some ⟨g7, 0, none⟩) v.rows.n c7) rfl)).perm (List.perm_middle (l₁ := [_, _, _]))) (.slice v.l.a v.l.n v.l.c) (.int .i64 v.c) (.int .i64 (v.n : Int)) (.int .i64 (v.u : Int)) (.slice (some ⟨g7, 0, none⟩) v.rows.n c7) (.slice v.held.a v.held.n v.held.c) (.slice v.holds.a v.holds.n v.holds.c) (.slice v.done.a v.done.n v.done.c) (.int .i64 (v.st : Int)) (.int .i64 (v.nx : Int)) (.slice v.who.a v.who.n v.who.c))
  obtain ⟨⟨r0, r1, r2, r3, r4, r5, r6, r7, r8, r9, r10⟩, _⟩ := (Kn.hd K13.out).eleven
  have HR := hide (HFIN.out _ _ _ _ _ _ (K13.out.sub (.cons_cons _ (.cons _ (List.Sublist.refl _)))))
  refine bodyPost_ret (v := .agg #[.slice v.l.a v.l.n v.l.c, .int .i64 v.c, .int .i64 (v.n : Int), .int .i64 (v.u : Int), .slice (some ⟨g7, 0, none⟩) v.rows.n c7, .slice v.held.a v.held.n v.held.c, .slice v.holds.a v.holds.n v.holds.c, .slice v.done.a v.done.n v.done.c, .int .i64 (v.st : Int), .int .i64 (v.nx : Int), .slice v.who.a v.who.n v.who.c]) (by simp [results, Tryz.results39, go_sem, r0, r1, r2, r3, r4, r5, r6, r7, r8, r9, r10]) rfl ?_
  exact ⟨_, rfl, HR, K13.out.below⟩
end Go.Proofs.YtkjhamcmhijhgaaGreat.PRef
