/- Joined out of the texts MrgTake, MrgRows, DqRing, DqKeep3, RoundQuiet, in that order. -/
import Derived.Test.YtkjdjmcecjaolaaAll4
import Derived.Deep.Cut
import Derived.Deep.LoopGhost
import Derived.Laws.EntriesVeiled
import Derived.Test.YtkjdjmcecjaolaaAll1
import Derived.Test.YtkjdjmcecjaolaaAll3
import Derived.Sort.BigQuietIn
import Derived.RangeFuncNested
import Derived.RangeFuncCalls
/- The least first thing is taken off its row, and put behind. -/
namespace Go.Proofs.Ytkjdjmcecjaolaa.Mrg
open Go.RowKit Go.Proofs.Ytkjdjmcecjaolaa.Dig Go.Proofs.Ytkjdjmcecjaolaa.Mem Go.Proofs.Ytkjdjmcecjaolaa.Dq Go.Proofs.Ytkjdjmcecjaolaa.Thing Go.Proofs.Ytkjdjmcecjaolaa.Own Go.Proofs.Ytkjdjmcecjaolaa.Sets
set_option linter.unusedVariables false
set_option linter.unusedSimpArgs false

local notation "ordF" => Value.func (Fn.func 12) #[] #[]
/-- A slice that reads a row. -/
structure Hd where
  a : Option Addr
  c : Nat
  l : List Int
abbrev Hd.v (h : Hd) : Value := .slice h.a h.l.length h.c
def Hd.R (h : Hd) (w : World) : Prop := RowI w h.a h.c h.l
def hd0 : Hd := ⟨none, 0, []⟩
theorem cmpI_zero {x y : Int} : (cmpI x y != 0) = decide (x ≠ y) := by
  unfold cmpI
  by_cases h1 : x < y
  · rw [if_pos h1]; simp; omega
  · rw [if_neg h1]
    by_cases h2 : y < x
    · rw [if_pos h2]; simp; omega
    · rw [if_neg h2]; simp; omega
theorem hds_getD (hs : List Hd) (k : Nat) : (hs.map Hd.l).getD k [] = (hs.getD k hd0).l := by
  rw [List.getD_eq_getElem?_getD, List.getD_eq_getElem?_getD, List.getElem?_map]
  cases hs[k]? <;> rfl
section
variable {w W wx : World} {ga : Option Addr} {n gc b o m base : Nat} {hs : List Hd} {cs : Array Value} {ts : List Th} {vO : Value} {out : List Int} {e : TypeId}
theorem hds_at {k : Nat} (hk : k < hs.length) : (hs.map Hd.v)[k]? = some (hs.getD k hd0).v := by
  rw [List.getElem?_map, List.getD_eq_getElem?_getD, List.getElem?_eq_getElem hk]
  rfl
theorem rowsI_own (h : (ownN base e 1 (.slice ga n gc) n (hs.map Hd.v)).P W) (hn : n = hs.length) (hR : ∀ h ∈ hs, h.R W) : RowsI W ga gc (hs.map Hd.l) := by
  refine ⟨by rw [List.length_map, ← hn]; exact (own_cap h).1, fun e => ?_, fun i hi => ?_⟩
  · subst e
    rcases h.2 with ⟨hv, _⟩ | ⟨g, cap, cur, hv, _⟩
    · cases hv; rfl
    · cases hv
  · rw [List.length_map] at hi
    obtain ⟨g, c, e, h1, _⟩ := own_at h (hds_at hi)
    cases e
    rw [hds_getD]
    refine ⟨g, 0, _, _, rfl, by rw [Nat.zero_add]; exact h1, hR _ ?_⟩
    rw [List.getD_eq_getElem?_getD, List.getElem?_eq_getElem hi]
    exact List.getElem_mem _
/-- What is left of a row, without its first thing. -/
theorem hd_cut {h : Hd} (hr : h.R W) (hne : h.l ≠ []) : ∃ h' : Hd, h'.l = h.l.tail ∧ (∀ V : World, (Instr.slice 23 h.v (some (.int .i64 1)) none none).run Try.prog V = .ok h'.v V) ∧ ∀ V, h.R V → h'.R V := by
  obtain ⟨a2, c2, h1, h2⟩ := slice_from hr 1 (List.length_pos_iff.2 hne)
  have e : h.l.drop 1 = h.l.tail := by simp
  rw [e] at h1 h2
  exact ⟨⟨a2, c2, h.l.tail⟩, rfl, h1, h2⟩
set_option maxHeartbeats 1000000 in
theorem take_none (K : Hid (Kn w (ownN base 23 1 (.slice ga n gc) n (hs.map Hd.v) :: boxT b cs :: ts) wx)) (hb : best (hs.map Hd.l) = none) (hn : n = hs.length) (hn2 : n ≤ 1000) (hc : cs[o]? = some ordF) (hR : ∀ W, Kn w ts W → ∀ h ∈ hs, h.R W) :
    Calls Try.prog 36 #[.pointer (some ⟨b, o, none⟩), .slice ga n gc] wx fun e w' => e = .returned (.bool false) ∧ Below wx.heap.size wx w' := by
  have HL := hide (least_any (rowsI_own K.out.hd hn (hR _ K.out.tail.tail)) (by rw [List.length_map]; exact hn) hn2)
  rw [bestI, hb] at HL
  have c0 := (Knget (pre := [_]) K.out).cell o hc
  clear K hb hn hc hR
  go_enter Try.func36, Try.ntmps36
  go_wp2_with (go_at_call 55; go_must ((with_reducible refine (Hid.out HL).mono ?_); rintro e w9 ⟨rfl, hb9⟩; clear HL))
  go_ret
  exact ⟨rfl, hb9⟩
theorem gen_kn {ts : List Th} {code : Code} {Q : Exit → Act → World → Prop} {a : Act} (h : Kn w ts W) (k : ∀ W, Hid (Kn w ts W) → code.wp Try.prog Q a W) : code.wp Try.prog Q a W := k W h
theorem set_same_arr {cs : Array Value} {i : Nat} {v : Value} (h : cs[i]? = some v) : cs.setIfInBounds i v = cs := by
  apply Array.ext_getElem?
  intro j
  simp only [Array.getElem?_setIfInBounds]
  split
  · rename_i e
    subst e
    rw [h]
    split
    · rfl
    · rename_i hn
      rw [Array.getElem?_eq_none (by omega)] at h
      cases h
  · rfl
theorem last_at {out : List Int} {m : Nat} (hm : m = out.length) (h0 : 0 < m) (x : Int) : (out.getLast? = some x ↔ out.getD (m - 1) 0 = x) := by
  rw [List.getLast?_eq_getElem?, ← hm, List.getD_eq_getElem?_getD, List.getElem?_eq_getElem (show m - 1 < out.length by omega)]
  simp
set_option maxHeartbeats 2000000 in
set_option maxRecDepth 20000 in
theorem take_some {k : Nat} (K : Hid (Kn w (ownN w.heap.size 23 1 (.slice ga n gc) n (hs.map Hd.v) :: ownN w.heap.size 3 1 vO m (out.map (Value.int .i64)) :: boxT b cs :: ts) wx)) (hb : best (hs.map Hd.l) = some k) (hn : n = hs.length) (hn2 : n ≤ 1000) (hm : m = out.length) (hm2 : m ≤ 100000) (hc : cs[o]? = some ordF) (ho : cs[o + 1]? = some vO) (hR : ∀ W, Kn w ts W → ∀ h ∈ hs, h.R W) :
    Calls Try.prog 36 #[.pointer (some ⟨b, o, none⟩), .slice ga n gc] wx fun e w' => e = .returned (.bool true) ∧ ∃ h' v', h'.l = (hs.getD k hd0).l.tail ∧ (∀ W, (hs.getD k hd0).R W → h'.R W) ∧
      Hid (Kn w (ownN w.heap.size 23 1 (.slice ga n gc) n ((hs.set k h').map Hd.v) :: ownN w.heap.size 3 1 v' (putL out (hd (hs.map Hd.l) k)).length ((putL out (hd (hs.map Hd.l) k)).map (Value.int .i64)) :: boxT b (cs.setIfInBounds (o + 1) v') :: ts) w') := by
  obtain ⟨i0, hi, hz0, hz1, hz2⟩ := info_parts Try.infoI
  obtain ⟨b1, b2⟩ := best_some hb
  rw [List.length_map] at b1
  have RI := rowsI_own K.out.hd hn (hR _ K.out.tail.tail.tail)
  have HL := hide (least_any RI (by rw [List.length_map]; exact hn) hn2)
  rw [bestI, hb] at HL
  obtain ⟨g, off, b3, o3, ln, lc, e1, f1, f2, f3, f4, f5, f6, f7⟩ := RI.first b2
  obtain ⟨g', gc', e2, f8, f9⟩ := own_at (j := k) K.out.hd (hds_at b1)
  cases e2
  cases e1
  rw [hds_getD] at b2
  have hrk : (hs.getD k hd0).R wx := hR _ K.out.tail.tail.tail _ (by
    rw [List.getD_eq_getElem?_getD, List.getElem?_eq_getElem b1]
    exact List.getElem_mem _)
  obtain ⟨h', g1, g2, g3⟩ := hd_cut hrk b2
  obtain ⟨ao, co, e3⟩ := Own.own_form (Knget (pre := [_]) K.out)
  subst e3
  obtain ⟨kh, hkh⟩ : ∃ kh, kh = hs.getD k hd0 := ⟨_, rfl⟩
  rw [Nat.zero_add] at f1
  rw [f8] at f1
  rw [← hkh] at f1 g1 g2 g3 f8 hrk ⊢
  obtain ⟨x, hx⟩ : ∃ x, x = hd (hs.map Hd.l) k := ⟨_, rfl⟩
  rw [← hx] at f6 ⊢

  obtain ⟨ka, kc, kl⟩ := kh
  injection f1 with f1
  injection f1 with q1 q2 q3
  subst q1 q3
  have HKL := hide q2
  replace g2 : ∀ (V : World), (Instr.slice 23 (.slice (some ⟨b3, o3, none⟩) ln kc) (some (.int .i64 1)) none none).run Try.prog V = .ok h'.v V := by rw [← q2]; exact g2
  replace f8 : wx.cell? ⟨g, k, none⟩ = some (.slice (some ⟨b3, o3, none⟩) ln kc) := by rw [← q2]; exact f8
  obtain ⟨ha, hc', hl⟩ := h'
  obtain ⟨l2, hl2⟩ : ∃ l2, l2 = hl.length := ⟨_, rfl⟩
  replace g2 : ∀ (V : World), (Instr.slice 23 (.slice (some ⟨b3, o3, none⟩) ln kc) (some (.int .i64 1)) none none).run Try.prog V = .ok (.slice ha l2 hc') V := by rw [hl2]; exact g2
  have HF : Hid (∀ V, Below wx.heap.size wx V → V.cell? ⟨g, k, none⟩ = some (.slice (some ⟨b3, o3, none⟩) ln kc) ∧ V.cell? ⟨b3, o3, none⟩ = some (.int .i64 x)) := hide (fun V hV => ⟨(hV.cell (p := ⟨g, k, none⟩) (lt_of_cell f8)).trans f8, (hV.cell (p := ⟨b3, o3, none⟩) (lt_of_cell f6)).trans f6⟩)
  have HX := hide hx
  have HG1 := hide g1
  have HG3 := hide g3
  have HC0 := hide hc
  have HC1 := hide ho
  have HM := hide hm
  have HN := hide hn
  have HL2 := hide hl2
  have hkn : (k : Int) < n := by omega
  have hln : (0 : Int) < ln := by omega
  have hgc : n ≤ gc := (own_cap K.out.hd).1
  have HWX : Hid ((Lit.int .i64 x).wf = true) := hide (by
    have := RowI.wf hrk (hd (hs.map Hd.l) k) (by
      unfold hd
      rw [hds_getD, ← hkh]
      cases kl with
      | nil => simp at q2; omega
      | cons y t => exact List.mem_cons_self)
    rw [hx]
    exact this)
  have c0 := (Knget (pre := [_, _]) K.out).cell o hc
  have c1 := (Knget (pre := [_, _]) K.out).cell (o + 1) ho
  clear q2 hl2 hb hn hm hc ho hR RI b1 b2 f2 f6 f7 f8 f9 hrk hkh hx g1 g3 HX
  go_enter Try.func36, Try.ntmps36
  go_upto_region 6 with (go_at_call 55; go_must ((with_reducible refine (Hid.out HL).mono ?_); rintro e w9 ⟨rfl, hb9⟩; obtain ⟨f8, f6⟩ := HF.out _ hb9; have f9 := World.ownsRow.frozenAt (K.out.keep hb9).hd k; have K9 := hide (K.out.keep hb9); clear HL c0 c1 hb9))
  obtain ⟨hs5, hhs5⟩ : ∃ hs5, hs5 = (hs.map Hd.v).set k (.slice ha l2 hc') := ⟨_, rfl⟩
  have HHS : Hid ((hs.set k ⟨ha, hc', hl⟩).map Hd.v = hs5) := hide (by rw [List.map_set, hhs5, HL2.out])
  have K5 := hide (ownPut (pre := []) K9.out k (.slice ha l2 hc') K9.out.hd)
  simp only [List.nil_append] at K5
  rw [← hhs5] at K5
  generalize (w9.setCell ⟨g, k, none⟩ (.slice ha l2 hc')) = W5 at K5 ⊢
  clear hhs5 K9 HF f8 f6 f9 g2 K
  have c0 := (Knget (pre := [_, _]) K5.out).cell o HC0.out
  have c1 := (Knget (pre := [_, _]) K5.out).cell (o + 1) HC1.out
  have cf := (Knget (pre := [_, _]) K5.out).frozen (o + 1)
  have hmco : m ≤ co := (own_cap (Knget (pre := [_]) K5.out)).1
  have HEND : Hid (∀ v' W8, Kn w (ownN w.heap.size 23 1 (.slice (some ⟨g, 0, none⟩) n gc) n hs5 :: ownN w.heap.size 3 1 v' (putL out x).length ((putL out x).map (Value.int .i64)) :: boxT b (cs.setIfInBounds (o + 1) v') :: ts) W8 →
      ∃ h'' v', h''.l = kl.tail ∧ (∀ W, Hd.R ⟨some ⟨b3, o3, none⟩, kc, kl⟩ W → h''.R W) ∧
      Hid (Kn w (ownN w.heap.size 23 1 (.slice (some ⟨g, 0, none⟩) n gc) n ((hs.set k h'').map Hd.v) :: ownN w.heap.size 3 1 v' (putL out x).length ((putL out x).map (Value.int .i64)) :: boxT b (cs.setIfInBounds (o + 1) v') :: ts) W8)) := hide (fun v' W8 hK =>
    ⟨⟨ha, hc', hl⟩, v', HG1.out, HG3.out, by rw [HHS.out]; exact hK⟩)
  by_cases h0 : m = 0
  · subst h0
    have HP : Hid (putL out x = [x]) := hide (by
      have : out = [] := List.eq_nil_of_length_eq_zero HM.out.symm
      subst this
      rfl)
    have HO : Hid (out = []) := hide (List.eq_nil_of_length_eq_zero HM.out.symm)
    go_wp2
    go_quiet (fail)
    have K6 := hide (K5.out.drewN nq)
    have HC5 : Hid (W5.cell? ⟨b, o + 1, none⟩ = some (.slice ao 0 co) ∧ W5.frozen? ⟨b, o + 1, none⟩ = false) := hide ⟨c1, cf⟩
    clear c0
    go_wp2_with (at_builtin; go_must ((refine wpList_append_own_at _ rfl _ _ 23 rfl w.heap.size 3 i0 (.int .i64 0) 1 8 Try.underlying23 hi hz0 hz1 hz2 rfl (by decide) (.slice ao 0 co) 0 (out.map (Value.int .i64)) rfl (World.ownsRow.alloc (Knget (pre := [_]) (K6).out) _) ⟨(W5).heap.size, 0, none⟩ 1 1 [(.int .i64 x)] rfl rfl (cell_one_new _ _ _) (by simp [Value.oneCell']) (by unfold maxLen; omega) (by omega) (by have := (K6).out.below.size; simp at this ⊢; omega) ?_); intro v4 w4 hown4 hg4 _ hat4; obtain ⟨a4, c4, rfl⟩ := Own.own_form hown4; have K4 := hide (growAt (pre := [_]) ((K6).out.keep ((Below.refl _ _).alloc (Nat.le_refl _) _)) hown4 hg4 hat4); clear hown4 hg4 hat4; have f7 := (Knget (pre := [_, _]) K4.out).frozen (o + 1); have c7 := (Knget (pre := [_, _]) K4.out).cell (o + 1) HC1.out))
    go_ret
    refine ⟨rfl, HEND.out (.slice a4 (0 + 1) c4) _ ?_⟩
    rw [HP.out]
    have K7 := putBox (pre := [_, _]) K4.out (o + 1) (.slice a4 (0 + 1) c4) rfl (Knget (pre := [_, _]) K4.out)
    rw [HO.out] at K7
    exact K7
  · have hml : (m - 1 : Nat) < m := by omega
    obtain ⟨go', co', e4, f1, _⟩ := own_at (j := m - 1) (Knget (pre := [_]) K5.out) (u := .int .i64 (out.getD (m - 1) 0)) (by
      rw [List.getElem?_map, List.getD_eq_getElem?_getD, List.getElem?_eq_getElem (show m - 1 < out.length by rw [← HM.out]; omega)]
      rfl)
    cases e4
    have HLA := hide (last_at HM.out (by omega) x)
    obtain ⟨y, hy⟩ : ∃ y, y = out.getD (m - 1) 0 := ⟨_, rfl⟩
    rw [← hy] at f1 HLA
    have hmi : ((m : Int) == 0) = false := by simp; omega
    have hm1 : (m : Int) - 1 < m := by omega
    have hm2' : ¬ (m : Int) - 1 < 0 := by omega
    have ht : ((m : Int) - 1).toNat = m - 1 := by omega
    have HOR := hide (fun q => order_any y x (W5.drewN q))
    have hz : (cmpI y x != 0) = decide (y ≠ x) := cmpI_zero
    have hw0 : IntKind.i64.wrap ((m : Int) - 1) = (m : Int) - 1 := by rw [IntKind.wrap_i64]; omega
    by_cases hyx : y = x
    · have HP : Hid (putL out x = out) := hide (by unfold putL; rw [if_pos (HLA.out.2 hyx)])
      have hcz : (cmpI y x != 0) = false := by rw [hz]; simp [hyx]
      generalize cmpI y x = cc at HOR hcz
      clear hz hy hyx h0
      go_wp2
      go_quiet ((go_at_call 12; exact Calls.quiet_of_same (HOR.out _)))
      go_wp2
      go_ret
      refine ⟨rfl, HEND.out (.slice (some ⟨go', 0, none⟩) m co) _ ?_⟩
      rw [HP.out, ← HM.out, set_same_arr HC1.out]
      exact K5.out.drewN _
    · have HP : Hid (putL out x = out ++ [x]) := hide (by unfold putL; rw [if_neg (fun z => hyx (HLA.out.1 z))])
      have hcz : (cmpI y x != 0) = true := by rw [hz]; simp [hyx]
      generalize cmpI y x = cc at HOR hcz
      clear hz hy hyx h0
      go_wp2
      go_quiet ((go_at_call 12; exact Calls.quiet_of_same (HOR.out _)))
      have K6 := hide (K5.out.drewN nq)
      clear c0 f1
      go_wp2_with (at_builtin; go_must ((refine wpList_append_own_at _ rfl _ _ 23 rfl w.heap.size 3 i0 (.int .i64 0) 1 8 Try.underlying23 hi hz0 hz1 hz2 rfl (by decide) (.slice (some ⟨go', 0, none⟩) m co) m (out.map (Value.int .i64)) rfl (World.ownsRow.alloc (Knget (pre := [_]) (K6).out) _) ⟨(W5).heap.size, 0, none⟩ 1 1 [(.int .i64 x)] rfl rfl (cell_one_new _ _ _) (by simp [Value.oneCell']) (by unfold maxLen; omega) (by omega) (by have := (K6).out.below.size; simp at this ⊢; omega) ?_); intro v4 w4 hown4 hg4 _ hat4; obtain ⟨a4, c4, rfl⟩ := Own.own_form hown4; have K4 := hide (growAt (pre := [_]) ((K6).out.keep ((Below.refl _ _).alloc (Nat.le_refl _) _)) hown4 hg4 hat4); clear hown4 hg4 hat4; have f7 := (Knget (pre := [_, _]) K4.out).frozen (o + 1); have c7 := (Knget (pre := [_, _]) K4.out).cell (o + 1) HC1.out))
      go_ret
      refine ⟨rfl, HEND.out (.slice a4 (m + 1) c4) _ ?_⟩
      rw [HP.out, List.length_append, ← HM.out, List.map_append]
      exact putBox (pre := [_, _]) K4.out (o + 1) (.slice a4 (m + 1) c4) rfl (Knget (pre := [_, _]) K4.out)
end
end Go.Proofs.Ytkjdjmcecjaolaa.Mrg

/- What rows make together. -/
namespace Go.Proofs.Ytkjdjmcecjaolaa.Mrg
open Go.RowKit Go.Proofs.Ytkjdjmcecjaolaa.Dig Go.Proofs.Ytkjdjmcecjaolaa.Mem Go.Proofs.Ytkjdjmcecjaolaa.Dq Go.Proofs.Ytkjdjmcecjaolaa.Thing Go.Proofs.Ytkjdjmcecjaolaa.Own Go.Proofs.Ytkjdjmcecjaolaa.Sets
set_option linter.unusedVariables false
set_option linter.unusedSimpArgs false

local notation "ordF" => Value.func (Fn.func 12) #[] #[]
section
variable {w W wx : World} {a : Option Addr} {n c : Nat} {ls : List (List Int)} {hs : List Hd} {ts : List Th}
theorem RowsI.hds (h : RowsI w a c ls) : ∃ hs : List Hd, hs.map Hd.l = ls ∧ CellsR w a c (hs.map Hd.v) ∧ ∀ h ∈ hs, h.R w := by
  have H : ∀ m, m ≤ ls.length → ∃ hs : List Hd, hs.map Hd.l = ls.take m ∧ (∀ i u, (hs.map Hd.v)[i]? = some u → ∃ b off, a = some ⟨b, off, none⟩ ∧ w.cell? ⟨b, off + i, none⟩ = some u) ∧ ∀ h ∈ hs, h.R w := by
    intro m
    induction m with
    | zero => exact fun _ => ⟨[], by simp, fun i u hu => by simp at hu, fun h hh => by cases hh⟩
    | succ m ih =>
      intro hm
      obtain ⟨hs, h1, h2, h3⟩ := ih (by omega)
      obtain ⟨b, off, la, lc, ea, hc, hr⟩ := h.at_ m (by omega)
      have hl : hs.length = m := by
        have := congrArg List.length h1
        rw [List.length_map, List.length_take] at this
        omega
      refine ⟨hs ++ [⟨la, lc, ls.getD m []⟩], ?_, fun i u hu => ?_, fun h' hh => ?_⟩
      · rw [List.map_append, h1, List.take_add_one, List.getD_eq_getElem?_getD, List.getElem?_eq_getElem (show m < ls.length by omega)]
        rfl
      · rw [List.map_append] at hu
        rcases Nat.lt_or_ge i m with q | q
        · rw [List.getElem?_append_left (by rw [List.length_map]; omega)] at hu
          exact h2 i u hu
        · rw [List.getElem?_append_right (by rw [List.length_map]; omega)] at hu
          rw [List.length_map, hl] at hu
          have : i - m = 0 := by
            rcases Nat.eq_zero_or_pos (i - m) with z | z
            · exact z
            · rw [List.getElem?_eq_none (by simp; omega)] at hu; cases hu
          rw [this] at hu
          obtain rfl : i = m := by omega
          cases hu
          exact ⟨b, off, ea, hc⟩
      · rcases List.mem_append.1 hh with q | q
        · exact h3 h' q
        · rw [List.mem_singleton] at q
          subst q
          exact hr
  obtain ⟨hs, h1, h2, h3⟩ := H ls.length (Nat.le_refl _)
  rw [List.take_length] at h1
  have hl : hs.length = ls.length := by rw [← h1, List.length_map]
  exact ⟨hs, h1, ⟨by rw [List.length_map, hl]; exact h.cap, h.nil, h2⟩, h3⟩
theorem eql_nilS (x : Addr) (n c : Nat) (W : World) : (binOp .eql 22 (.slice (some x) n c) (.slice none 0 0)).run Try.prog W = .ok (.bool false) W := by kernel_rfl
theorem eql_nilN (W : World) : (binOp .eql 22 (.slice none 0 0) (.slice none 0 0)).run Try.prog W = .ok (.bool true) W := by kernel_rfl
theorem eql_ordF (W : World) : (binOp .eql 33 ordF .nilFunc).run Try.prog W = .ok (.bool false) W := by kernel_rfl
theorem eql_nilF (W : World) : (binOp .eql 33 .nilFunc .nilFunc).run Try.prog W = .ok (.bool true) W := by kernel_rfl
theorem hd_one (hs : List Hd) : ∀ u ∈ hs.map Hd.v, u.oneCell' = true := fun u hu => by
  obtain ⟨h, _, rfl⟩ := List.mem_map.1 hu
  rfl
set_option maxHeartbeats 1000000 in
set_option maxRecDepth 20000 in
theorem clone_rows (K : Hid (Kn w ts wx)) (hr : CellsR wx a c (hs.map Hd.v)) (hn : n = hs.length) (hn2 : n ≤ 1000) : Calls Try.prog 35 #[.slice a n c] wx fun e w' => ∃ a' c', e = .returned (.slice a' n c') ∧ Hid (Kn w (ownN w.heap.size 23 1 (.slice a' n c') n (hs.map Hd.v) :: ts) w') := by
  cases a with
  | none =>
    have hc := hr.nil rfl
    have : n = 0 := by
      have := hr.cap
      rw [List.length_map] at this
      omega
    subst this
    have e : hs = [] := List.eq_nil_of_length_eq_zero hn.symm
    subst e hc
    clear hr hn
    have E := eql_nilN
    go_enter Try.func35, Try.ntmps35
    go_wp2
    go_ret
    exact ⟨none, 0, rfl, ownNil K.out _ _ _⟩
  | some ad =>
    have HN := hide hn
    have HB := hide K.out.below.size
    have K1 := hide (own0 K.out 23 1 HB.out (g := wx.heap.size) rfl)
    have HR := hide (hr.keep (w' := wx.alloc (.cells #[] 23)) ((Below.refl _ _).alloc (Nat.le_refl _) _))
    clear hr hn
    have E := eql_nilS
    go_enter Try.func35, Try.ntmps35
    go_wp2_with (at_builtin; go_must (refine app_cells 22 23 Try.underlying22 Try.infoIs rfl (by decide) rfl _ _ rfl w.heap.size (.slice (some ⟨wx.heap.size, 0, none⟩) 0 0) 0 [] rfl K1.out.hd (some ad) c n (hs.map Hd.v) rfl (by rw [List.length_map]; exact HN.out) HR.out (hd_one hs) (by have := HN.out; rw [List.length_map]; omega) (by have := HB.out; simp; omega) ?_; intro v7 w7 hown7 hg7 hat7; rw [Nat.zero_add, List.nil_append, List.length_map, ← HN.out] at hown7; obtain ⟨a7, c7, rfl⟩ := Own.own_form hown7; have K7 := hide (growAt (pre := []) K1.out hown7 hg7 hat7); clear hown7 hg7 hat7))
    go_ret
    exact ⟨_, _, rfl, K7⟩
/-- Where Rows stands: what is left of the rows, what was put. -/
def RwR (w : World) (b : Nat) (n : Nat) (ga : Option Addr) (gc : Nat) (r : List Int) (g : Nat) (wr : World) : Prop := ∃ (hs : List Hd) (v : Value) (out : List Int), Hid (Kn w [ownN w.heap.size 23 1 (.slice ga n gc) n (hs.map Hd.v), ownN w.heap.size 3 1 v out.length (out.map (Value.int .i64)), boxT b #[ordF, v]] wr) ∧
  Hid (n = hs.length ∧ (∀ h ∈ hs, h.R w) ∧ mixF (cnt (hs.map Hd.l)) (hs.map Hd.l) out = r ∧ out.length + cnt (hs.map Hd.l) ≤ 100000 ∧ WfL out) ∧ Hid (cnt (hs.map Hd.l) ≤ g)
theorem wfl_put {out : List Int} {x : Int} (h : WfL out) (hx : (Lit.int .i64 x).wf = true) : WfL (putL out x) := fun y hy => by
  rcases mem_putL.1 hy with q | rfl
  · exact h y q
  · exact hx
theorem putL_length (out : List Int) (x : Int) : (putL out x).length ≤ out.length + 1 := by
  unfold putL
  split <;> simp
/-- One more was taken. -/
theorem take_next {w : World} {hs : List Hd} {out r : List Int} {n k : Nat} {h' : Hd} (h : n = hs.length ∧ (∀ h ∈ hs, h.R w) ∧ mixF (cnt (hs.map Hd.l)) (hs.map Hd.l) out = r ∧ out.length + cnt (hs.map Hd.l) ≤ 100000 ∧ WfL out) (hb : best (hs.map Hd.l) = some k) (h1 : h'.l = (hs.getD k hd0).l.tail) (h2 : ∀ W, (hs.getD k hd0).R W → h'.R W) :
    (n = (hs.set k h').length ∧ (∀ h ∈ hs.set k h', h.R w) ∧ mixF (cnt ((hs.set k h').map Hd.l)) ((hs.set k h').map Hd.l) (putL out (hd (hs.map Hd.l) k)) = r ∧ (putL out (hd (hs.map Hd.l) k)).length + cnt ((hs.set k h').map Hd.l) ≤ 100000 ∧ WfL (putL out (hd (hs.map Hd.l) k))) ∧ cnt ((hs.set k h').map Hd.l) + 1 = cnt (hs.map Hd.l) := by
  obtain ⟨g1, g2, g3, g4, g5⟩ := h
  obtain ⟨b1, b2⟩ := best_some hb
  rw [List.length_map] at b1
  have hm : hs.getD k hd0 ∈ hs := by
    rw [List.getD_eq_getElem?_getD, List.getElem?_eq_getElem b1]
    exact List.getElem_mem _
  have e : (hs.set k h').map Hd.l = (hs.map Hd.l).set k ((hs.map Hd.l).getD k []).tail := by rw [List.map_set, h1, hds_getD]
  have hc := cnt_take b2
  rw [e]
  have hp := putL_length out (hd (hs.map Hd.l) k)
  refine ⟨⟨by rw [List.length_set]; exact g1, fun h hh => ?_, ?_, by omega, wfl_put g5 ?_⟩, hc⟩
  · rcases List.mem_or_eq_of_mem_set hh with q | q
    · exact g2 h q
    · subst q; exact h2 w (g2 _ hm)
  · rw [← g3, mixF_step hb (Nat.le_refl _)]
    exact mixF_enough _ _ _ _ (Nat.le_refl _) (by omega)
  · refine RowI.wf (g2 _ hm) _ ?_
    rw [hds_getD] at b2
    unfold hd
    rw [hds_getD]
    cases q : (hs.getD k hd0).l with
    | nil => exact absurd q b2
    | cons y t => simp
set_option maxHeartbeats 2000000 in
set_option maxRecDepth 20000 in
theorem rows_any (h : RowsI w a c ls) (hn : n = ls.length) (hn2 : n ≤ 1000) (hc2 : cnt ls ≤ 100000) : Calls Try.prog 21 #[.slice a n c, ordF] w fun e w' => ∃ oa oc, e = .returned (.slice oa (mixL ls).length oc) ∧ Hid (RowI w' oa oc (mixL ls) ∧ Fresh w.heap.size oa) ∧ Below w.heap.size w w' := by
  obtain ⟨hs, h1, h2, h3⟩ := h.hds
  have hnl : n = hs.length := by rw [hn, ← h1, List.length_map]
  have K0 := hide (box0 (Kn.start w) #[ordF, .slice none 0 0] 61 (g := w.heap.size) rfl)
  have HI : Hid (n = hs.length ∧ (∀ h ∈ hs, h.R w) ∧ mixF (cnt (hs.map Hd.l)) (hs.map Hd.l) [] = mixL ls ∧ ([] : List Int).length + cnt (hs.map Hd.l) ≤ 100000 ∧ WfL []) := hide ⟨hnl, h3, by rw [h1]; rfl, by rw [h1]; simpa using hc2, fun x hx => by cases hx⟩
  have HCL : Hid (∀ W, Below w.heap.size w W → CellsR W a c (hs.map Hd.v)) := hide (fun W hW => CellsR.keep h2 hW)
  have HNL := hide hnl
  clear h h1 h2 h3 hn hc2 hnl
  have E := eql_ordF
  go_enter Try.func21, Try.ntmps21
  go_wp2_with (go_at_call 35; go_must ((with_reducible refine (clone_rows K0 (HCL.out _ K0.out.below) HNL.out hn2).mono ?_); rintro e w1 ⟨ga, gc, rfl, K1⟩))
  have M0 : Hid (RwR w w.heap.size n ga gc (mixL ls) (cnt (hs.map Hd.l)) w1) := hide ⟨hs, .slice none 0 0, [], hide ((ownNil K1.out _ _ _).swap), HI, hide (Nat.le_refl _)⟩
  clear K1 K0 HI HCL HNL E
  go_loopg [13] (cnt (hs.map Hd.l)) (fun g _ wr => RwR w w.heap.size n ga gc (mixL ls) g wr)
  case atStart => exact M0.out
  case round =>
    obtain ⟨hs1, v1, out1, K1, H1, G1⟩ := hrel
    clear M0
    have HR1 : ∀ W, Kn w [] W → ∀ h ∈ hs1, h.R W := fun W hW h hh => RowI.keep (H1.out.2.1 h hh) hW.below
    cases hb1 : best (hs1.map Hd.l) with
    | none =>
      have HE : Hid (mixL ls = out1) := hide (by rw [← H1.out.2.2.1, mixF_end hb1])
      have HT := hide (take_none (o := 0) (hide ((K1.out.perm (.cons _ (.swap _ _ _))).sub (.cons_cons _ (.cons_cons _ (List.nil_sublist _))))) hb1 H1.out.1 hn2 rfl HR1)
      have HK := hide K1
      obtain ⟨oa, m, oc, e, hrow, hfr⟩ : ∃ oa m oc, v1 = .slice oa m oc ∧ (m = out1.length ∧ RowI wr oa oc out1) ∧ Fresh w.heap.size oa := by
        obtain ⟨oa, oc, e, hr, hf⟩ := OwnI.row (show OwnI w.heap.size wr v1 out1 from Knget (pre := [_]) K1.out) (by have := H1.out.2.2.2.1; omega) H1.out.2.2.2.2
        exact ⟨oa, _, oc, e, ⟨rfl, hr⟩, hf⟩
      subst e
      have HROW := hide hrow
      have HFR := hide hfr
      clear K1 hb1 HR1 hrow hfr
      go_wp2_with (go_at_call 36; go_must ((with_reducible refine (Hid.out HT).mono ?_); rintro e w3 ⟨rfl, hb3⟩; have K3 := hide (HK.out.keep hb3); have c3 := (Knget (pre := [_, _]) K3.out).cell 1 rfl; have HB3 := hide hb3; clear hb3 HT))
      go_ret
      rw [HE.out, ← HROW.out.1]
      exact ⟨oa, oc, rfl, ⟨HROW.out.2.keep HB3.out, HFR.out⟩, K3.out.below⟩
    | some k =>
      have HT := hide (take_some (o := 0) K1 hb1 H1.out.1 hn2 rfl (by have := H1.out.2.2.2.1; omega) rfl rfl HR1)
      have HBB := hide hb1
      clear hb1 HR1 K1
      go_wp2_with (go_at_call 36; go_must ((with_reducible refine (Hid.out HT).mono ?_); rintro e w3 ⟨rfl, h', v', q1, q2, K3⟩; have HN3 := hide (take_next H1.out HBB.out q1 q2); clear q1 q2 HT))
      go_roundg (cnt ((hs1.set k h').map Hd.l))
      case measure => have := HN3.out.2; have := G1.out; omega
      case rel => exact ⟨hs1.set k h', v', _, K3, hide HN3.out.1, hide (Nat.le_refl _)⟩
end
end Go.Proofs.Ytkjdjmcecjaolaa.Mrg

/- A row in a ring, plainly. -/
namespace Go.Proofs.Ytkjdjmcecjaolaa.Dq
set_option linter.unusedVariables false

/-- A ring of n places that bears l from the place t on. -/
structure Ring {α : Type} (d : α) (n t : Nat) (rs l : List α) : Prop where
  len : rs.length = n
  cnt : l.length ≤ n
  top : t < n
  at_ : ∀ i, i < l.length → rs.getD ((t + i) % n) d = l.getD i d
section
variable {α : Type} {d : α} {n t : Nat} {rs l : List α}
theorem mod_inj {n t i j : Nat} (hi : i < n) (hj : j < n) (h : (t + i) % n = (t + j) % n) : i = j := by
  have key : ∀ a b : Nat, a < n → b < n → a ≤ b → (t + a) % n = (t + b) % n → a = b := fun a b ha hb hab h => by
    have h1 := Nat.sub_mod_eq_zero_of_mod_eq h.symm
    rw [show t + b - (t + a) = b - a by omega, Nat.mod_eq_of_lt (by omega)] at h1
    omega
  rcases Nat.le_total i j with q | q
  · exact key i j hi hj q h
  · exact (key j i hj hi q h.symm).symm
theorem Ring.lt (h : Ring d n t rs l) (k : Nat) : (t + k) % n < n := Nat.mod_lt _ (by have := h.top; omega)
theorem getD_set_self {rs : List α} {p : Nat} {x d : α} (h : p < rs.length) : (rs.set p x).getD p d = x := by
  rw [List.getD_eq_getElem?_getD, List.getElem?_set_self (by simpa using h)]; rfl
theorem getD_set_off {rs : List α} {p q : Nat} {x d : α} (h : p ≠ q) : (rs.set p x).getD q d = rs.getD q d := by
  rw [List.getD_eq_getElem?_getD, List.getD_eq_getElem?_getD, List.getElem?_set_ne h]
theorem Ring.push (h : Ring d n t rs l) (hl : l.length < n) (x : α) : Ring d n t (rs.set ((t + l.length) % n) x) (l ++ [x]) :=
  ⟨by rw [List.length_set]; exact h.len, by rw [List.length_append]; exact hl, h.top, fun i hi => by
    rw [List.length_append] at hi
    simp only [List.length_cons, List.length_nil] at hi
    by_cases e : i = l.length
    · subst e
      rw [getD_set_self (by rw [h.len]; exact h.lt _), List.getD_eq_getElem?_getD, List.getElem?_append_right (Nat.le_refl _), Nat.sub_self]
      rfl
    · have hi2 : i < l.length := by omega
      rw [getD_set_off (fun q => e (mod_inj (t := t) hl (by have := h.cnt; omega) q).symm), h.at_ i hi2, List.getD_eq_getElem?_getD, List.getD_eq_getElem?_getD, List.getElem?_append_left hi2]⟩
theorem Ring.pop {x : α} (h : Ring d n t rs (l ++ [x])) (z : α) : Ring d n t (rs.set ((t + l.length) % n) z) l ∧ rs.getD ((t + l.length) % n) d = x := by
  have hc := h.cnt
  rw [List.length_append] at hc
  simp only [List.length_cons, List.length_nil] at hc
  refine ⟨⟨by rw [List.length_set]; exact h.len, by omega, h.top, fun i hi => ?_⟩, ?_⟩
  · rw [getD_set_off (fun q => by have := mod_inj (t := t) (by omega) (by omega) q; omega), h.at_ i (by rw [List.length_append]; omega), List.getD_eq_getElem?_getD, List.getD_eq_getElem?_getD, List.getElem?_append_left hi]
  · rw [h.at_ l.length (by simp), List.getD_eq_getElem?_getD, List.getElem?_append_right (Nat.le_refl _), Nat.sub_self]
    rfl
theorem Ring.steal {x : α} (h : Ring d n t rs (x :: l)) (z : α) : Ring d n ((t + 1) % n) (rs.set ((t + 0) % n) z) l ∧ rs.getD ((t + 0) % n) d = x := by
  have hc := h.cnt
  simp only [List.length_cons] at hc
  refine ⟨⟨by rw [List.length_set]; exact h.len, by omega, h.lt _, fun i hi => ?_⟩, ?_⟩
  · have e : ((t + 1) % n + i) % n = (t + (i + 1)) % n := by
      rw [Nat.mod_add_mod]; congr 1; omega
    rw [e, getD_set_off (fun q => by have := mod_inj (t := t) (by omega) (by omega) q; omega), h.at_ (i + 1) (by simp; omega)]
    rfl
  · rw [h.at_ 0 (by simp)]
    rfl
/-- A new ring, laid out from its beginning on. -/
def laid (d : α) (m : Nat) (l : List α) (k : Nat) : List α := l.take k ++ List.replicate (m - k) d
theorem laid_length {m k : Nat} {l : List α} (hl : l.length ≤ m) (hk : k ≤ l.length) : (laid d m l k).length = m := by simp [laid]; omega
theorem laid_zero {m : Nat} {l : List α} : laid d m l 0 = List.replicate m d := by simp [laid]
theorem laid_set {m k : Nat} {l : List α} (hl : l.length ≤ m) (hk : k < l.length) : (laid d m l k).set k (l.getD k d) = laid d m l (k + 1) := by
  unfold laid
  obtain ⟨r, hr⟩ : ∃ r, m - k = r + 1 := ⟨m - k - 1, by omega⟩
  have e2 : (l.take k).length = k := by rw [List.length_take]; omega
  rw [hr, show m - (k + 1) = r by omega, List.set_append_right _ _ (by omega), e2, Nat.sub_self, List.replicate_succ, List.set_cons_zero, List.take_add_one, List.getElem?_eq_getElem hk, List.getD_eq_getElem?_getD, List.getElem?_eq_getElem hk]
  rw [List.append_assoc]
  rfl
theorem Ring.laid {m : Nat} {l : List α} (hl : l.length ≤ m) (hm : 0 < m) : Ring d m 0 (laid d m l l.length) l :=
  ⟨laid_length hl (Nat.le_refl _), hl, hm, fun i hi => by
    rw [Nat.zero_add, Nat.mod_eq_of_lt (by omega)]
    unfold Dq.laid
    rw [List.take_length, List.getD_eq_getElem?_getD, List.getElem?_append_left hi, ← List.getD_eq_getElem?_getD]⟩
end
/-- The numbers below k. -/
def upTo (k : Nat) : List Int := (List.range k).map fun i : Nat => (i : Int)
theorem upTo_succ (k : Nat) : upTo (k + 1) = upTo k ++ [(k : Int)] := by simp [upTo, List.range_succ]
theorem upTo_length (k : Nat) : (upTo k).length = k := by simp [upTo]
theorem upTo_zero : upTo 0 = [] := rfl
end Go.Proofs.Ytkjdjmcecjaolaa.Dq

/- Three cells of a block, the others being as they are. -/
namespace Go.Proofs.Ytkjdjmcecjaolaa.Dq
open Go.RowKit Go.Proofs.Ytkjdjmcecjaolaa.Mem
set_option linter.unusedVariables false
set_option linter.unusedSimpArgs false

def put3 (cs : Array Value) (o : Nat) (x y z : Value) : Array Value := ((cs.setIfInBounds o x).setIfInBounds (o + 1) y).setIfInBounds (o + 2) z
section
variable {cs : Array Value} {o : Nat} {x y z : Value}
theorem put3_size : (put3 cs o x y z).size = cs.size := by simp [put3]
theorem put3_0 (h : o + 3 ≤ cs.size) : (put3 cs o x y z)[o]? = some x := by
  unfold put3
  rw [Array.getElem?_setIfInBounds_ne (by omega), Array.getElem?_setIfInBounds_ne (by omega), Array.getElem?_setIfInBounds_self_of_lt (by omega)]
theorem put3_1 (h : o + 3 ≤ cs.size) : (put3 cs o x y z)[o + 1]? = some y := by
  unfold put3
  rw [Array.getElem?_setIfInBounds_ne (by omega), Array.getElem?_setIfInBounds_self_of_lt (by simp; omega)]
theorem put3_2 (h : o + 3 ≤ cs.size) : (put3 cs o x y z)[o + 2]? = some z := by
  unfold put3
  rw [Array.getElem?_setIfInBounds_self_of_lt (by simp; omega)]
theorem put3_off {i : Nat} (h : i < o ∨ o + 3 ≤ i) : (put3 cs o x y z)[i]? = cs[i]? := by
  unfold put3
  rw [Array.getElem?_setIfInBounds_ne (by omega), Array.getElem?_setIfInBounds_ne (by omega), Array.getElem?_setIfInBounds_ne (by omega)]
theorem put3_set0 (u : Value) : (put3 cs o x y z).setIfInBounds o u = put3 cs o u y z := by
  apply Array.ext_getElem?
  intro i
  simp only [put3, Array.getElem?_setIfInBounds, Array.size_setIfInBounds]
  grind
theorem put3_set1 (u : Value) : (put3 cs o x y z).setIfInBounds (o + 1) u = put3 cs o x u z := by
  apply Array.ext_getElem?
  intro i
  simp only [put3, Array.getElem?_setIfInBounds, Array.size_setIfInBounds]
  grind
theorem put3_set2 (u : Value) : (put3 cs o x y z).setIfInBounds (o + 2) u = put3 cs o x y u := by
  apply Array.ext_getElem?
  intro i
  simp only [put3, Array.getElem?_setIfInBounds, Array.size_setIfInBounds]
  grind
/-- Another cell of the block is turned. -/
theorem put3_swap {i : Nat} (h : i < o ∨ o + 3 ≤ i) (u : Value) : (put3 cs o x y z).setIfInBounds i u = put3 (cs.setIfInBounds i u) o x y z := by
  apply Array.ext_getElem?
  intro j
  simp only [put3, Array.getElem?_setIfInBounds, Array.size_setIfInBounds]
  grind
theorem is3 {w : World} {b : Nat} (h : Is w b (put3 cs o x y z)) (hf : o + 3 ≤ cs.size) : w.cell? ⟨b, o, none⟩ = some x ∧ w.cell? ⟨b, o + 1, none⟩ = some y ∧ w.cell? ⟨b, o + 2, none⟩ = some z := ⟨h.cell o (put3_0 hf), h.cell (o + 1) (put3_1 hf), h.cell (o + 2) (put3_2 hf)⟩
theorem is3_set0 {w : World} {b : Nat} (h : Is w b (put3 cs o x y z)) (u : Value) : Is (w.setCell ⟨b, o, none⟩ u) b (put3 cs o u y z) := by rw [← put3_set0 (x := x)]; exact h.set o u
theorem is3_set1 {w : World} {b : Nat} (h : Is w b (put3 cs o x y z)) (u : Value) : Is (w.setCell ⟨b, o + 1, none⟩ u) b (put3 cs o x u z) := by rw [← put3_set1 (y := y)]; exact h.set (o + 1) u
theorem is3_set2 {w : World} {b : Nat} (h : Is w b (put3 cs o x y z)) (u : Value) : Is (w.setCell ⟨b, o + 2, none⟩ u) b (put3 cs o x y u) := by rw [← put3_set2 (z := z)]; exact h.set (o + 2) u
end
end Go.Proofs.Ytkjdjmcecjaolaa.Dq

/- A region in a round of a range over a function, whose operations read alone, but for the last one, a store behind all others: one walk in the text's order serves every order. -/
namespace Go.Proofs.Ytkjdjmcecjaolaa.Round
open Go Go.RowKit
set_option linter.unusedVariables false
set_option linter.unusedSimpArgs false

section
variable {F : Fence} {n : Nat} {P : Program} {ops ops' : Array Oper} {md : Region.Mode} {C : World → Prop} {l : Nat}
def skipOf (o : Oper) : Oper := { o with op := .assign (.const undef), dst := none, guard := none }
def noDefer (ops : Array Oper) : Bool := ops.all fun o => match o.op with | .defer _ => false | _ => true
theorem noDefer_spec (h : noDefer ops = true) {i : Nat} {o : Oper} (ho : ops[i]? = some o) (c : Call) : o.op ≠ .defer c := by
  intro e
  have := Array.all_eq_true_iff_forall_mem.1 h o (Array.mem_of_getElem? ho)
  rw [e] at this
  cases this
/-- Edges lead back, and the last operation waits for all others. -/
def backB (ops : Array Oper) : Bool := (List.range ops.size).all fun i => match ops[i]? with | some o => o.after.all fun e => decide (e.on < i) | none => true
def lastB (md : Region.Mode) (ops : Array Oper) (k : Nat) : Bool := match ops[k]? with | some o => (List.range k).all fun j => o.after.any fun e => e.on == j && Region.binds md e | none => false
theorem backB_spec (h : backB ops = true) {i : Nat} {o : Oper} (ho : ops[i]? = some o) {e : _} (he : e ∈ o.after) : e.on < i := by
  unfold backB at h
  have h1 := List.all_eq_true.1 h i (List.mem_range.2 (Array.getElem?_eq_some_iff.1 ho).1)
  rw [ho] at h1
  exact of_decide_eq_true (Array.all_eq_true_iff_forall_mem.1 h1 e he)
/-- While one has not come up, one may. -/
theorem ready_some (hb : backB ops = true) {listed : Array Bool} (hs : listed.size = ops.size) {k : Nat} (hk : listed.getD k true = false) : Region.ready md ops listed ≠ [] := by
  have key : ∀ k, listed.getD k true = false → ∃ j, listed.getD j true = false ∧ ∀ i, i < j → listed.getD i true = true := by
    intro k
    induction k using Nat.strongRecOn with
    | ind k ih =>
      intro hk
      by_cases q : ∃ i, i < k ∧ listed.getD i true = false
      · obtain ⟨i, hi, h⟩ := q
        exact ih i hi h
      · exact ⟨k, hk, fun i hi => by
          cases e : listed.getD i true with
          | true => rfl
          | false => exact absurd ⟨i, hi, e⟩ q⟩
  obtain ⟨j, hj, hall⟩ := key k hk
  have hjs : j < ops.size := by
    apply Nat.lt_of_not_le
    intro q
    simp [Array.getD, show ¬ j < listed.size by omega] at hj
  intro h0
  have : j ∈ Region.ready md ops listed := mem_ready.2 ⟨hj, ops[j], by simp [hjs], fun e he _ => by
    have hlt := backB_spec hb (i := j) (o := ops[j]) (by simp [hjs]) he
    have := hall _ hlt
    have hls : e.on < listed.size := by omega
    simp [Array.getD, hls] at this ⊢
    exact this⟩
  rw [h0] at this
  cases this
theorem wpIn_of_quiet_round {o : Oper} {a : Act} {K : Act → Prop} {K' : Act → World → Prop} {Q' : Exit → Act → World → Prop} {w : World} (hnd : ∀ c, o.op ≠ .defer c) (hw : C w) (h : ∀ a w', C w' → K a → K' a w')
    (ha : o.askedIn F P a C) (hh : o.quietIn F n P a C K) : o.wpIn (F.inRound l) n P a w K' Q' := by
  obtain ⟨v, h1, h2⟩ := hh
  have h3 := h1 w hw
  unfold Oper.quietAtIn at h3
  unfold Oper.wpIn
  refine ⟨ha w hw, ?_⟩
  rw [Oper.semAt_eq _ _ _ hnd]
  generalize (execOp a.eval o).run P w = r at *
  cases r with
  | ok x w' =>
    cases x <;> simp only [Oper.quietUponIn] at h3 <;> simp only [Oper.uponIn]
    case value u =>
      obtain ⟨e1, e2⟩ := h3
      rw [e1, e2]
      exact h _ _ hw h2
    case skip =>
      obtain ⟨e1, e2⟩ := h3
      rw [e1, ← e2]
      exact h _ _ hw h2
    case enter f args =>
      obtain ⟨e1, hd, hc⟩ := h3
      rw [e1]
      exact ⟨hd, (CallsIn.inRound l hc).mono fun e w'' ⟨he, hw''⟩ => by subst he; exact h _ _ hw'' h2⟩
  | halt x w' => simp only [Oper.quietUponIn] at h3
theorem wpOpIn_of_qOpIn_round {i : Nat} {a : Act} {K : Act → Prop} {K' : Act → World → Prop} {Q' : Exit → Act → World → Prop} {w : World} (hnd : noDefer ops = true) (hy : yielded ops' = yielded ops) (hi : ops'[i]? = ops[i]?) (hC : C w) (h : ∀ a w', C w' → K a → K' a w')
    (hh : qOpIn F n P ops' C i K a) : wpOpIn (F.inRound l) n P ops Q' i K' a w := by
  unfold qOpIn at hh
  unfold wpOpIn
  rw [hi, hy] at hh
  split
  · rename_i ho; simp only [ho] at hh; exact h _ _ hC hh
  · rename_i o ho
    simp only [ho] at hh
    obtain ⟨ha, hh⟩ := hh
    split
    · rename_i hw; simp only [hw, if_true] at hh; exact wpIn_of_quiet_round (noDefer_spec hnd ho) hC h ha hh
    · rename_i hw; simp only [hw] at hh; exact ⟨ha w hC, h _ _ hC hh⟩
theorem getD_set_same {listed : Array Bool} {k : Nat} (b : Bool) (hk : k < listed.size) : (listed.setIfInBounds k true).getD k b = true := by
  simp [Array.getD, hk]
theorem listed_default {listed : Array Bool} {j : Nat} (hj : j < listed.size) (b c : Bool) : listed.getD j b = listed.getD j c := by simp [Array.getD, hj]
/-- While the last one has not come up. -/
theorem any_of_quiet_last {Q' : Exit → Act → World → Prop} {k : Nat} {o : Oper} (hnd : noDefer ops = true) (hb : backB ops = true) (hk : ops.size = k + 1) (ho : ops[k]? = some o) (hl : lastB md ops k = true) (hsz : ops'.size = ops.size) (hsame : ∀ i, i ≠ k → ops'[i]? = ops[i]?) (hk' : ops'[k]? = some (skipOf o)) (hdst : o.dst = none) :
    ∀ (fuel : Nat) (listed : Array Bool) (a : Act) (w : World), listed.size = ops.size → listed.getD k true = false → C w →
      wpAnyQIn F n P md ops' C (fun a' => ∀ w', C w' → wpOpIn (F.inRound l) n P ops Q' k (fun a w => Q' .normal a w) a' w') fuel listed a → wpAnyIn (F.inRound l) n P md ops Q' fuel listed a w := by
  have hafter : ∀ i, (ops'[i]?).map Oper.after = (ops[i]?).map Oper.after := fun i => by
    by_cases e : i = k
    · subst e; rw [hk', ho]; rfl
    · rw [hsame i e]
  have hready : ∀ listed, Region.ready md ops' listed = Region.ready md ops listed := fun listed => by
    unfold Region.ready
    rw [hsz]
    apply List.filter_congr
    intro i _
    have := hafter i
    cases h1 : ops'[i]? with
    | none => rw [h1] at this; cases h2 : ops[i]? with
      | none => rfl
      | some x => rw [h2] at this; cases this
    | some y => rw [h1] at this; cases h2 : ops[i]? with
      | none => rw [h2] at this; cases this
      | some x => rw [h2] at this; simp at this; simp [this]
  have hyield : yielded ops' = yielded ops := by
    funext tmps j
    unfold yielded
    have : (ops'[j]?).bind (·.dst) = (ops[j]?).bind (·.dst) := by
      by_cases e : j = k
      · subst e; rw [hk', ho]; simp [skipOf, hdst]
      · rw [hsame j e]
    rw [this]
  intro fuel
  induction fuel with
  | zero =>
    intro listed a w hs hkl hC h
    have h0 : Region.ready md ops' listed = [] := h.1
    rw [hready] at h0
    exact absurd h0 (ready_some hb hs hkl)
  | succ fuel ih =>
    intro listed a w hs hkl hC h
    refine ⟨fun h0 => absurd h0 (ready_some hb hs hkl), fun i hi => ?_⟩
    have h1 := h.2 i (by rw [hready]; exact hi)
    by_cases e : i = k
    · subst e
      have hall : ∀ j, j < i → listed.getD j true = true := fun j hj => by
        obtain ⟨_, o2, ho2, h2⟩ := mem_ready.1 hi
        rw [ho] at ho2
        obtain rfl := Option.some.inj ho2
        unfold lastB at hl
        rw [ho] at hl
        have := List.all_eq_true.1 hl j (List.mem_range.2 hj)
        obtain ⟨q, hqs, hq⟩ := Array.any_eq_true.1 this
        rw [Bool.and_eq_true, beq_iff_eq] at hq
        rw [listed_default (by omega) true false, ← hq.1]
        exact h2 _ (Array.getElem_mem hqs) hq.2
      have hr0 : Region.ready md ops (listed.setIfInBounds i true) = [] := by
        rw [List.eq_nil_iff_forall_not_mem]
        intro j hj
        obtain ⟨h2, o2, ho2, _⟩ := mem_ready.1 hj
        have hjs : j < ops.size := (Array.getElem?_eq_some_iff.1 ho2).1
        by_cases ej : j = i
        · subst ej; rw [getD_set_same true (by omega)] at h2; cases h2
        · rw [getD_set_ne true (Ne.symm ej), hall j (by omega)] at h2; cases h2
      unfold qOpIn at h1
      rw [hk'] at h1
      obtain ⟨_, h1⟩ := h1
      have hw : Region.wanted (skipOf o) (yielded ops' a.tmps) = true := rfl
      rw [if_pos hw] at h1
      obtain ⟨v, _, h1⟩ := h1
      have h1' : wpAnyQIn F n P md ops' C (fun a' => ∀ w', C w' → wpOpIn (F.inRound l) n P ops Q' i (fun a w => Q' .normal a w) a' w') fuel (listed.setIfInBounds i true) a := h1
      have hQ : ∀ w', C w' → wpOpIn (F.inRound l) n P ops Q' i (fun a w => Q' .normal a w) a w' := by
        cases fuel with
        | zero => exact h1'.2
        | succ f => exact h1'.1 (by rw [hready]; exact hr0)
      exact wpOpIn_mono (fun a' w' q => wpAnyIn_done hr0 q fuel) (hQ w hC)
    · exact wpOpIn_of_qOpIn_round hnd hyield (hsame i e) hC (fun a' w' hC' h' => ih _ a' w' (by simp [hs]) (by rw [getD_set_ne true e]; exact hkl) hC' h') h1
theorem wpQuietIn_last {Q : Act → Prop} {a : Act} {o : Oper} (h : Q a) : wpQuietIn F n P ops C Q [skipOf o] a := by
  refine wpQuietIn_step (fun w _ f hf => by simp [Oper.about, skipOf] at hf) (fun K hK => ?_)
  rw [if_pos (by rfl)]
  exact ⟨undef, fun w _ => ⟨rfl, rfl⟩, hK _ (wpQuietIn_nil h)⟩
/-- The region. C: 'some draws later'. -/
theorem wpIn_round_store {id k : Nat} {Q : Exit → Act → World → Prop} {a : Act} {w : World} {os : List Oper} {o : Oper} (hm : P.follows .mixedOrders = true) (ho : os[k]? = some o) (hk : os.length = k + 1) (hdst : o.dst = none)
    (hnd : noDefer os.toArray = true) (hb : backB os.toArray = true) (hl : lastB .any os.toArray k = true) (hB : Region.lexB .any (os.set k (skipOf o)).toArray = true)
    (h : wpQuietIn F n P (os.set k (skipOf o)).toArray (fun w' => ∃ m, w' = w.drewN m) (fun a' => ∀ w', (∃ m, w' = w.drewN m) → wpOpIn (F.inRound l) n P os.toArray Q k (fun a w => Q .normal a w) a' w') (os.set k (skipOf o)) a) : (Code.region id os.toArray true).wpIn (F.inRound l) n P Q a w := by
  simp only [Region.lexB, Bool.and_eq_true] at hB
  have hlt : k < os.length := by omega
  refine wpIn_region_any hm (any_of_quiet_last (F := F) (C := fun w' => ∃ m, w' = w.drewN m) (k := k) (o := o) (ops' := (os.set k (skipOf o)).toArray) hnd hb (by simpa using hk) (by simpa using ho) hl (by simp) (fun i hi => ?_) ?_ hdst _ _ _ _ (by simp) (by simp [Array.getD, hlt]) ⟨1, rfl⟩ ?_)
  · simp [List.getElem?_set, Ne.symm hi]
  · simp [List.getElem?_set, hlt]
  · have := wpAnyQIn_lex (F := F) (n := n) (C := fun w' => ∃ m, w' = w.drewN m) (md := .any) hB.1 (os.set k (skipOf o)) 0 (Array.replicate os.toArray.size false) a (by simp) (by simpa using hB.2) h
    simpa using this
end
end Go.Proofs.Ytkjdjmcecjaolaa.Round
