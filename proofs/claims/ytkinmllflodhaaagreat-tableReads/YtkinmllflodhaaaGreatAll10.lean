/- Joined out of the texts TabNoteO, HistMem, TabOps, TabSort, TabKn, in that order. -/
import Derived.Test.YtkinmllflodhaaaGreatAll9
import Derived.Test.YtkinmllflodhaaaGreatAll3
import Derived.Laws.OwnMore
import Derived.RangeFuncBox
import Derived.RangeFuncNested
import Derived.RangeFuncBound
import Derived.RangeFuncCalls
import Derived.RangeFuncLeaves
import Derived.RangeFuncWrites
import Derived.Shelf.Abstract
import Derived.Shelf.RegionOpen
import Derived.WalkKit
import Derived.OwnWalkIn
import Derived.TacticsInMore
import Derived.LoopNIn
import Derived.LoopIn
import Derived.Maps.AppendAt
import Derived.Shelf.SlSortCmp.WholeK
import Derived.Shelf.SlSortCmp.NoneTotal
import Derived.Shelf.SlGeneric
import Derived.Ground.SlsfProg
/- An operation is noted. -/
namespace Go.Proofs.YtkinmllflodhaaaGreat.Tab
open Go.RowKit Go.Proofs.YtkinmllflodhaaaGreat.Dig Go.Proofs.YtkinmllflodhaaaGreat.Mem Go.Proofs.YtkinmllflodhaaaGreat.Keys Go.Proofs.YtkinmllflodhaaaGreat.Own Go.Proofs.YtkinmllflodhaaaGreat.Thing Go.Proofs.YtkinmllflodhaaaGreat.Sets Go.Maps Go.MapKept Go.ChangeMaps
set_option linter.unusedVariables false
set_option linter.unusedSimpArgs false

def Tb.step (s : Tb) (x : Spot) : Tb := if x.o.read = false then s.write (wrOf x) else if x.ab = false then s.read ⟨x.id, x.op, x.o.key, x.o.list, s.ap (x.id, x.o.key)⟩ else s
def spotV (x : Spot) : Value := .agg #[.int .i64 x.id, .int .i64 (x.op : Int), .bool x.ab]
def opV (x : Spot) (lv : Value) : Value := .agg #[.bool x.o.read, .int .i64 x.o.key, .int .i64 x.o.value, lv]
/-- What a transaction appended as yet may be read, whatever it appends further on. -/
theorem TabAt.own {base n : Nat} {d : TD} {s : Tb} {w : World} (h : TabAt base d s n w) (p : Int × Int) : RdAt (d.free s) w (d.vA p) (s.ap p) ∧ ∀ a m cap, d.vA p = .slice (some a) m cap → 0 < m → d.F a.block := by
  refine ⟨?_, fun a m cap e hm => .inr (.inr (.inr (.inr (.inl ⟨p, by rw [e]; rfl⟩))))⟩
  have hr := h.ra p
  obtain ⟨a, c, e⟩ := Own.own_form (show (ownN base 3 1 (d.vA p) (s.ap p).length ((s.ap p).map (Value.int .i64))).P w from hr)
  rw [e] at hr
  have hcap := Own.own_cap (show (ownN base 3 1 (.slice a (s.ap p).length c) (s.ap p).length ((s.ap p).map (Value.int .i64))).P w from hr)
  refine ⟨a, c, e, hcap.1, ?_, h.aw p, fun i x hi => ?_⟩
  · rcases hr.2 with ⟨hv, h0⟩ | ⟨g, cap, cur, hv, _⟩
    · simp only [Value.slice.injEq] at hv; exact fun _ => hv.2.2
    · cases hv; exact fun q => by cases q
  · obtain ⟨g, c', e2, hc, _⟩ := own_at (j := i) (show (ownN base 3 1 (.slice a (s.ap p).length c) (s.ap p).length ((s.ap p).map (Value.int .i64))).P w from hr) (by rw [List.getElem?_map, hi]; rfl)
    cases e2
    have hlt : i < (s.ap p).length := by
      rcases Nat.lt_or_ge i (s.ap p).length with q | q
      · exact q
      · rw [List.getElem?_eq_none q] at hi; cases hi
    refine ⟨g, 0, rfl, ⟨fun q hq => ?_, fun k hk => ?_, fun k hk => ?_⟩, by rw [Nat.zero_add]; exact hc⟩
    · by_cases eq : p = q
      · subst eq; omega
      · rcases h.da p q eq with z | z
        · rw [e] at z; cases z
        · exact absurd (by rw [e, hq]; rfl) z
    · rcases own_ne_own (h.rr k) (h.ra p) (show (38 : Nat) ≠ 3 by decide) with z | z
      · rw [hk] at z; cases z
      · exact z (by rw [hk, e]; rfl)
    · rcases own_ne_own (h.rw k) (h.ra p) (show (64 : Nat) ≠ 3 by decide) with z | z
      · rw [hk] at z; cases z
      · exact z (by rw [hk, e]; rfl)
set_option maxRecDepth 100000 in
set_option maxHeartbeats 4000000 in
theorem note_any {base n bT : Nat} {d : TD} {s : Tb} (i0 i1 : Value) (x : Spot) (la : Option Addr) (lc : Nat) (w : World) (h : TabAt base d s n w) (hT : Is w bT (tabBox i0 i1 d)) (hf : ¬ d.F bT) (hbase : base ≤ w.heap.size) (hn : n ≤ 10000)
    (hi : (Lit.int .i64 x.id).wf = true) (hk : (Lit.int .i64 x.o.key).wf = true) (hv : (Lit.int .i64 x.o.value).wf = true) (hl : RowV w la lc x.o.list) (hll : x.o.list.length ≤ 100000) :
    Calls Tryz.prog 38 #[.pointer (some ⟨bT, 0, none⟩), spotV x, opV x (.slice la x.o.list.length lc)] w fun e w' => e = .returned (.tuple #[]) ∧ ∃ d', TabAt base d' (s.step x) (n + 3) w' ∧ Only d.T w w' ∧ (∀ k, d'.F k → d.F k ∨ w.heap.size ≤ k) ∧ tabBox i0 i1 d' = tabBox i0 i1 d := by
  obtain ⟨ln, hln⟩ : ∃ ln, ln = x.o.list.length := ⟨_, rfl⟩
  have HLN := hide hln
  rw [← hln]
  obtain ⟨w2, hw2⟩ : ∃ w2, w2 = (w.alloc (.cells #[.int .i64 x.id, .int .i64 (x.op : Int), .bool x.ab] 87)).alloc (.cells #[.bool x.o.read, .int .i64 x.o.key, .int .i64 x.o.value, .slice la ln lc] 57) := ⟨_, rfl⟩
  have hbl : bT < w.heap.size := hT.lt
  have B2 : Below w.heap.size w w2 := by rw [hw2]; exact ((Below.refl _ _).alloc (Nat.le_refl _) _).alloc (by simp) _
  have XA : Is w2 w.heap.size #[.int .i64 x.id, .int .i64 (x.op : Int), .bool x.ab] := by rw [hw2]; exact (Is.made w _ 87 rfl).below ((Below.refl _ _).alloc (Nat.le_refl _) _)
  have XO : Is w2 (w.heap.size + 1) #[.bool x.o.read, .int .i64 x.o.key, .int .i64 x.o.value, .slice la ln lc] := by rw [hw2]; exact Is.made _ _ 57 (by simp)
  have T2 := hT.below B2
  have R2 : TabAt base d s n w2 := h.keep (Only.of_below (S := fun _ => False) B2) (fun _ _ q => q)
  have hz2 := B2.size
  have L2 := hl.keep B2
  have hb2 : base ≤ w2.heap.size := by omega
  have HW := fun m ht hk hv => notew_any (m := m) i0 i1 w2 R2 T2 hf hb2 hn ht hk hv
  have fin : ∀ (e : Ending) (w' : World) (s' : Tb) (m : Nat), m ≤ n + 3 → s.step x = s' → (e = .returned (.tuple #[]) ∧ ∃ d', TabAt base d' s' m w' ∧ Only d.T w2 w' ∧ (∀ k, d'.F k → d.F k ∨ w2.heap.size ≤ k) ∧ tabBox i0 i1 d' = tabBox i0 i1 d) →
      (e = .returned (.tuple #[]) ∧ ∃ d', TabAt base d' (s.step x) (n + 3) w' ∧ Only d.T w w' ∧ (∀ k, d'.F k → d.F k ∨ w.heap.size ≤ k) ∧ tabBox i0 i1 d' = tabBox i0 i1 d) := fun e w' s' m hm hs ⟨h1, d', h2, h3, h4, h5⟩ =>
    ⟨h1, d', by rw [hs]; exact h2.mono hm, (Only.of_below B2).trans h3, fun k hk => by
      rcases h4 k hk with q | q
      · exact .inl q
      · exact .inr (by omega), h5⟩
  have HFIN := hide fin
  have a0 := XA.cell 0 rfl
  have a1 := XA.cell 1 rfl
  have a2 := XA.cell 2 rfl
  have o0 := XO.cell 0 rfl
  have o1 := XO.cell 1 rfl
  have o2 := XO.cell 2 rfl
  have o3 := XO.cell 3 rfl
  have HW2 := hide hw2
  unfold spotV opV
  by_cases hr : x.o.read = false
  · have CW : Hid (Calls Tryz.prog 68 #[.pointer (some ⟨bT, 0, none⟩), .agg #[.int .i64 x.id, .int .i64 (x.op : Int), .int .i64 x.o.key, .int .i64 x.o.value, .bool x.ab]] w2 fun e w' => Hid (e = .returned (.tuple #[]) ∧ ∃ d', TabAt base d' (s.write (wrOf x)) (n + 3) w' ∧ Only d.T w2 w' ∧ (∀ k, d'.F k → d.F k ∨ w2.heap.size ≤ k) ∧ tabBox i0 i1 d' = tabBox i0 i1 d)) := HW (wrOf x) hi hk hv
    have hs : Hid (s.step x = s.write (wrOf x)) := by unfold Tb.step; rw [if_pos hr]; exact rfl
    rw [hr] at o0
    clear h hT hf hbase hi hk hv hl XA XO T2 R2 L2 HW fin B2 hln hw2 hr
    go_enter Tryz.func38, Tryz.ntmps38
    go_upto_region 1 with fail
    rw [← HW2.out]
    go_wp2_with (go_at_call 68; go_must ((with_reducible refine (Hid.out CW).mono ?_); rintro e w9 hE; obtain ⟨he, hE2⟩ := hE.out; subst he; have hE3 := hide hE2; clear hE hE2))
    go_end0
    exact HFIN.out _ _ _ _ (Nat.le_refl _) hs.out ⟨rfl, hE3.out⟩
  · have hr2 : x.o.read = true := by simpa using hr
    rw [hr2] at o0
    by_cases ha : x.ab = false
    · obtain ⟨hop, hoF⟩ := R2.own (x.id, x.o.key)
      obtain ⟨oa, on, oc, hov⟩ : ∃ oa on oc, Value.slice oa on oc = d.vA (x.id, x.o.key) := by
        obtain ⟨a, c, e⟩ := hop.slice
        exact ⟨a, _, c, e.symm⟩
      have CR : Hid (∀ W, Below w2.heap.size w2 W → Calls Tryz.prog 69 #[.pointer (some ⟨bT, 0, none⟩), .agg #[.int .i64 x.id, .int .i64 (x.op : Int), .int .i64 x.o.key, .slice la ln lc, (.slice oa on oc)]] W fun e w' => Hid (e = .returned (.tuple #[]) ∧ ∃ d', TabAt base d' (s.read ⟨x.id, x.op, x.o.key, x.o.list, s.ap (x.id, x.o.key)⟩) (n + 1) w' ∧ Only d.T w2 w' ∧ (∀ k, d'.F k → d.F k ∨ w2.heap.size ≤ k) ∧ tabBox i0 i1 d' = tabBox i0 i1 d)) := hide fun W hW => by
        have := noter_any i0 i1 ⟨x.id, x.op, x.o.key, x.o.list, s.ap (x.id, x.o.key)⟩ la lc (d.vA (x.id, x.o.key)) W (R2.keep (Only.of_below (S := fun _ => False) hW) (fun _ _ q => q)) (T2.below hW) hf (by have := hW.size; omega) hn hk (L2.keep hW) hll (hop.keep hW) hoF
        rw [← hov, ← HLN.out] at this
        refine this.mono ?_
        rintro e w' ⟨rfl, d', h1, h2, h3, h4⟩
        exact ⟨rfl, d', h1, (Only.of_below hW).trans h2, fun k hk => by
          rcases h3 k hk with q | q
          · exact .inl q
          · exact .inr (by have := hW.size; omega), h4⟩
      have hs : Hid (s.step x = s.read ⟨x.id, x.op, x.o.key, x.o.list, s.ap (x.id, x.o.key)⟩) := by unfold Tb.step; rw [if_neg hr, if_pos ha]; exact rfl
      have look : Hid (∀ W, W.heap[d.b1]? = w2.heap[d.b1]? → (Instr.lookup 76 (.map (some d.b1)) (.agg #[.int .i64 x.id, .int .i64 x.o.key]) false).run Tryz.prog W = .ok (.slice oa on oc) W) := hide fun W hW => by
        have hm := (R2.m1.block hW).look (T := 76) (E := 36) tpartIs Tryz.underlying76 (zeroI W) (x := (x.id, x.o.key)) ⟨hi, hk⟩
        rw [hov]
        exact hm
      have t3 := T2.cell 3 rfl
      have hb1w := R2.m1.lt
      rw [ha] at a2
      clear h hT hf hbase hi hk hv hl XA XO T2 R2 L2 HW fin B2 hln hw2 hop hoF hov hr hr2 ha
      go_enter Tryz.func38, Tryz.ntmps38
      go_upto_region 1 with fail
      rw [← HW2.out]
      clear HW2
      go_upto_region 4 with fail
      obtain ⟨WD, hWD⟩ : ∃ WD, WD = w2.drew := ⟨_, rfl⟩
      have BD : Below w2.heap.size w2 WD := by rw [hWD]; exact (Below.refl _ _).drew
      have SD : WD.cell? ⟨bT, 3, none⟩ = some (.map (some d.b1)) ∧ WD.cell? ⟨w.heap.size, 0, none⟩ = some (.int .i64 x.id) ∧ WD.cell? ⟨w.heap.size, 1, none⟩ = some (.int .i64 (x.op : Int)) ∧ WD.cell? ⟨w.heap.size + 1, 1, none⟩ = some (.int .i64 x.o.key) ∧ WD.cell? ⟨w.heap.size + 1, 3, none⟩ = some (.slice la ln lc) ∧ (Instr.lookup 76 (.map (some d.b1)) (.agg #[.int .i64 x.id, .int .i64 x.o.key]) false).run Tryz.prog WD = .ok (.slice oa on oc) WD := by
        have kp : ∀ {g i : Nat} {u : Value}, w2.cell? ⟨g, i, none⟩ = some u → WD.cell? ⟨g, i, none⟩ = some u := fun hc => (BD.cell (p := ⟨_, _, none⟩) (lt_of_cell hc)).trans hc
        exact ⟨kp t3, kp a0, kp a1, kp o1, kp o3, look.out WD (BD.block _ hb1w)⟩
      refine Last.region_last (k := 20) (S := fun w' : World => w'.cell? ⟨bT, 3, none⟩ = some (.map (some d.b1)) ∧ w'.cell? ⟨w.heap.size, 0, none⟩ = some (.int .i64 x.id) ∧ w'.cell? ⟨w.heap.size, 1, none⟩ = some (.int .i64 (x.op : Int)) ∧ w'.cell? ⟨w.heap.size + 1, 1, none⟩ = some (.int .i64 x.o.key) ∧ w'.cell? ⟨w.heap.size + 1, 3, none⟩ = some (.slice la ln lc) ∧ (Instr.lookup 76 (.map (some d.b1)) (.agg #[.int .i64 x.id, .int .i64 x.o.key]) false).run Tryz.prog w' = .ok (.slice oa on oc) w') (by kernel_rfl) rfl rfl (by kernel_rfl) (by kernel_rfl) ?_
      rw [← hWD]
      have HBD := hide BD
      clear hWD BD
      refine wpAnyH_take (i := 0) (v := ?_) rfl (by kernel_rfl) (by kernel_rfl) (by kernel_rfl) (fun _ _ _ h => h) (Or.inl ⟨by rfl, ?_⟩) (by assumption) ?_
      rotate_left
      · (intro w hSw; (try dsimp only at hSw); go_simp; try with_reducible rfl)
      try simp only [List.getElem_toArray, List.getElem_cons_succ, List.getElem_cons_zero, Act.put, List.setIfInBounds_toArray, List.set_cons_zero, List.set_cons_succ]
      refine wpAnyH_take (i := 1) (v := ?_) rfl (by kernel_rfl) (by kernel_rfl) (by kernel_rfl) (fun _ _ _ h => h) (Or.inl ⟨by rfl, ?_⟩) (by assumption) ?_
      rotate_left
      · (intro w hSw; (try dsimp only at hSw); go_simp; try with_reducible rfl)
      try simp only [List.getElem_toArray, List.getElem_cons_succ, List.getElem_cons_zero, Act.put, List.setIfInBounds_toArray, List.set_cons_zero, List.set_cons_succ]
      refine wpAnyH_take (i := 2) (v := ?_) rfl (by kernel_rfl) (by kernel_rfl) (by kernel_rfl) (fun _ _ _ h => h) (Or.inl ⟨by rfl, ?_⟩) (by assumption) ?_
      rotate_left
      · (intro w hSw; (try dsimp only at hSw); go_simp; try with_reducible rfl)
      try simp only [List.getElem_toArray, List.getElem_cons_succ, List.getElem_cons_zero, Act.put, List.setIfInBounds_toArray, List.set_cons_zero, List.set_cons_succ]
      refine wpAnyH_take (i := 3) (v := ?_) rfl (by kernel_rfl) (by kernel_rfl) (by kernel_rfl) (fun _ _ _ h => h) (Or.inl ⟨by rfl, ?_⟩) (by assumption) ?_
      rotate_left
      · (intro w hSw; (try dsimp only at hSw); go_simp; try with_reducible rfl)
      try simp only [List.getElem_toArray, List.getElem_cons_succ, List.getElem_cons_zero, Act.put, List.setIfInBounds_toArray, List.set_cons_zero, List.set_cons_succ]
      refine wpAnyH_take (i := 4) (v := ?_) rfl (by kernel_rfl) (by kernel_rfl) (by kernel_rfl) (fun _ _ _ h => h) (Or.inl ⟨by rfl, ?_⟩) (by assumption) ?_
      rotate_left
      · (intro w hSw; (try dsimp only at hSw); go_simp; try with_reducible rfl)
      try simp only [List.getElem_toArray, List.getElem_cons_succ, List.getElem_cons_zero, Act.put, List.setIfInBounds_toArray, List.set_cons_zero, List.set_cons_succ]
      refine wpAnyH_take (i := 5) (v := ?_) rfl (by kernel_rfl) (by kernel_rfl) (by kernel_rfl) (fun _ _ _ h => h) (Or.inl ⟨by rfl, ?_⟩) (by assumption) ?_
      rotate_left
      · (intro w hSw; (try dsimp only at hSw); go_simp; try with_reducible rfl)
      try simp only [List.getElem_toArray, List.getElem_cons_succ, List.getElem_cons_zero, Act.put, List.setIfInBounds_toArray, List.set_cons_zero, List.set_cons_succ]
      refine wpAnyH_take (i := 6) (v := ?_) rfl (by kernel_rfl) (by kernel_rfl) (by kernel_rfl) (fun _ _ _ h => h) (Or.inl ⟨by rfl, ?_⟩) (by assumption) ?_
      rotate_left
      · (intro w hSw; (try dsimp only at hSw); go_simp; try with_reducible rfl)
      try simp only [List.getElem_toArray, List.getElem_cons_succ, List.getElem_cons_zero, Act.put, List.setIfInBounds_toArray, List.set_cons_zero, List.set_cons_succ]
      refine wpAnyH_take (i := 7) (v := ?_) rfl (by kernel_rfl) (by kernel_rfl) (by kernel_rfl) (fun _ _ _ h => h) (Or.inl ⟨by rfl, ?_⟩) (by assumption) ?_
      rotate_left
      · (intro w hSw; (try dsimp only at hSw); go_simp; try with_reducible rfl)
      try simp only [List.getElem_toArray, List.getElem_cons_succ, List.getElem_cons_zero, Act.put, List.setIfInBounds_toArray, List.set_cons_zero, List.set_cons_succ]
      refine wpAnyH_take (i := 8) (v := ?_) rfl (by kernel_rfl) (by kernel_rfl) (by kernel_rfl) (fun _ _ _ h => h) (Or.inl ⟨by rfl, ?_⟩) (by assumption) ?_
      rotate_left
      · (intro w hSw; (try dsimp only at hSw); go_simp; try with_reducible rfl)
      try simp only [List.getElem_toArray, List.getElem_cons_succ, List.getElem_cons_zero, Act.put, List.setIfInBounds_toArray, List.set_cons_zero, List.set_cons_succ]
      refine wpAnyH_take (i := 9) (v := ?_) rfl (by kernel_rfl) (by kernel_rfl) (by kernel_rfl) (fun _ _ _ h => h) (Or.inl ⟨by rfl, ?_⟩) (by assumption) ?_
      rotate_left
      · (intro w hSw; (try dsimp only at hSw); go_simp; try with_reducible rfl)
      try simp only [List.getElem_toArray, List.getElem_cons_succ, List.getElem_cons_zero, Act.put, List.setIfInBounds_toArray, List.set_cons_zero, List.set_cons_succ]
      refine wpAnyH_take (i := 10) (v := ?_) rfl (by kernel_rfl) (by kernel_rfl) (by kernel_rfl) (fun _ _ _ h => h) (Or.inl ⟨by rfl, ?_⟩) (by assumption) ?_
      rotate_left
      · (intro w hSw; (try dsimp only at hSw); go_simp; try with_reducible rfl)
      try simp only [List.getElem_toArray, List.getElem_cons_succ, List.getElem_cons_zero, Act.put, List.setIfInBounds_toArray, List.set_cons_zero, List.set_cons_succ]
      refine wpAnyH_take (i := 11) (v := ?_) rfl (by kernel_rfl) (by kernel_rfl) (by kernel_rfl) (fun _ _ _ h => h) (Or.inl ⟨by rfl, ?_⟩) (by assumption) ?_
      rotate_left
      · (intro w hSw; (try dsimp only at hSw); go_simp; try with_reducible rfl)
      try simp only [List.getElem_toArray, List.getElem_cons_succ, List.getElem_cons_zero, Act.put, List.setIfInBounds_toArray, List.set_cons_zero, List.set_cons_succ]
      refine wpAnyH_take (i := 12) (v := ?_) rfl (by kernel_rfl) (by kernel_rfl) (by kernel_rfl) (fun _ _ _ h => h) (Or.inl ⟨by rfl, ?_⟩) (by assumption) ?_
      rotate_left
      · (intro w hSw; (try dsimp only at hSw); go_simp; try with_reducible rfl)
      try simp only [List.getElem_toArray, List.getElem_cons_succ, List.getElem_cons_zero, Act.put, List.setIfInBounds_toArray, List.set_cons_zero, List.set_cons_succ]
      refine wpAnyH_take (i := 13) (v := ?_) rfl (by kernel_rfl) (by kernel_rfl) (by kernel_rfl) (fun _ _ _ h => h) (Or.inl ⟨by rfl, ?_⟩) (by assumption) ?_
      rotate_left
      · (intro w hSw; (try dsimp only at hSw); go_simp; try with_reducible rfl)
      try simp only [List.getElem_toArray, List.getElem_cons_succ, List.getElem_cons_zero, Act.put, List.setIfInBounds_toArray, List.set_cons_zero, List.set_cons_succ]
      refine wpAnyH_take (i := 14) (v := ?_) rfl (by kernel_rfl) (by kernel_rfl) (by kernel_rfl) (fun _ _ _ h => h) (Or.inl ⟨by rfl, ?_⟩) (by assumption) ?_
      rotate_left
      · (intro w hSw; (try dsimp only at hSw); go_simp; try with_reducible rfl)
      try simp only [List.getElem_toArray, List.getElem_cons_succ, List.getElem_cons_zero, Act.put, List.setIfInBounds_toArray, List.set_cons_zero, List.set_cons_succ]
      refine wpAnyH_take (i := 15) (v := ?_) rfl (by kernel_rfl) (by kernel_rfl) (by kernel_rfl) (fun _ _ _ h => h) (Or.inl ⟨by rfl, ?_⟩) (by assumption) ?_
      rotate_left
      · (intro w hSw; (try dsimp only at hSw); go_simp; try with_reducible rfl)
      try simp only [List.getElem_toArray, List.getElem_cons_succ, List.getElem_cons_zero, Act.put, List.setIfInBounds_toArray, List.set_cons_zero, List.set_cons_succ]
      refine wpAnyH_take (i := 16) (v := ?_) rfl (by kernel_rfl) (by kernel_rfl) (by kernel_rfl) (fun _ _ _ h => h) (Or.inl ⟨by rfl, ?_⟩) (by assumption) ?_
      rotate_left
      · (intro w hSw; (try dsimp only at hSw); go_simp; try with_reducible rfl)
      try simp only [List.getElem_toArray, List.getElem_cons_succ, List.getElem_cons_zero, Act.put, List.setIfInBounds_toArray, List.set_cons_zero, List.set_cons_succ]
      refine wpAnyH_take (i := 17) (v := ?_) rfl (by kernel_rfl) (by kernel_rfl) (by kernel_rfl) (fun _ _ _ h => h) (Or.inl ⟨by rfl, ?_⟩) (by assumption) ?_
      rotate_left
      · (intro w hSw; (try dsimp only at hSw); go_simp; try with_reducible rfl)
      try simp only [List.getElem_toArray, List.getElem_cons_succ, List.getElem_cons_zero, Act.put, List.setIfInBounds_toArray, List.set_cons_zero, List.set_cons_succ]
      refine wpAnyH_take (i := 18) (v := ?_) rfl (by kernel_rfl) (by kernel_rfl) (by kernel_rfl) (fun _ _ _ h => h) (Or.inl ⟨by rfl, ?_⟩) (by assumption) ?_
      rotate_left
      · (intro w hSw; (try dsimp only at hSw); go_simp; try with_reducible rfl)
      try simp only [List.getElem_toArray, List.getElem_cons_succ, List.getElem_cons_zero, Act.put, List.setIfInBounds_toArray, List.set_cons_zero, List.set_cons_succ]
      refine wpAnyH_take (i := 19) (v := ?_) rfl (by kernel_rfl) (by kernel_rfl) (by kernel_rfl) (fun _ _ _ h => h) (Or.inl ⟨by rfl, ?_⟩) (by assumption) ?_
      rotate_left
      · (intro w hSw; (try dsimp only at hSw); go_simp; try with_reducible rfl)
      try simp only [List.getElem_toArray, List.getElem_cons_succ, List.getElem_cons_zero, Act.put, List.setIfInBounds_toArray, List.set_cons_zero, List.set_cons_succ]
      refine wpAnyH_done (by kernel_rfl) ?_ _
      refine Last.done_last ?_
      refine wpOp_step rfl (fun KK hKK => ?_)
      simp only [List.getElem_toArray, List.getElem_cons_succ, List.getElem_cons_zero]
      go_simp
      (with_reducible refine (Hid.out CR WD HBD.out).mono ?_)
      rintro e w9 hE
      obtain ⟨he, hE2⟩ := hE.out
      subst he
      have hE3 := hide hE2
      clear hE hE2
      refine hKK _ _ ?_
      clear hKK
      go_simp
      go_wp2
      go_end0
      exact HFIN.out _ _ _ (n + 1) (by omega) hs.out ⟨rfl, hE3.out⟩
    · have ha2 : x.ab = true := by simpa using ha
      rw [ha2] at a2
      have hs : Hid (s.step x = s) := by unfold Tb.step; rw [if_neg hr, if_neg ha]; exact rfl
      have HE := hide (show (Ending.returned (.tuple #[]) = .returned (.tuple #[]) ∧ ∃ d', TabAt base d' s n w2 ∧ Only d.T w2 w2 ∧ (∀ k, d'.F k → d.F k ∨ w2.heap.size ≤ k) ∧ tabBox i0 i1 d' = tabBox i0 i1 d) from ⟨rfl, d, R2, Only.refl _ _, fun _ q => .inl q, rfl⟩)
      clear h hT hf hbase hi hk hv hl XA XO T2 R2 L2 HW fin B2 hln hw2 hr hr2 ha ha2
      go_enter Tryz.func38, Tryz.ntmps38
      go_upto_region 1 with fail
      rw [← HW2.out]
      clear HW2
      go_wp2
      go_end0
      exact HFIN.out _ _ _ n (by omega) hs.out ⟨rfl, HE.out.2⟩
end Go.Proofs.YtkinmllflodhaaaGreat.Tab

/- Histories in memory, element by element; a history that a call builds in rows of its own. -/
namespace Go.Proofs.YtkinmllflodhaaaGreat.Mem
open Go.RowKit Go.Proofs.YtkinmllflodhaaaGreat.Dig Go.Proofs.YtkinmllflodhaaaGreat.Hist
set_option linter.unusedVariables false
set_option linter.unusedSimpArgs false

deriving instance DecidableEq for OpM
deriving instance DecidableEq for TxnM

theorem AllAt.len {α : Type} {R : List Value → α → Prop} {cs : List (List Value)} {xs : List α} (h : AllAt R cs xs) : cs.length = xs.length := h.1
section
variable {F F' S : Nat → Prop} {w w' : World}
theorem IntsAt.shape {v : Value} {l : List Int} (h : IntsAt F w v l) : ∃ a cap, v = .slice a l.length cap ∧ l.length ≤ cap ∧ cap ≤ maxLen := by
  obtain ⟨a, cap, h1, h2, h3⟩ := h.1.shape
  rw [List.length_map] at h1 h2
  exact ⟨a, cap, h1, h2, h3⟩
theorem OpsAt.shape {v : Value} {os : List OpM} (h : OpsAt F w v os) : ∃ a cap, v = .slice a os.length cap ∧ os.length ≤ cap ∧ cap ≤ maxLen := by
  obtain ⟨cs, hr, ha⟩ := h
  obtain ⟨a, cap, h1, h2, h3⟩ := hr.shape
  rw [ha.1] at h1 h2
  exact ⟨a, cap, h1, h2, h3⟩
theorem TxnsAt.shape {v : Value} {ts : List TxnM} (h : TxnsAt F w v ts) : ∃ a cap, v = .slice a ts.length cap ∧ ts.length ≤ cap ∧ cap ≤ maxLen := by
  obtain ⟨cs, hr, ha⟩ := h
  obtain ⟨a, cap, h1, h2, h3⟩ := hr.shape
  rw [ha.1] at h1 h2
  exact ⟨a, cap, h1, h2, h3⟩
/-- Operation i, cell by cell. -/
theorem OpsAt.at {a : Option Addr} {len cap : Nat} {os : List OpM} (h : OpsAt F w (.slice a len cap) os) {i : Nat} (hi : i < os.length) :
    ∃ b off la lcap, a = some ⟨b, off, none⟩ ∧ F b ∧ b < w.heap.size ∧ w.cell? ⟨b, off + i * 4, none⟩ = some (.bool os[i].read) ∧ w.cell? ⟨b, off + i * 4 + 1, none⟩ = some (.int .i64 os[i].key) ∧
      w.cell? ⟨b, off + i * 4 + 2, none⟩ = some (.int .i64 os[i].value) ∧ w.cell? ⟨b, off + i * 4 + 3, none⟩ = some (.slice la os[i].list.length lcap) ∧ IntsAt F w (.slice la os[i].list.length lcap) os[i].list ∧
      (Lit.int .i64 os[i].key).wf = true ∧ (Lit.int .i64 os[i].value).wf = true := by
  obtain ⟨cs, hr, ha⟩ := h
  obtain ⟨hc, v, e, hl, hw1, hw2⟩ := ha.get hi
  obtain ⟨_, b, off, ea, hF, hcell⟩ := hr.at hc
  obtain ⟨la, lcap, rfl, _, _⟩ := hl.shape
  rw [e] at hcell
  have c0 := hcell 0 _ rfl
  exact ⟨b, off, la, lcap, ea, hF, lt_of_cell c0, c0, hcell 1 _ rfl, hcell 2 _ rfl, hcell 3 _ rfl, hl, hw1, hw2⟩
/-- Transaction i, cell by cell. -/
theorem TxnsAt.at {a : Option Addr} {len cap : Nat} {ts : List TxnM} (h : TxnsAt F w (.slice a len cap) ts) {i : Nat} (hi : i < ts.length) :
    ∃ b off oa ocap, a = some ⟨b, off, none⟩ ∧ F b ∧ b < w.heap.size ∧ w.cell? ⟨b, off + i * 3, none⟩ = some (.int .i64 ts[i].id) ∧ w.cell? ⟨b, off + i * 3 + 1, none⟩ = some (.bool ts[i].ab) ∧
      w.cell? ⟨b, off + i * 3 + 2, none⟩ = some (.slice oa ts[i].ops.length ocap) ∧ OpsAt F w (.slice oa ts[i].ops.length ocap) ts[i].ops ∧ (Lit.int .i64 ts[i].id).wf = true := by
  obtain ⟨cs, hr, ha⟩ := h
  obtain ⟨hc, v, e, hl, hw1⟩ := ha.get hi
  obtain ⟨_, b, off, ea, hF, hcell⟩ := hr.at hc
  obtain ⟨oa, ocap, rfl, _, _⟩ := hl.shape
  rw [e] at hcell
  have c0 := hcell 0 _ rfl
  exact ⟨b, off, oa, ocap, ea, hF, lt_of_cell c0, c0, hcell 1 _ rfl, hcell 2 _ rfl, hl, hw1⟩
end

/-! ### Sums -/
theorem opsN_take {ts : List TxnM} {k : Nat} (h : k < ts.length) : opsN (ts.take (k + 1)) = opsN (ts.take k) + ts[k].ops.length := by
  rw [List.take_succ_eq_append_getElem h, opsN_app]; simp [opsN]
theorem opsN_take_le (ts : List TxnM) (k : Nat) : opsN (ts.take k) ≤ opsN ts := by
  have := opsN_app (ts.take k) (ts.drop k)
  rw [List.take_append_drop] at this
  omega
theorem ops_le {ts : List TxnM} {k : Nat} (h : k < ts.length) : ts[k].ops.length ≤ opsN ts := by
  have h1 := opsN_take h
  have h2 := opsN_take_le ts (k + 1)
  omega

/-! ### A history in rows of a call's own -/
/-- The row of the last transaction's operations, ov; all else lies in other blocks of G than tv's and ov's. -/
def LastOwn (G : Nat → Prop) (B : Nat) (w : World) (tv ov : Value) (pre : List TxnM) (last : TxnM) (cs ocs : List (List Value)) : Prop :=
  (Lit.int .i64 last.id).wf = true ∧ AllAt (TxnAt (fun b => G b ∧ tv.ownBlock ≠ some b ∧ ov.ownBlock ≠ some b) w) cs pre ∧ OwnC 57 4 B w ov ocs ∧
  AllAt (OpAt (fun b => G b ∧ tv.ownBlock ≠ some b ∧ ov.ownBlock ≠ some b) w) ocs last.ops ∧ (∀ b, ov.ownBlock = some b → G b ∧ tv.ownBlock ≠ some b)
/-- Two rows of the call's own: that of the transactions, and that of the last one's operations; those of the other ones lie in other blocks of G. -/
def HistOwn (G : Nat → Prop) (B : Nat) (w : World) (tv : Value) (ts : List TxnM) (cs : List (List Value)) : Prop :=
  (∀ b, tv.ownBlock = some b → G b) ∧ OwnC 55 3 B w tv cs ∧
  ((ts = [] ∧ cs = []) ∨ ∃ pre last cs0 ov ocs, ts = pre ++ [last] ∧ cs = cs0 ++ [[.int .i64 last.id, .bool last.ab, ov]] ∧ LastOwn G B w tv ov pre last cs0 ocs)

theorem LastOwn.keep {G S : Nat → Prop} {B : Nat} {w w' : World} {tv ov : Value} {pre : List TxnM} {last : TxnM} {cs ocs : List (List Value)} (h : LastOwn G B w tv ov pre last cs ocs) (ho : Only S w w') (hs : ∀ b, (G b ∧ tv.ownBlock ≠ some b) → ¬ S b) : LastOwn G B w' tv ov pre last cs ocs := by
  obtain ⟨h3, h4, h5, h6, h7⟩ := h
  exact ⟨h3, h4.mono (fun _ _ q => q.only ho (fun b hb => hs b ⟨hb.1, hb.2.1⟩)), h5.keep ho (fun b hb => hs b (h7 b hb)), h6.mono (fun _ _ q => q.only ho (fun b hb => hs b ⟨hb.1, hb.2.1⟩)), h7⟩
theorem HistOwn.keep {G S : Nat → Prop} {B : Nat} {w w' : World} {tv : Value} {ts : List TxnM} {cs : List (List Value)} (h : HistOwn G B w tv ts cs) (ho : Only S w w') (hs : ∀ b, G b → ¬ S b) : HistOwn G B w' tv ts cs := by
  obtain ⟨hg, hown, h⟩ := h
  refine ⟨hg, hown.keep ho (fun b hb => hs b (hg b hb)), ?_⟩
  rcases h with h | ⟨pre, last, cs0, ov, ocs, h1, h2, hl⟩
  · exact .inl h
  · exact .inr ⟨pre, last, cs0, ov, ocs, h1, h2, hl.keep ho (fun b hb => hs b hb.1)⟩
theorem HistOwn.nil (G : Nat → Prop) (B : Nat) (w : World) : HistOwn G B w (.slice none 0 0) [] [] := ⟨by simp [Value.ownBlock], OwnC.nil _ _ _ _, .inl ⟨rfl, rfl⟩⟩
/-- How it is read. -/
theorem HistOwn.txns {G : Nat → Prop} {B : Nat} {w : World} {tv : Value} {ts : List TxnM} {cs : List (List Value)} (h : HistOwn G B w tv ts cs) : TxnsAt G w tv ts := by
  obtain ⟨hg, hown, h⟩ := h
  refine ⟨cs, hown.row.mono (fun b q => hg b q.2), ?_⟩
  rcases h with ⟨rfl, rfl⟩ | ⟨pre, last, cs0, ov, ocs, rfl, rfl, h3, h4, h5, h6, h7⟩
  · exact AllAt.nil _
  · exact (h4.mono fun _ _ q => q.mono fun b hb => hb.1).append (AllAt.one ⟨ov, rfl, ⟨ocs, h5.row.mono (fun b q => (h7 b q.2).1), h6.mono fun _ _ q => q.mono fun b hb => hb.1⟩, h3⟩)
theorem HistOwn.len {G : Nat → Prop} {B : Nat} {w : World} {tv : Value} {ts : List TxnM} {cs : List (List Value)} (h : HistOwn G B w tv ts cs) : cs.length = ts.length := by
  obtain ⟨_, _, h⟩ := h
  rcases h with ⟨rfl, rfl⟩ | ⟨pre, last, cs0, ov, ocs, rfl, rfl, h3, h4, _⟩
  · rfl
  · simp [h4.1]
theorem HistOwn.shape {G : Nat → Prop} {B : Nat} {w : World} {tv : Value} {ts : List TxnM} {cs : List (List Value)} (h : HistOwn G B w tv ts cs) : ∃ a cap, tv = .slice a ts.length cap ∧ ts.length ≤ cap ∧ cap ≤ maxLen := h.txns.shape

/-- A new transaction, behind the others. -/
theorem HistOwn.push {G : Nat → Prop} {B : Nat} {w w' : World} {tv tv' : Value} {ts : List TxnM} {cs : List (List Value)} {id : Int} {ab : Bool} (h : HistOwn G B w tv ts cs)
    (hown : OwnC 55 3 B w' tv' (cs ++ [[.int .i64 id, .bool ab, .slice none 0 0]])) (ho : Only (fun k => tv.ownBlock = some k) w w')
    (hb : ∀ b, tv'.ownBlock = some b → tv.ownBlock = some b ∨ (w.heap.size ≤ b ∧ G b)) (hw : (Lit.int .i64 id).wf = true) : HistOwn G B w' tv' (ts ++ [⟨id, ab, []⟩]) (cs ++ [[.int .i64 id, .bool ab, .slice none 0 0]]) := by
  obtain ⟨hg, _, h⟩ := h
  refine ⟨fun b q => (hb b q).elim (hg b) (fun r => r.2), hown, .inr ⟨ts, ⟨id, ab, []⟩, cs, .slice none 0 0, [], rfl, rfl, hw, ?_, OwnC.nil _ _ _ _, AllAt.nil _, by simp [Value.ownBlock]⟩⟩
  rcases h with ⟨rfl, rfl⟩ | ⟨pre, last, cs0, ov, ocs, rfl, rfl, h3, h4, h5, h6, h7⟩
  · exact AllAt.nil _
  · have hF : ∀ b, ((G b ∧ tv.ownBlock ≠ some b ∧ ov.ownBlock ≠ some b) ∧ b < w.heap.size) → (G b ∧ tv'.ownBlock ≠ some b ∧ (Value.slice none 0 0).ownBlock ≠ some b) := by
      rintro b ⟨⟨q1, q2, q3⟩, q4⟩
      refine ⟨q1, fun q => ?_, by simp [Value.ownBlock]⟩
      rcases hb b q with r | r
      · exact q2 r
      · omega
    have hF2 : ∀ b, (B ≤ b ∧ ov.ownBlock = some b) → (G b ∧ tv'.ownBlock ≠ some b ∧ (Value.slice none 0 0).ownBlock ≠ some b) := by
      rintro b ⟨q1, q2⟩
      refine ⟨(h7 b q2).1, fun q => ?_, by simp [Value.ownBlock]⟩
      rcases hb b q with r | r
      · exact (h7 b q2).2 r
      · have := (h5.lt b q2).2; omega
    refine AllAt.append (h4.mono fun c x q => (q.lt.only ho (fun b hb => hb.1.2.1)).mono hF) (AllAt.one ⟨ov, rfl, ⟨ocs, (h5.row.only ho (fun b hb q => (h7 b hb.2).2 q)).mono hF2, ?_⟩, h3⟩)
    exact h6.mono fun c x q => (q.lt.only ho (fun b hb => hb.1.2.1)).mono hF
/-- The cells of the last one. -/
theorem OwnC.cell {e : TypeId} {n base : Nat} {w : World} {g len cap : Nat} {cs : List (List Value)} (h : OwnC e n base w (.slice (some ⟨g, 0, none⟩) len cap) cs) {i : Nat} (hi : i < cs.length) {j : Nat} {u : Value} (hu : cs[i][j]? = some u) : w.cell? ⟨g, i * n + j, none⟩ = some u := by
  obtain ⟨_, b, off, e1, _, hc⟩ := h.row.at hi
  have hr := h.1.2
  rcases hr with ⟨e, _⟩ | ⟨g', cap', cur, e, _⟩
  · simp at e
  · simp at e1
    obtain ⟨rfl, rfl⟩ := e1
    have := hc j u hu
    rwa [Nat.zero_add] at this
/-- A cell of the last one is written. -/
theorem flatten_set {α : Type} (n : Nat) : ∀ (cs : List (List α)) (_ : ∀ c ∈ cs, c.length = n) (i j : Nat) (_ : i < cs.length) (_ : j < n) (u : α), cs.flatten.set (i * n + j) u = (cs.set i ((cs[i]?.getD []).set j u)).flatten
  | [], _, i, j, hi, _, u => by simp at hi
  | d :: cs, hl, 0, j, _, hj, u => by
    have := hl d List.mem_cons_self
    simp [List.set_append, this, hj]
  | d :: cs, hl, i + 1, j, hi, hj, u => by
    have hd := hl d List.mem_cons_self
    rw [List.flatten_cons, Nat.succ_mul, List.set_append, if_neg (by omega), show i * n + n + j - d.length = i * n + j by omega, flatten_set n cs (fun c hc => hl c (List.mem_cons_of_mem _ hc)) i j (by simpa using hi) hj u]
    simp
theorem OwnC.set {e : TypeId} {n base : Nat} {w : World} {g len cap : Nat} {cs : List (List Value)} (h : OwnC e n base w (.slice (some ⟨g, 0, none⟩) len cap) cs) {i : Nat} (hi : i < cs.length) {j : Nat} (hj : j < n) (u : Value) :
    OwnC e n base (w.setCell ⟨g, i * n + j, none⟩ u) (.slice (some ⟨g, 0, none⟩) len cap) (cs.set i (cs[i].set j u)) := by
  have hlen : len = cs.length := by
    rcases h.1.2 with ⟨e, _⟩ | ⟨g', cap', cur, e, _⟩
    · simp at e
    · simp at e; exact e.2.1
  subst hlen
  refine ⟨?_, ?_⟩
  · have := (h.1.stored (i * n + j) u).1
    rw [flatten_set n cs h.2 i j hi hj u, List.getElem?_eq_getElem hi] at this
    simpa using this
  · intro c hc
    rcases List.mem_or_eq_of_mem_set hc with q | q
    · exact h.2 c q
    · rw [q, List.length_set]; exact h.2 _ (List.getElem_mem hi)
/-- An operation, behind those of the last transaction: an append to its row, and the new row laid into its cell. -/
theorem HistOwn.add {G : Nat → Prop} {B : Nat} {w w1 w2 : World} {tv ov ov' : Value} {pre : List TxnM} {last : TxnM} {cs0 ocs : List (List Value)} {o : OpM} {c : List Value}
    (hg : ∀ b, tv.ownBlock = some b → G b) (hl : LastOwn G B w tv ov pre last cs0 ocs)
    (hc : OpAt (fun b => G b ∧ tv.ownBlock ≠ some b ∧ ov.ownBlock ≠ some b ∧ b < w.heap.size) w c o)
    (hown1 : OwnC 57 4 B w1 ov' (ocs ++ [c])) (ho1 : Only (fun k => ov.ownBlock = some k) w w1) (hb : ∀ b, ov'.ownBlock = some b → ov.ownBlock = some b ∨ (w.heap.size ≤ b ∧ G b))
    (htv : ∀ b, tv.ownBlock = some b → b < w.heap.size)
    (hown2 : OwnC 55 3 B w2 tv (cs0 ++ [[.int .i64 last.id, .bool last.ab, ov']])) (ho2 : Only (fun k => tv.ownBlock = some k) w1 w2) :
    HistOwn G B w2 tv (pre ++ [⟨last.id, last.ab, last.ops ++ [o]⟩]) (cs0 ++ [[.int .i64 last.id, .bool last.ab, ov']]) := by
  obtain ⟨h3, h4, h5, h6, h7⟩ := hl
  have hF : ∀ b, ((G b ∧ tv.ownBlock ≠ some b ∧ ov.ownBlock ≠ some b) ∧ b < w.heap.size) → (G b ∧ tv.ownBlock ≠ some b ∧ ov'.ownBlock ≠ some b) := by
    rintro b ⟨⟨q1, q2, q3⟩, q4⟩
    refine ⟨q1, q2, fun q => ?_⟩
    rcases hb b q with r | r
    · exact q3 r
    · omega
  have h7' : ∀ b, ov'.ownBlock = some b → G b ∧ tv.ownBlock ≠ some b := by
    intro b q
    rcases hb b q with r | r
    · exact h7 b r
    · exact ⟨r.2, fun q2 => by have := htv b q2; omega⟩
  refine ⟨hg, hown2, .inr ⟨pre, ⟨last.id, last.ab, last.ops ++ [o]⟩, cs0, ov', ocs ++ [c], rfl, rfl, h3, ?_, hown1.keep ho2 (fun b q => (h7' b q).2), ?_, h7'⟩⟩
  · exact h4.mono fun _ _ q => (((q.lt.only ho1 (fun b hb => hb.1.2.2)).only ho2 (fun b hb => hb.1.2.1)).mono hF)
  · refine AllAt.append (h6.mono fun _ _ q => (((q.lt.only ho1 (fun b hb => hb.1.2.2)).only ho2 (fun b hb => hb.1.2.1)).mono hF)) (AllAt.one ?_)
    exact ((hc.only ho1 (fun b hb => hb.2.2.1)).only ho2 (fun b hb => hb.2.1)).mono fun b hb => hF b ⟨⟨hb.1, hb.2.1, hb.2.2.1⟩, hb.2.2.2⟩
theorem addOp_snoc (pre : List TxnM) (last : TxnM) (o : OpM) : addOp (pre ++ [last]) o = pre ++ [⟨last.id, last.ab, last.ops ++ [o]⟩] := by simp [addOp]
end Go.Proofs.YtkinmllflodhaaaGreat.Mem

/- All that transactions did, gone through one behind the other. -/
namespace Go.Proofs.YtkinmllflodhaaaGreat.Tab
open Go.RowKit Go.Proofs.YtkinmllflodhaaaGreat.Dig Go.Proofs.YtkinmllflodhaaaGreat.Mem Go.Proofs.YtkinmllflodhaaaGreat.Hist Go.Proofs.YtkinmllflodhaaaGreat.Sets Go.Shelf
set_option linter.unusedVariables false
set_option linter.unusedSimpArgs false
attribute [local go_sem] Oper.semAt_some

theorem ints_rowv {F : Nat → Prop} {w : World} {a : Option Addr} {n c : Nat} {l : List Int} (h : IntsAt F w (.slice a n c) l) (hl : l.length ≤ 1000000000000) : n = l.length ∧ RowV w a c l := by
  obtain ⟨a', cap, e, hc, hrd⟩ := h.rd hl
  cases e
  obtain ⟨⟨a2, c2, e2, _, _, hnil, _⟩, _⟩ := h
  simp only [Value.slice.injEq] at e2
  obtain ⟨rfl, _, rfl⟩ := e2
  exact ⟨rfl, hc, hrd, hnil⟩
/-- An operation, as it is handed on: its list lies in the world where all began. -/
structure Item (FF : Nat → Prop) (w0 : World) where
  s : Spot
  a : Option Addr
  c : Nat
  row : IntsAt FF w0 (.slice a s.o.list.length c) s.o.list
  wid : (Lit.int .i64 s.id).wf = true
  wkey : (Lit.int .i64 s.o.key).wf = true
  wval : (Lit.int .i64 s.o.value).wf = true
  len : s.o.list.length ≤ 100000
def itemE {FF : Nat → Prop} {w0 : World} (x : Item FF w0) : Array Value := #[.agg #[.int .i64 x.s.id, .int .i64 (x.s.op : Int), .bool x.s.ab], .agg #[.bool x.s.o.read, .int .i64 x.s.o.key, .int .i64 x.s.o.value, .slice x.a x.s.o.list.length x.c]]
theorem flat_take {us : List TxnM} {k : Nat} (hk : k < us.length) : flat (us.take (k + 1)) = flat (us.take k) ++ mkS us[k] 0 us[k].ops := by
  rw [List.take_succ_eq_append_getElem hk, flat_append]
  congr 1
  rw [flat_cons]
  simp [flat]
theorem mk_take {t : TxnM} {j : Nat} (hj : j < t.ops.length) : mkS t 0 (t.ops.take (j + 1)) = mkS t 0 (t.ops.take j) ++ [⟨t.id, j, t.ab, t.ops[j]⟩] := by
  rw [List.take_succ_eq_append_getElem hj, mk_append, mk_cons, mk_nil]
  simp [Nat.le_of_lt hj]
/-- Blocks of FF are as they were. -/
def KF (FF : Nat → Prop) (A B : World) : Prop := A.heap.size ≤ B.heap.size ∧ ∀ k, FF k → k < A.heap.size → B.heap[k]? = A.heap[k]?
theorem KF.trans {FF : Nat → Prop} {A B C : World} (h : KF FF A B) (k : KF FF B C) : KF FF A C := ⟨Nat.le_trans h.1 k.1, fun i hi hl => (k.2 i hi (Nat.lt_of_lt_of_le hl h.1)).trans (h.2 i hi hl)⟩
theorem KF.alloc {FF : Nat → Prop} {A B : World} (h : KF FF A B) (o : Obj) : KF FF A (B.alloc o) := h.trans ⟨by simp, fun k _ hk => Below.heap_alloc B o k hk⟩
theorem KF.of_only {FF S : Nat → Prop} {A B : World} (h : Only S A B) (hs : ∀ k, FF k → ¬ S k) : KF FF A B := ⟨h.size, fun k hk hl => h.block k hl (hs k hk)⟩
theorem KF.cell {FF : Nat → Prop} {A B : World} (h : KF FF A B) {g i : Nat} {u : Value} (hg : FF g) (hc : A.cell? ⟨g, i, none⟩ = some u) : B.cell? ⟨g, i, none⟩ = some u := by
  have := h.2 g hg (lt_of_cell hc)
  rw [← hc]
  simp only [World.cell?, this]
theorem ints_kf {FF : Nat → Prop} {A B : World} {v : Value} {l : List Int} (h : IntsAt FF A v l) (k : KF FF A B) : IntsAt FF B v l := by
  obtain ⟨⟨a, cap, h1, h2, h3, h4, h5, h6⟩, hw⟩ := h
  refine ⟨⟨a, cap, h1, h2, h3, h4, h5, fun i c hc => ?_⟩, hw⟩
  obtain ⟨b, off, g1, g2, g3⟩ := h6 i c hc
  exact ⟨b, off, g1, g2, fun j u hu => k.cell g2 (g3 j u hu)⟩
/-- What a round keeps: the blocks of FF, and blocks of transactions. -/
def KT (FF : Nat → Prop) (lo : Nat) (W W' : World) : Prop := KF FF W W' ∧ ∀ (k : Nat) (cs : Array Value), lo ≤ k → W.heap[k]? = some (.cells cs 55) → W'.heap[k]? = W.heap[k]?
theorem KT_t {FF : Nat → Prop} {lo : Nat} {A B C : World} (h : KT FF lo A B) (k : KT FF lo B C) : KT FF lo A C := ⟨h.1.trans k.1, fun i cs hl hi => by
  have h1 := h.2 i cs hl hi
  rw [← h1]
  exact k.2 i cs hl (by rw [h1]; exact hi)⟩
theorem KT_b {FF : Nat → Prop} {lo : Nat} {w : World} (hn : ∀ k, FF k → k < w.heap.size) (W : World) (l : Nat) (o o' : Obj) (hl : w.heap.size ≤ l) (h : W.heap[l]? = some o) (hc : o.isCells = false) (hw : o.isWalk = false) : KT FF lo W (W.putObj l o') :=
  ⟨⟨(grownBy_putObj' W l o').size, fun k hk hl2 => (grownBy_putObj' W l o').block k hl2 (fun e => by have := hn k hk; have := Option.some.inj e; omega)⟩, fun k cs _ hk => by
    have hne : k ≠ l := fun e => by subst e; rw [h] at hk; cases hk; simp [Obj.isCells] at hc
    exact (grownBy_putObj' W l o').block k (Array.getElem?_eq_some_iff.1 hk).1 (fun e => hne (Option.some.inj e))⟩
theorem KT.is {FF : Nat → Prop} {lo : Nat} {W W' : World} (h : KT FF lo W W') {b : Nat} {cs : Array Value} (hlo : lo ≤ b) (hb : W.heap[b]? = some (.cells cs 55)) : W'.heap[b]? = some (.cells cs 55) := by rw [h.2 b cs hlo hb]; exact hb
theorem is_of {W : World} {b : Nat} {cs : Array Value} {T : TypeId} (hb : W.heap[b]? = some (.cells cs T)) : Is W b cs := ⟨T, hb⟩
theorem abides_alloc {β : Type} {B : Nat} {J : β → World → Prop} (h : AbidesFrom B J) {s : β} {W : World} (o : Obj) (hs : J s W) : J s (W.alloc o) := h s W _ none hs (World.grownBy_alloc W o none) (fun r e => by cases e)
set_option maxRecDepth 100000 in
set_option maxHeartbeats 4000000 in
theorem opsc_in (F : Fence) (n : Nat) (h7 : F.fn 67) (hro : F.round = none) (hn : 1 ≤ n) (l Bs B N lo : Nat) (tv : Value) (us : List TxnM) (w0 : World) (FF : Nat → Prop) (h : TxnsAt FF w0 tv us)
    (hus : us.length ≤ 100000) (hop : ∀ t ∈ us, t.ops.length ≤ 100000 ∧ ∀ o ∈ t.ops, o.list.length ≤ 100000) (hN : (flat us).length ≤ N) (J Jx : List (Item FF w0) → World → Prop) (hJ : AbidesFrom B J)
    (hY : ∀ pre x W, J pre W → pre.length < N → YieldAt F (n - 1) Tryz.prog l (itemE x) W fun e W' =>
      (e = .returned (.bool true) ∧ J (pre ++ [x]) W' ∧ KT FF lo W W') ∨ (e = .returned (.bool false) ∧ Jx (pre ++ [x]) W'))
    (W : World) (hlo : lo ≤ W.heap.size) (hW : KF FF w0 W) (hBs : W.cell? ⟨Bs, 0, none⟩ = some tv) (h0 : J [] W) :
    CallsIn F n Tryz.prog 67 #[.func (.yield l) #[] #[], .pointer (some ⟨Bs, 0, none⟩)] W fun e W' => (∃ v, e = .returned v) ∧
      ((∃ ys : List (Item FF w0), ys.map (·.s) = flat us ∧ J ys W') ∨ (∃ pre, True ∧ Jx pre W')) := by
  obtain ⟨a, cap, rfl, _, _⟩ := h.shape
  have HH := hide h
  have HOP := hide hop
  have HN := hide hN
  have HJ := hide hJ
  have HY' := hide hY
  refine callsIn_of_wp Tryz.func67 rfl h7 ?_ hro
  simp only [Tryz.ntmps67, List.size_toArray, List.length_cons, List.length_nil, Nat.reduceAdd, Nat.reduceSub, Array.replicate_succ, Array.replicate_zero, List.push_toArray, List.append_toArray, List.nil_append, List.cons_append]
  clear h hop hN hJ hY
  gi_wp2
  gi_loopw [9] (fun i wr => ∃ (k : Nat) (pre : List (Item FF w0)), k ≤ us.length ∧ i = .int .i64 k ∧ Hid (pre.map (·.s) = flat (us.take k) ∧ J pre wr ∧ KF FF w0 wr ∧ lo ≤ wr.heap.size))
    (fun i _ => us.length - (intOf i).toNat)
  case atStart => exact ⟨0, [], Nat.zero_le _, rfl, rfl, h0, hW, hlo⟩
  case round =>
    obtain ⟨k, pre, hk, rfl, hR⟩ := hrel
    obtain ⟨wo, rfl⟩ : ∃ wo, wo = wr := ⟨_, rfl⟩
    by_cases hlt : k < us.length
    · obtain ⟨b, off, oa, ocap, rfl, hFb, hbl, c0, c1, c2, hops, wid⟩ := HH.out.at hlt
      have kp : ∀ {g i : Nat} {u : Value}, FF g → w0.cell? ⟨g, i, none⟩ = some u → wo.cell? ⟨g, i, none⟩ = some u := fun hg hc => hR.out.2.2.1.cell hg hc
      have d0 := kp hFb c0
      have d1 := kp hFb c1
      have d2 := kp hFb c2
      obtain ⟨ho1, ho2⟩ := HOP.out us[k] (List.getElem_mem hlt)
      have HOPS := hide hops
      have HWI := hide wid
      obtain ⟨t, ht⟩ : ∃ t, t = us[k] := ⟨_, rfl⟩
      obtain ⟨m, hm⟩ : ∃ m, m = t.ops.length := ⟨_, rfl⟩
      rw [← ht] at d0 d1 d2 ho1 ho2 HOPS HWI
      rw [← hm] at d2 ho1
      have HT := hide ht
      have HM := hide hm
      have HO2 := hide ho2
      clear c0 c1 c2 hops wid kp hFb hbl ht hm ho2
      gi_wp2
      have hTB : (wo.alloc (.cells #[.int .i64 t.id, .bool t.ab, .slice oa m ocap] 55)).heap[wo.heap.size]? = some (.cells #[.int .i64 t.id, .bool t.ab, .slice oa m ocap] 55) := World.alloc_heap_new _ _
      gi_loopw [16] (fun i2 wq => ∃ (j : Nat) (pre2 : List (Item FF w0)), j ≤ m ∧ i2 = .int .i64 j ∧ Hid (pre2.map (·.s) = flat (us.take k) ++ mkS t 0 (t.ops.take j) ∧ J pre2 wq ∧ KF FF w0 wq ∧ wq.heap[wo.heap.size]? = some (.cells #[.int .i64 t.id, .bool t.ab, .slice oa m ocap] 55) ∧ wo.heap.size < wq.heap.size))
        (fun i _ => m - (intOf i).toNat)
      case atStart => exact ⟨0, pre, Nat.zero_le _, rfl, by rw [hR.out.1]; simp [mk_nil], abides_alloc HJ.out _ hR.out.2.1, hR.out.2.2.1.alloc _, hTB, Nat.lt_of_lt_of_le (Nat.lt_succ_self _) (by simp)⟩
      case round =>
        clear hTB
        obtain ⟨j, pre2, hj, rfl, hR2⟩ := hrel
        by_cases hlt2 : j < m
        · have hjl : j < t.ops.length := by rw [← HM.out]; exact hlt2
          obtain ⟨ob, ooff, la, lc, rfl, hFo, hol, e0, e1, e2, e3, hints, wk, wv⟩ := HOPS.out.at hjl
          have kp : ∀ {g i : Nat} {u : Value}, FF g → w0.cell? ⟨g, i, none⟩ = some u → wr.cell? ⟨g, i, none⟩ = some u := fun hg hc => hR2.out.2.2.1.cell hg hc
          have f0 := kp hFo e0
          have f1 := kp hFo e1
          have f2 := kp hFo e2
          have f3 := kp hFo e3
          have hlen := HO2.out t.ops[j] (List.getElem_mem hjl)
          have hrow := hints
          obtain ⟨q, hq⟩ : ∃ q : OpM, q = t.ops[j] := ⟨_, rfl⟩
          rw [← hq] at f0 f1 f2 f3 hrow wk wv hlen
          obtain ⟨x, hx⟩ : ∃ x : Item FF w0, x = ⟨⟨t.id, j, t.ab, q⟩, la, lc, hrow, HWI.out, wk, wv, hlen⟩ := ⟨_, rfl⟩
          have TB := is_of hR2.out.2.2.2.1
          have g0 : wr.cell? ⟨wo.heap.size, 0, none⟩ = some (.int .i64 t.id) := TB.cell 0 rfl
          have g1 : wr.cell? ⟨wo.heap.size, 1, none⟩ = some (.bool t.ab) := TB.cell 1 rfl
          have hwr := hR2.out.2.2.1.1
          have hlw : wo.heap.size < wr.heap.size := TB.lt
          have hnw : ¬ wo.heap.size = wr.heap.size := by omega
          have hpl : pre2.length < N := by
            have h1 : pre2.length = (flat (us.take k)).length + j := by
              have := congrArg List.length hR2.out.1
              rw [List.length_map, List.length_append, mk_len, List.length_take] at this
              omega
            have h2 : (flat us).length = (flat (us.take k)).length + t.ops.length + (flat (us.drop (k + 1))).length := by
              conv => lhs; rw [← List.take_append_drop (k + 1) us, flat_append, flat_take hlt, ← HT.out]
              rw [List.length_append, List.length_append, mk_len]
            have := HN.out
            omega
          obtain ⟨fn, tmps, assign, body, hy, hR3⟩ := HY'.out pre2 x (wr.alloc (.cells #[.bool q.read, .int .i64 q.key, .int .i64 q.value, .slice la q.list.length lc] 57)) (abides_alloc HJ.out _ hR2.out.2.1) hpl
          have hnext : Hid ((pre2 ++ [x]).map (·.s) = flat (us.take k) ++ mkS t 0 (t.ops.take (j + 1))) := by
            rw [List.map_append, hR2.out.1, mk_take hjl, List.append_assoc, hx, ← hq]
            exact rfl
          have HT2 := hide (show (wr.alloc (.cells #[.bool q.read, .int .i64 q.key, .int .i64 q.value, .slice la q.list.length lc] 57)).heap[wo.heap.size]? = some (.cells #[.int .i64 t.id, .bool t.ab, .slice (some ⟨ob, ooff, none⟩) m ocap] 55) from (Below.heap_alloc _ _ _ (Array.getElem?_eq_some_iff.1 hR2.out.2.2.2.1).1).trans hR2.out.2.2.2.1)
          have HB2 := hide (show KF FF w0 (wr.alloc (.cells #[.bool q.read, .int .i64 q.key, .int .i64 q.value, .slice la q.list.length lc] 57)) from hR2.out.2.2.1.alloc _)
          rw [show itemE x = #[.agg #[.int .i64 t.id, .int .i64 (j : Int), .bool t.ab], .agg #[.bool q.read, .int .i64 q.key, .int .i64 q.value, .slice la q.list.length lc]] by rw [hx]; rfl] at hy
          clear hx hq kp e0 e1 e2 e3 hints wk wv TB hR2 hpl hFo hol hrow hlen
          gi_wp2
          refine hR3.mono ?_
          rintro e W3 (⟨rfl, hJ3, hk3⟩ | ⟨rfl, hJx3⟩)
          · gi_wp2
            go_roundw
            case rel => exact ⟨j + 1, pre2 ++ [x], by omega, by simp, hnext.out, hJ3, HB2.out.trans hk3.1, hk3.is hR.out.2.2.2 HT2.out, by have := hk3.1.1; simp at this; omega⟩
            case measure => simp [intOf]; omega
          · gi_wp2
            refine bodyPost_ret (results_none rfl _ _ _) rfl ?_
            exact ⟨⟨_, rfl⟩, .inr ⟨_, trivial, hJx3⟩⟩
        · obtain rfl : j = m := by omega
          have hend : Hid (pre2.map (·.s) = flat (us.take (k + 1))) := by
            rw [hR2.out.1, flat_take hlt, ← HT.out, HM.out, List.take_length]
            exact rfl
          gi_wp2
          go_roundw
          case rel => exact ⟨k + 1, pre2, by omega, by simp, hend.out, hR2.out.2.1, hR2.out.2.2.1, by have := hR.out.2.2.2; have := hR2.out.2.2.2.2; omega⟩
          case measure => simp [intOf]; omega
    · obtain rfl : k = us.length := by omega
      gi_wp2
      go_end0
      refine ⟨⟨_, rfl⟩, .inl ⟨pre, ?_, hR.out.2.1⟩⟩
      have := hR.out.1
      rwa [List.take_length] at this
end Go.Proofs.YtkinmllflodhaaaGreat.Tab

/- Transactions, sorted by their numbers. -/
namespace Go.Proofs.YtkinmllflodhaaaGreat.Tab
open Go.RowKit Go.Proofs.YtkinmllflodhaaaGreat.Dig Go.Proofs.YtkinmllflodhaaaGreat.Mem Go.Proofs.YtkinmllflodhaaaGreat.Hist Go.Proofs.YtkinmllflodhaaaGreat.Sets Go.Shelf Go.Sort
set_option linter.unusedVariables false
set_option linter.unusedSimpArgs false

shelf_lay_g SlLaysF0.n6 Slsf 6 at Tryz 85 as Tryz.sortTxns
/-- A transaction, as it is handed on: its operations lie in the world where all began. -/
structure TI (w0 : World) where
  t : TxnM
  oa : Option Addr
  oc : Nat
  ops : OpsAt (fun b => b < w0.heap.size) w0 (.slice oa t.ops.length oc) t.ops
  wid : (Lit.int .i64 t.id).wf = true
instance (w0 : World) : Inhabited (TI w0) := ⟨⟨⟨0, false, []⟩, none, 0, OpsAt.nil, by decide⟩⟩
def encT {w0 : World} (x : TI w0) : List Value := [.int .i64 x.t.id, .bool x.t.ab, .slice x.oa x.t.ops.length x.oc]
def cfT {w0 : World} (x y : TI w0) : Int := cmpI x.t.id y.t.id
theorem ltT {w0 : World} (x y : TI w0) : ltOf cfT x y = decide (x.t.id < y.t.id) := by
  unfold ltOf cfT cmpI
  by_cases h1 : x.t.id < y.t.id
  · simp [h1]
  · by_cases h2 : y.t.id < x.t.id <;> simp [h1, h2]
theorem swoT (w0 : World) : SWO (ltOf (cfT (w0 := w0))) where
  irrefl x := by rw [ltT]; simp
  trans x y z h1 h2 := by rw [ltT] at *; simp at *; omega
  ntrans x y z h1 h2 := by rw [ltT] at *; simp at *; omega
set_option maxHeartbeats 1000000 in
theorem cmpf_any {w0 : World} (x y : TI w0) (W : World) : Calls Tryz.prog 65 #[.agg #[.int .i64 x.t.id, .bool x.t.ab, .slice x.oa x.t.ops.length x.oc], .agg #[.int .i64 y.t.id, .bool y.t.ab, .slice y.oa y.t.ops.length y.oc]] W fun e w' => e = .returned (.int .i64 (cfT x y)) ∧ ∃ q os', w' = grow (W.drewN q) os' := by
  have hcon := fun W' => ccmp_any x.t.id y.t.id W'
  unfold cfT
  generalize cmpI x.t.id y.t.id = r at hcon ⊢
  have HC := hide hcon
  clear hcon
  go_enter Tryz.func65, Tryz.ntmps65
  go_wp2_with (go_at_call 66; go_must ((with_reducible refine (Hid.out HC _).mono ?_); rintro e w' ⟨rfl, rfl⟩))
  go_ret
  exact ⟨rfl, 0, _, by rw [alloc_eq_grow, alloc_eq_grow, grow_grow]; rfl⟩
theorem sort_any {w0 : World} (g cap : Nat) (d : Array (TI w0)) (w : World) (hH : HoldsK encT 3 w g 0 d) (hg : g < w.heap.size) (hsz : d.size ≤ 1000000) :
    Calls Tryz.prog 85 #[.slice (some ⟨g, 0, none⟩) d.size cap, .func (.func 65) #[] #[]] w fun e w' => e = .returned (.tuple #[]) ∧ ∃ d' : Array (TI w0), d'.toList.Perm d.toList ∧ d'.toList.Pairwise (fun x y => x.t.id ≤ y.t.id) ∧ HoldsK encT 3 w' g 0 d' ∧ Only (fun k => k = g) w w' := by
  have eg : ∀ args w, (callFunc 65 args).run Tryz.prog w = .ok (.enter 65 args) w := enters_of Tryz.func65 (by kernel_rfl) rfl
  have hcon := AnyQ.slices_SortFunc Tryz.sortTxns 3 Tryz.isAgg55 Tryz.sizeOf55 (encT (w0 := w0)) (fun _ => rfl) (fun x v hv => by simp [encT] at hv; rcases hv with rfl | rfl | rfl <;> rfl) cfT (swoT w0) 65 #[] g 0 cap d w eg (fun _ _ _ _ x y => cmpf_any x y _) hH hg (by omega)
  refine Calls.mono hcon ?_
  rintro e w' ⟨rfl, d', n, os, hp, hs, rfl⟩
  have hsize := hp.1
  have hperm : d'.toList.Perm d.toList := by
    have := hp.2.2
    rw [Array.extract_size] at this
    have e2 : d'.extract 0 d.size = d' := by rw [← hsize]; exact Array.extract_size
    rwa [e2] at this
  refine ⟨rfl, d', hperm, ?_, holdsK_sortWorldK encT 3 w g 0 n d d' os hg hH hsize, ?_⟩
  · rw [List.pairwise_iff_getElem]
    intro i j hi hj hij
    have h := hs i j (Nat.zero_le _) hij (by rw [← hsize]; simpa using hj)
    rw [ltT] at h
    simp only [decide_eq_false_iff_not, Int.not_lt] at h
    rw [getElem!_pos d' j (by simpa using hj), getElem!_pos d' i (by simpa using hi)] at h
    simpa using h
  · unfold sortWorldK putRowK
    exact (only_putRow (S := fun k => k = g) rfl |> fun h => h).trans only_grow
end Go.Proofs.YtkinmllflodhaaaGreat.Tab

/- Things whose blocks are cells, or lie below where a loop began, are kept by what a range over a function does beside its rounds. -/
namespace Go.Proofs.YtkinmllflodhaaaGreat.Tab
open Go.RowKit Go.Proofs.YtkinmllflodhaaaGreat.Dig Go.Proofs.YtkinmllflodhaaaGreat.Mem Go.Proofs.YtkinmllflodhaaaGreat.Own Go.Proofs.YtkinmllflodhaaaGreat.Thing
set_option linter.unusedVariables false
set_option linter.unusedSimpArgs false

def Fixed (B : Nat) (t : Th) : Prop := ∀ (W W' : World) (row : Option Nat), t.P W → W.grownBy W' row → (∀ r, row = some r → B ≤ r ∧ ∃ o : Obj, W.heap[r]? = some o ∧ o.isCells = false) → t.P W'
theorem fixed_box (B b : Nat) (cs : Array Value) : Fixed B (boxT b cs) := fun W W' row h hg hr => (boxT b cs).keep (S := fun k => row = some k) h ⟨hg.os, hg.tape, hg.output, hg.size, fun k hk hn => hg.block k hk (fun e => hn e.symm)⟩ fun k hk e => by
  obtain ⟨_, o, h2, h3⟩ := hr k e
  obtain ⟨T, hT⟩ := (show Is W b cs from h)
  cases hk
  rw [hT] at h2
  cases h2
  simp [Obj.isCells] at h3
theorem fixed_own (B base : Nat) (e : TypeId) (z : Nat) (v : Value) (n : Nat) (xs : List Value) : Fixed B (ownN base e z v n xs) := fun W W' row h hg hr => (ownN base e z v n xs).keep (S := fun k => row = some k) h ⟨hg.os, hg.tape, hg.output, hg.size, fun k hk hn => hg.block k hk (fun e => hn e.symm)⟩ fun k hk e' => by
  obtain ⟨_, o, h2, h3⟩ := hr k e'
  obtain ⟨cur, hT⟩ := own_obj (show W.ownsRow base e z v n xs from h) hk
  rw [hT] at h2
  cases h2
  simp [Obj.isCells] at h3
theorem fixed_tab {B base n : Nat} {d : TD} {s : Tb} (hb : d.b0 < B ∧ d.b1 < B ∧ d.b2 < B ∧ d.b3 < B) : Fixed B (tabT base d s n) := fun W W' row h hg hr => TabAt.own_from h hg hr hb
theorem Kn_fixed {w W W' : World} {ts : List Th} {B : Nat} {row : Option Nat} (h : Kn w ts W) (hf : ∀ t ∈ ts, Fixed B t) (hB : w.heap.size ≤ B) (hg : W.grownBy W' row) (hr : ∀ r, row = some r → B ≤ r ∧ ∃ o : Obj, W.heap[r]? = some o ∧ o.isCells = false) : Kn w ts W' :=
  ⟨h.below.grown hg h.below.size (fun k e => Nat.le_trans hB (hr k e).1), fun t ht => ⟨hf t ht W W' row (h.has t ht).1 hg hr, (h.has t ht).2⟩, h.sep⟩
theorem keeps_only {B : Nat} {W W' : World} {S : Nat → Prop} (ho : Only S W W') (hS : ∀ k, S k → k < B ∨ ∃ cs T, W.heap[k]? = some (.cells cs T)) : KeepsFrom B W W' :=
  ⟨ho.size, fun k o hk h0 hc => by
    refine (ho.block k (Array.getElem?_eq_some_iff.1 h0).1 fun hs => ?_).trans h0
    rcases hS k hs with q | ⟨cs, T, q⟩
    · omega
    · rw [h0] at q; cases q; simp [Obj.isCells] at hc⟩
theorem only_grown {W W' : World} {row : Option Nat} (hg : W.grownBy W' row) : Only (fun k => row = some k) W W' := ⟨hg.os, hg.tape, hg.output, hg.size, fun k hk hn => hg.block k hk (fun e => hn e.symm)⟩
theorem box_obj {W : World} {b : Nat} {cs : Array Value} (h : Is W b cs) : ∃ cs T, W.heap[b]? = some (.cells cs T) := let ⟨T, q⟩ := h; ⟨cs, T, q⟩
end Go.Proofs.YtkinmllflodhaaaGreat.Tab
