/- SortedGoes, walked. -/
import Derived.Test.YtghdafgpdhbohaaSetWorks
import Derived.Test.YtghdafgpdhbohaaSetFrom
import Derived.Test.YtghdafgpdhbohaaSetRef
import Derived.Test.YtghdafgpdhbohaaSetPart
import Derived.Test.YtghdafgpdhbohaaFrame
import Derived.Deep.RegionHeld3
import Derived.Deep.DrawnRows
import Derived.Deep.DeepMust
namespace Go.Proofs.Ytghdafgpdhbohaa.Walk
open Go.RowKit Go.Proofs.Ytghdafgpdhbohaa.Dig Go.Proofs.Ytghdafgpdhbohaa.Mem Go.Proofs.Ytghdafgpdhbohaa.Sets Go.Shelf
set_option linter.unusedVariables false
set_option linter.unusedSimpArgs false

attribute [local go_sem] Oper.semAt_some
theorem row_of2 {w : World} {a : Option Addr} {len cap : Nat} {zs : List Int} (h : Frame.IsRow .i64 w a len cap zs) (hl : len ≤ 1000000) : ∃ l, len = l.length ∧ RowV w a cap l := by
  have hc := h.cap.1
  obtain ⟨l, rfl, hr, hw, hn⟩ := h.list (by omega)
  exact ⟨l, rfl, hc, hr, fun e => (hn e).2⟩
theorem goes_no (w : World) (a0 : Option Addr) (n0 c0 : Nat) (x t : Int) (all : Bool) (h : 60 < n0) (m0 : n0 ≤ 9223372036854775807) : Calls Try.prog 4 #[.slice a0 n0 c0, .int .i64 x, .int .u8 t, .bool all] w fun e w' => e = .returned (.bool true) ∧ Below w.heap.size w w' := by
  have g0 : (60 : Int) < n0 := by omega
  go_enter Try.func4, Try.ntmps4
  go_wp2_with (first | (go_at_call 8; go_must ((with_reducible refine (works5_any _).mono ?_); rintro e w1 ⟨rfl, hb1⟩)))
  go_ret
  exact ⟨rfl, ((Below.refl _ _).alloc (Nat.le_refl _) _).trans (hb1.mono (by simp))⟩
/-- A row, up to a place. -/
theorem rowv_take {w : World} {a : Option Addr} {c : Nat} {l : List Int} (hW : RowV w a c l) (m : Nat) : RowV w a c (l.take m) := by
  refine ⟨by have := hW.cap; rw [List.length_take]; omega, ⟨by have := hW.rd.1; rw [List.length_take]; omega, fun i hi => ?_⟩, fun e => ?_⟩
  · rw [List.length_take] at hi
    obtain ⟨b, off, rfl, hcell, hwf⟩ := hW.rd.2 i (by omega)
    have him : i < m := by omega
    have e : (l.take m).getD i 0 = l.getD i 0 := by simp [List.getD_eq_getElem?_getD, List.getElem?_take, him]
    refine ⟨b, off, rfl, ?_, ?_⟩
    · show _ = some (Value.int .i64 ((l.take m).getD i 0))
      rw [e]
      exact hcell
    · show (Lit.int .i64 ((l.take m).getD i 0)).wf = true
      rw [e]
      exact hwf
  · have := hW.nil e
    omega
theorem exit_normal {Q : Exit → Act → World → Prop} {a : Act} {w : World} (h : Exit.inBlock 0 Q .normal a w) : Exit.inBlock 0 Q (.exit 0) a w := by
  simp only [Exit.inBlock, if_true] at h ⊢
  exact h
def lenOf : Value → Nat
  | .slice _ n _ => n
  | _ => 0
def WantR (w6 : World) (x : Int) (s' : List Int) (v : Value) (wr : World) : Prop :=
  w6 = wr ∧ ∃ a c m rest, v = .slice a m c ∧ Hid (m = rest.length) ∧ Hid (RowV w6 a c rest) ∧ Hid ((rest.dropWhile fun y => ltI y x) = s')
structure KeyW (P : Prop) : Prop where
  out : P
theorem merge {P Q : Prop} (h : KeyW P → Q) (p : P) : Q := h ⟨p⟩
section
variable {w wx : World} {cs : List (Nat × Value)} {sets rows : List SetT}
theorem fromD {a : Option Addr} {c n : Nat} {s : List Int} (x : Int) (h : Hid (Env w cs sets rows wx)) (hp : (a, c, s) ∈ sets) (hn : Hid (n = s.length)) :
    Calls Try.prog 21 #[.agg #[.slice a n c], .int .i64 x] wx fun e w' => ∃ B, e = .returned (.func (.func 49) #[] #[.pointer (some ⟨B, 0, none⟩)]) ∧ Hid (IterV w' (.func (.func 49) #[] #[.pointer (some ⟨B, 0, none⟩)]) B (s.dropWhile fun y => ltI y x)) ∧ Hid (Env w cs sets rows w') := by
  have hs := h.out.sets _ hp
  rw [hn.out]
  refine (from_any _ s x wx (h.out.setv hp) (by have := hs.2.2; simp at this; omega) hs.2.1).mono ?_
  rintro e w' ⟨B, _, rfl, ⟨a', c', hc, hr, _⟩, hb⟩
  exact ⟨B, rfl, ⟨rfl, a', c', hc, hr⟩, h.out.keep hb⟩
theorem allI {a : Option Addr} {c n : Nat} {s : List Int} (h : Hid (Env w cs sets rows wx)) (hp : (a, c, s) ∈ sets) (hn : Hid (n = s.length)) :
    Calls Try.prog 22 #[.agg #[.slice a n c]] wx fun e w' => ∃ B, e = .returned (.func (.func 49) #[] #[.pointer (some ⟨B, 0, none⟩)]) ∧ Hid (IterV w' (.func (.func 49) #[] #[.pointer (some ⟨B, 0, none⟩)]) B s) ∧ Hid (Env w cs sets rows w') := by
  have hs := h.out.sets _ hp
  rw [hn.out]
  refine (all_any _ s wx (h.out.setv hp)).mono ?_
  rintro e w' ⟨B, _, rfl, ⟨a', c', hc, hr, _⟩, hb⟩
  exact ⟨B, rfl, ⟨rfl, a', c', hc, hr⟩, h.out.keep hb⟩
end
set_option maxRecDepth 100000 in
set_option maxHeartbeats 2000000 in
theorem walk_sortedGoes (w : World) (a0 : Option Addr) (n0 c0 : Nat) (z0 : List Int) (h0 : Frame.IsRow .i64 w a0 n0 c0 z0) (x : Int) (hx : (Lit.int .i64 x).wf = true) (t : Int) (ht : (Lit.int .u8 t).wf = true) (all : Bool) :
    Calls Try.prog 4 #[.slice a0 n0 c0, .int .i64 x, .int .u8 t, .bool all] w fun e w' => e = .returned (.bool true) ∧ Below w.heap.size w w' := by
  have m0 := h0.cap
  by_cases hb : 60 < n0
  · exact goes_no w a0 n0 c0 x t all hb (by omega)
  obtain ⟨l, e0, r0⟩ := row_of2 h0 (by omega)
  have hbt := bounds_u8 ht
  obtain ⟨tn, rfl⟩ : ∃ tn : Nat, t = tn := ⟨t.toNat, by omega⟩
  have g0 : ¬ (60 : Int) < n0 := by omega
  have HN := hide e0
  obtain ⟨wb, hwb⟩ : ∃ wb, wb = w.alloc (.cells #[.int .u8 tn] 5) := ⟨_, rfl⟩
  have hbb : Below w.heap.size w wb := by rw [hwb]; exact (Below.refl _ _).alloc (Nat.le_refl _) _
  have HX6 : Hid (Boxed wb w.heap.size 5 (.int .u8 tn)) := by rw [hwb]; exact Boxed.new w 5 (.int .u8 tn)
  have H0 : Hid (Env wb [] [] [(a0, c0, l)] wb) := (Env.start wb).row (r0.keep hbb) (by show l.length ≤ _; omega)
  have HBB := hide hbb
  have HSL : Hid ((setL ltI l).length ≤ 60) := hide (by have := setL_length (lt := ltI) l; omega)
  have heq := eql_nilFunc 49
  have f8 : Fence.wide.fn 8 := trivial
  clear h0 m0 e0 r0 ht hbb
  cases all
  · have hall := True.intro
    refine (callsIn_wide (n := 3)).1 ?_
    refine callsIn_of_wp_marks Try.func4 rfl trivial ?_ rfl
    simp only [Try.ntmps4, List.size_toArray, List.length_cons, List.length_nil, Nat.reduceAdd, Nat.reduceSub, Array.replicate_succ, Array.replicate_zero, List.push_toArray, List.append_toArray, List.nil_append, List.cons_append]
    gi_wp2_with (first | (gi_at_call 8; go_must ((with_reducible refine (callsIn_wide.2 (works5_any _)).mono ?_); rintro e w1 ⟨rfl, hb1⟩; rw [← hwb] at hb1; have H1 := hide (H0.out.keep hb1); clear hb1; have CO := hide (ofD (a := a0) (c := c0) (n := n0) (l := l) (s := setL ltI l) H1 (by simp) HN rfl))) | (refine ⟨trivial, ?_⟩; gi_at_call 9; go_must ((with_reducible refine (callsIn_wide.2 (Hid.out CO)).mono ?_); rintro e w2 ⟨a5, c5, m5, rfl, hm5, hf5, H2⟩; have H3 := box1 w2.heap.size (.slice a5 m5 c5) 25 H2 rfl; have CF := hide (fromD (a := a5) (c := c5) (n := m5) (s := setL ltI l) x H3 (by simp) hm5))) | (refine ⟨trivial, ?_⟩; gi_at_call 21; go_must ((with_reducible refine (callsIn_wide.2 (Hid.out CF)).mono ?_); rintro e w3 ⟨B, rfl, HI, H4⟩; have k5 := H4.out.cell (b := w2.heap.size) (v := .slice a5 m5 c5) (by simp); have CA := hide (allI (a := a5) (c := c5) (n := m5) (s := setL ltI l) H4 (by simp) hm5))) | (refine ⟨trivial, ?_⟩; gi_at_call 22; go_must ((with_reducible refine (callsIn_wide.2 (Hid.out CA)).mono ?_); rintro e w4 ⟨B', rfl, HI', H5⟩)))
    obtain ⟨s', hs'⟩ : ∃ s', s' = (setL ltI l).dropWhile fun y => ltI y x := ⟨_, rfl⟩
    have HS60 : Hid (s'.length ≤ 60) := hide (by have := HSL.out; have := (List.dropWhile_sublist (fun y => ltI y x) (l := setL ltI l)).length_le; rw [hs']; omega)
    have HSS := hide hs'
    rw [← hs'] at HI
    clear hs'
    obtain ⟨w5, hw5⟩ : ∃ w5, w5 = w3.alloc (.cells #[.slice none 0 0] 22) := ⟨_, rfl⟩
    have hb5 : Below w3.heap.size w3 w5 := by rw [hw5]; exact (Below.refl _ _).alloc (Nat.le_refl _) _
    have hsz : w5.heap.size = w3.heap.size + 1 := by rw [hw5]; simp
    have hlt6 : w.heap.size < w3.heap.size := Nat.lt_of_lt_of_le HX6.out.lt H4.out.below.size
    have L0 : LI 3 22 (Value.int .i64) w3 [(w.heap.size, 5, .int .u8 tn)] w3.heap.size (.slice none 0 0) ([] : List Int) w5 := by
      have b1 : Boxed w5 w.heap.size 5 (.int .u8 tn) := boxed_below (boxed_below HX6.out H4.out.below) hb5
      have b4 : Boxed w5 w3.heap.size 22 (.slice none 0 0) := by rw [hw5]; exact Boxed.new _ _ _
      refine ⟨fun p hp => ?_, b4, World.ownsRow_nil _ _ _ _, by decide, Nat.le_refl _, hb5⟩
      obtain rfl := List.mem_singleton.1 hp
      exact ⟨b1, show (5 : Nat) ≠ 3 by decide, by show w.heap.size ≠ _; omega⟩
    have hst := vals_stops Fence.wide (3 - 1) trivial rfl (by omega) B w3.heap.size _ s' (by have := HS60.out; omega) w5 (HI.out.keep hb5) (by omega) (fun b off ⟨c', hc'⟩ hp => by
      obtain ⟨_, a9, c9, hc9, hr9⟩ := HI.out
      rw [hb5.cell (p := ⟨B, 0, none⟩) HI.out.lt, hc9] at hc'
      cases hc'
      obtain ⟨b', off', e', hcc⟩ := hr9.at hp
      cases e'
      exact lt_of_cell hcc)
    have HST := hide hst
    have HWF : Hid (∀ z ∈ s', (Lit.int .i64 z).wf = true) := by obtain ⟨_, a9, c9, hc9, hr9⟩ := HI.out; exact hr9.wf
    have HL0 := hide L0
    obtain ⟨i0, hi, hz0, hz1, hz2⟩ := info_parts Try.infoSetInt
    clear hst L0
    rw [← hw5]
    clear hw5
    apply merge
    intro key
    refine wpIn_rangeFunc_ownG rfl (by omega) (gf := 49) (lb := #[.pointer (some ⟨B, 0, none⟩)]) rfl trivial (enters_of Try.func49 (by kernel_rfl) rfl) HST.out belowK_t (belowK_b (by omega)) (Below.refl _ _) (fun _ => rfl)
      (fun pre W => pre.length ≤ tn ∧ ∃ v, LI 3 22 (Value.int .i64) w3 [(w.heap.size, 5, .int .u8 tn)] w3.heap.size v pre W)
      (fun c pre W => c = .exit 0 ∧ pre.length = tn + 1 ∧ ∃ v, LI 3 22 (Value.int .i64) w3 [(w.heap.size, 5, .int .u8 tn)] w3.heap.size v (pre.take tn) W)
      (fun pre W W' row hs hg hr => ⟨hs.1, by obtain ⟨v, hv⟩ := hs.2; exact ⟨v, hv.turn (by omega) hg hr⟩⟩)
      (fun c pre W W' row hs hg hr => ⟨hs.1, hs.2.1, by obtain ⟨v, hv⟩ := hs.2.2; exact ⟨v, hv.turn (by omega) hg hr⟩⟩)
      ⟨Nat.zero_le _, _, HL0.out⟩
      (fun y => { tmps := #[.slice a0 n0 c0, .int .i64 x, .int .u8 tn, .bool false, undef, undef, .pointer (some ⟨w.heap.size, 0, none⟩), undef, .bool false, .pointer (some ⟨w2.heap.size, 0, none⟩), .func (.func 49) #[] #[.pointer (some ⟨B, 0, none⟩)], .pointer (some ⟨w3.heap.size, 0, none⟩), .int .i64 y, undef, .slice a0 n0 c0, .int .i64 n0, .bool false, .bool false, .bool true, .bool false, .bool false, undef, .slice a0 n0 c0, .agg #[.slice a5 m5 c5], .agg #[.slice a5 m5 c5], .int .i64 x, .func (.func 49) #[] #[.pointer (some ⟨B, 0, none⟩)], .bool false, undef, undef, .func (.func 49) #[] #[.pointer (some ⟨B, 0, none⟩)], .bool false, .func (.func 49) #[] #[.pointer (some ⟨B, 0, none⟩)], .int .i64 y, undef, undef, undef, undef, undef, undef, undef, undef, undef, undef, undef, undef, undef, undef, undef, undef, undef, undef, undef, undef, undef, undef, undef, undef, undef, undef, undef, undef, undef, undef, undef, undef, undef, undef, undef, undef], defers := [] }) ?assign ?body ?done ?stop
    case assign =>
      intro l' y W K hK
      gi_wp2
      exact hK
    case body =>
      rintro l' pre y W ⟨hpl, v, hL⟩ hlt
      have c6 := (hL.boxes (w.heap.size, 5, .int .u8 tn) (by simp)).1.cell
      obtain ⟨a4, c4, rfl⟩ := own_form hL.own
      have c11 := hL.box.cell
      have hrow := hL.own
      obtain ⟨k, hk⟩ : ∃ k, k = pre.length := ⟨_, rfl⟩
      have HL := hide hL
      rw [← hk] at HL
      have HK : Hid (k = pre.length) := hk
      have HPL : Hid (k ≤ tn) := by rw [hk]; exact hpl
      have HK6 : Hid (k < 60) := hide (by have := HS60.out; omega)
      rw [← hk] at c11 hrow
      clear hL hpl hk hlt
      by_cases hkn : (k : Int) = tn
      · gi_wp2
        refine ⟨KeepsFrom.refl _ _, rfl, by rw [List.length_append, ← HK.out]; show k + 1 = tn + 1; omega, .slice a4 k c4, ?_⟩
        rw [List.take_left' (by rw [← HK.out]; omega)]
        exact HL.out
      · gi_wp2_with (gi_at_builtin; refine wpListIn_append_own _ rfl _ _ 22 rfl w3.heap.size 3 i0 (.int .i64 0) 1 8 Try.underlying22 hi hz0 hz1 hz2 rfl (by decide) (.slice a4 k c4) k _ rfl (hrow.alloc _) ⟨W.heap.size, 0, none⟩ 1 1 [.int .i64 y] rfl rfl (cell_one_new _ _ _) (by simp [Value.oneCell']) (by have := HK6.out; unfold maxLen; omega) (by have := HK6.out; omega) (by have := HL.out.below.size; rw [World.size_alloc]; omega) ?_; intro v' w9 hown' hgrow _; obtain ⟨g', cap', rfl⟩ := ownsRow_succ hown'; obtain ⟨hv1, hL3, hk3, hb3⟩ := HL.out.push (l' := pre ++ [y]) hown' (by rw [List.length_append, ← HK.out]; rfl) (by simp) hgrow; have hc1 := hv1.cell; have hf1 := hv1.frozen; have HL3 := hide hL3; have HK3 := hide hk3; have HB3 := hide hb3; clear hL3 hk3 hb3 hown' hgrow hv1)
        exact ⟨HK3.out.from _, HB3.out, by rw [List.length_append, ← HK.out]; have := HPL.out; show k + 1 ≤ tn; omega, _, HL3.out⟩
    case done =>
      rintro D ys W hD hys ⟨hpl, v, hL⟩ hK
      rw [hys] at hpl hL
      obtain ⟨a4, c4, rfl⟩ := own_form hL.own
      have etk : s'.take tn = s' := List.take_of_length_le hpl
      rw [← etk] at hL
      obtain ⟨m, hm⟩ : ∃ m, m = (s'.take tn).length := ⟨_, rfl⟩
      rw [← hm] at hL
      have HM := hide hm
      have HL := hide hL
      have HK := hide hK
      have HD := hide hD
      clear etk hm hL hK hD hpl hys
      clear ys
      revert HD; revert HK; revert HL; revert HM; revert m; revert c4; revert a4; revert W; revert D
      exact key.out
    case stop =>
      rintro D c pre W hD ⟨k, hk, hpre⟩ ⟨rfl, hpl, v, hL⟩ hK
      obtain ⟨a4, c4, rfl⟩ := own_form hL.own
      have etk : pre.take tn = s'.take tn := by
        rw [hpre, List.length_take] at hpl
        rw [hpre, List.take_take]
        congr 1
        omega
      rw [etk] at hL
      refine wpIn_exit (exit_normal ?_)
      exact key.out D W a4 c4 _ rfl hL hK hD
    intro D W a4 c4 m HM HL HK HD
    have HRW : Hid (RowV W a0 c0 l) := ((H4.out.rows (a0, c0, l) (by simp)).1.keep HL.out.below)
    obtain ⟨q, hq⟩ : ∃ q, q = (setL ltI l).length := ⟨_, rfl⟩
    have HQ := hide hq
    have CR : Hid (Calls Try.prog 17 #[.slice a0 n0 c0] W fun e w' => ∃ a' c', e = .returned (.slice a' q c') ∧ Hid (RowV w' a' c' (setL ltI l)) ∧ Hid (Below W.heap.size W w')) := by
      rw [HN.out, hq]
      refine hide ((rof_any a0 c0 l W HRW.out (by have := HN.out; omega)).mono ?_)
      rintro e w' ⟨⟨a', c', rfl, hr⟩, hb⟩
      exact ⟨a', c', rfl, hr, hb⟩
    clear hq
    gi_wp2_with (refine ⟨trivial, ?_⟩; gi_at_call 17; go_must ((with_reducible refine (callsIn_wide.2 (Hid.out CR)).mono ?_); rintro e w6 ⟨a6, c6, rfl, HR6, HB6⟩))
    gi_loopw [13] (fun v wr => WantR w6 x s' v wr) (fun v _ => lenOf v)
    case atStart => exact ⟨rfl, a6, c6, q, _, rfl, HQ, HR6, hide HSS.out.symm⟩
    case round =>
      obtain ⟨rfl, a7, c7, m7, rest, rfl, HM7, HR7, HD7⟩ := hrel
      cases rest with
      | nil =>
        have hz7 : ¬ (0 : Int) < m7 := by have := HM7.out; simp at this; omega
        have hss : [] = s' := HD7.out
        rw [hss] at HR7 HM7
        clear hss HD7
        gi_wp2
        have HRG : Hid (RowV w6 a4 c4 (s'.take tn)) := hide (((rowv_of_own HL.out.own (by have := HS60.out; rw [List.length_take]; omega) (fun z hz => HWF.out z (List.mem_of_mem_take hz))).2).keep HB6.out)
        have k11 : w6.cell? ⟨w3.heap.size, 0, none⟩ = some (.slice a4 m c4) := (boxed_below HL.out.box HB6.out).cell
        have k6 : w6.cell? ⟨w.heap.size, 0, none⟩ = some (.int .u8 tn) := (boxed_below (HL.out.boxes (w.heap.size, 5, .int .u8 tn) (by simp)).1 HB6.out).cell
        have HFIN : Hid (∀ w7, Below w6.heap.size w6 w7 → w7.heap[D]? = some (.deferred (some [])) ∧ Below w.heap.size w (w7.putObj D (.deferred none))) := hide (fun w7 hb7 => by
          have hDW : D < W.heap.size := (Array.getElem?_eq_some_iff.1 HK.out).1
          have h7 : w7.heap[D]? = some (.deferred (some [])) := (hb7.block D (Nat.lt_of_lt_of_le hDW HB6.out.size)).trans ((HB6.out.block D hDW).trans HK.out)
          have s0 := HBB.out.size
          have s1 := H4.out.below.size
          have s2 := HL.out.below.size
          have s3 := HB6.out.size
          have b1 : Below w.heap.size w w7 := (((HBB.out.trans (H4.out.below.mono s0)).trans (HL.out.below.mono (by omega))).trans (HB6.out.mono (by omega))).trans (hb7.mono (by omega))
          exact ⟨h7, b1.trans (belowK_b (w := w5) (by omega) _ D _ _ HD.out h7 rfl rfl)⟩)
        have q7 : IntKind.i64.wrap (tn : Int) = tn := by rw [IntKind.wrap_i64]; omega
        obtain ⟨mn, hmn⟩ : ∃ mn, mn = min m7 tn := ⟨_, rfl⟩
        have HR9 := hide (rowv_take HR7.out mn)
        have hc7 : mn ≤ c7 := by have h1 := HR7.out.cap; have h2 := HM7.out; omega
        have hc7i : (mn : Int) ≤ c7 := by omega
        have CS : Hid (Calls Try.prog 14 #[.slice a4 m c4, .slice a7 mn c7] w6.drew fun e w' => e = .returned (.bool true) ∧ Hid (Below w6.heap.size w6 w')) := by
          have e1 : mn = (s'.take mn).length := by rw [List.length_take, ← HM7.out]; omega
          rw [HM.out, e1]
          refine hide ((same_rows a4 a7 c4 c7 (s'.take tn) (s'.take mn) w6.drew (HRG.out.keep (Below.refl _ _).drew) (HR9.out.keep (Below.refl _ _).drew) (by
            rw [hmn]
            rcases Nat.le_total m7 tn with q1 | q1
            · rw [Nat.min_eq_left q1, List.take_of_length_le (by rw [← HM7.out]; exact q1), List.take_of_length_le (by rw [← HM7.out]; omega)]
            · rw [Nat.min_eq_right q1])).mono ?_)
          rintro e w' ⟨rfl, hb⟩
          exact ⟨rfl, (Below.refl _ _).drew.trans hb⟩
        clear HR9 HRG
        have q2 : tn ≥ m7 := by omega
        obtain rfl : mn = m7 := by omega
        clear hmn
        have q3 : ¬ (tn : Int) < mn := by omega
        have q4 : min (mn : Int) (tn : Int) = mn := by omega
        have q5 : min mn tn = mn := by omega
        have q6 : ¬ tn < mn := by omega
        refine wpIn_wide.2 ?_
        go_region_held3 (fun w' => w'.cell? ⟨w3.heap.size, 0, none⟩ = some (.slice a4 m c4) ∧ w'.cell? ⟨w.heap.size, 0, none⟩ = some (.int .u8 tn)) (first | exact ⟨by assumption, by assumption⟩ | go_keep)
          (first | (go_at_call 14; (with_reducible refine (Hid.out CS).mono ?_); rintro e w7 ⟨rfl, HB7⟩; have k117 := (boxed_below (boxed_below HL.out.box HB6.out) HB7.out).cell; have k67 := (boxed_below (boxed_below (HL.out.boxes (w.heap.size, 5, .int .u8 tn) (by simp)).1 HB6.out) HB7.out).cell))
        gi_wp2
        have hfin := HFIN.out w7 HB7.out
        refine ⟨by simp, .inl ⟨_, _, rfl, run_takeDeferred hfin.1, ?_⟩⟩
        exact ⟨.bool true, by simp [results, Try.f4, go_sem], rfl, hfin.2⟩
      | cons z zs =>
        obtain ⟨b7, o7, rfl, hcz⟩ := HR7.out.at (i := 0) (by simp)
        have hc0 : w6.cell? ⟨b7, o7, none⟩ = some (.int .i64 z) := hcz
        have hp7 : (0 : Int) < m7 := by have := HM7.out; rw [List.length_cons] at this; omega
        clear hcz
        by_cases hzx : z < x
        · obtain ⟨a8, c8, hsl, hrow⟩ := slice_from HR7.out 1 (by simp)
          have HR8 := hide (hrow w6 HR7.out)
          obtain ⟨m8, hm8⟩ : ∃ m8, m8 = ((z :: zs).drop 1).length := ⟨_, rfl⟩
          rw [← hm8, ← HM7.out] at hsl
          have HM8 := hide hm8
          have hsl' : ∀ W : World, (Instr.slice 22 (.slice (some ⟨b7, o7, none⟩) m7 c7) (some (.int .i64 1)) none none).run Try.prog W = .ok (.slice a8 m8 c8) W := hsl
          have HD8 : Hid ((zs.dropWhile fun y => ltI y x) = s') := hide (by rw [← HD7.out]; simp [ltI, hzx])
          clear hsl hrow hm8
          gi_wp2
          exact ⟨⟨rfl, a8, c8, m8, zs, rfl, HM8, HR8, HD8⟩, by have h1 := HM7.out; have h2 := HM8.out; simp at h1 h2; show m8 < m7; omega⟩
        · have hss : z :: zs = s' := by rw [← HD7.out]; simp [ltI, hzx]
          rw [hss] at HR7 HM7
          clear hss HD7
          gi_wp2
          have HRG : Hid (RowV w6 a4 c4 (s'.take tn)) := hide (((rowv_of_own HL.out.own (by have := HS60.out; rw [List.length_take]; omega) (fun z hz => HWF.out z (List.mem_of_mem_take hz))).2).keep HB6.out)
          have k11 : w6.cell? ⟨w3.heap.size, 0, none⟩ = some (.slice a4 m c4) := (boxed_below HL.out.box HB6.out).cell
          have k6 : w6.cell? ⟨w.heap.size, 0, none⟩ = some (.int .u8 tn) := (boxed_below (HL.out.boxes (w.heap.size, 5, .int .u8 tn) (by simp)).1 HB6.out).cell
          have HFIN : Hid (∀ w7, Below w6.heap.size w6 w7 → w7.heap[D]? = some (.deferred (some [])) ∧ Below w.heap.size w (w7.putObj D (.deferred none))) := hide (fun w7 hb7 => by
            have hDW : D < W.heap.size := (Array.getElem?_eq_some_iff.1 HK.out).1
            have h7 : w7.heap[D]? = some (.deferred (some [])) := (hb7.block D (Nat.lt_of_lt_of_le hDW HB6.out.size)).trans ((HB6.out.block D hDW).trans HK.out)
            have s0 := HBB.out.size
            have s1 := H4.out.below.size
            have s2 := HL.out.below.size
            have s3 := HB6.out.size
            have b1 : Below w.heap.size w w7 := (((HBB.out.trans (H4.out.below.mono s0)).trans (HL.out.below.mono (by omega))).trans (HB6.out.mono (by omega))).trans (hb7.mono (by omega))
            exact ⟨h7, b1.trans (belowK_b (w := w5) (by omega) _ D _ _ HD.out h7 rfl rfl)⟩)
          have q7 : IntKind.i64.wrap (tn : Int) = tn := by rw [IntKind.wrap_i64]; omega
          obtain ⟨mn, hmn⟩ : ∃ mn, mn = min m7 tn := ⟨_, rfl⟩
          have HR9 := hide (rowv_take HR7.out mn)
          have hc7 : mn ≤ c7 := by have h1 := HR7.out.cap; have h2 := HM7.out; omega
          have hc7i : (mn : Int) ≤ c7 := by omega
          have CS : Hid (Calls Try.prog 14 #[.slice a4 m c4, .slice (some ⟨b7, o7, none⟩) mn c7] w6.drew fun e w' => e = .returned (.bool true) ∧ Hid (Below w6.heap.size w6 w')) := by
            have e1 : mn = (s'.take mn).length := by rw [List.length_take, ← HM7.out]; omega
            rw [HM.out, e1]
            refine hide ((same_rows a4 (some ⟨b7, o7, none⟩) c4 c7 (s'.take tn) (s'.take mn) w6.drew (HRG.out.keep (Below.refl _ _).drew) (HR9.out.keep (Below.refl _ _).drew) (by
              rw [hmn]
              rcases Nat.le_total m7 tn with q1 | q1
              · rw [Nat.min_eq_left q1, List.take_of_length_le (by rw [← HM7.out]; exact q1), List.take_of_length_le (by rw [← HM7.out]; omega)]
              · rw [Nat.min_eq_right q1])).mono ?_)
            rintro e w' ⟨rfl, hb⟩
            exact ⟨rfl, (Below.refl _ _).drew.trans hb⟩
          clear HR9 HRG
          rcases Nat.lt_or_ge tn m7 with q2 | q2
          · obtain rfl : mn = tn := by omega
            clear hmn
            have q3 : (mn : Int) < m7 := by omega
            have q4 : min (m7 : Int) (mn : Int) = mn := by omega
            have q5 : min m7 mn = mn := by omega
            refine wpIn_wide.2 ?_
            go_region_held3 (fun w' => w'.cell? ⟨w3.heap.size, 0, none⟩ = some (.slice a4 m c4) ∧ w'.cell? ⟨w.heap.size, 0, none⟩ = some (.int .u8 mn)) (first | exact ⟨by assumption, by assumption⟩ | go_keep)
              (first | (go_at_call 14; (with_reducible refine (Hid.out CS).mono ?_); rintro e w7 ⟨rfl, HB7⟩; have k117 := (boxed_below (boxed_below HL.out.box HB6.out) HB7.out).cell; have k67 := (boxed_below (boxed_below (HL.out.boxes (w.heap.size, 5, .int .u8 mn) (by simp)).1 HB6.out) HB7.out).cell))
            gi_wp2
            have hfin := HFIN.out w7 HB7.out
            refine ⟨by simp, .inl ⟨_, _, rfl, run_takeDeferred hfin.1, ?_⟩⟩
            exact ⟨.bool true, by simp [results, Try.f4, go_sem], rfl, hfin.2⟩
          · obtain rfl : mn = m7 := by omega
            clear hmn
            have q3 : ¬ (tn : Int) < mn := by omega
            have q4 : min (mn : Int) (tn : Int) = mn := by omega
            have q5 : min mn tn = mn := by omega
            have q6 : ¬ tn < mn := by omega
            refine wpIn_wide.2 ?_
            go_region_held3 (fun w' => w'.cell? ⟨w3.heap.size, 0, none⟩ = some (.slice a4 m c4) ∧ w'.cell? ⟨w.heap.size, 0, none⟩ = some (.int .u8 tn)) (first | exact ⟨by assumption, by assumption⟩ | go_keep)
              (first | (go_at_call 14; (with_reducible refine (Hid.out CS).mono ?_); rintro e w7 ⟨rfl, HB7⟩; have k117 := (boxed_below (boxed_below HL.out.box HB6.out) HB7.out).cell; have k67 := (boxed_below (boxed_below (HL.out.boxes (w.heap.size, 5, .int .u8 tn) (by simp)).1 HB6.out) HB7.out).cell))
            gi_wp2
            have hfin := HFIN.out w7 HB7.out
            refine ⟨by simp, .inl ⟨_, _, rfl, run_takeDeferred hfin.1, ?_⟩⟩
            exact ⟨.bool true, by simp [results, Try.f4, go_sem], rfl, hfin.2⟩
  · have hall := True.intro
    refine (callsIn_wide (n := 3)).1 ?_
    refine callsIn_of_wp_marks Try.func4 rfl trivial ?_ rfl
    simp only [Try.ntmps4, List.size_toArray, List.length_cons, List.length_nil, Nat.reduceAdd, Nat.reduceSub, Array.replicate_succ, Array.replicate_zero, List.push_toArray, List.append_toArray, List.nil_append, List.cons_append]
    gi_wp2_with (first | (gi_at_call 8; go_must ((with_reducible refine (callsIn_wide.2 (works5_any _)).mono ?_); rintro e w1 ⟨rfl, hb1⟩; rw [← hwb] at hb1; have H1 := hide (H0.out.keep hb1); clear hb1; have CO := hide (ofD (a := a0) (c := c0) (n := n0) (l := l) (s := setL ltI l) H1 (by simp) HN rfl))) | (refine ⟨trivial, ?_⟩; gi_at_call 9; go_must ((with_reducible refine (callsIn_wide.2 (Hid.out CO)).mono ?_); rintro e w2 ⟨a5, c5, m5, rfl, hm5, hf5, H2⟩; have H3 := box1 w2.heap.size (.slice a5 m5 c5) 25 H2 rfl; have CF := hide (fromD (a := a5) (c := c5) (n := m5) (s := setL ltI l) x H3 (by simp) hm5))) | (refine ⟨trivial, ?_⟩; gi_at_call 21; go_must ((with_reducible refine (callsIn_wide.2 (Hid.out CF)).mono ?_); rintro e w3 ⟨B, rfl, HI, H4⟩; have k5 := H4.out.cell (b := w2.heap.size) (v := .slice a5 m5 c5) (by simp); have CA := hide (allI (a := a5) (c := c5) (n := m5) (s := setL ltI l) H4 (by simp) hm5))) | (refine ⟨trivial, ?_⟩; gi_at_call 22; go_must ((with_reducible refine (callsIn_wide.2 (Hid.out CA)).mono ?_); rintro e w4 ⟨B', rfl, HI', H5⟩)))
    obtain ⟨s', hs'⟩ : ∃ s', s' = setL ltI l := ⟨_, rfl⟩
    have HS60 : Hid (s'.length ≤ 60) := by rw [hs']; exact HSL
    have HSS := hide hs'
    rw [← hs'] at HI'
    clear hs'
    obtain ⟨w5, hw5⟩ : ∃ w5, w5 = w4.alloc (.cells #[.slice none 0 0] 22) := ⟨_, rfl⟩
    have hb5 : Below w4.heap.size w4 w5 := by rw [hw5]; exact (Below.refl _ _).alloc (Nat.le_refl _) _
    have hsz : w5.heap.size = w4.heap.size + 1 := by rw [hw5]; simp
    have hlt6 : w.heap.size < w4.heap.size := Nat.lt_of_lt_of_le HX6.out.lt H5.out.below.size
    have L0 : LI 3 22 (Value.int .i64) w4 [(w.heap.size, 5, .int .u8 tn)] w4.heap.size (.slice none 0 0) ([] : List Int) w5 := by
      have b1 : Boxed w5 w.heap.size 5 (.int .u8 tn) := boxed_below (boxed_below HX6.out H5.out.below) hb5
      have b4 : Boxed w5 w4.heap.size 22 (.slice none 0 0) := by rw [hw5]; exact Boxed.new _ _ _
      refine ⟨fun p hp => ?_, b4, World.ownsRow_nil _ _ _ _, by decide, Nat.le_refl _, hb5⟩
      obtain rfl := List.mem_singleton.1 hp
      exact ⟨b1, show (5 : Nat) ≠ 3 by decide, by show w.heap.size ≠ _; omega⟩
    have hst := vals_stops Fence.wide (3 - 1) trivial rfl (by omega) B' w4.heap.size _ s' (by have := HS60.out; omega) w5 (HI'.out.keep hb5) (by omega) (fun b off ⟨c', hc'⟩ hp => by
      obtain ⟨_, a9, c9, hc9, hr9⟩ := HI'.out
      rw [hb5.cell (p := ⟨B', 0, none⟩) HI'.out.lt, hc9] at hc'
      cases hc'
      obtain ⟨b', off', e', hcc⟩ := hr9.at hp
      cases e'
      exact lt_of_cell hcc)
    have HST := hide hst
    have HWF : Hid (∀ z ∈ s', (Lit.int .i64 z).wf = true) := by obtain ⟨_, a9, c9, hc9, hr9⟩ := HI'.out; exact hr9.wf
    have HL0 := hide L0
    obtain ⟨i0, hi, hz0, hz1, hz2⟩ := info_parts Try.infoSetInt
    clear hst L0
    rw [← hw5]
    clear hw5
    apply merge
    intro key
    refine wpIn_rangeFunc_ownG rfl (by omega) (gf := 49) (lb := #[.pointer (some ⟨B', 0, none⟩)]) rfl trivial (enters_of Try.func49 (by kernel_rfl) rfl) HST.out belowK_t (belowK_b (by omega)) (Below.refl _ _) (fun _ => rfl)
      (fun pre W => pre.length ≤ tn ∧ ∃ v, LI 3 22 (Value.int .i64) w4 [(w.heap.size, 5, .int .u8 tn)] w4.heap.size v pre W)
      (fun c pre W => c = .exit 0 ∧ pre.length = tn + 1 ∧ ∃ v, LI 3 22 (Value.int .i64) w4 [(w.heap.size, 5, .int .u8 tn)] w4.heap.size v (pre.take tn) W)
      (fun pre W W' row hs hg hr => ⟨hs.1, by obtain ⟨v, hv⟩ := hs.2; exact ⟨v, hv.turn (by omega) hg hr⟩⟩)
      (fun c pre W W' row hs hg hr => ⟨hs.1, hs.2.1, by obtain ⟨v, hv⟩ := hs.2.2; exact ⟨v, hv.turn (by omega) hg hr⟩⟩)
      ⟨Nat.zero_le _, _, HL0.out⟩
      (fun y => { tmps := #[.slice a0 n0 c0, .int .i64 x, .int .u8 tn, .bool true, undef, undef, .pointer (some ⟨w.heap.size, 0, none⟩), undef, .bool false, .pointer (some ⟨w2.heap.size, 0, none⟩), .func (.func 49) #[] #[.pointer (some ⟨B', 0, none⟩)], .pointer (some ⟨w4.heap.size, 0, none⟩), .int .i64 y, undef, .slice a0 n0 c0, .int .i64 n0, .bool false, .bool false, .bool true, .bool false, .bool false, undef, .slice a0 n0 c0, .agg #[.slice a5 m5 c5], .agg #[.slice a5 m5 c5], .int .i64 x, .func (.func 49) #[] #[.pointer (some ⟨B, 0, none⟩)], .bool true, .agg #[.slice a5 m5 c5], .func (.func 49) #[] #[.pointer (some ⟨B', 0, none⟩)], .func (.func 49) #[] #[.pointer (some ⟨B', 0, none⟩)], .bool false, .func (.func 49) #[] #[.pointer (some ⟨B', 0, none⟩)], .int .i64 y, undef, undef, undef, undef, undef, undef, undef, undef, undef, undef, undef, undef, undef, undef, undef, undef, undef, undef, undef, undef, undef, undef, undef, undef, undef, undef, undef, undef, undef, undef, undef, undef, undef, undef, undef, undef], defers := [] }) ?assign ?body ?done ?stop
    case assign =>
      intro l' y W K hK
      gi_wp2
      exact hK
    case body =>
      rintro l' pre y W ⟨hpl, v, hL⟩ hlt
      have c6 := (hL.boxes (w.heap.size, 5, .int .u8 tn) (by simp)).1.cell
      obtain ⟨a4, c4, rfl⟩ := own_form hL.own
      have c11 := hL.box.cell
      have hrow := hL.own
      obtain ⟨k, hk⟩ : ∃ k, k = pre.length := ⟨_, rfl⟩
      have HL := hide hL
      rw [← hk] at HL
      have HK : Hid (k = pre.length) := hk
      have HPL : Hid (k ≤ tn) := by rw [hk]; exact hpl
      have HK6 : Hid (k < 60) := hide (by have := HS60.out; omega)
      rw [← hk] at c11 hrow
      clear hL hpl hk hlt
      by_cases hkn : (k : Int) = tn
      · gi_wp2
        refine ⟨KeepsFrom.refl _ _, rfl, by rw [List.length_append, ← HK.out]; show k + 1 = tn + 1; omega, .slice a4 k c4, ?_⟩
        rw [List.take_left' (by rw [← HK.out]; omega)]
        exact HL.out
      · gi_wp2_with (gi_at_builtin; refine wpListIn_append_own _ rfl _ _ 22 rfl w4.heap.size 3 i0 (.int .i64 0) 1 8 Try.underlying22 hi hz0 hz1 hz2 rfl (by decide) (.slice a4 k c4) k _ rfl (hrow.alloc _) ⟨W.heap.size, 0, none⟩ 1 1 [.int .i64 y] rfl rfl (cell_one_new _ _ _) (by simp [Value.oneCell']) (by have := HK6.out; unfold maxLen; omega) (by have := HK6.out; omega) (by have := HL.out.below.size; rw [World.size_alloc]; omega) ?_; intro v' w9 hown' hgrow _; obtain ⟨g', cap', rfl⟩ := ownsRow_succ hown'; obtain ⟨hv1, hL3, hk3, hb3⟩ := HL.out.push (l' := pre ++ [y]) hown' (by rw [List.length_append, ← HK.out]; rfl) (by simp) hgrow; have hc1 := hv1.cell; have hf1 := hv1.frozen; have HL3 := hide hL3; have HK3 := hide hk3; have HB3 := hide hb3; clear hL3 hk3 hb3 hown' hgrow hv1)
        exact ⟨HK3.out.from _, HB3.out, by rw [List.length_append, ← HK.out]; have := HPL.out; show k + 1 ≤ tn; omega, _, HL3.out⟩
    case done =>
      rintro D ys W hD hys ⟨hpl, v, hL⟩ hK
      rw [hys] at hpl hL
      obtain ⟨a4, c4, rfl⟩ := own_form hL.own
      have etk : s'.take tn = s' := List.take_of_length_le hpl
      rw [← etk] at hL
      obtain ⟨m, hm⟩ : ∃ m, m = (s'.take tn).length := ⟨_, rfl⟩
      rw [← hm] at hL
      have HM := hide hm
      have HL := hide hL
      have HK := hide hK
      have HD := hide hD
      clear etk hm hL hK hD hpl hys
      clear ys
      revert HD; revert HK; revert HL; revert HM; revert m; revert c4; revert a4; revert W; revert D
      exact key.out
    case stop =>
      rintro D c pre W hD ⟨k, hk, hpre⟩ ⟨rfl, hpl, v, hL⟩ hK
      obtain ⟨a4, c4, rfl⟩ := own_form hL.own
      have etk : pre.take tn = s'.take tn := by
        rw [hpre, List.length_take] at hpl
        rw [hpre, List.take_take]
        congr 1
        omega
      rw [etk] at hL
      refine wpIn_exit (exit_normal ?_)
      exact key.out D W a4 c4 _ rfl hL hK hD
    intro D W a4 c4 m HM HL HK HD
    have HRW : Hid (RowV W a0 c0 l) := ((H5.out.rows (a0, c0, l) (by simp)).1.keep HL.out.below)
    obtain ⟨q, hq⟩ : ∃ q, q = (setL ltI l).length := ⟨_, rfl⟩
    have HQ := hide hq
    have CR : Hid (Calls Try.prog 17 #[.slice a0 n0 c0] W fun e w' => ∃ a' c', e = .returned (.slice a' q c') ∧ Hid (RowV w' a' c' (setL ltI l)) ∧ Hid (Below W.heap.size W w')) := by
      rw [HN.out, hq]
      refine hide ((rof_any a0 c0 l W HRW.out (by have := HN.out; omega)).mono ?_)
      rintro e w' ⟨⟨a', c', rfl, hr⟩, hb⟩
      exact ⟨a', c', rfl, hr, hb⟩
    clear hq
    gi_wp2_with (refine ⟨trivial, ?_⟩; gi_at_call 17; go_must ((with_reducible refine (callsIn_wide.2 (Hid.out CR)).mono ?_); rintro e w6 ⟨a6, c6, rfl, HR6, HB6⟩))
    gi_loopw [13] (fun v wr => w6 = wr ∧ ∃ a c m, v = .slice a m c ∧ Hid (m = s'.length) ∧ Hid (RowV w6 a c s')) (fun _ _ => 0)
    case atStart => exact ⟨rfl, a6, c6, q, rfl, by rw [HSS.out]; exact HQ, by rw [HSS.out]; exact HR6⟩
    case round =>
      obtain ⟨rfl, a7, c7, m7, rfl, HM7, HR7⟩ := hrel
      gi_wp2
      have HRG : Hid (RowV w6 a4 c4 (s'.take tn)) := hide (((rowv_of_own HL.out.own (by have := HS60.out; rw [List.length_take]; omega) (fun z hz => HWF.out z (List.mem_of_mem_take hz))).2).keep HB6.out)
      have k11 : w6.cell? ⟨w4.heap.size, 0, none⟩ = some (.slice a4 m c4) := (boxed_below HL.out.box HB6.out).cell
      have k6 : w6.cell? ⟨w.heap.size, 0, none⟩ = some (.int .u8 tn) := (boxed_below (HL.out.boxes (w.heap.size, 5, .int .u8 tn) (by simp)).1 HB6.out).cell
      have HFIN : Hid (∀ w7, Below w6.heap.size w6 w7 → w7.heap[D]? = some (.deferred (some [])) ∧ Below w.heap.size w (w7.putObj D (.deferred none))) := hide (fun w7 hb7 => by
        have hDW : D < W.heap.size := (Array.getElem?_eq_some_iff.1 HK.out).1
        have h7 : w7.heap[D]? = some (.deferred (some [])) := (hb7.block D (Nat.lt_of_lt_of_le hDW HB6.out.size)).trans ((HB6.out.block D hDW).trans HK.out)
        have s0 := HBB.out.size
        have s1 := H5.out.below.size
        have s2 := HL.out.below.size
        have s3 := HB6.out.size
        have b1 : Below w.heap.size w w7 := (((HBB.out.trans (H5.out.below.mono s0)).trans (HL.out.below.mono (by omega))).trans (HB6.out.mono (by omega))).trans (hb7.mono (by omega))
        exact ⟨h7, b1.trans (belowK_b (w := w5) (by omega) _ D _ _ HD.out h7 rfl rfl)⟩)
      have q7 : IntKind.i64.wrap (tn : Int) = tn := by rw [IntKind.wrap_i64]; omega
      obtain ⟨mn, hmn⟩ : ∃ mn, mn = min m7 tn := ⟨_, rfl⟩
      have HR9 := hide (rowv_take HR7.out mn)
      have hc7 : mn ≤ c7 := by have h1 := HR7.out.cap; have h2 := HM7.out; omega
      have hc7i : (mn : Int) ≤ c7 := by omega
      have CS : Hid (Calls Try.prog 14 #[.slice a4 m c4, .slice a7 mn c7] w6.drew fun e w' => e = .returned (.bool true) ∧ Hid (Below w6.heap.size w6 w')) := by
        have e1 : mn = (s'.take mn).length := by rw [List.length_take, ← HM7.out]; omega
        rw [HM.out, e1]
        refine hide ((same_rows a4 a7 c4 c7 (s'.take tn) (s'.take mn) w6.drew (HRG.out.keep (Below.refl _ _).drew) (HR9.out.keep (Below.refl _ _).drew) (by
          rw [hmn]
          rcases Nat.le_total m7 tn with q1 | q1
          · rw [Nat.min_eq_left q1, List.take_of_length_le (by rw [← HM7.out]; exact q1), List.take_of_length_le (by rw [← HM7.out]; omega)]
          · rw [Nat.min_eq_right q1])).mono ?_)
        rintro e w' ⟨rfl, hb⟩
        exact ⟨rfl, (Below.refl _ _).drew.trans hb⟩
      clear HR9 HRG
      rcases Nat.lt_or_ge tn m7 with q2 | q2
      · obtain rfl : mn = tn := by omega
        clear hmn
        have q3 : (mn : Int) < m7 := by omega
        have q4 : min (m7 : Int) (mn : Int) = mn := by omega
        have q5 : min m7 mn = mn := by omega
        refine wpIn_wide.2 ?_
        go_region_held3 (fun w' => w'.cell? ⟨w4.heap.size, 0, none⟩ = some (.slice a4 m c4) ∧ w'.cell? ⟨w.heap.size, 0, none⟩ = some (.int .u8 mn)) (first | exact ⟨by assumption, by assumption⟩ | go_keep)
          (first | (go_at_call 14; (with_reducible refine (Hid.out CS).mono ?_); rintro e w7 ⟨rfl, HB7⟩; have k117 := (boxed_below (boxed_below HL.out.box HB6.out) HB7.out).cell; have k67 := (boxed_below (boxed_below (HL.out.boxes (w.heap.size, 5, .int .u8 mn) (by simp)).1 HB6.out) HB7.out).cell))
        gi_wp2
        have hfin := HFIN.out w7 HB7.out
        refine ⟨by simp, .inl ⟨_, _, rfl, run_takeDeferred hfin.1, ?_⟩⟩
        exact ⟨.bool true, by simp [results, Try.f4, go_sem], rfl, hfin.2⟩
      · obtain rfl : mn = m7 := by omega
        clear hmn
        have q3 : ¬ (tn : Int) < mn := by omega
        have q4 : min (mn : Int) (tn : Int) = mn := by omega
        have q5 : min mn tn = mn := by omega
        have q6 : ¬ tn < mn := by omega
        refine wpIn_wide.2 ?_
        go_region_held3 (fun w' => w'.cell? ⟨w4.heap.size, 0, none⟩ = some (.slice a4 m c4) ∧ w'.cell? ⟨w.heap.size, 0, none⟩ = some (.int .u8 tn)) (first | exact ⟨by assumption, by assumption⟩ | go_keep)
          (first | (go_at_call 14; (with_reducible refine (Hid.out CS).mono ?_); rintro e w7 ⟨rfl, HB7⟩; have k117 := (boxed_below (boxed_below HL.out.box HB6.out) HB7.out).cell; have k67 := (boxed_below (boxed_below (HL.out.boxes (w.heap.size, 5, .int .u8 tn) (by simp)).1 HB6.out) HB7.out).cell))
        gi_wp2
        have hfin := HFIN.out w7 HB7.out
        refine ⟨by simp, .inl ⟨_, _, rfl, run_takeDeferred hfin.1, ?_⟩⟩
        exact ⟨.bool true, by simp [results, Try.f4, go_sem], rfl, hfin.2⟩
end Go.Proofs.Ytghdafgpdhbohaa.Walk
