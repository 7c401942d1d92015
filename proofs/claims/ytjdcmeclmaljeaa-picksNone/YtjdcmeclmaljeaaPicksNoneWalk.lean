/- PicksNone, walked. -/
import Derived.Test.YtjdcmeclmaljeaaPickEnv
import Derived.Test.YtjdcmeclmaljeaaRowArg
namespace Go.Proofs.Ytjdcmeclmaljeaa.Walk
open Go.RowKit Go.Proofs.Ytjdcmeclmaljeaa.Dig Go.Proofs.Ytjdcmeclmaljeaa.Mem Go.Proofs.Ytjdcmeclmaljeaa.Dq Go.Proofs.Ytjdcmeclmaljeaa.Thing Go.Proofs.Ytjdcmeclmaljeaa.Pick Go.Proofs.Ytjdcmeclmaljeaa.Sets
set_option linter.unusedVariables false
set_option linter.unusedSimpArgs false

/-- A row of numbers that the law turns itself. -/
def mutT (ma : Option Addr) (n : Nat) : Th where
  P w := n = 0 ∨ ∃ g cs, ma = some ⟨g, 0, none⟩ ∧ Is w g cs ∧ ∀ i, i < n → ∃ v, cs[i]? = some (.int .i64 v) ∧ (Lit.int .i64 v).wf = true
  F k := 0 < n ∧ ∃ x, ma = some x ∧ x.block = k
  keep h ho hs := by
    rcases h with h | ⟨g, cs, e, h1, h2⟩
    · exact .inl h
    · rename_i w w' S
      by_cases h0 : n = 0
      · exact .inl h0
      · exact .inr ⟨g, cs, e, h1.keep ho (hs g ⟨by omega, _, e, rfl⟩), h2⟩
  lt h k hk := by
    obtain ⟨h0, x, e, rfl⟩ := hk
    rcases h with h | ⟨g, cs, e', h1, h2⟩
    · omega
    · rw [e] at e'; cases e'; exact h1.lt
theorem mut_at {w : World} {ma : Option Addr} {n i : Nat} (h : (mutT ma n).P w) (hi : i < n) : ∃ g v, ma = some ⟨g, 0, none⟩ ∧ w.cell? ⟨g, i, none⟩ = some (.int .i64 v) ∧ w.frozen? ⟨g, i, none⟩ = false ∧ (Lit.int .i64 v).wf = true ∧
    ∀ u, (Lit.int .i64 u).wf = true → (mutT ma n).P (w.setCell ⟨g, i, none⟩ (.int .i64 u)) ∧ Only (mutT ma n).F w (w.setCell ⟨g, i, none⟩ (.int .i64 u)) := by
  rcases h with h | ⟨g, cs, e, h1, h2⟩
  · omega
  · obtain ⟨v, hv, hw⟩ := h2 i hi
    refine ⟨g, v, e, h1.cell i hv, h1.frozen i, hw, fun u hu => ⟨.inr ⟨g, _, e, h1.set i _, fun j hj => ?_⟩, (Only.refl _ _).setCell (p := ⟨g, i, none⟩) (.inl ⟨by omega, _, e, rfl⟩) _⟩⟩
    have hsz : i < cs.size := by
      rcases Nat.lt_or_ge i cs.size with q | q
      · exact q
      · rw [Array.getElem?_eq_none q] at hv; cases hv
    by_cases ej : j = i
    · subst ej
      exact ⟨u, by simp [hsz], hu⟩
    · obtain ⟨v2, hv2, hw2⟩ := h2 j hj
      exact ⟨v2, by rw [Array.getElem?_setIfInBounds_ne (by omega)]; exact hv2, hw2⟩
theorem mut_own {base : Nat} {w : World} {ma : Option Addr} {n mc : Nat} {L : List Int} (h : OwnI base w (.slice ma n mc) L) (hn : n = L.length) (hw : WfL L) : (mutT ma n).P w ∧ ∀ k, (mutT ma n).F k → base ≤ k := by
  have hlt := fun k q => (World.ownsRow.lt h k q).1
  refine ⟨?_, fun k ⟨_, x, e, ek⟩ => hlt k (by subst e; subst ek; rfl)⟩
  rcases h.2 with ⟨_, h0⟩ | ⟨g, cap, cur, hv, hg, hh, h1, h2, h3, h4⟩
  · exact .inl (by omega)
  · injection hv with e1 e2 e3
    refine .inr ⟨g, cur, e1, ⟨_, hh⟩, fun i hi => ⟨L.getD i 0, ?_, ?_⟩⟩
    · have hi2 : i < L.length := by omega
      have : (cur.toList.take (L.length * 1))[i]? = some (Value.int .i64 (L.getD i 0)) := by
        rw [h4, List.getElem?_map, List.getD_eq_getElem?_getD, List.getElem?_eq_getElem hi2]
        rfl
      rw [List.getElem?_take, if_pos (by omega)] at this
      simpa using this
    · rw [List.getD_eq_getElem?_getD, List.getElem?_eq_getElem (by omega)]
      exact hw _ (List.getElem_mem _)
theorem half_wf {v : Int} (h : (Lit.int .i64 v).wf = true) : (Lit.int .i64 (v.tdiv 2)).wf = true ∧ IntKind.i64.wrap (v.tdiv 2) = v.tdiv 2 := by
  obtain ⟨h1, h2⟩ := bounds_i64 h
  have h3 : -9223372036854775808 ≤ v.tdiv 2 ∧ v.tdiv 2 ≤ 9223372036854775807 := by
    rcases Int.le_total 0 v with q | q
    · rw [Int.tdiv_eq_ediv_of_nonneg q]; omega
    · obtain ⟨u, rfl⟩ : ∃ u : Int, v = -u := ⟨-v, by omega⟩
      rw [Int.neg_tdiv, Int.tdiv_eq_ediv_of_nonneg (by omega)]; omega
  exact ⟨WalkArith.wf_i64 h3, IntWalk.i64_in _ h3⟩
section
variable {w : World} {b : Nat} {v0 v1 : Value}
theorem steps_un (h : Is w b #[v0, v1, .int .i64 0, .bool false]) : Calls Try.prog 11 #[.pointer (some ⟨b, 0, none⟩)] w fun e w' => e = .returned (.int .i64 0) ∧ w' = w := by
  obtain ⟨⟨c0, c1, c2, c3⟩, _⟩ := h.four
  clear h
  go_enter Try.func11, Try.ntmps11
  go_wp2
  go_ret
  exact ⟨rfl, rfl⟩
theorem used_un (h : Is w b #[.slice none 0 0, v1, .int .i64 0, .bool false]) : Calls Try.prog 12 #[.pointer (some ⟨b, 0, none⟩)] w fun e w' => e = .returned (.int .i64 0) ∧ ∃ q, w' = w.drewN q := by
  obtain ⟨⟨c0, c1, c2, c3⟩, _⟩ := h.four
  clear h
  go_enter Try.func12, Try.ntmps12
  go_wp2
  go_quiet (fail)
  go_wp2
  go_ret
  exact ⟨rfl, _, rfl⟩
theorem over_un (h : Is w b #[v0, v1, .int .i64 0, .bool false]) : Calls Try.prog 13 #[.pointer (some ⟨b, 0, none⟩)] w fun e w' => e = .returned (.bool false) ∧ ∃ q, w' = w.drewN q := by
  obtain ⟨⟨c0, c1, c2, c3⟩, _⟩ := h.four
  clear h
  go_enter Try.func13, Try.ntmps13
  go_wp2
  go_quiet (fail)
  go_wp2
  go_ret
  exact ⟨rfl, _, rfl⟩
end
theorem none_nil (r : Value) (w : World) : Calls Try.prog 16 #[.pointer none, r] w fun e w' => e = .returned (.bool true) ∧ ∃ q, w' = w.drewN q := by
  go_enter Try.func16, Try.ntmps16
  go_wp2_with (first
    | (go_at_call 9; go_must ((with_reducible refine (pstep_nil _ r).mono ?_); rintro e w1 ⟨rfl, rfl⟩))
    | (go_at_call 11; go_must ((with_reducible refine (steps_nil _).mono ?_); rintro e w2 ⟨rfl, rfl⟩))
    | (go_at_call 12; go_must ((with_reducible refine (used_nil _).mono ?_); rintro e w3 ⟨rfl, q3, rfl⟩))
    | (go_at_call 13; go_must ((with_reducible refine (over_nil _).mono ?_); rintro e w4 ⟨rfl, q4, rfl⟩)))
  go_ret
  exact ⟨rfl, _, rfl⟩
theorem none_un (r : Value) {w : World} {b : Nat} (h : Is w b #[.slice none 0 0, .int .i64 0, .int .i64 0, .bool false]) : Calls Try.prog 16 #[.pointer (some ⟨b, 0, none⟩), r] w fun e w' => e = .returned (.bool true) ∧ ∃ q, w' = w.drewN q := by
  have H := hide h
  clear h
  go_enter Try.func16, Try.ntmps16
  go_wp2_with (first
    | (go_at_call 9; go_must ((with_reducible refine (pstep_un H.out r).mono ?_); rintro e w1 ⟨rfl, rfl⟩))
    | (go_at_call 11; go_must ((with_reducible refine (steps_un H.out).mono ?_); rintro e w2 ⟨rfl, rfl⟩))
    | (go_at_call 12; go_must ((with_reducible refine (used_un H.out).mono ?_); rintro e w3 ⟨rfl, q3, rfl⟩))
    | (go_at_call 13; go_must ((with_reducible refine (over_un (H.out.drewN q3)).mono ?_); rintro e w4 ⟨rfl, q4, rfl⟩)))
  go_ret
  exact ⟨rfl, _, rfl⟩
def NoR (w : World) (b : Nat) (L : List Int) (ma : Option Addr) (n : Nat) (kv : Value) (wr : World) : Prop := ∃ k : Nat, k ≤ n ∧ kv = .int .i64 (k : Int) ∧ Hid (SE w b L (-1) 0 [mutT ma n] wr)
set_option maxHeartbeats 4000000 in
set_option maxRecDepth 20000 in
theorem walk_picksNone (w : World) (a : Option Addr) (n p : Nat) (zs : List Int) (ha : Frame.IsRow .i64 w a n p zs) (a2 : Option Addr) (m p2 : Nat) (zs2 : List Int) (ha2 : Frame.IsRow .i64 w a2 m p2 zs2) :
    Calls Try.prog 6 #[.slice a n p, .slice a2 m p2] w fun e w' => e = .returned (.bool true) ∧ Below w.heap.size w w' := by
  by_cases h1 : 20 < m
  · have g1 : (20 : Int) < m := by omega
    clear ha ha2
    go_enter Try.func6, Try.ntmps6
    go_wp2_with (go_at_call 7; go_must ((with_reducible refine (works9_any _).mono ?_); rintro e w1 ⟨rfl, hb1⟩))
    go_ret
    exact ⟨rfl, hb1⟩
  by_cases h2 : 100 < n
  · have g1 : ¬ (20 : Int) < m := by omega
    have g2 : (100 : Int) < n := by omega
    clear ha ha2
    go_enter Try.func6, Try.ntmps6
    go_wp2_with (go_at_call 7; go_must ((with_reducible refine (works9_any _).mono ?_); rintro e w1 ⟨rfl, hb1⟩))
    go_ret
    exact ⟨rfl, hb1⟩
  obtain ⟨L, hL, hr⟩ := ha.rowi (by omega)
  obtain ⟨l, hl, hr2⟩ := ha2.rowi (by omega)
  have g1 : ¬ (20 : Int) < m := by omega
  have g2 : ¬ (100 : Int) < n := by omega
  have HL := hide hL
  have Hl := hide hl
  have HW : Hid (WfL L) := hide hr.wf
  have HR := hide hr
  have HR2 := hide hr2
  have HO1 : Hid (OwnI w.heap.size (w.alloc (.cells #[] 3)) (.slice (some ⟨w.heap.size, 0, none⟩) 0 0) []) := OwnI.empty rfl (Nat.le_refl _)
  have HB1 : Hid (Below w.heap.size w (w.alloc (.cells #[] 3))) := (Below.refl _ _).alloc (Nat.le_refl _) _
  have HRA := hide (hr.keep (w' := w.alloc (.cells #[] 3)) ((Below.refl _ _).alloc (Nat.le_refl _) _))
  obtain ⟨x, er, N', hs⟩ := StepIs.ex L (-1) 0 l
  have HS := hide hs
  clear ha ha2 hr hL hl hr2 hs
  go_enter Try.func6, Try.ntmps6
  go_wp2_with (first
    | (at_builtin; go_loud ((refine app_rowi (w0 := w) rfl (.tmp 22) (.tmp 23) rfl w.heap.size (.slice (some ⟨w.heap.size, 0, none⟩) 0 0) [] rfl HO1.out a p n L rfl HL.out HRA.out (by rw [← HL.out]; simp; omega) (by simp) HB1.out ?_); intro v1 w1 hown1 hb1 hs1; obtain ⟨ma, mc, e1, hr1, hf1⟩ := OwnI.row (l := [] ++ L) hown1 (by simp; have := HL.out; omega) (by rw [List.nil_append]; exact HW.out); replace e1 : v1 = .slice ma n mc := (by rw [e1, HL.out]; simp); subst e1; have HM := hide (mut_own (L := [] ++ L) hown1 (by rw [HL.out]; simp) (by rw [List.nil_append]; exact HW.out)); have HR1 := hide hr1; have HB2 := hide hb1; have N0 := hide (newE (m := n) (hide ((Kn.start w).more (t' := mutT ma n) HB2.out HM.out.1 HM.out.2)) (by have := hr1; rw [List.nil_append] at this; exact this) HL.out (by rw [← HL.out]; omega) (-1)); clear hown1 hb1 hs1 hr1 hf1))
    | (go_at_call 8; go_must ((with_reducible refine (Hid.out N0).mono ?_); rintro e w2 ⟨b, rfl, H1⟩)))
  have M0 : Hid (NoR w b L ma n (.int .i64 0) w2) := hide ⟨0, by omega, rfl, H1⟩
  clear N0 H1 HM HR1 HB2 HO1 HB1 HRA
  go_loopw [7] (fun i wr => NoR w b L ma n i wr) (fun i _ => n - (intOf i).toNat)
  case atStart => exact M0.out
  case round =>
    obtain ⟨k, hk, rfl, HE⟩ := hrel
    clear M0
    by_cases hlt : k < n
    · have hli : (k : Int) < n := by omega
      obtain ⟨g, v, rfl, hc, hf, hw, hset⟩ := mut_at HE.out.kn.hd hlt
      obtain ⟨hw2, hwr⟩ := half_wf hw
      obtain ⟨vb1, vb2⟩ := bounds_i64 hw
      have HE2 := hide (HE.out.turn (hset _ hw2).1 (hset _ hw2).2 (fun k hk => .inl hk))
      clear HE hset hw2 hw
      go_wp2
      go_roundw
      case rel => exact ⟨k + 1, by omega, by simp, HE2⟩
      case measure => simp [intOf]; omega
    · have hge : ¬ (k : Int) < n := by omega
      have P := hide (stepE HE (by omega) Hl.out (by have := Hl.out; omega) (HR2.out.keep HE.out.below) HS.out)
      have R : Hid (∀ W, Below w.heap.size w W → Calls Try.prog 10 #[.agg #[.slice a n p, .int .i64 (-1), .int .i64 0, .int .i64 0], .slice a2 m p2] W fun r w' => ∃ v, r = .returned (.tuple #[.agg #[.slice a n p, .int .i64 (-1), .int .i64 (N' : Int), .int .i64 v], .int .i64 x, .int .i64 er]) ∧ Below w.heap.size w w') := hide (fun W ho => by
        refine (rstep_any (u := 0) W (by omega) HL.out (by omega) (HR.out.keep ho) Hl.out (by have := Hl.out; omega) (HR2.out.keep ho) HS.out (by omega) rfl).mono ?_
        rintro r w' ⟨rfl, hb⟩
        exact ⟨_, rfl, ho.trans (hb.mono ho.size)⟩)
      have hxx : (x == x) = true := by simp
      have hee : (er == er) = true := by simp
      clear HE HR HR2 hk hlt
      go_wp2_with (first
        | (go_at_call 9; go_must ((with_reducible refine (Hid.out P).mono ?_); rintro e w3 ⟨rfl, H3⟩; have B3 := hide H3.out.below; clear H3))
        | (go_at_call 10; go_must ((with_reducible refine (Hid.out R _ B3.out).mono ?_); rintro e w4 ⟨v4, rfl, hb4⟩; have B4 := hide hb4; clear hb4))
        | (go_at_call 16; (with_reducible refine (none_nil _ _).mono ?_); go_must (rintro e w5 ⟨rfl, q5, hw5⟩; have hb5 : Below w.heap.size w w5 := (by rw [hw5]; exact ((B4.out.alloc B4.out.size _).trans ((below_of_drewN q5).mono (B4.out.alloc B4.out.size _).size))); have B5 := hide hb5; clear hw5 hb5; have I5 := hide (Is.made w5 #[.slice none 0 0, .int .i64 0, .int .i64 0, .bool false] 43 rfl); have B6 := hide (B5.out.alloc B5.out.size (.cells #[.slice none 0 0, .int .i64 0, .int .i64 0, .bool false] 43))))
        | (go_at_call 16; (with_reducible refine (none_un _ I5.out).mono ?_); go_must (rintro e w6 ⟨rfl, q6, hw6⟩; have hb6 : Below w.heap.size w w6 := (by rw [hw6]; exact B6.out.trans ((below_of_drewN q6).mono B6.out.size)); have B7 := hide hb6; clear hw6 hb6))
        | (go_at_call 7; go_must ((with_reducible refine (works9_any _).mono ?_); rintro e w9 ⟨rfl, hb9⟩)))
      go_ret
      exact ⟨rfl, B7.out.trans (hb9.mono B7.out.size)⟩
end Go.Proofs.Ytjdcmeclmaljeaa.Walk
