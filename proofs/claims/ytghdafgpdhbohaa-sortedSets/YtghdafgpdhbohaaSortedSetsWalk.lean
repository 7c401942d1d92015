/- SortedSets, walked. -/
import Derived.Test.YtghdafgpdhbohaaSetWorks
import Derived.Test.YtghdafgpdhbohaaSetRef
import Derived.Test.YtghdafgpdhbohaaSetPick
import Derived.Test.YtghdafgpdhbohaaFrame
import Derived.Deep.RegionHeld3
import Derived.Deep.DrawnRows
import Derived.Deep.DeepMust
namespace Go.Proofs.Ytghdafgpdhbohaa.Walk
open Go.RowKit Go.Proofs.Ytghdafgpdhbohaa.Dig Go.Proofs.Ytghdafgpdhbohaa.Mem Go.Proofs.Ytghdafgpdhbohaa.Sets
set_option linter.unusedVariables false
set_option linter.unusedSimpArgs false

theorem row_of3 {w : World} {a : Option Addr} {len cap : Nat} {zs : List Int} (h : Frame.IsRow .i64 w a len cap zs) (hl : len ≤ 1000000) : ∃ l, len = l.length ∧ RowV w a cap l := by
  have hc := h.cap.1
  obtain ⟨l, rfl, hr, hw, hn⟩ := h.list (by omega)
  exact ⟨l, rfl, hc, hr, fun e => (hn e).2⟩
theorem sets_no (w : World) (a0 a1 : Option Addr) (n0 n1 c0 c1 : Nat) (x : Int) (h : 60 < n0 ∨ 60 < n1) (m0 : n0 ≤ 9223372036854775807) (m1 : n1 ≤ 9223372036854775807) : Calls Try.prog 3 #[.slice a0 n0 c0, .slice a1 n1 c1, .int .i64 x] w fun e w' => e = .returned (.bool true) ∧ Below w.heap.size w w' := by
  by_cases h0 : 60 < n0
  · have g0 : (60 : Int) < n0 := by omega
    clear h
    go_enter Try.func3, Try.ntmps3
    go_wp2_with (first | (go_at_call 8; go_must ((with_reducible refine (works5_any _).mono ?_); rintro e w1 ⟨rfl, hb1⟩)))
    go_ret
    exact ⟨rfl, hb1⟩
  · have g0 : ¬ (60 : Int) < n0 := by omega
    have g1 : (60 : Int) < n1 := by omega
    clear h
    go_enter Try.func3, Try.ntmps3
    go_wp2_with (first | (go_at_call 8; go_must ((with_reducible refine (works5_any _).mono ?_); rintro e w1 ⟨rfl, hb1⟩)))
    go_ret
    exact ⟨rfl, hb1⟩
section
variable {w wx : World} {cs : List (Nat × Value)} {sets rows : List SetT}
theorem rofD {a : Option Addr} {c n q : Nat} {l s : List Int} (h : Hid (Env w cs sets rows wx)) (hp : (a, c, l) ∈ rows) (hn : Hid (n = l.length)) (hl : Hid (n ≤ 60)) (hs : Hid (setL ltI l = s)) (hq : Hid (q = s.length)) :
    Calls Try.prog 17 #[.slice a n c] wx fun e w' => ∃ a' c', e = .returned (.slice a' q c') ∧ Hid (Env w cs sets ((a', c', s) :: rows) w') := by
  rw [hn.out, hq.out]
  refine (rof_any a c l wx (h.out.rows _ hp).1 (by have := hn.out; have := hl.out; omega)).mono ?_
  rw [hs.out]
  rintro e w' ⟨⟨a', c', rfl, hr⟩, hb⟩
  refine ⟨a', c', rfl, (h.out.keep hb).row hr ?_⟩
  show s.length ≤ _
  rw [← hs.out]
  have h2 := setL_length (lt := ltI) l
  have h3 := hn.out; have h5 := hl.out
  omega
theorem rhasD {a : Option Addr} {c n : Nat} {l : List Int} {x : Int} {r : Bool} (h : Hid (Env w cs sets rows wx)) (hp : (a, c, l) ∈ rows) (hn : Hid (n = l.length)) (hr : Hid (decide (x ∈ l) = r)) :
    Calls Try.prog 20 #[.slice a n c, .int .i64 x] wx fun e w' => e = .returned (.bool r) ∧ w' = wx := by
  rw [hn.out, ← hr.out]
  exact rhas_any a c l x wx (h.out.rows _ hp).1
theorem pickA {a a2 : Option Addr} {c c2 n n2 q : Nat} {la lb u : List Int} (h : Hid (Env w cs sets rows wx)) (hp : (a, c, la) ∈ rows) (hp2 : (a2, c2, lb) ∈ rows) (hn : Hid (n = la.length)) (hn2 : Hid (n2 = lb.length)) (hl : Hid (n ≤ 60)) (hl2 : Hid (n2 ≤ 60)) (hs : Hid (pickL true true true la lb = u)) (hq : Hid (q = u.length)) :
    Calls Try.prog 16 #[.slice a n c, .slice a2 n2 c2, .bool true, .bool true, .bool true] wx fun e w' => ∃ a' c', e = .returned (.slice a' q c') ∧ Hid (Env w cs sets ((a', c', u) :: rows) w') := by
  rw [hn.out, hn2.out, hq.out]
  refine (pick_all a a2 c c2 la lb wx (h.out.rows _ hp).1 (h.out.rows _ hp2).1 (by have := hn.out; have := hl.out; omega) (by have := hn2.out; have := hl2.out; omega)).mono ?_
  rw [hs.out]
  rintro e w' ⟨⟨a', c', rfl, hr⟩, hb⟩
  refine ⟨a', c', rfl, (h.out.keep hb).row hr ?_⟩
  show u.length ≤ _
  rw [← hs.out]
  have h1 := List.length_filter_le (pickP true true true la lb) (setL ltI (la ++ lb))
  have h2 := setL_length (lt := ltI) (la ++ lb)
  have h3 := hn.out; have h4 := hn2.out; have h5 := hl.out; have h6 := hl2.out
  rw [List.length_append] at h2
  show (List.filter _ _).length ≤ _
  omega
theorem pickB {a a2 : Option Addr} {c c2 n n2 q : Nat} {la lb u : List Int} (h : Hid (Env w cs sets rows wx)) (hp : (a, c, la) ∈ rows) (hp2 : (a2, c2, lb) ∈ rows) (hn : Hid (n = la.length)) (hn2 : Hid (n2 = lb.length)) (hl : Hid (n ≤ 60)) (hl2 : Hid (n2 ≤ 60)) (hs : Hid (pickL false true false la lb = u)) (hq : Hid (q = u.length)) :
    Calls Try.prog 16 #[.slice a n c, .slice a2 n2 c2, .bool false, .bool true, .bool false] wx fun e w' => ∃ a' c', e = .returned (.slice a' q c') ∧ Hid (Env w cs sets ((a', c', u) :: rows) w') := by
  rw [hn.out, hn2.out, hq.out]
  refine (pick_both a a2 c c2 la lb wx (h.out.rows _ hp).1 (h.out.rows _ hp2).1 (by have := hn.out; have := hl.out; omega) (by have := hn2.out; have := hl2.out; omega)).mono ?_
  rw [hs.out]
  rintro e w' ⟨⟨a', c', rfl, hr⟩, hb⟩
  refine ⟨a', c', rfl, (h.out.keep hb).row hr ?_⟩
  show u.length ≤ _
  rw [← hs.out]
  have h1 := List.length_filter_le (pickP false true false la lb) (setL ltI (la ++ lb))
  have h2 := setL_length (lt := ltI) (la ++ lb)
  have h3 := hn.out; have h4 := hn2.out; have h5 := hl.out; have h6 := hl2.out
  rw [List.length_append] at h2
  show (List.filter _ _).length ≤ _
  omega
theorem pickO {a a2 : Option Addr} {c c2 n n2 q : Nat} {la lb u : List Int} (h : Hid (Env w cs sets rows wx)) (hp : (a, c, la) ∈ rows) (hp2 : (a2, c2, lb) ∈ rows) (hn : Hid (n = la.length)) (hn2 : Hid (n2 = lb.length)) (hl : Hid (n ≤ 60)) (hl2 : Hid (n2 ≤ 60)) (hs : Hid (pickL true false false la lb = u)) (hq : Hid (q = u.length)) :
    Calls Try.prog 16 #[.slice a n c, .slice a2 n2 c2, .bool true, .bool false, .bool false] wx fun e w' => ∃ a' c', e = .returned (.slice a' q c') ∧ Hid (Env w cs sets ((a', c', u) :: rows) w') := by
  rw [hn.out, hn2.out, hq.out]
  refine (pick_one a a2 c c2 la lb wx (h.out.rows _ hp).1 (h.out.rows _ hp2).1 (by have := hn.out; have := hl.out; omega) (by have := hn2.out; have := hl2.out; omega)).mono ?_
  rw [hs.out]
  rintro e w' ⟨⟨a', c', rfl, hr⟩, hb⟩
  refine ⟨a', c', rfl, (h.out.keep hb).row hr ?_⟩
  show u.length ≤ _
  rw [← hs.out]
  have h1 := List.length_filter_le (pickP true false false la lb) (setL ltI (la ++ lb))
  have h2 := setL_length (lt := ltI) (la ++ lb)
  have h3 := hn.out; have h4 := hn2.out; have h5 := hl.out; have h6 := hl2.out
  rw [List.length_append] at h2
  show (List.filter _ _).length ≤ _
  omega
theorem Env.apart (h : Env w cs sets rows wx) (b : Nat) (a : Option Addr) (n c : Nat) (hc : (b, .slice a n c) ∈ cs) :
    (∀ p ∈ sets, ∀ q o sp, p.1 = some ⟨q, o, sp⟩ → 0 < p.2.2.length → q ≠ b) ∧ (∀ p ∈ rows, ∀ q o sp, p.1 = some ⟨q, o, sp⟩ → 0 < p.2.2.length → q ≠ b) := by
  have key : ∀ p : SetT, RowV wx p.1 p.2.1 p.2.2 → ∀ q o sp, p.1 = some ⟨q, o, sp⟩ → 0 < p.2.2.length → q ≠ b := by
    intro p hr q o sp e hl eq
    obtain ⟨b', off', e', hcell⟩ := hr.at hl
    rw [e] at e'
    have e1 : b' = b := by cases e'; exact eq
    rw [e1] at hcell
    obtain ⟨T, hb⟩ := h.cells _ hc
    simp only [World.cell?, hb] at hcell
    rcases hk : off' + 0 with _ | k
    · rw [hk] at hcell
      simp at hcell
    · rw [hk] at hcell
      simp at hcell
  exact ⟨fun p hp => key p (h.sets p hp).1, fun p hp => key p (h.rows p hp).1⟩
end
structure KeyW (P : Prop) : Prop where
  out : P
theorem mergeAll {X0_0 X0_1 X0_2 X0_3 X1_ X0_01 X0_02 X0_03 X0_12 X0_13 X0_23 X1_0 X1_1 X1_2 X1_3 X2_ X0_012 X0_013 X0_023 X0_123 X1_01 X1_02 X1_03 X1_12 X1_13 X1_23 X2_0 X2_1 X2_2 X2_3 X3_ X0_0123 X1_012 X1_013 X1_023 X1_123 X2_01 X2_02 X2_03 X2_12 X2_13 X2_23 X3_0 X3_1 X3_2 X3_3 X4_ X1_0123 X2_012 X2_013 X2_023 X2_123 X3_01 X3_02 X3_03 X3_12 X3_13 X3_23 X4_0 X4_1 X4_2 X4_3 X2_0123 X3_012 X3_013 X3_023 X3_123 X4_01 X4_02 X4_03 X4_12 X4_13 X4_23 X3_0123 X4_012 X4_013 X4_023 X4_123 X4_0123 Q : Prop} (h : KeyW X1_ → KeyW X0_0 → KeyW X0_1 → KeyW X0_2 → KeyW X0_3 → Q) (hk0_0 : KeyW X1_0 → KeyW X0_01 → KeyW X0_02 → KeyW X0_03 → X0_0) (hk0_1 : KeyW X1_1 → KeyW X0_01 → KeyW X0_12 → KeyW X0_13 → X0_1) (hk0_2 : KeyW X1_2 → KeyW X0_02 → KeyW X0_12 → KeyW X0_23 → X0_2) (hk0_3 : KeyW X1_3 → KeyW X0_03 → KeyW X0_13 → KeyW X0_23 → X0_3) (hk1_ : KeyW X2_ → KeyW X1_0 → KeyW X1_1 → KeyW X1_2 → KeyW X1_3 → X1_) (hk0_01 : KeyW X1_01 → KeyW X0_012 → KeyW X0_013 → X0_01) (hk0_02 : KeyW X1_02 → KeyW X0_012 → KeyW X0_023 → X0_02) (hk0_03 : KeyW X1_03 → KeyW X0_013 → KeyW X0_023 → X0_03) (hk0_12 : KeyW X1_12 → KeyW X0_012 → KeyW X0_123 → X0_12) (hk0_13 : KeyW X1_13 → KeyW X0_013 → KeyW X0_123 → X0_13) (hk0_23 : KeyW X1_23 → KeyW X0_023 → KeyW X0_123 → X0_23) (hk1_0 : KeyW X2_0 → KeyW X1_01 → KeyW X1_02 → KeyW X1_03 → X1_0) (hk1_1 : KeyW X2_1 → KeyW X1_01 → KeyW X1_12 → KeyW X1_13 → X1_1) (hk1_2 : KeyW X2_2 → KeyW X1_02 → KeyW X1_12 → KeyW X1_23 → X1_2) (hk1_3 : KeyW X2_3 → KeyW X1_03 → KeyW X1_13 → KeyW X1_23 → X1_3) (hk2_ : KeyW X3_ → KeyW X2_0 → KeyW X2_1 → KeyW X2_2 → KeyW X2_3 → X2_) (hk0_012 : KeyW X1_012 → KeyW X0_0123 → X0_012) (hk0_013 : KeyW X1_013 → KeyW X0_0123 → X0_013) (hk0_023 : KeyW X1_023 → KeyW X0_0123 → X0_023) (hk0_123 : KeyW X1_123 → KeyW X0_0123 → X0_123) (hk1_01 : KeyW X2_01 → KeyW X1_012 → KeyW X1_013 → X1_01) (hk1_02 : KeyW X2_02 → KeyW X1_012 → KeyW X1_023 → X1_02) (hk1_03 : KeyW X2_03 → KeyW X1_013 → KeyW X1_023 → X1_03) (hk1_12 : KeyW X2_12 → KeyW X1_012 → KeyW X1_123 → X1_12) (hk1_13 : KeyW X2_13 → KeyW X1_013 → KeyW X1_123 → X1_13) (hk1_23 : KeyW X2_23 → KeyW X1_023 → KeyW X1_123 → X1_23) (hk2_0 : KeyW X3_0 → KeyW X2_01 → KeyW X2_02 → KeyW X2_03 → X2_0) (hk2_1 : KeyW X3_1 → KeyW X2_01 → KeyW X2_12 → KeyW X2_13 → X2_1) (hk2_2 : KeyW X3_2 → KeyW X2_02 → KeyW X2_12 → KeyW X2_23 → X2_2) (hk2_3 : KeyW X3_3 → KeyW X2_03 → KeyW X2_13 → KeyW X2_23 → X2_3) (hk3_ : KeyW X4_ → KeyW X3_0 → KeyW X3_1 → KeyW X3_2 → KeyW X3_3 → X3_) (hk0_0123 : KeyW X1_0123 → X0_0123) (hk1_012 : KeyW X2_012 → KeyW X1_0123 → X1_012) (hk1_013 : KeyW X2_013 → KeyW X1_0123 → X1_013) (hk1_023 : KeyW X2_023 → KeyW X1_0123 → X1_023) (hk1_123 : KeyW X2_123 → KeyW X1_0123 → X1_123) (hk2_01 : KeyW X3_01 → KeyW X2_012 → KeyW X2_013 → X2_01) (hk2_02 : KeyW X3_02 → KeyW X2_012 → KeyW X2_023 → X2_02) (hk2_03 : KeyW X3_03 → KeyW X2_013 → KeyW X2_023 → X2_03) (hk2_12 : KeyW X3_12 → KeyW X2_012 → KeyW X2_123 → X2_12) (hk2_13 : KeyW X3_13 → KeyW X2_013 → KeyW X2_123 → X2_13) (hk2_23 : KeyW X3_23 → KeyW X2_023 → KeyW X2_123 → X2_23) (hk3_0 : KeyW X4_0 → KeyW X3_01 → KeyW X3_02 → KeyW X3_03 → X3_0) (hk3_1 : KeyW X4_1 → KeyW X3_01 → KeyW X3_12 → KeyW X3_13 → X3_1) (hk3_2 : KeyW X4_2 → KeyW X3_02 → KeyW X3_12 → KeyW X3_23 → X3_2) (hk3_3 : KeyW X4_3 → KeyW X3_03 → KeyW X3_13 → KeyW X3_23 → X3_3) (hk4_ : KeyW X4_0 → KeyW X4_1 → KeyW X4_2 → KeyW X4_3 → X4_) (hk1_0123 : KeyW X2_0123 → X1_0123) (hk2_012 : KeyW X3_012 → KeyW X2_0123 → X2_012) (hk2_013 : KeyW X3_013 → KeyW X2_0123 → X2_013) (hk2_023 : KeyW X3_023 → KeyW X2_0123 → X2_023) (hk2_123 : KeyW X3_123 → KeyW X2_0123 → X2_123) (hk3_01 : KeyW X4_01 → KeyW X3_012 → KeyW X3_013 → X3_01) (hk3_02 : KeyW X4_02 → KeyW X3_012 → KeyW X3_023 → X3_02) (hk3_03 : KeyW X4_03 → KeyW X3_013 → KeyW X3_023 → X3_03) (hk3_12 : KeyW X4_12 → KeyW X3_012 → KeyW X3_123 → X3_12) (hk3_13 : KeyW X4_13 → KeyW X3_013 → KeyW X3_123 → X3_13) (hk3_23 : KeyW X4_23 → KeyW X3_023 → KeyW X3_123 → X3_23) (hk4_0 : KeyW X4_01 → KeyW X4_02 → KeyW X4_03 → X4_0) (hk4_1 : KeyW X4_01 → KeyW X4_12 → KeyW X4_13 → X4_1) (hk4_2 : KeyW X4_02 → KeyW X4_12 → KeyW X4_23 → X4_2) (hk4_3 : KeyW X4_03 → KeyW X4_13 → KeyW X4_23 → X4_3) (hk2_0123 : KeyW X3_0123 → X2_0123) (hk3_012 : KeyW X4_012 → KeyW X3_0123 → X3_012) (hk3_013 : KeyW X4_013 → KeyW X3_0123 → X3_013) (hk3_023 : KeyW X4_023 → KeyW X3_0123 → X3_023) (hk3_123 : KeyW X4_123 → KeyW X3_0123 → X3_123) (hk4_01 : KeyW X4_012 → KeyW X4_013 → X4_01) (hk4_02 : KeyW X4_012 → KeyW X4_023 → X4_02) (hk4_03 : KeyW X4_013 → KeyW X4_023 → X4_03) (hk4_12 : KeyW X4_012 → KeyW X4_123 → X4_12) (hk4_13 : KeyW X4_013 → KeyW X4_123 → X4_13) (hk4_23 : KeyW X4_023 → KeyW X4_123 → X4_23) (hk3_0123 : KeyW X4_0123 → X3_0123) (hk4_012 : KeyW X4_0123 → X4_012) (hk4_013 : KeyW X4_0123 → X4_013) (hk4_023 : KeyW X4_0123 → X4_023) (hk4_123 : KeyW X4_0123 → X4_123) (hk4_0123 : X4_0123) : Q :=
  have k4_0123 : KeyW X4_0123 := ⟨hk4_0123 ⟩
  have k4_123 : KeyW X4_123 := ⟨hk4_123 k4_0123⟩
  have k4_023 : KeyW X4_023 := ⟨hk4_023 k4_0123⟩
  have k4_013 : KeyW X4_013 := ⟨hk4_013 k4_0123⟩
  have k4_012 : KeyW X4_012 := ⟨hk4_012 k4_0123⟩
  have k3_0123 : KeyW X3_0123 := ⟨hk3_0123 k4_0123⟩
  have k4_23 : KeyW X4_23 := ⟨hk4_23 k4_023 k4_123⟩
  have k4_13 : KeyW X4_13 := ⟨hk4_13 k4_013 k4_123⟩
  have k4_12 : KeyW X4_12 := ⟨hk4_12 k4_012 k4_123⟩
  have k4_03 : KeyW X4_03 := ⟨hk4_03 k4_013 k4_023⟩
  have k4_02 : KeyW X4_02 := ⟨hk4_02 k4_012 k4_023⟩
  have k4_01 : KeyW X4_01 := ⟨hk4_01 k4_012 k4_013⟩
  have k3_123 : KeyW X3_123 := ⟨hk3_123 k4_123 k3_0123⟩
  have k3_023 : KeyW X3_023 := ⟨hk3_023 k4_023 k3_0123⟩
  have k3_013 : KeyW X3_013 := ⟨hk3_013 k4_013 k3_0123⟩
  have k3_012 : KeyW X3_012 := ⟨hk3_012 k4_012 k3_0123⟩
  have k2_0123 : KeyW X2_0123 := ⟨hk2_0123 k3_0123⟩
  have k4_3 : KeyW X4_3 := ⟨hk4_3 k4_03 k4_13 k4_23⟩
  have k4_2 : KeyW X4_2 := ⟨hk4_2 k4_02 k4_12 k4_23⟩
  have k4_1 : KeyW X4_1 := ⟨hk4_1 k4_01 k4_12 k4_13⟩
  have k4_0 : KeyW X4_0 := ⟨hk4_0 k4_01 k4_02 k4_03⟩
  have k3_23 : KeyW X3_23 := ⟨hk3_23 k4_23 k3_023 k3_123⟩
  have k3_13 : KeyW X3_13 := ⟨hk3_13 k4_13 k3_013 k3_123⟩
  have k3_12 : KeyW X3_12 := ⟨hk3_12 k4_12 k3_012 k3_123⟩
  have k3_03 : KeyW X3_03 := ⟨hk3_03 k4_03 k3_013 k3_023⟩
  have k3_02 : KeyW X3_02 := ⟨hk3_02 k4_02 k3_012 k3_023⟩
  have k3_01 : KeyW X3_01 := ⟨hk3_01 k4_01 k3_012 k3_013⟩
  have k2_123 : KeyW X2_123 := ⟨hk2_123 k3_123 k2_0123⟩
  have k2_023 : KeyW X2_023 := ⟨hk2_023 k3_023 k2_0123⟩
  have k2_013 : KeyW X2_013 := ⟨hk2_013 k3_013 k2_0123⟩
  have k2_012 : KeyW X2_012 := ⟨hk2_012 k3_012 k2_0123⟩
  have k1_0123 : KeyW X1_0123 := ⟨hk1_0123 k2_0123⟩
  have k4_ : KeyW X4_ := ⟨hk4_ k4_0 k4_1 k4_2 k4_3⟩
  have k3_3 : KeyW X3_3 := ⟨hk3_3 k4_3 k3_03 k3_13 k3_23⟩
  have k3_2 : KeyW X3_2 := ⟨hk3_2 k4_2 k3_02 k3_12 k3_23⟩
  have k3_1 : KeyW X3_1 := ⟨hk3_1 k4_1 k3_01 k3_12 k3_13⟩
  have k3_0 : KeyW X3_0 := ⟨hk3_0 k4_0 k3_01 k3_02 k3_03⟩
  have k2_23 : KeyW X2_23 := ⟨hk2_23 k3_23 k2_023 k2_123⟩
  have k2_13 : KeyW X2_13 := ⟨hk2_13 k3_13 k2_013 k2_123⟩
  have k2_12 : KeyW X2_12 := ⟨hk2_12 k3_12 k2_012 k2_123⟩
  have k2_03 : KeyW X2_03 := ⟨hk2_03 k3_03 k2_013 k2_023⟩
  have k2_02 : KeyW X2_02 := ⟨hk2_02 k3_02 k2_012 k2_023⟩
  have k2_01 : KeyW X2_01 := ⟨hk2_01 k3_01 k2_012 k2_013⟩
  have k1_123 : KeyW X1_123 := ⟨hk1_123 k2_123 k1_0123⟩
  have k1_023 : KeyW X1_023 := ⟨hk1_023 k2_023 k1_0123⟩
  have k1_013 : KeyW X1_013 := ⟨hk1_013 k2_013 k1_0123⟩
  have k1_012 : KeyW X1_012 := ⟨hk1_012 k2_012 k1_0123⟩
  have k0_0123 : KeyW X0_0123 := ⟨hk0_0123 k1_0123⟩
  have k3_ : KeyW X3_ := ⟨hk3_ k4_ k3_0 k3_1 k3_2 k3_3⟩
  have k2_3 : KeyW X2_3 := ⟨hk2_3 k3_3 k2_03 k2_13 k2_23⟩
  have k2_2 : KeyW X2_2 := ⟨hk2_2 k3_2 k2_02 k2_12 k2_23⟩
  have k2_1 : KeyW X2_1 := ⟨hk2_1 k3_1 k2_01 k2_12 k2_13⟩
  have k2_0 : KeyW X2_0 := ⟨hk2_0 k3_0 k2_01 k2_02 k2_03⟩
  have k1_23 : KeyW X1_23 := ⟨hk1_23 k2_23 k1_023 k1_123⟩
  have k1_13 : KeyW X1_13 := ⟨hk1_13 k2_13 k1_013 k1_123⟩
  have k1_12 : KeyW X1_12 := ⟨hk1_12 k2_12 k1_012 k1_123⟩
  have k1_03 : KeyW X1_03 := ⟨hk1_03 k2_03 k1_013 k1_023⟩
  have k1_02 : KeyW X1_02 := ⟨hk1_02 k2_02 k1_012 k1_023⟩
  have k1_01 : KeyW X1_01 := ⟨hk1_01 k2_01 k1_012 k1_013⟩
  have k0_123 : KeyW X0_123 := ⟨hk0_123 k1_123 k0_0123⟩
  have k0_023 : KeyW X0_023 := ⟨hk0_023 k1_023 k0_0123⟩
  have k0_013 : KeyW X0_013 := ⟨hk0_013 k1_013 k0_0123⟩
  have k0_012 : KeyW X0_012 := ⟨hk0_012 k1_012 k0_0123⟩
  have k2_ : KeyW X2_ := ⟨hk2_ k3_ k2_0 k2_1 k2_2 k2_3⟩
  have k1_3 : KeyW X1_3 := ⟨hk1_3 k2_3 k1_03 k1_13 k1_23⟩
  have k1_2 : KeyW X1_2 := ⟨hk1_2 k2_2 k1_02 k1_12 k1_23⟩
  have k1_1 : KeyW X1_1 := ⟨hk1_1 k2_1 k1_01 k1_12 k1_13⟩
  have k1_0 : KeyW X1_0 := ⟨hk1_0 k2_0 k1_01 k1_02 k1_03⟩
  have k0_23 : KeyW X0_23 := ⟨hk0_23 k1_23 k0_023 k0_123⟩
  have k0_13 : KeyW X0_13 := ⟨hk0_13 k1_13 k0_013 k0_123⟩
  have k0_12 : KeyW X0_12 := ⟨hk0_12 k1_12 k0_012 k0_123⟩
  have k0_03 : KeyW X0_03 := ⟨hk0_03 k1_03 k0_013 k0_023⟩
  have k0_02 : KeyW X0_02 := ⟨hk0_02 k1_02 k0_012 k0_023⟩
  have k0_01 : KeyW X0_01 := ⟨hk0_01 k1_01 k0_012 k0_013⟩
  have k1_ : KeyW X1_ := ⟨hk1_ k2_ k1_0 k1_1 k1_2 k1_3⟩
  have k0_3 : KeyW X0_3 := ⟨hk0_3 k1_3 k0_03 k0_13 k0_23⟩
  have k0_2 : KeyW X0_2 := ⟨hk0_2 k1_2 k0_02 k0_12 k0_23⟩
  have k0_1 : KeyW X0_1 := ⟨hk0_1 k1_1 k0_01 k0_12 k0_13⟩
  have k0_0 : KeyW X0_0 := ⟨hk0_0 k1_0 k0_01 k0_02 k0_03⟩
  h k1_ k0_0 k0_1 k0_2 k0_3
theorem wpAnyH_fuel {P : Program} {ops : Array Oper} {Q : Exit → Act → World → Prop} {md : Region.Mode} {S : World → Prop} {fuel fuel' : Nat} {listed : Array Bool} {a : Act} {w : World} (h : fuel = fuel') (hw : wpAnyH P md ops Q S fuel listed a w) : wpAnyH P md ops Q S fuel' listed a w := h ▸ hw
theorem wpAnyH_listed {P : Program} {ops : Array Oper} {Q : Exit → Act → World → Prop} {md : Region.Mode} {S : World → Prop} {fuel : Nat} {listed listed' : Array Bool} {a : Act} {w : World} (h : listed = listed') (hw : wpAnyH P md ops Q S fuel listed a w) : wpAnyH P md ops Q S fuel listed' a w := h ▸ hw
set_option maxRecDepth 20000 in
set_option maxHeartbeats 40000000 in
theorem walk_sortedSets (w : World) (a0 : Option Addr) (n0 c0 : Nat) (z0 : List Int) (h0 : Frame.IsRow .i64 w a0 n0 c0 z0) (a1 : Option Addr) (n1 c1 : Nat) (z1 : List Int) (h1 : Frame.IsRow .i64 w a1 n1 c1 z1) (x : Int) (hx : (Lit.int .i64 x).wf = true) :
    Calls Try.prog 3 #[.slice a0 n0 c0, .slice a1 n1 c1, .int .i64 x] w fun e w' => e = .returned (.bool true) ∧ Below w.heap.size w w' := by
  have m0 := h0.cap
  have m1 := h1.cap
  by_cases hb : 60 < n0 ∨ 60 < n1
  · exact sets_no w a0 a1 n0 n1 c0 c1 x hb (by omega) (by omega)
  obtain ⟨l0, e0, r0⟩ := row_of3 h0 (by omega)
  obtain ⟨l1, e1, r1⟩ := row_of3 h1 (by omega)
  have g0 : ¬ (60 : Int) < n0 := by omega
  have g1 : ¬ (60 : Int) < n1 := by omega
  have HN0 := hide e0
  have HN1 := hide e1
  have H0 : Hid (Env w [] [] [(a0, c0, l0), (a1, c1, l1)] w) := ((Env.start w).row r1 (by show l1.length ≤ _; omega)).row r0 (by show l0.length ≤ _; omega)
  have C0 := hide (ofD (a := a0) (c := c0) (n := n0) (s := setL ltI l0) H0 (by simp) HN0 rfl)
  obtain ⟨s0, hs0⟩ : ∃ s, s = setL ltI l0 := ⟨_, rfl⟩
  obtain ⟨s1, hs1⟩ : ∃ s, s = setL ltI l1 := ⟨_, rfl⟩
  have HL0 : Hid (s0.length ≤ 60) := hide (by have := setL_length (lt := ltI) l0; rw [hs0]; omega)
  have HL1 : Hid (s1.length ≤ 60) := hide (by have := setL_length (lt := ltI) l1; rw [hs1]; omega)
  rw [← hs0] at C0
  have HS0 := hide hs0
  have HS1 := hide hs1
  clear hs0 hs1 h0 h1 m0 m1 e0 e1 r0 r1
  go_enter Try.func3, Try.ntmps3
  go_wp2_with (first
    | (go_at_call 9; (with_reducible refine (Hid.out C0).mono ?_); go_must (clear C0; rintro e w1 ⟨a7, c7, m7, rfl, hm7, hf7, H1⟩; have C1 := hide (ofD (a := a1) (c := c1) (n := n1) (s := s1) H1 (by simp) HN1 (hide HS1.out.symm))))
    | (go_at_call 9; (with_reducible refine (Hid.out C1).mono ?_); go_must (clear C1; rintro e w2 ⟨a8, c8, m8, rfl, hm8, hf8, H2⟩)))
  obtain ⟨U0, hU0⟩ : ∃ u, u = setL ltI (s0 ++ s1) := ⟨_, rfl⟩
  obtain ⟨U1, hU1⟩ : ∃ u, u = partL s1 true s0 := ⟨_, rfl⟩
  obtain ⟨U2, hU2⟩ : ∃ u, u = partL s1 false s0 := ⟨_, rfl⟩
  obtain ⟨U3, hU3⟩ : ∃ u, u = setL ltI (s0 ++ l1) := ⟨_, rfl⟩
  have HU0 := hide hU0.symm
  have HU1 := hide hU1.symm
  have HU2 := hide hU2.symm
  have HU3 := hide hU3.symm
  have HUL0 : Hid (U0.length ≤ 100000) := hide (by have := setL_length (lt := ltI) (s0 ++ s1); have h1 := HL0.out; have h2 := HL1.out; rw [hU0]; rw [List.length_append] at this; omega)
  have HUL3 : Hid (U3.length ≤ 100000) := hide (by have := setL_length (lt := ltI) (s0 ++ l1); have h1 := HL0.out; have h2 := HN1.out; rw [hU3]; rw [List.length_append] at this; omega)
  clear hU0 hU1 hU2 hU3
  have HE : Hid (Env w [(w2.heap.size, .slice a7 m7 c7), (w2.heap.size + 1, .slice a8 m8 c8)] [(a8, c8, s1), (a7, c7, s0)] [(a0, c0, l0), (a1, c1, l1)] ((w2.alloc (.cells #[.slice a7 m7 c7] 25)).alloc (.cells #[.slice a8 m8 c8] 25)).drew) := hide (((H2.out.box (b := w2.heap.size) (.slice a7 m7 c7) 25 rfl).box (b := w2.heap.size + 1) (.slice a8 m8 c8) 25 (by simp)).drew.sub (by simp) (by simp) (by simp))
  have HA : Hid (([w2.heap.size, w2.heap.size + 1] : List Nat).Nodup ∧ ∀ b ∈ ([w2.heap.size, w2.heap.size + 1] : List Nat), w.heap.size ≤ b) := hide (by have := H2.out.below.size; simp; omega)
  clear H0 H1 H2 hf7 hf8
  refine wp_region_held_drew (S := fun w' => w'.cell? ⟨w2.heap.size, 0, none⟩ = some (.slice a7 m7 c7) ∧ w'.cell? ⟨w2.heap.size + 1, 0, none⟩ = some (.slice a8 m8 c8)) (by kernel_rfl) ⟨HE.out.cell (b := w2.heap.size) (v := .slice a7 m7 c7) (by simp), HE.out.cell (b := w2.heap.size + 1) (v := .slice a8 m8 c8) (by simp)⟩ (fun hS => ?_)
  generalize ((w2.alloc (.cells #[.slice a7 m7 c7] 25)).alloc (.cells #[.slice a8 m8 c8] 25)).drew = W at HE hS ⊢
  refine wpAnyH_take (i := 0) (oi := { dst := some 26, op := Op.load 25 (Operand.tmp 7), type := 25, pos := "law.go:23", after := #[], guard := none }) (v := ?_) rfl (by kernel_rfl) (by kernel_rfl) (by kernel_rfl) (fun _ _ _ h => h) (Or.inl ⟨by rfl, ?_⟩) (by assumption) ?_
  rotate_left
  · intro w hSw; (try dsimp only at hSw); go_simp; try (with_reducible rfl)
  try simp only [Act.put, List.setIfInBounds_toArray, List.set_cons_zero, List.set_cons_succ]
  refine wpAnyH_take (i := 1) (oi := { dst := some 27, op := Op.load 25 (Operand.tmp 8), type := 25, pos := "law.go:23", after := #[], guard := none }) (v := ?_) rfl (by kernel_rfl) (by kernel_rfl) (by kernel_rfl) (fun _ _ _ h => h) (Or.inl ⟨by rfl, ?_⟩) (by assumption) ?_
  rotate_left
  · intro w hSw; (try dsimp only at hSw); go_simp; try (with_reducible rfl)
  try simp only [Act.put, List.setIfInBounds_toArray, List.set_cons_zero, List.set_cons_succ]
  refine wpAnyH_take (i := 3) (oi := { dst := some 29, op := Op.load 25 (Operand.tmp 7), type := 25, pos := "law.go:23", after := #[], guard := none }) (v := ?_) rfl (by kernel_rfl) (by kernel_rfl) (by kernel_rfl) (fun _ _ _ h => h) (Or.inl ⟨by rfl, ?_⟩) (by assumption) ?_
  rotate_left
  · intro w hSw; (try dsimp only at hSw); go_simp; try (with_reducible rfl)
  try simp only [Act.put, List.setIfInBounds_toArray, List.set_cons_zero, List.set_cons_succ]
  refine wpAnyH_take (i := 4) (oi := { dst := some 30, op := Op.load 25 (Operand.tmp 8), type := 25, pos := "law.go:23", after := #[], guard := none }) (v := ?_) rfl (by kernel_rfl) (by kernel_rfl) (by kernel_rfl) (fun _ _ _ h => h) (Or.inl ⟨by rfl, ?_⟩) (by assumption) ?_
  rotate_left
  · intro w hSw; (try dsimp only at hSw); go_simp; try (with_reducible rfl)
  try simp only [Act.put, List.setIfInBounds_toArray, List.set_cons_zero, List.set_cons_succ]
  refine wpAnyH_take (i := 6) (oi := { dst := some 32, op := Op.load 25 (Operand.tmp 7), type := 25, pos := "law.go:23", after := #[], guard := none }) (v := ?_) rfl (by kernel_rfl) (by kernel_rfl) (by kernel_rfl) (fun _ _ _ h => h) (Or.inl ⟨by rfl, ?_⟩) (by assumption) ?_
  rotate_left
  · intro w hSw; (try dsimp only at hSw); go_simp; try (with_reducible rfl)
  try simp only [Act.put, List.setIfInBounds_toArray, List.set_cons_zero, List.set_cons_succ]
  refine wpAnyH_take (i := 7) (oi := { dst := some 33, op := Op.load 25 (Operand.tmp 8), type := 25, pos := "law.go:23", after := #[], guard := none }) (v := ?_) rfl (by kernel_rfl) (by kernel_rfl) (by kernel_rfl) (fun _ _ _ h => h) (Or.inl ⟨by rfl, ?_⟩) (by assumption) ?_
  rotate_left
  · intro w hSw; (try dsimp only at hSw); go_simp; try (with_reducible rfl)
  try simp only [Act.put, List.setIfInBounds_toArray, List.set_cons_zero, List.set_cons_succ]
  refine wpAnyH_take (i := 9) (oi := { dst := some 35, op := Op.load 25 (Operand.tmp 7), type := 25, pos := "law.go:23", after := #[], guard := none }) (v := ?_) rfl (by kernel_rfl) (by kernel_rfl) (by kernel_rfl) (fun _ _ _ h => h) (Or.inl ⟨by rfl, ?_⟩) (by assumption) ?_
  rotate_left
  · intro w hSw; (try dsimp only at hSw); go_simp; try (with_reducible rfl)
  try simp only [Act.put, List.setIfInBounds_toArray, List.set_cons_zero, List.set_cons_succ]
  refine wpAnyH_take (i := 10) (oi := { dst := some 36, op := Op.move (Operand.tmp 1), type := 22, pos := "law.go:23", after := #[], guard := none }) (v := ?_) rfl (by kernel_rfl) (by kernel_rfl) (by kernel_rfl) (fun _ _ _ h => h) (Or.inl ⟨by rfl, ?_⟩) (by assumption) ?_
  rotate_left
  · intro w hSw; (try dsimp only at hSw); go_simp; try (with_reducible rfl)
  try simp only [Act.put, List.setIfInBounds_toArray, List.set_cons_zero, List.set_cons_succ]
  clear hS
  refine wpAnyH_listed (listed := #[true, true, false, true, true, false, true, true, false, true, true, false, false, false, false, false, false, false, false, false]) (by kernel_rfl) ?_
  refine wpAnyH_fuel (fuel := 12) (by kernel_rfl) ?_
  apply mergeAll
  · intro k1_ k0_0 k0_1 k0_2 k0_3
    refine wpAnyH_ready (rs := [2, 12, 13, 14, 15]) (by kernel_rfl) (by simp) ?_
    refine AllReadyH.cons (o := { dst := some 28, op := Op.call { callee := Callee.value (Operand.func 10), args := #[Operand.tmp 26, Operand.tmp 27], argTypes := #[25, 25] }, type := 25, pos := "law.go:23", after := #[{ on := 0, ground := Ground.data }, { on := 1, ground := Ground.data }], guard := none }) rfl (fun K hK => ?_) ?_
    · have CC := hide (orD (a := a7) (c := c7) (n := m7) (s := s0) (a2 := a8) (c2 := c8) (n2 := m8) (t := s1) HE (by simp) (by simp) hm7 hm8 HU0 HUL0)
      go_simp
      go_at_call 10
      (with_reducible refine (Hid.out CC).mono ?_)
      rintro e W' ⟨r0, q0, M0, rfl, HM0, -, HE0⟩
      try go_wp2_with fail
      have HE' : Hid (Env w [(w2.heap.size, .slice a7 m7 c7), (w2.heap.size + 1, .slice a8 m8 c8)] [(r0, q0, U0), (a8, c8, s1), (a7, c7, s0)] [(a0, c0, l0), (a1, c1, l1)] W') := hide (HE0.out.sub (by simp) (by simp) (by simp))
      refine hK.out _ _ ⟨HE'.out.cell (b := w2.heap.size) (v := .slice a7 m7 c7) (by simp), HE'.out.cell (b := w2.heap.size + 1) (v := .slice a8 m8 c8) (by simp)⟩ (fun hS' => ?_)
      clear hS'
      refine wpAnyH_listed (listed := #[true, true, true, true, true, false, true, true, false, true, true, false, false, false, false, false, false, false, false, false]) (by kernel_rfl) ?_
      have HA' := HA
      clear CC HE0
      try clear HE
      try clear HA
      revert HE'; revert HA'; revert HM0; revert W'; revert M0; revert q0; revert r0
      exact k1_.out
    refine AllReadyH.cons (o := { dst := some 9, op := Op.alloc 25, type := 0, pos := "law.go:23", after := #[], guard := none }) rfl (fun K hK => ?_) ?_
    · go_simp
      have HE' : Hid (Env w [(W.heap.size, .slice none 0 0), (w2.heap.size, .slice a7 m7 c7), (w2.heap.size + 1, .slice a8 m8 c8)] [(a8, c8, s1), (a7, c7, s0)] [(a0, c0, l0), (a1, c1, l1)] (W.alloc (.cells #[.slice none 0 0] 25))) := hide ((HE.out.box (.slice none 0 0) 25 rfl).sub (by simp) (by simp) (by simp))
      refine hK.out _ _ ⟨HE'.out.cell (b := w2.heap.size) (v := .slice a7 m7 c7) (by simp), HE'.out.cell (b := w2.heap.size + 1) (v := .slice a8 m8 c8) (by simp)⟩ (fun hS' => ?_)
      clear hS'
      refine wpAnyH_listed (listed := #[true, true, false, true, true, false, true, true, false, true, true, false, true, false, false, false, false, false, false, false]) (by kernel_rfl) ?_
      have hb7 := HE.out.lt (b := w2.heap.size) (v := .slice a7 m7 c7) (by simp)
      have hb8 := HE.out.lt (b := w2.heap.size + 1) (v := .slice a8 m8 c8) (by simp)
      have hsz := HE.out.below.size
      have HA' : Hid (([W.heap.size, w2.heap.size, w2.heap.size + 1] : List Nat).Nodup ∧ ∀ b ∈ ([W.heap.size, w2.heap.size, w2.heap.size + 1] : List Nat), w.heap.size ≤ b) := hide (by have := HA.out; simp at this ⊢; omega)
      clear hb7 hb8 hsz
      try clear HE
      try clear HA
      generalize W.alloc (.cells #[.slice none 0 0] 25) = W' at HE' ⊢
      generalize W.heap.size = P0 at HE' HA' ⊢
      revert HE'; revert HA'; revert W'; revert P0
      exact k0_0.out
    refine AllReadyH.cons (o := { dst := some 10, op := Op.alloc 25, type := 0, pos := "law.go:23", after := #[], guard := none }) rfl (fun K hK => ?_) ?_
    · go_simp
      have HE' : Hid (Env w [(W.heap.size, .slice none 0 0), (w2.heap.size, .slice a7 m7 c7), (w2.heap.size + 1, .slice a8 m8 c8)] [(a8, c8, s1), (a7, c7, s0)] [(a0, c0, l0), (a1, c1, l1)] (W.alloc (.cells #[.slice none 0 0] 25))) := hide ((HE.out.box (.slice none 0 0) 25 rfl).sub (by simp) (by simp) (by simp))
      refine hK.out _ _ ⟨HE'.out.cell (b := w2.heap.size) (v := .slice a7 m7 c7) (by simp), HE'.out.cell (b := w2.heap.size + 1) (v := .slice a8 m8 c8) (by simp)⟩ (fun hS' => ?_)
      clear hS'
      refine wpAnyH_listed (listed := #[true, true, false, true, true, false, true, true, false, true, true, false, false, true, false, false, false, false, false, false]) (by kernel_rfl) ?_
      have hb7 := HE.out.lt (b := w2.heap.size) (v := .slice a7 m7 c7) (by simp)
      have hb8 := HE.out.lt (b := w2.heap.size + 1) (v := .slice a8 m8 c8) (by simp)
      have hsz := HE.out.below.size
      have HA' : Hid (([W.heap.size, w2.heap.size, w2.heap.size + 1] : List Nat).Nodup ∧ ∀ b ∈ ([W.heap.size, w2.heap.size, w2.heap.size + 1] : List Nat), w.heap.size ≤ b) := hide (by have := HA.out; simp at this ⊢; omega)
      clear hb7 hb8 hsz
      try clear HE
      try clear HA
      generalize W.alloc (.cells #[.slice none 0 0] 25) = W' at HE' ⊢
      generalize W.heap.size = P1 at HE' HA' ⊢
      revert HE'; revert HA'; revert W'; revert P1
      exact k0_1.out
    refine AllReadyH.cons (o := { dst := some 11, op := Op.alloc 25, type := 0, pos := "law.go:23", after := #[], guard := none }) rfl (fun K hK => ?_) ?_
    · go_simp
      have HE' : Hid (Env w [(W.heap.size, .slice none 0 0), (w2.heap.size, .slice a7 m7 c7), (w2.heap.size + 1, .slice a8 m8 c8)] [(a8, c8, s1), (a7, c7, s0)] [(a0, c0, l0), (a1, c1, l1)] (W.alloc (.cells #[.slice none 0 0] 25))) := hide ((HE.out.box (.slice none 0 0) 25 rfl).sub (by simp) (by simp) (by simp))
      refine hK.out _ _ ⟨HE'.out.cell (b := w2.heap.size) (v := .slice a7 m7 c7) (by simp), HE'.out.cell (b := w2.heap.size + 1) (v := .slice a8 m8 c8) (by simp)⟩ (fun hS' => ?_)
      clear hS'
      refine wpAnyH_listed (listed := #[true, true, false, true, true, false, true, true, false, true, true, false, false, false, true, false, false, false, false, false]) (by kernel_rfl) ?_
      have hb7 := HE.out.lt (b := w2.heap.size) (v := .slice a7 m7 c7) (by simp)
      have hb8 := HE.out.lt (b := w2.heap.size + 1) (v := .slice a8 m8 c8) (by simp)
      have hsz := HE.out.below.size
      have HA' : Hid (([W.heap.size, w2.heap.size, w2.heap.size + 1] : List Nat).Nodup ∧ ∀ b ∈ ([W.heap.size, w2.heap.size, w2.heap.size + 1] : List Nat), w.heap.size ≤ b) := hide (by have := HA.out; simp at this ⊢; omega)
      clear hb7 hb8 hsz
      try clear HE
      try clear HA
      generalize W.alloc (.cells #[.slice none 0 0] 25) = W' at HE' ⊢
      generalize W.heap.size = P2 at HE' HA' ⊢
      revert HE'; revert HA'; revert W'; revert P2
      exact k0_2.out
    refine AllReadyH.cons (o := { dst := some 12, op := Op.alloc 25, type := 0, pos := "law.go:23", after := #[], guard := none }) rfl (fun K hK => ?_) ?_
    · go_simp
      have HE' : Hid (Env w [(W.heap.size, .slice none 0 0), (w2.heap.size, .slice a7 m7 c7), (w2.heap.size + 1, .slice a8 m8 c8)] [(a8, c8, s1), (a7, c7, s0)] [(a0, c0, l0), (a1, c1, l1)] (W.alloc (.cells #[.slice none 0 0] 25))) := hide ((HE.out.box (.slice none 0 0) 25 rfl).sub (by simp) (by simp) (by simp))
      refine hK.out _ _ ⟨HE'.out.cell (b := w2.heap.size) (v := .slice a7 m7 c7) (by simp), HE'.out.cell (b := w2.heap.size + 1) (v := .slice a8 m8 c8) (by simp)⟩ (fun hS' => ?_)
      clear hS'
      refine wpAnyH_listed (listed := #[true, true, false, true, true, false, true, true, false, true, true, false, false, false, false, true, false, false, false, false]) (by kernel_rfl) ?_
      have hb7 := HE.out.lt (b := w2.heap.size) (v := .slice a7 m7 c7) (by simp)
      have hb8 := HE.out.lt (b := w2.heap.size + 1) (v := .slice a8 m8 c8) (by simp)
      have hsz := HE.out.below.size
      have HA' : Hid (([W.heap.size, w2.heap.size, w2.heap.size + 1] : List Nat).Nodup ∧ ∀ b ∈ ([W.heap.size, w2.heap.size, w2.heap.size + 1] : List Nat), w.heap.size ≤ b) := hide (by have := HA.out; simp at this ⊢; omega)
      clear hb7 hb8 hsz
      try clear HE
      try clear HA
      generalize W.alloc (.cells #[.slice none 0 0] 25) = W' at HE' ⊢
      generalize W.heap.size = P3 at HE' HA' ⊢
      revert HE'; revert HA'; revert W'; revert P3
      exact k0_3.out
    exact AllReadyH.nil
  · intro k1_0 k0_01 k0_02 k0_03
    intro P0 W HA HE
    refine wpAnyH_ready (rs := [2, 13, 14, 15]) (by kernel_rfl) (by simp) ?_
    refine AllReadyH.cons (o := { dst := some 28, op := Op.call { callee := Callee.value (Operand.func 10), args := #[Operand.tmp 26, Operand.tmp 27], argTypes := #[25, 25] }, type := 25, pos := "law.go:23", after := #[{ on := 0, ground := Ground.data }, { on := 1, ground := Ground.data }], guard := none }) rfl (fun K hK => ?_) ?_
    · have CC := hide (orD (a := a7) (c := c7) (n := m7) (s := s0) (a2 := a8) (c2 := c8) (n2 := m8) (t := s1) HE (by simp) (by simp) hm7 hm8 HU0 HUL0)
      go_simp
      go_at_call 10
      (with_reducible refine (Hid.out CC).mono ?_)
      rintro e W' ⟨r0, q0, M0, rfl, HM0, -, HE0⟩
      try go_wp2_with fail
      have HE' : Hid (Env w [(P0, .slice none 0 0), (w2.heap.size, .slice a7 m7 c7), (w2.heap.size + 1, .slice a8 m8 c8)] [(r0, q0, U0), (a8, c8, s1), (a7, c7, s0)] [(a0, c0, l0), (a1, c1, l1)] W') := hide (HE0.out.sub (by simp) (by simp) (by simp))
      refine hK.out _ _ ⟨HE'.out.cell (b := w2.heap.size) (v := .slice a7 m7 c7) (by simp), HE'.out.cell (b := w2.heap.size + 1) (v := .slice a8 m8 c8) (by simp)⟩ (fun hS' => ?_)
      clear hS'
      refine wpAnyH_listed (listed := #[true, true, true, true, true, false, true, true, false, true, true, false, true, false, false, false, false, false, false, false]) (by kernel_rfl) ?_
      have HA' := HA
      clear CC HE0
      try clear HE
      try clear HA
      revert HE'; revert HA'; revert HM0; revert W'; revert M0; revert q0; revert r0; revert P0
      exact k1_0.out
    refine AllReadyH.cons (o := { dst := some 10, op := Op.alloc 25, type := 0, pos := "law.go:23", after := #[], guard := none }) rfl (fun K hK => ?_) ?_
    · go_simp
      have HE' : Hid (Env w [(P0, .slice none 0 0), (W.heap.size, .slice none 0 0), (w2.heap.size, .slice a7 m7 c7), (w2.heap.size + 1, .slice a8 m8 c8)] [(a8, c8, s1), (a7, c7, s0)] [(a0, c0, l0), (a1, c1, l1)] (W.alloc (.cells #[.slice none 0 0] 25))) := hide ((HE.out.box (.slice none 0 0) 25 rfl).sub (by simp) (by simp) (by simp))
      refine hK.out _ _ ⟨HE'.out.cell (b := w2.heap.size) (v := .slice a7 m7 c7) (by simp), HE'.out.cell (b := w2.heap.size + 1) (v := .slice a8 m8 c8) (by simp)⟩ (fun hS' => ?_)
      clear hS'
      refine wpAnyH_listed (listed := #[true, true, false, true, true, false, true, true, false, true, true, false, true, true, false, false, false, false, false, false]) (by kernel_rfl) ?_
      have hl0 := HE.out.lt (b := P0) (v := .slice none 0 0) (by simp)
      have hb7 := HE.out.lt (b := w2.heap.size) (v := .slice a7 m7 c7) (by simp)
      have hb8 := HE.out.lt (b := w2.heap.size + 1) (v := .slice a8 m8 c8) (by simp)
      have hsz := HE.out.below.size
      have HA' : Hid (([P0, W.heap.size, w2.heap.size, w2.heap.size + 1] : List Nat).Nodup ∧ ∀ b ∈ ([P0, W.heap.size, w2.heap.size, w2.heap.size + 1] : List Nat), w.heap.size ≤ b) := hide (by have := HA.out; simp at this ⊢; omega)
      clear hb7 hb8 hsz hl0
      try clear HE
      try clear HA
      generalize W.alloc (.cells #[.slice none 0 0] 25) = W' at HE' ⊢
      generalize W.heap.size = P1 at HE' HA' ⊢
      revert HE'; revert HA'; revert W'; revert P1; revert P0
      exact k0_01.out
    refine AllReadyH.cons (o := { dst := some 11, op := Op.alloc 25, type := 0, pos := "law.go:23", after := #[], guard := none }) rfl (fun K hK => ?_) ?_
    · go_simp
      have HE' : Hid (Env w [(P0, .slice none 0 0), (W.heap.size, .slice none 0 0), (w2.heap.size, .slice a7 m7 c7), (w2.heap.size + 1, .slice a8 m8 c8)] [(a8, c8, s1), (a7, c7, s0)] [(a0, c0, l0), (a1, c1, l1)] (W.alloc (.cells #[.slice none 0 0] 25))) := hide ((HE.out.box (.slice none 0 0) 25 rfl).sub (by simp) (by simp) (by simp))
      refine hK.out _ _ ⟨HE'.out.cell (b := w2.heap.size) (v := .slice a7 m7 c7) (by simp), HE'.out.cell (b := w2.heap.size + 1) (v := .slice a8 m8 c8) (by simp)⟩ (fun hS' => ?_)
      clear hS'
      refine wpAnyH_listed (listed := #[true, true, false, true, true, false, true, true, false, true, true, false, true, false, true, false, false, false, false, false]) (by kernel_rfl) ?_
      have hl0 := HE.out.lt (b := P0) (v := .slice none 0 0) (by simp)
      have hb7 := HE.out.lt (b := w2.heap.size) (v := .slice a7 m7 c7) (by simp)
      have hb8 := HE.out.lt (b := w2.heap.size + 1) (v := .slice a8 m8 c8) (by simp)
      have hsz := HE.out.below.size
      have HA' : Hid (([P0, W.heap.size, w2.heap.size, w2.heap.size + 1] : List Nat).Nodup ∧ ∀ b ∈ ([P0, W.heap.size, w2.heap.size, w2.heap.size + 1] : List Nat), w.heap.size ≤ b) := hide (by have := HA.out; simp at this ⊢; omega)
      clear hb7 hb8 hsz hl0
      try clear HE
      try clear HA
      generalize W.alloc (.cells #[.slice none 0 0] 25) = W' at HE' ⊢
      generalize W.heap.size = P2 at HE' HA' ⊢
      revert HE'; revert HA'; revert W'; revert P2; revert P0
      exact k0_02.out
    refine AllReadyH.cons (o := { dst := some 12, op := Op.alloc 25, type := 0, pos := "law.go:23", after := #[], guard := none }) rfl (fun K hK => ?_) ?_
    · go_simp
      have HE' : Hid (Env w [(P0, .slice none 0 0), (W.heap.size, .slice none 0 0), (w2.heap.size, .slice a7 m7 c7), (w2.heap.size + 1, .slice a8 m8 c8)] [(a8, c8, s1), (a7, c7, s0)] [(a0, c0, l0), (a1, c1, l1)] (W.alloc (.cells #[.slice none 0 0] 25))) := hide ((HE.out.box (.slice none 0 0) 25 rfl).sub (by simp) (by simp) (by simp))
      refine hK.out _ _ ⟨HE'.out.cell (b := w2.heap.size) (v := .slice a7 m7 c7) (by simp), HE'.out.cell (b := w2.heap.size + 1) (v := .slice a8 m8 c8) (by simp)⟩ (fun hS' => ?_)
      clear hS'
      refine wpAnyH_listed (listed := #[true, true, false, true, true, false, true, true, false, true, true, false, true, false, false, true, false, false, false, false]) (by kernel_rfl) ?_
      have hl0 := HE.out.lt (b := P0) (v := .slice none 0 0) (by simp)
      have hb7 := HE.out.lt (b := w2.heap.size) (v := .slice a7 m7 c7) (by simp)
      have hb8 := HE.out.lt (b := w2.heap.size + 1) (v := .slice a8 m8 c8) (by simp)
      have hsz := HE.out.below.size
      have HA' : Hid (([P0, W.heap.size, w2.heap.size, w2.heap.size + 1] : List Nat).Nodup ∧ ∀ b ∈ ([P0, W.heap.size, w2.heap.size, w2.heap.size + 1] : List Nat), w.heap.size ≤ b) := hide (by have := HA.out; simp at this ⊢; omega)
      clear hb7 hb8 hsz hl0
      try clear HE
      try clear HA
      generalize W.alloc (.cells #[.slice none 0 0] 25) = W' at HE' ⊢
      generalize W.heap.size = P3 at HE' HA' ⊢
      revert HE'; revert HA'; revert W'; revert P3; revert P0
      exact k0_03.out
    exact AllReadyH.nil
  · intro k1_1 k0_01 k0_12 k0_13
    intro P1 W HA HE
    refine wpAnyH_ready (rs := [2, 12, 14, 15]) (by kernel_rfl) (by simp) ?_
    refine AllReadyH.cons (o := { dst := some 28, op := Op.call { callee := Callee.value (Operand.func 10), args := #[Operand.tmp 26, Operand.tmp 27], argTypes := #[25, 25] }, type := 25, pos := "law.go:23", after := #[{ on := 0, ground := Ground.data }, { on := 1, ground := Ground.data }], guard := none }) rfl (fun K hK => ?_) ?_
    · have CC := hide (orD (a := a7) (c := c7) (n := m7) (s := s0) (a2 := a8) (c2 := c8) (n2 := m8) (t := s1) HE (by simp) (by simp) hm7 hm8 HU0 HUL0)
      go_simp
      go_at_call 10
      (with_reducible refine (Hid.out CC).mono ?_)
      rintro e W' ⟨r0, q0, M0, rfl, HM0, -, HE0⟩
      try go_wp2_with fail
      have HE' : Hid (Env w [(P1, .slice none 0 0), (w2.heap.size, .slice a7 m7 c7), (w2.heap.size + 1, .slice a8 m8 c8)] [(r0, q0, U0), (a8, c8, s1), (a7, c7, s0)] [(a0, c0, l0), (a1, c1, l1)] W') := hide (HE0.out.sub (by simp) (by simp) (by simp))
      refine hK.out _ _ ⟨HE'.out.cell (b := w2.heap.size) (v := .slice a7 m7 c7) (by simp), HE'.out.cell (b := w2.heap.size + 1) (v := .slice a8 m8 c8) (by simp)⟩ (fun hS' => ?_)
      clear hS'
      refine wpAnyH_listed (listed := #[true, true, true, true, true, false, true, true, false, true, true, false, false, true, false, false, false, false, false, false]) (by kernel_rfl) ?_
      have HA' := HA
      clear CC HE0
      try clear HE
      try clear HA
      revert HE'; revert HA'; revert HM0; revert W'; revert M0; revert q0; revert r0; revert P1
      exact k1_1.out
    refine AllReadyH.cons (o := { dst := some 9, op := Op.alloc 25, type := 0, pos := "law.go:23", after := #[], guard := none }) rfl (fun K hK => ?_) ?_
    · go_simp
      have HE' : Hid (Env w [(W.heap.size, .slice none 0 0), (P1, .slice none 0 0), (w2.heap.size, .slice a7 m7 c7), (w2.heap.size + 1, .slice a8 m8 c8)] [(a8, c8, s1), (a7, c7, s0)] [(a0, c0, l0), (a1, c1, l1)] (W.alloc (.cells #[.slice none 0 0] 25))) := hide ((HE.out.box (.slice none 0 0) 25 rfl).sub (by simp) (by simp) (by simp))
      refine hK.out _ _ ⟨HE'.out.cell (b := w2.heap.size) (v := .slice a7 m7 c7) (by simp), HE'.out.cell (b := w2.heap.size + 1) (v := .slice a8 m8 c8) (by simp)⟩ (fun hS' => ?_)
      clear hS'
      refine wpAnyH_listed (listed := #[true, true, false, true, true, false, true, true, false, true, true, false, true, true, false, false, false, false, false, false]) (by kernel_rfl) ?_
      have hl1 := HE.out.lt (b := P1) (v := .slice none 0 0) (by simp)
      have hb7 := HE.out.lt (b := w2.heap.size) (v := .slice a7 m7 c7) (by simp)
      have hb8 := HE.out.lt (b := w2.heap.size + 1) (v := .slice a8 m8 c8) (by simp)
      have hsz := HE.out.below.size
      have HA' : Hid (([W.heap.size, P1, w2.heap.size, w2.heap.size + 1] : List Nat).Nodup ∧ ∀ b ∈ ([W.heap.size, P1, w2.heap.size, w2.heap.size + 1] : List Nat), w.heap.size ≤ b) := hide (by have := HA.out; simp at this ⊢; omega)
      clear hb7 hb8 hsz hl1
      try clear HE
      try clear HA
      generalize W.alloc (.cells #[.slice none 0 0] 25) = W' at HE' ⊢
      generalize W.heap.size = P0 at HE' HA' ⊢
      revert HE'; revert HA'; revert W'; revert P1; revert P0
      exact k0_01.out
    refine AllReadyH.cons (o := { dst := some 11, op := Op.alloc 25, type := 0, pos := "law.go:23", after := #[], guard := none }) rfl (fun K hK => ?_) ?_
    · go_simp
      have HE' : Hid (Env w [(P1, .slice none 0 0), (W.heap.size, .slice none 0 0), (w2.heap.size, .slice a7 m7 c7), (w2.heap.size + 1, .slice a8 m8 c8)] [(a8, c8, s1), (a7, c7, s0)] [(a0, c0, l0), (a1, c1, l1)] (W.alloc (.cells #[.slice none 0 0] 25))) := hide ((HE.out.box (.slice none 0 0) 25 rfl).sub (by simp) (by simp) (by simp))
      refine hK.out _ _ ⟨HE'.out.cell (b := w2.heap.size) (v := .slice a7 m7 c7) (by simp), HE'.out.cell (b := w2.heap.size + 1) (v := .slice a8 m8 c8) (by simp)⟩ (fun hS' => ?_)
      clear hS'
      refine wpAnyH_listed (listed := #[true, true, false, true, true, false, true, true, false, true, true, false, false, true, true, false, false, false, false, false]) (by kernel_rfl) ?_
      have hl1 := HE.out.lt (b := P1) (v := .slice none 0 0) (by simp)
      have hb7 := HE.out.lt (b := w2.heap.size) (v := .slice a7 m7 c7) (by simp)
      have hb8 := HE.out.lt (b := w2.heap.size + 1) (v := .slice a8 m8 c8) (by simp)
      have hsz := HE.out.below.size
      have HA' : Hid (([P1, W.heap.size, w2.heap.size, w2.heap.size + 1] : List Nat).Nodup ∧ ∀ b ∈ ([P1, W.heap.size, w2.heap.size, w2.heap.size + 1] : List Nat), w.heap.size ≤ b) := hide (by have := HA.out; simp at this ⊢; omega)
      clear hb7 hb8 hsz hl1
      try clear HE
      try clear HA
      generalize W.alloc (.cells #[.slice none 0 0] 25) = W' at HE' ⊢
      generalize W.heap.size = P2 at HE' HA' ⊢
      revert HE'; revert HA'; revert W'; revert P2; revert P1
      exact k0_12.out
    refine AllReadyH.cons (o := { dst := some 12, op := Op.alloc 25, type := 0, pos := "law.go:23", after := #[], guard := none }) rfl (fun K hK => ?_) ?_
    · go_simp
      have HE' : Hid (Env w [(P1, .slice none 0 0), (W.heap.size, .slice none 0 0), (w2.heap.size, .slice a7 m7 c7), (w2.heap.size + 1, .slice a8 m8 c8)] [(a8, c8, s1), (a7, c7, s0)] [(a0, c0, l0), (a1, c1, l1)] (W.alloc (.cells #[.slice none 0 0] 25))) := hide ((HE.out.box (.slice none 0 0) 25 rfl).sub (by simp) (by simp) (by simp))
      refine hK.out _ _ ⟨HE'.out.cell (b := w2.heap.size) (v := .slice a7 m7 c7) (by simp), HE'.out.cell (b := w2.heap.size + 1) (v := .slice a8 m8 c8) (by simp)⟩ (fun hS' => ?_)
      clear hS'
      refine wpAnyH_listed (listed := #[true, true, false, true, true, false, true, true, false, true, true, false, false, true, false, true, false, false, false, false]) (by kernel_rfl) ?_
      have hl1 := HE.out.lt (b := P1) (v := .slice none 0 0) (by simp)
      have hb7 := HE.out.lt (b := w2.heap.size) (v := .slice a7 m7 c7) (by simp)
      have hb8 := HE.out.lt (b := w2.heap.size + 1) (v := .slice a8 m8 c8) (by simp)
      have hsz := HE.out.below.size
      have HA' : Hid (([P1, W.heap.size, w2.heap.size, w2.heap.size + 1] : List Nat).Nodup ∧ ∀ b ∈ ([P1, W.heap.size, w2.heap.size, w2.heap.size + 1] : List Nat), w.heap.size ≤ b) := hide (by have := HA.out; simp at this ⊢; omega)
      clear hb7 hb8 hsz hl1
      try clear HE
      try clear HA
      generalize W.alloc (.cells #[.slice none 0 0] 25) = W' at HE' ⊢
      generalize W.heap.size = P3 at HE' HA' ⊢
      revert HE'; revert HA'; revert W'; revert P3; revert P1
      exact k0_13.out
    exact AllReadyH.nil
  · intro k1_2 k0_02 k0_12 k0_23
    intro P2 W HA HE
    refine wpAnyH_ready (rs := [2, 12, 13, 15]) (by kernel_rfl) (by simp) ?_
    refine AllReadyH.cons (o := { dst := some 28, op := Op.call { callee := Callee.value (Operand.func 10), args := #[Operand.tmp 26, Operand.tmp 27], argTypes := #[25, 25] }, type := 25, pos := "law.go:23", after := #[{ on := 0, ground := Ground.data }, { on := 1, ground := Ground.data }], guard := none }) rfl (fun K hK => ?_) ?_
    · have CC := hide (orD (a := a7) (c := c7) (n := m7) (s := s0) (a2 := a8) (c2 := c8) (n2 := m8) (t := s1) HE (by simp) (by simp) hm7 hm8 HU0 HUL0)
      go_simp
      go_at_call 10
      (with_reducible refine (Hid.out CC).mono ?_)
      rintro e W' ⟨r0, q0, M0, rfl, HM0, -, HE0⟩
      try go_wp2_with fail
      have HE' : Hid (Env w [(P2, .slice none 0 0), (w2.heap.size, .slice a7 m7 c7), (w2.heap.size + 1, .slice a8 m8 c8)] [(r0, q0, U0), (a8, c8, s1), (a7, c7, s0)] [(a0, c0, l0), (a1, c1, l1)] W') := hide (HE0.out.sub (by simp) (by simp) (by simp))
      refine hK.out _ _ ⟨HE'.out.cell (b := w2.heap.size) (v := .slice a7 m7 c7) (by simp), HE'.out.cell (b := w2.heap.size + 1) (v := .slice a8 m8 c8) (by simp)⟩ (fun hS' => ?_)
      clear hS'
      refine wpAnyH_listed (listed := #[true, true, true, true, true, false, true, true, false, true, true, false, false, false, true, false, false, false, false, false]) (by kernel_rfl) ?_
      have HA' := HA
      clear CC HE0
      try clear HE
      try clear HA
      revert HE'; revert HA'; revert HM0; revert W'; revert M0; revert q0; revert r0; revert P2
      exact k1_2.out
    refine AllReadyH.cons (o := { dst := some 9, op := Op.alloc 25, type := 0, pos := "law.go:23", after := #[], guard := none }) rfl (fun K hK => ?_) ?_
    · go_simp
      have HE' : Hid (Env w [(W.heap.size, .slice none 0 0), (P2, .slice none 0 0), (w2.heap.size, .slice a7 m7 c7), (w2.heap.size + 1, .slice a8 m8 c8)] [(a8, c8, s1), (a7, c7, s0)] [(a0, c0, l0), (a1, c1, l1)] (W.alloc (.cells #[.slice none 0 0] 25))) := hide ((HE.out.box (.slice none 0 0) 25 rfl).sub (by simp) (by simp) (by simp))
      refine hK.out _ _ ⟨HE'.out.cell (b := w2.heap.size) (v := .slice a7 m7 c7) (by simp), HE'.out.cell (b := w2.heap.size + 1) (v := .slice a8 m8 c8) (by simp)⟩ (fun hS' => ?_)
      clear hS'
      refine wpAnyH_listed (listed := #[true, true, false, true, true, false, true, true, false, true, true, false, true, false, true, false, false, false, false, false]) (by kernel_rfl) ?_
      have hl2 := HE.out.lt (b := P2) (v := .slice none 0 0) (by simp)
      have hb7 := HE.out.lt (b := w2.heap.size) (v := .slice a7 m7 c7) (by simp)
      have hb8 := HE.out.lt (b := w2.heap.size + 1) (v := .slice a8 m8 c8) (by simp)
      have hsz := HE.out.below.size
      have HA' : Hid (([W.heap.size, P2, w2.heap.size, w2.heap.size + 1] : List Nat).Nodup ∧ ∀ b ∈ ([W.heap.size, P2, w2.heap.size, w2.heap.size + 1] : List Nat), w.heap.size ≤ b) := hide (by have := HA.out; simp at this ⊢; omega)
      clear hb7 hb8 hsz hl2
      try clear HE
      try clear HA
      generalize W.alloc (.cells #[.slice none 0 0] 25) = W' at HE' ⊢
      generalize W.heap.size = P0 at HE' HA' ⊢
      revert HE'; revert HA'; revert W'; revert P2; revert P0
      exact k0_02.out
    refine AllReadyH.cons (o := { dst := some 10, op := Op.alloc 25, type := 0, pos := "law.go:23", after := #[], guard := none }) rfl (fun K hK => ?_) ?_
    · go_simp
      have HE' : Hid (Env w [(W.heap.size, .slice none 0 0), (P2, .slice none 0 0), (w2.heap.size, .slice a7 m7 c7), (w2.heap.size + 1, .slice a8 m8 c8)] [(a8, c8, s1), (a7, c7, s0)] [(a0, c0, l0), (a1, c1, l1)] (W.alloc (.cells #[.slice none 0 0] 25))) := hide ((HE.out.box (.slice none 0 0) 25 rfl).sub (by simp) (by simp) (by simp))
      refine hK.out _ _ ⟨HE'.out.cell (b := w2.heap.size) (v := .slice a7 m7 c7) (by simp), HE'.out.cell (b := w2.heap.size + 1) (v := .slice a8 m8 c8) (by simp)⟩ (fun hS' => ?_)
      clear hS'
      refine wpAnyH_listed (listed := #[true, true, false, true, true, false, true, true, false, true, true, false, false, true, true, false, false, false, false, false]) (by kernel_rfl) ?_
      have hl2 := HE.out.lt (b := P2) (v := .slice none 0 0) (by simp)
      have hb7 := HE.out.lt (b := w2.heap.size) (v := .slice a7 m7 c7) (by simp)
      have hb8 := HE.out.lt (b := w2.heap.size + 1) (v := .slice a8 m8 c8) (by simp)
      have hsz := HE.out.below.size
      have HA' : Hid (([W.heap.size, P2, w2.heap.size, w2.heap.size + 1] : List Nat).Nodup ∧ ∀ b ∈ ([W.heap.size, P2, w2.heap.size, w2.heap.size + 1] : List Nat), w.heap.size ≤ b) := hide (by have := HA.out; simp at this ⊢; omega)
      clear hb7 hb8 hsz hl2
      try clear HE
      try clear HA
      generalize W.alloc (.cells #[.slice none 0 0] 25) = W' at HE' ⊢
      generalize W.heap.size = P1 at HE' HA' ⊢
      revert HE'; revert HA'; revert W'; revert P2; revert P1
      exact k0_12.out
    refine AllReadyH.cons (o := { dst := some 12, op := Op.alloc 25, type := 0, pos := "law.go:23", after := #[], guard := none }) rfl (fun K hK => ?_) ?_
    · go_simp
      have HE' : Hid (Env w [(P2, .slice none 0 0), (W.heap.size, .slice none 0 0), (w2.heap.size, .slice a7 m7 c7), (w2.heap.size + 1, .slice a8 m8 c8)] [(a8, c8, s1), (a7, c7, s0)] [(a0, c0, l0), (a1, c1, l1)] (W.alloc (.cells #[.slice none 0 0] 25))) := hide ((HE.out.box (.slice none 0 0) 25 rfl).sub (by simp) (by simp) (by simp))
      refine hK.out _ _ ⟨HE'.out.cell (b := w2.heap.size) (v := .slice a7 m7 c7) (by simp), HE'.out.cell (b := w2.heap.size + 1) (v := .slice a8 m8 c8) (by simp)⟩ (fun hS' => ?_)
      clear hS'
      refine wpAnyH_listed (listed := #[true, true, false, true, true, false, true, true, false, true, true, false, false, false, true, true, false, false, false, false]) (by kernel_rfl) ?_
      have hl2 := HE.out.lt (b := P2) (v := .slice none 0 0) (by simp)
      have hb7 := HE.out.lt (b := w2.heap.size) (v := .slice a7 m7 c7) (by simp)
      have hb8 := HE.out.lt (b := w2.heap.size + 1) (v := .slice a8 m8 c8) (by simp)
      have hsz := HE.out.below.size
      have HA' : Hid (([P2, W.heap.size, w2.heap.size, w2.heap.size + 1] : List Nat).Nodup ∧ ∀ b ∈ ([P2, W.heap.size, w2.heap.size, w2.heap.size + 1] : List Nat), w.heap.size ≤ b) := hide (by have := HA.out; simp at this ⊢; omega)
      clear hb7 hb8 hsz hl2
      try clear HE
      try clear HA
      generalize W.alloc (.cells #[.slice none 0 0] 25) = W' at HE' ⊢
      generalize W.heap.size = P3 at HE' HA' ⊢
      revert HE'; revert HA'; revert W'; revert P3; revert P2
      exact k0_23.out
    exact AllReadyH.nil
  · intro k1_3 k0_03 k0_13 k0_23
    intro P3 W HA HE
    refine wpAnyH_ready (rs := [2, 12, 13, 14]) (by kernel_rfl) (by simp) ?_
    refine AllReadyH.cons (o := { dst := some 28, op := Op.call { callee := Callee.value (Operand.func 10), args := #[Operand.tmp 26, Operand.tmp 27], argTypes := #[25, 25] }, type := 25, pos := "law.go:23", after := #[{ on := 0, ground := Ground.data }, { on := 1, ground := Ground.data }], guard := none }) rfl (fun K hK => ?_) ?_
    · have CC := hide (orD (a := a7) (c := c7) (n := m7) (s := s0) (a2 := a8) (c2 := c8) (n2 := m8) (t := s1) HE (by simp) (by simp) hm7 hm8 HU0 HUL0)
      go_simp
      go_at_call 10
      (with_reducible refine (Hid.out CC).mono ?_)
      rintro e W' ⟨r0, q0, M0, rfl, HM0, -, HE0⟩
      try go_wp2_with fail
      have HE' : Hid (Env w [(P3, .slice none 0 0), (w2.heap.size, .slice a7 m7 c7), (w2.heap.size + 1, .slice a8 m8 c8)] [(r0, q0, U0), (a8, c8, s1), (a7, c7, s0)] [(a0, c0, l0), (a1, c1, l1)] W') := hide (HE0.out.sub (by simp) (by simp) (by simp))
      refine hK.out _ _ ⟨HE'.out.cell (b := w2.heap.size) (v := .slice a7 m7 c7) (by simp), HE'.out.cell (b := w2.heap.size + 1) (v := .slice a8 m8 c8) (by simp)⟩ (fun hS' => ?_)
      clear hS'
      refine wpAnyH_listed (listed := #[true, true, true, true, true, false, true, true, false, true, true, false, false, false, false, true, false, false, false, false]) (by kernel_rfl) ?_
      have HA' := HA
      clear CC HE0
      try clear HE
      try clear HA
      revert HE'; revert HA'; revert HM0; revert W'; revert M0; revert q0; revert r0; revert P3
      exact k1_3.out
    refine AllReadyH.cons (o := { dst := some 9, op := Op.alloc 25, type := 0, pos := "law.go:23", after := #[], guard := none }) rfl (fun K hK => ?_) ?_
    · go_simp
      have HE' : Hid (Env w [(W.heap.size, .slice none 0 0), (P3, .slice none 0 0), (w2.heap.size, .slice a7 m7 c7), (w2.heap.size + 1, .slice a8 m8 c8)] [(a8, c8, s1), (a7, c7, s0)] [(a0, c0, l0), (a1, c1, l1)] (W.alloc (.cells #[.slice none 0 0] 25))) := hide ((HE.out.box (.slice none 0 0) 25 rfl).sub (by simp) (by simp) (by simp))
      refine hK.out _ _ ⟨HE'.out.cell (b := w2.heap.size) (v := .slice a7 m7 c7) (by simp), HE'.out.cell (b := w2.heap.size + 1) (v := .slice a8 m8 c8) (by simp)⟩ (fun hS' => ?_)
      clear hS'
      refine wpAnyH_listed (listed := #[true, true, false, true, true, false, true, true, false, true, true, false, true, false, false, true, false, false, false, false]) (by kernel_rfl) ?_
      have hl3 := HE.out.lt (b := P3) (v := .slice none 0 0) (by simp)
      have hb7 := HE.out.lt (b := w2.heap.size) (v := .slice a7 m7 c7) (by simp)
      have hb8 := HE.out.lt (b := w2.heap.size + 1) (v := .slice a8 m8 c8) (by simp)
      have hsz := HE.out.below.size
      have HA' : Hid (([W.heap.size, P3, w2.heap.size, w2.heap.size + 1] : List Nat).Nodup ∧ ∀ b ∈ ([W.heap.size, P3, w2.heap.size, w2.heap.size + 1] : List Nat), w.heap.size ≤ b) := hide (by have := HA.out; simp at this ⊢; omega)
      clear hb7 hb8 hsz hl3
      try clear HE
      try clear HA
      generalize W.alloc (.cells #[.slice none 0 0] 25) = W' at HE' ⊢
      generalize W.heap.size = P0 at HE' HA' ⊢
      revert HE'; revert HA'; revert W'; revert P3; revert P0
      exact k0_03.out
    refine AllReadyH.cons (o := { dst := some 10, op := Op.alloc 25, type := 0, pos := "law.go:23", after := #[], guard := none }) rfl (fun K hK => ?_) ?_
    · go_simp
      have HE' : Hid (Env w [(W.heap.size, .slice none 0 0), (P3, .slice none 0 0), (w2.heap.size, .slice a7 m7 c7), (w2.heap.size + 1, .slice a8 m8 c8)] [(a8, c8, s1), (a7, c7, s0)] [(a0, c0, l0), (a1, c1, l1)] (W.alloc (.cells #[.slice none 0 0] 25))) := hide ((HE.out.box (.slice none 0 0) 25 rfl).sub (by simp) (by simp) (by simp))
      refine hK.out _ _ ⟨HE'.out.cell (b := w2.heap.size) (v := .slice a7 m7 c7) (by simp), HE'.out.cell (b := w2.heap.size + 1) (v := .slice a8 m8 c8) (by simp)⟩ (fun hS' => ?_)
      clear hS'
      refine wpAnyH_listed (listed := #[true, true, false, true, true, false, true, true, false, true, true, false, false, true, false, true, false, false, false, false]) (by kernel_rfl) ?_
      have hl3 := HE.out.lt (b := P3) (v := .slice none 0 0) (by simp)
      have hb7 := HE.out.lt (b := w2.heap.size) (v := .slice a7 m7 c7) (by simp)
      have hb8 := HE.out.lt (b := w2.heap.size + 1) (v := .slice a8 m8 c8) (by simp)
      have hsz := HE.out.below.size
      have HA' : Hid (([W.heap.size, P3, w2.heap.size, w2.heap.size + 1] : List Nat).Nodup ∧ ∀ b ∈ ([W.heap.size, P3, w2.heap.size, w2.heap.size + 1] : List Nat), w.heap.size ≤ b) := hide (by have := HA.out; simp at this ⊢; omega)
      clear hb7 hb8 hsz hl3
      try clear HE
      try clear HA
      generalize W.alloc (.cells #[.slice none 0 0] 25) = W' at HE' ⊢
      generalize W.heap.size = P1 at HE' HA' ⊢
      revert HE'; revert HA'; revert W'; revert P3; revert P1
      exact k0_13.out
    refine AllReadyH.cons (o := { dst := some 11, op := Op.alloc 25, type := 0, pos := "law.go:23", after := #[], guard := none }) rfl (fun K hK => ?_) ?_
    · go_simp
      have HE' : Hid (Env w [(W.heap.size, .slice none 0 0), (P3, .slice none 0 0), (w2.heap.size, .slice a7 m7 c7), (w2.heap.size + 1, .slice a8 m8 c8)] [(a8, c8, s1), (a7, c7, s0)] [(a0, c0, l0), (a1, c1, l1)] (W.alloc (.cells #[.slice none 0 0] 25))) := hide ((HE.out.box (.slice none 0 0) 25 rfl).sub (by simp) (by simp) (by simp))
      refine hK.out _ _ ⟨HE'.out.cell (b := w2.heap.size) (v := .slice a7 m7 c7) (by simp), HE'.out.cell (b := w2.heap.size + 1) (v := .slice a8 m8 c8) (by simp)⟩ (fun hS' => ?_)
      clear hS'
      refine wpAnyH_listed (listed := #[true, true, false, true, true, false, true, true, false, true, true, false, false, false, true, true, false, false, false, false]) (by kernel_rfl) ?_
      have hl3 := HE.out.lt (b := P3) (v := .slice none 0 0) (by simp)
      have hb7 := HE.out.lt (b := w2.heap.size) (v := .slice a7 m7 c7) (by simp)
      have hb8 := HE.out.lt (b := w2.heap.size + 1) (v := .slice a8 m8 c8) (by simp)
      have hsz := HE.out.below.size
      have HA' : Hid (([W.heap.size, P3, w2.heap.size, w2.heap.size + 1] : List Nat).Nodup ∧ ∀ b ∈ ([W.heap.size, P3, w2.heap.size, w2.heap.size + 1] : List Nat), w.heap.size ≤ b) := hide (by have := HA.out; simp at this ⊢; omega)
      clear hb7 hb8 hsz hl3
      try clear HE
      try clear HA
      generalize W.alloc (.cells #[.slice none 0 0] 25) = W' at HE' ⊢
      generalize W.heap.size = P2 at HE' HA' ⊢
      revert HE'; revert HA'; revert W'; revert P3; revert P2
      exact k0_23.out
    exact AllReadyH.nil
  · intro k2_ k1_0 k1_1 k1_2 k1_3
    intro r0 q0 M0 W HM0 HA HE
    refine wpAnyH_ready (rs := [5, 12, 13, 14, 15]) (by kernel_rfl) (by simp) ?_
    refine AllReadyH.cons (o := { dst := some 31, op := Op.call { callee := Callee.value (Operand.func 11), args := #[Operand.tmp 29, Operand.tmp 30], argTypes := #[25, 25] }, type := 25, pos := "law.go:23", after := #[{ on := 3, ground := Ground.data }, { on := 4, ground := Ground.data }, { on := 2, ground := Ground.chain }], guard := none }) rfl (fun K hK => ?_) ?_
    · have CC := hide (andD (a := a7) (c := c7) (n := m7) (s := s0) (a2 := a8) (c2 := c8) (n2 := m8) (t := s1) HE (by simp) (by simp) hm7 hm8 HU1)
      go_simp
      go_at_call 11
      (with_reducible refine (Hid.out CC).mono ?_)
      rintro e W' ⟨r1, q1, M1, rfl, HM1, -, HE0⟩
      try go_wp2_with fail
      have HE' : Hid (Env w [(w2.heap.size, .slice a7 m7 c7), (w2.heap.size + 1, .slice a8 m8 c8)] [(r0, q0, U0), (r1, q1, U1), (a8, c8, s1), (a7, c7, s0)] [(a0, c0, l0), (a1, c1, l1)] W') := hide (HE0.out.sub (by simp) (by simp) (by simp))
      refine hK.out _ _ ⟨HE'.out.cell (b := w2.heap.size) (v := .slice a7 m7 c7) (by simp), HE'.out.cell (b := w2.heap.size + 1) (v := .slice a8 m8 c8) (by simp)⟩ (fun hS' => ?_)
      clear hS'
      refine wpAnyH_listed (listed := #[true, true, true, true, true, true, true, true, false, true, true, false, false, false, false, false, false, false, false, false]) (by kernel_rfl) ?_
      have HA' := HA
      clear CC HE0
      try clear HE
      try clear HA
      revert HE'; revert HA'; revert HM1; revert HM0; revert W'; revert M1; revert q1; revert r1; revert M0; revert q0; revert r0
      exact k2_.out
    refine AllReadyH.cons (o := { dst := some 9, op := Op.alloc 25, type := 0, pos := "law.go:23", after := #[], guard := none }) rfl (fun K hK => ?_) ?_
    · go_simp
      have HE' : Hid (Env w [(W.heap.size, .slice none 0 0), (w2.heap.size, .slice a7 m7 c7), (w2.heap.size + 1, .slice a8 m8 c8)] [(r0, q0, U0), (a8, c8, s1), (a7, c7, s0)] [(a0, c0, l0), (a1, c1, l1)] (W.alloc (.cells #[.slice none 0 0] 25))) := hide ((HE.out.box (.slice none 0 0) 25 rfl).sub (by simp) (by simp) (by simp))
      refine hK.out _ _ ⟨HE'.out.cell (b := w2.heap.size) (v := .slice a7 m7 c7) (by simp), HE'.out.cell (b := w2.heap.size + 1) (v := .slice a8 m8 c8) (by simp)⟩ (fun hS' => ?_)
      clear hS'
      refine wpAnyH_listed (listed := #[true, true, true, true, true, false, true, true, false, true, true, false, true, false, false, false, false, false, false, false]) (by kernel_rfl) ?_
      have hb7 := HE.out.lt (b := w2.heap.size) (v := .slice a7 m7 c7) (by simp)
      have hb8 := HE.out.lt (b := w2.heap.size + 1) (v := .slice a8 m8 c8) (by simp)
      have hsz := HE.out.below.size
      have HA' : Hid (([W.heap.size, w2.heap.size, w2.heap.size + 1] : List Nat).Nodup ∧ ∀ b ∈ ([W.heap.size, w2.heap.size, w2.heap.size + 1] : List Nat), w.heap.size ≤ b) := hide (by have := HA.out; simp at this ⊢; omega)
      clear hb7 hb8 hsz
      try clear HE
      try clear HA
      generalize W.alloc (.cells #[.slice none 0 0] 25) = W' at HE' ⊢
      generalize W.heap.size = P0 at HE' HA' ⊢
      revert HE'; revert HA'; revert HM0; revert W'; revert M0; revert q0; revert r0; revert P0
      exact k1_0.out
    refine AllReadyH.cons (o := { dst := some 10, op := Op.alloc 25, type := 0, pos := "law.go:23", after := #[], guard := none }) rfl (fun K hK => ?_) ?_
    · go_simp
      have HE' : Hid (Env w [(W.heap.size, .slice none 0 0), (w2.heap.size, .slice a7 m7 c7), (w2.heap.size + 1, .slice a8 m8 c8)] [(r0, q0, U0), (a8, c8, s1), (a7, c7, s0)] [(a0, c0, l0), (a1, c1, l1)] (W.alloc (.cells #[.slice none 0 0] 25))) := hide ((HE.out.box (.slice none 0 0) 25 rfl).sub (by simp) (by simp) (by simp))
      refine hK.out _ _ ⟨HE'.out.cell (b := w2.heap.size) (v := .slice a7 m7 c7) (by simp), HE'.out.cell (b := w2.heap.size + 1) (v := .slice a8 m8 c8) (by simp)⟩ (fun hS' => ?_)
      clear hS'
      refine wpAnyH_listed (listed := #[true, true, true, true, true, false, true, true, false, true, true, false, false, true, false, false, false, false, false, false]) (by kernel_rfl) ?_
      have hb7 := HE.out.lt (b := w2.heap.size) (v := .slice a7 m7 c7) (by simp)
      have hb8 := HE.out.lt (b := w2.heap.size + 1) (v := .slice a8 m8 c8) (by simp)
      have hsz := HE.out.below.size
      have HA' : Hid (([W.heap.size, w2.heap.size, w2.heap.size + 1] : List Nat).Nodup ∧ ∀ b ∈ ([W.heap.size, w2.heap.size, w2.heap.size + 1] : List Nat), w.heap.size ≤ b) := hide (by have := HA.out; simp at this ⊢; omega)
      clear hb7 hb8 hsz
      try clear HE
      try clear HA
      generalize W.alloc (.cells #[.slice none 0 0] 25) = W' at HE' ⊢
      generalize W.heap.size = P1 at HE' HA' ⊢
      revert HE'; revert HA'; revert HM0; revert W'; revert M0; revert q0; revert r0; revert P1
      exact k1_1.out
    refine AllReadyH.cons (o := { dst := some 11, op := Op.alloc 25, type := 0, pos := "law.go:23", after := #[], guard := none }) rfl (fun K hK => ?_) ?_
    · go_simp
      have HE' : Hid (Env w [(W.heap.size, .slice none 0 0), (w2.heap.size, .slice a7 m7 c7), (w2.heap.size + 1, .slice a8 m8 c8)] [(r0, q0, U0), (a8, c8, s1), (a7, c7, s0)] [(a0, c0, l0), (a1, c1, l1)] (W.alloc (.cells #[.slice none 0 0] 25))) := hide ((HE.out.box (.slice none 0 0) 25 rfl).sub (by simp) (by simp) (by simp))
      refine hK.out _ _ ⟨HE'.out.cell (b := w2.heap.size) (v := .slice a7 m7 c7) (by simp), HE'.out.cell (b := w2.heap.size + 1) (v := .slice a8 m8 c8) (by simp)⟩ (fun hS' => ?_)
      clear hS'
      refine wpAnyH_listed (listed := #[true, true, true, true, true, false, true, true, false, true, true, false, false, false, true, false, false, false, false, false]) (by kernel_rfl) ?_
      have hb7 := HE.out.lt (b := w2.heap.size) (v := .slice a7 m7 c7) (by simp)
      have hb8 := HE.out.lt (b := w2.heap.size + 1) (v := .slice a8 m8 c8) (by simp)
      have hsz := HE.out.below.size
      have HA' : Hid (([W.heap.size, w2.heap.size, w2.heap.size + 1] : List Nat).Nodup ∧ ∀ b ∈ ([W.heap.size, w2.heap.size, w2.heap.size + 1] : List Nat), w.heap.size ≤ b) := hide (by have := HA.out; simp at this ⊢; omega)
      clear hb7 hb8 hsz
      try clear HE
      try clear HA
      generalize W.alloc (.cells #[.slice none 0 0] 25) = W' at HE' ⊢
      generalize W.heap.size = P2 at HE' HA' ⊢
      revert HE'; revert HA'; revert HM0; revert W'; revert M0; revert q0; revert r0; revert P2
      exact k1_2.out
    refine AllReadyH.cons (o := { dst := some 12, op := Op.alloc 25, type := 0, pos := "law.go:23", after := #[], guard := none }) rfl (fun K hK => ?_) ?_
    · go_simp
      have HE' : Hid (Env w [(W.heap.size, .slice none 0 0), (w2.heap.size, .slice a7 m7 c7), (w2.heap.size + 1, .slice a8 m8 c8)] [(r0, q0, U0), (a8, c8, s1), (a7, c7, s0)] [(a0, c0, l0), (a1, c1, l1)] (W.alloc (.cells #[.slice none 0 0] 25))) := hide ((HE.out.box (.slice none 0 0) 25 rfl).sub (by simp) (by simp) (by simp))
      refine hK.out _ _ ⟨HE'.out.cell (b := w2.heap.size) (v := .slice a7 m7 c7) (by simp), HE'.out.cell (b := w2.heap.size + 1) (v := .slice a8 m8 c8) (by simp)⟩ (fun hS' => ?_)
      clear hS'
      refine wpAnyH_listed (listed := #[true, true, true, true, true, false, true, true, false, true, true, false, false, false, false, true, false, false, false, false]) (by kernel_rfl) ?_
      have hb7 := HE.out.lt (b := w2.heap.size) (v := .slice a7 m7 c7) (by simp)
      have hb8 := HE.out.lt (b := w2.heap.size + 1) (v := .slice a8 m8 c8) (by simp)
      have hsz := HE.out.below.size
      have HA' : Hid (([W.heap.size, w2.heap.size, w2.heap.size + 1] : List Nat).Nodup ∧ ∀ b ∈ ([W.heap.size, w2.heap.size, w2.heap.size + 1] : List Nat), w.heap.size ≤ b) := hide (by have := HA.out; simp at this ⊢; omega)
      clear hb7 hb8 hsz
      try clear HE
      try clear HA
      generalize W.alloc (.cells #[.slice none 0 0] 25) = W' at HE' ⊢
      generalize W.heap.size = P3 at HE' HA' ⊢
      revert HE'; revert HA'; revert HM0; revert W'; revert M0; revert q0; revert r0; revert P3
      exact k1_3.out
    exact AllReadyH.nil
  · intro k1_01 k0_012 k0_013
    intro P0 P1 W HA HE
    refine wpAnyH_ready (rs := [2, 14, 15]) (by kernel_rfl) (by simp) ?_
    refine AllReadyH.cons (o := { dst := some 28, op := Op.call { callee := Callee.value (Operand.func 10), args := #[Operand.tmp 26, Operand.tmp 27], argTypes := #[25, 25] }, type := 25, pos := "law.go:23", after := #[{ on := 0, ground := Ground.data }, { on := 1, ground := Ground.data }], guard := none }) rfl (fun K hK => ?_) ?_
    · have CC := hide (orD (a := a7) (c := c7) (n := m7) (s := s0) (a2 := a8) (c2 := c8) (n2 := m8) (t := s1) HE (by simp) (by simp) hm7 hm8 HU0 HUL0)
      go_simp
      go_at_call 10
      (with_reducible refine (Hid.out CC).mono ?_)
      rintro e W' ⟨r0, q0, M0, rfl, HM0, -, HE0⟩
      try go_wp2_with fail
      have HE' : Hid (Env w [(P0, .slice none 0 0), (P1, .slice none 0 0), (w2.heap.size, .slice a7 m7 c7), (w2.heap.size + 1, .slice a8 m8 c8)] [(r0, q0, U0), (a8, c8, s1), (a7, c7, s0)] [(a0, c0, l0), (a1, c1, l1)] W') := hide (HE0.out.sub (by simp) (by simp) (by simp))
      refine hK.out _ _ ⟨HE'.out.cell (b := w2.heap.size) (v := .slice a7 m7 c7) (by simp), HE'.out.cell (b := w2.heap.size + 1) (v := .slice a8 m8 c8) (by simp)⟩ (fun hS' => ?_)
      clear hS'
      refine wpAnyH_listed (listed := #[true, true, true, true, true, false, true, true, false, true, true, false, true, true, false, false, false, false, false, false]) (by kernel_rfl) ?_
      have HA' := HA
      clear CC HE0
      try clear HE
      try clear HA
      revert HE'; revert HA'; revert HM0; revert W'; revert M0; revert q0; revert r0; revert P1; revert P0
      exact k1_01.out
    refine AllReadyH.cons (o := { dst := some 11, op := Op.alloc 25, type := 0, pos := "law.go:23", after := #[], guard := none }) rfl (fun K hK => ?_) ?_
    · go_simp
      have HE' : Hid (Env w [(P0, .slice none 0 0), (P1, .slice none 0 0), (W.heap.size, .slice none 0 0), (w2.heap.size, .slice a7 m7 c7), (w2.heap.size + 1, .slice a8 m8 c8)] [(a8, c8, s1), (a7, c7, s0)] [(a0, c0, l0), (a1, c1, l1)] (W.alloc (.cells #[.slice none 0 0] 25))) := hide ((HE.out.box (.slice none 0 0) 25 rfl).sub (by simp) (by simp) (by simp))
      refine hK.out _ _ ⟨HE'.out.cell (b := w2.heap.size) (v := .slice a7 m7 c7) (by simp), HE'.out.cell (b := w2.heap.size + 1) (v := .slice a8 m8 c8) (by simp)⟩ (fun hS' => ?_)
      clear hS'
      refine wpAnyH_listed (listed := #[true, true, false, true, true, false, true, true, false, true, true, false, true, true, true, false, false, false, false, false]) (by kernel_rfl) ?_
      have hl0 := HE.out.lt (b := P0) (v := .slice none 0 0) (by simp)
      have hl1 := HE.out.lt (b := P1) (v := .slice none 0 0) (by simp)
      have hb7 := HE.out.lt (b := w2.heap.size) (v := .slice a7 m7 c7) (by simp)
      have hb8 := HE.out.lt (b := w2.heap.size + 1) (v := .slice a8 m8 c8) (by simp)
      have hsz := HE.out.below.size
      have HA' : Hid (([P0, P1, W.heap.size, w2.heap.size, w2.heap.size + 1] : List Nat).Nodup ∧ ∀ b ∈ ([P0, P1, W.heap.size, w2.heap.size, w2.heap.size + 1] : List Nat), w.heap.size ≤ b) := hide (by have := HA.out; simp at this ⊢; omega)
      clear hb7 hb8 hsz hl0 hl1
      try clear HE
      try clear HA
      generalize W.alloc (.cells #[.slice none 0 0] 25) = W' at HE' ⊢
      generalize W.heap.size = P2 at HE' HA' ⊢
      revert HE'; revert HA'; revert W'; revert P2; revert P1; revert P0
      exact k0_012.out
    refine AllReadyH.cons (o := { dst := some 12, op := Op.alloc 25, type := 0, pos := "law.go:23", after := #[], guard := none }) rfl (fun K hK => ?_) ?_
    · go_simp
      have HE' : Hid (Env w [(P0, .slice none 0 0), (P1, .slice none 0 0), (W.heap.size, .slice none 0 0), (w2.heap.size, .slice a7 m7 c7), (w2.heap.size + 1, .slice a8 m8 c8)] [(a8, c8, s1), (a7, c7, s0)] [(a0, c0, l0), (a1, c1, l1)] (W.alloc (.cells #[.slice none 0 0] 25))) := hide ((HE.out.box (.slice none 0 0) 25 rfl).sub (by simp) (by simp) (by simp))
      refine hK.out _ _ ⟨HE'.out.cell (b := w2.heap.size) (v := .slice a7 m7 c7) (by simp), HE'.out.cell (b := w2.heap.size + 1) (v := .slice a8 m8 c8) (by simp)⟩ (fun hS' => ?_)
      clear hS'
      refine wpAnyH_listed (listed := #[true, true, false, true, true, false, true, true, false, true, true, false, true, true, false, true, false, false, false, false]) (by kernel_rfl) ?_
      have hl0 := HE.out.lt (b := P0) (v := .slice none 0 0) (by simp)
      have hl1 := HE.out.lt (b := P1) (v := .slice none 0 0) (by simp)
      have hb7 := HE.out.lt (b := w2.heap.size) (v := .slice a7 m7 c7) (by simp)
      have hb8 := HE.out.lt (b := w2.heap.size + 1) (v := .slice a8 m8 c8) (by simp)
      have hsz := HE.out.below.size
      have HA' : Hid (([P0, P1, W.heap.size, w2.heap.size, w2.heap.size + 1] : List Nat).Nodup ∧ ∀ b ∈ ([P0, P1, W.heap.size, w2.heap.size, w2.heap.size + 1] : List Nat), w.heap.size ≤ b) := hide (by have := HA.out; simp at this ⊢; omega)
      clear hb7 hb8 hsz hl0 hl1
      try clear HE
      try clear HA
      generalize W.alloc (.cells #[.slice none 0 0] 25) = W' at HE' ⊢
      generalize W.heap.size = P3 at HE' HA' ⊢
      revert HE'; revert HA'; revert W'; revert P3; revert P1; revert P0
      exact k0_013.out
    exact AllReadyH.nil
  · intro k1_02 k0_012 k0_023
    intro P0 P2 W HA HE
    refine wpAnyH_ready (rs := [2, 13, 15]) (by kernel_rfl) (by simp) ?_
    refine AllReadyH.cons (o := { dst := some 28, op := Op.call { callee := Callee.value (Operand.func 10), args := #[Operand.tmp 26, Operand.tmp 27], argTypes := #[25, 25] }, type := 25, pos := "law.go:23", after := #[{ on := 0, ground := Ground.data }, { on := 1, ground := Ground.data }], guard := none }) rfl (fun K hK => ?_) ?_
    · have CC := hide (orD (a := a7) (c := c7) (n := m7) (s := s0) (a2 := a8) (c2 := c8) (n2 := m8) (t := s1) HE (by simp) (by simp) hm7 hm8 HU0 HUL0)
      go_simp
      go_at_call 10
      (with_reducible refine (Hid.out CC).mono ?_)
      rintro e W' ⟨r0, q0, M0, rfl, HM0, -, HE0⟩
      try go_wp2_with fail
      have HE' : Hid (Env w [(P0, .slice none 0 0), (P2, .slice none 0 0), (w2.heap.size, .slice a7 m7 c7), (w2.heap.size + 1, .slice a8 m8 c8)] [(r0, q0, U0), (a8, c8, s1), (a7, c7, s0)] [(a0, c0, l0), (a1, c1, l1)] W') := hide (HE0.out.sub (by simp) (by simp) (by simp))
      refine hK.out _ _ ⟨HE'.out.cell (b := w2.heap.size) (v := .slice a7 m7 c7) (by simp), HE'.out.cell (b := w2.heap.size + 1) (v := .slice a8 m8 c8) (by simp)⟩ (fun hS' => ?_)
      clear hS'
      refine wpAnyH_listed (listed := #[true, true, true, true, true, false, true, true, false, true, true, false, true, false, true, false, false, false, false, false]) (by kernel_rfl) ?_
      have HA' := HA
      clear CC HE0
      try clear HE
      try clear HA
      revert HE'; revert HA'; revert HM0; revert W'; revert M0; revert q0; revert r0; revert P2; revert P0
      exact k1_02.out
    refine AllReadyH.cons (o := { dst := some 10, op := Op.alloc 25, type := 0, pos := "law.go:23", after := #[], guard := none }) rfl (fun K hK => ?_) ?_
    · go_simp
      have HE' : Hid (Env w [(P0, .slice none 0 0), (W.heap.size, .slice none 0 0), (P2, .slice none 0 0), (w2.heap.size, .slice a7 m7 c7), (w2.heap.size + 1, .slice a8 m8 c8)] [(a8, c8, s1), (a7, c7, s0)] [(a0, c0, l0), (a1, c1, l1)] (W.alloc (.cells #[.slice none 0 0] 25))) := hide ((HE.out.box (.slice none 0 0) 25 rfl).sub (by simp) (by simp) (by simp))
      refine hK.out _ _ ⟨HE'.out.cell (b := w2.heap.size) (v := .slice a7 m7 c7) (by simp), HE'.out.cell (b := w2.heap.size + 1) (v := .slice a8 m8 c8) (by simp)⟩ (fun hS' => ?_)
      clear hS'
      refine wpAnyH_listed (listed := #[true, true, false, true, true, false, true, true, false, true, true, false, true, true, true, false, false, false, false, false]) (by kernel_rfl) ?_
      have hl0 := HE.out.lt (b := P0) (v := .slice none 0 0) (by simp)
      have hl2 := HE.out.lt (b := P2) (v := .slice none 0 0) (by simp)
      have hb7 := HE.out.lt (b := w2.heap.size) (v := .slice a7 m7 c7) (by simp)
      have hb8 := HE.out.lt (b := w2.heap.size + 1) (v := .slice a8 m8 c8) (by simp)
      have hsz := HE.out.below.size
      have HA' : Hid (([P0, W.heap.size, P2, w2.heap.size, w2.heap.size + 1] : List Nat).Nodup ∧ ∀ b ∈ ([P0, W.heap.size, P2, w2.heap.size, w2.heap.size + 1] : List Nat), w.heap.size ≤ b) := hide (by have := HA.out; simp at this ⊢; omega)
      clear hb7 hb8 hsz hl0 hl2
      try clear HE
      try clear HA
      generalize W.alloc (.cells #[.slice none 0 0] 25) = W' at HE' ⊢
      generalize W.heap.size = P1 at HE' HA' ⊢
      revert HE'; revert HA'; revert W'; revert P2; revert P1; revert P0
      exact k0_012.out
    refine AllReadyH.cons (o := { dst := some 12, op := Op.alloc 25, type := 0, pos := "law.go:23", after := #[], guard := none }) rfl (fun K hK => ?_) ?_
    · go_simp
      have HE' : Hid (Env w [(P0, .slice none 0 0), (P2, .slice none 0 0), (W.heap.size, .slice none 0 0), (w2.heap.size, .slice a7 m7 c7), (w2.heap.size + 1, .slice a8 m8 c8)] [(a8, c8, s1), (a7, c7, s0)] [(a0, c0, l0), (a1, c1, l1)] (W.alloc (.cells #[.slice none 0 0] 25))) := hide ((HE.out.box (.slice none 0 0) 25 rfl).sub (by simp) (by simp) (by simp))
      refine hK.out _ _ ⟨HE'.out.cell (b := w2.heap.size) (v := .slice a7 m7 c7) (by simp), HE'.out.cell (b := w2.heap.size + 1) (v := .slice a8 m8 c8) (by simp)⟩ (fun hS' => ?_)
      clear hS'
      refine wpAnyH_listed (listed := #[true, true, false, true, true, false, true, true, false, true, true, false, true, false, true, true, false, false, false, false]) (by kernel_rfl) ?_
      have hl0 := HE.out.lt (b := P0) (v := .slice none 0 0) (by simp)
      have hl2 := HE.out.lt (b := P2) (v := .slice none 0 0) (by simp)
      have hb7 := HE.out.lt (b := w2.heap.size) (v := .slice a7 m7 c7) (by simp)
      have hb8 := HE.out.lt (b := w2.heap.size + 1) (v := .slice a8 m8 c8) (by simp)
      have hsz := HE.out.below.size
      have HA' : Hid (([P0, P2, W.heap.size, w2.heap.size, w2.heap.size + 1] : List Nat).Nodup ∧ ∀ b ∈ ([P0, P2, W.heap.size, w2.heap.size, w2.heap.size + 1] : List Nat), w.heap.size ≤ b) := hide (by have := HA.out; simp at this ⊢; omega)
      clear hb7 hb8 hsz hl0 hl2
      try clear HE
      try clear HA
      generalize W.alloc (.cells #[.slice none 0 0] 25) = W' at HE' ⊢
      generalize W.heap.size = P3 at HE' HA' ⊢
      revert HE'; revert HA'; revert W'; revert P3; revert P2; revert P0
      exact k0_023.out
    exact AllReadyH.nil
  · intro k1_03 k0_013 k0_023
    intro P0 P3 W HA HE
    refine wpAnyH_ready (rs := [2, 13, 14]) (by kernel_rfl) (by simp) ?_
    refine AllReadyH.cons (o := { dst := some 28, op := Op.call { callee := Callee.value (Operand.func 10), args := #[Operand.tmp 26, Operand.tmp 27], argTypes := #[25, 25] }, type := 25, pos := "law.go:23", after := #[{ on := 0, ground := Ground.data }, { on := 1, ground := Ground.data }], guard := none }) rfl (fun K hK => ?_) ?_
    · have CC := hide (orD (a := a7) (c := c7) (n := m7) (s := s0) (a2 := a8) (c2 := c8) (n2 := m8) (t := s1) HE (by simp) (by simp) hm7 hm8 HU0 HUL0)
      go_simp
      go_at_call 10
      (with_reducible refine (Hid.out CC).mono ?_)
      rintro e W' ⟨r0, q0, M0, rfl, HM0, -, HE0⟩
      try go_wp2_with fail
      have HE' : Hid (Env w [(P0, .slice none 0 0), (P3, .slice none 0 0), (w2.heap.size, .slice a7 m7 c7), (w2.heap.size + 1, .slice a8 m8 c8)] [(r0, q0, U0), (a8, c8, s1), (a7, c7, s0)] [(a0, c0, l0), (a1, c1, l1)] W') := hide (HE0.out.sub (by simp) (by simp) (by simp))
      refine hK.out _ _ ⟨HE'.out.cell (b := w2.heap.size) (v := .slice a7 m7 c7) (by simp), HE'.out.cell (b := w2.heap.size + 1) (v := .slice a8 m8 c8) (by simp)⟩ (fun hS' => ?_)
      clear hS'
      refine wpAnyH_listed (listed := #[true, true, true, true, true, false, true, true, false, true, true, false, true, false, false, true, false, false, false, false]) (by kernel_rfl) ?_
      have HA' := HA
      clear CC HE0
      try clear HE
      try clear HA
      revert HE'; revert HA'; revert HM0; revert W'; revert M0; revert q0; revert r0; revert P3; revert P0
      exact k1_03.out
    refine AllReadyH.cons (o := { dst := some 10, op := Op.alloc 25, type := 0, pos := "law.go:23", after := #[], guard := none }) rfl (fun K hK => ?_) ?_
    · go_simp
      have HE' : Hid (Env w [(P0, .slice none 0 0), (W.heap.size, .slice none 0 0), (P3, .slice none 0 0), (w2.heap.size, .slice a7 m7 c7), (w2.heap.size + 1, .slice a8 m8 c8)] [(a8, c8, s1), (a7, c7, s0)] [(a0, c0, l0), (a1, c1, l1)] (W.alloc (.cells #[.slice none 0 0] 25))) := hide ((HE.out.box (.slice none 0 0) 25 rfl).sub (by simp) (by simp) (by simp))
      refine hK.out _ _ ⟨HE'.out.cell (b := w2.heap.size) (v := .slice a7 m7 c7) (by simp), HE'.out.cell (b := w2.heap.size + 1) (v := .slice a8 m8 c8) (by simp)⟩ (fun hS' => ?_)
      clear hS'
      refine wpAnyH_listed (listed := #[true, true, false, true, true, false, true, true, false, true, true, false, true, true, false, true, false, false, false, false]) (by kernel_rfl) ?_
      have hl0 := HE.out.lt (b := P0) (v := .slice none 0 0) (by simp)
      have hl3 := HE.out.lt (b := P3) (v := .slice none 0 0) (by simp)
      have hb7 := HE.out.lt (b := w2.heap.size) (v := .slice a7 m7 c7) (by simp)
      have hb8 := HE.out.lt (b := w2.heap.size + 1) (v := .slice a8 m8 c8) (by simp)
      have hsz := HE.out.below.size
      have HA' : Hid (([P0, W.heap.size, P3, w2.heap.size, w2.heap.size + 1] : List Nat).Nodup ∧ ∀ b ∈ ([P0, W.heap.size, P3, w2.heap.size, w2.heap.size + 1] : List Nat), w.heap.size ≤ b) := hide (by have := HA.out; simp at this ⊢; omega)
      clear hb7 hb8 hsz hl0 hl3
      try clear HE
      try clear HA
      generalize W.alloc (.cells #[.slice none 0 0] 25) = W' at HE' ⊢
      generalize W.heap.size = P1 at HE' HA' ⊢
      revert HE'; revert HA'; revert W'; revert P3; revert P1; revert P0
      exact k0_013.out
    refine AllReadyH.cons (o := { dst := some 11, op := Op.alloc 25, type := 0, pos := "law.go:23", after := #[], guard := none }) rfl (fun K hK => ?_) ?_
    · go_simp
      have HE' : Hid (Env w [(P0, .slice none 0 0), (W.heap.size, .slice none 0 0), (P3, .slice none 0 0), (w2.heap.size, .slice a7 m7 c7), (w2.heap.size + 1, .slice a8 m8 c8)] [(a8, c8, s1), (a7, c7, s0)] [(a0, c0, l0), (a1, c1, l1)] (W.alloc (.cells #[.slice none 0 0] 25))) := hide ((HE.out.box (.slice none 0 0) 25 rfl).sub (by simp) (by simp) (by simp))
      refine hK.out _ _ ⟨HE'.out.cell (b := w2.heap.size) (v := .slice a7 m7 c7) (by simp), HE'.out.cell (b := w2.heap.size + 1) (v := .slice a8 m8 c8) (by simp)⟩ (fun hS' => ?_)
      clear hS'
      refine wpAnyH_listed (listed := #[true, true, false, true, true, false, true, true, false, true, true, false, true, false, true, true, false, false, false, false]) (by kernel_rfl) ?_
      have hl0 := HE.out.lt (b := P0) (v := .slice none 0 0) (by simp)
      have hl3 := HE.out.lt (b := P3) (v := .slice none 0 0) (by simp)
      have hb7 := HE.out.lt (b := w2.heap.size) (v := .slice a7 m7 c7) (by simp)
      have hb8 := HE.out.lt (b := w2.heap.size + 1) (v := .slice a8 m8 c8) (by simp)
      have hsz := HE.out.below.size
      have HA' : Hid (([P0, W.heap.size, P3, w2.heap.size, w2.heap.size + 1] : List Nat).Nodup ∧ ∀ b ∈ ([P0, W.heap.size, P3, w2.heap.size, w2.heap.size + 1] : List Nat), w.heap.size ≤ b) := hide (by have := HA.out; simp at this ⊢; omega)
      clear hb7 hb8 hsz hl0 hl3
      try clear HE
      try clear HA
      generalize W.alloc (.cells #[.slice none 0 0] 25) = W' at HE' ⊢
      generalize W.heap.size = P2 at HE' HA' ⊢
      revert HE'; revert HA'; revert W'; revert P3; revert P2; revert P0
      exact k0_023.out
    exact AllReadyH.nil
  · intro k1_12 k0_012 k0_123
    intro P1 P2 W HA HE
    refine wpAnyH_ready (rs := [2, 12, 15]) (by kernel_rfl) (by simp) ?_
    refine AllReadyH.cons (o := { dst := some 28, op := Op.call { callee := Callee.value (Operand.func 10), args := #[Operand.tmp 26, Operand.tmp 27], argTypes := #[25, 25] }, type := 25, pos := "law.go:23", after := #[{ on := 0, ground := Ground.data }, { on := 1, ground := Ground.data }], guard := none }) rfl (fun K hK => ?_) ?_
    · have CC := hide (orD (a := a7) (c := c7) (n := m7) (s := s0) (a2 := a8) (c2 := c8) (n2 := m8) (t := s1) HE (by simp) (by simp) hm7 hm8 HU0 HUL0)
      go_simp
      go_at_call 10
      (with_reducible refine (Hid.out CC).mono ?_)
      rintro e W' ⟨r0, q0, M0, rfl, HM0, -, HE0⟩
      try go_wp2_with fail
      have HE' : Hid (Env w [(P1, .slice none 0 0), (P2, .slice none 0 0), (w2.heap.size, .slice a7 m7 c7), (w2.heap.size + 1, .slice a8 m8 c8)] [(r0, q0, U0), (a8, c8, s1), (a7, c7, s0)] [(a0, c0, l0), (a1, c1, l1)] W') := hide (HE0.out.sub (by simp) (by simp) (by simp))
      refine hK.out _ _ ⟨HE'.out.cell (b := w2.heap.size) (v := .slice a7 m7 c7) (by simp), HE'.out.cell (b := w2.heap.size + 1) (v := .slice a8 m8 c8) (by simp)⟩ (fun hS' => ?_)
      clear hS'
      refine wpAnyH_listed (listed := #[true, true, true, true, true, false, true, true, false, true, true, false, false, true, true, false, false, false, false, false]) (by kernel_rfl) ?_
      have HA' := HA
      clear CC HE0
      try clear HE
      try clear HA
      revert HE'; revert HA'; revert HM0; revert W'; revert M0; revert q0; revert r0; revert P2; revert P1
      exact k1_12.out
    refine AllReadyH.cons (o := { dst := some 9, op := Op.alloc 25, type := 0, pos := "law.go:23", after := #[], guard := none }) rfl (fun K hK => ?_) ?_
    · go_simp
      have HE' : Hid (Env w [(W.heap.size, .slice none 0 0), (P1, .slice none 0 0), (P2, .slice none 0 0), (w2.heap.size, .slice a7 m7 c7), (w2.heap.size + 1, .slice a8 m8 c8)] [(a8, c8, s1), (a7, c7, s0)] [(a0, c0, l0), (a1, c1, l1)] (W.alloc (.cells #[.slice none 0 0] 25))) := hide ((HE.out.box (.slice none 0 0) 25 rfl).sub (by simp) (by simp) (by simp))
      refine hK.out _ _ ⟨HE'.out.cell (b := w2.heap.size) (v := .slice a7 m7 c7) (by simp), HE'.out.cell (b := w2.heap.size + 1) (v := .slice a8 m8 c8) (by simp)⟩ (fun hS' => ?_)
      clear hS'
      refine wpAnyH_listed (listed := #[true, true, false, true, true, false, true, true, false, true, true, false, true, true, true, false, false, false, false, false]) (by kernel_rfl) ?_
      have hl1 := HE.out.lt (b := P1) (v := .slice none 0 0) (by simp)
      have hl2 := HE.out.lt (b := P2) (v := .slice none 0 0) (by simp)
      have hb7 := HE.out.lt (b := w2.heap.size) (v := .slice a7 m7 c7) (by simp)
      have hb8 := HE.out.lt (b := w2.heap.size + 1) (v := .slice a8 m8 c8) (by simp)
      have hsz := HE.out.below.size
      have HA' : Hid (([W.heap.size, P1, P2, w2.heap.size, w2.heap.size + 1] : List Nat).Nodup ∧ ∀ b ∈ ([W.heap.size, P1, P2, w2.heap.size, w2.heap.size + 1] : List Nat), w.heap.size ≤ b) := hide (by have := HA.out; simp at this ⊢; omega)
      clear hb7 hb8 hsz hl1 hl2
      try clear HE
      try clear HA
      generalize W.alloc (.cells #[.slice none 0 0] 25) = W' at HE' ⊢
      generalize W.heap.size = P0 at HE' HA' ⊢
      revert HE'; revert HA'; revert W'; revert P2; revert P1; revert P0
      exact k0_012.out
    refine AllReadyH.cons (o := { dst := some 12, op := Op.alloc 25, type := 0, pos := "law.go:23", after := #[], guard := none }) rfl (fun K hK => ?_) ?_
    · go_simp
      have HE' : Hid (Env w [(P1, .slice none 0 0), (P2, .slice none 0 0), (W.heap.size, .slice none 0 0), (w2.heap.size, .slice a7 m7 c7), (w2.heap.size + 1, .slice a8 m8 c8)] [(a8, c8, s1), (a7, c7, s0)] [(a0, c0, l0), (a1, c1, l1)] (W.alloc (.cells #[.slice none 0 0] 25))) := hide ((HE.out.box (.slice none 0 0) 25 rfl).sub (by simp) (by simp) (by simp))
      refine hK.out _ _ ⟨HE'.out.cell (b := w2.heap.size) (v := .slice a7 m7 c7) (by simp), HE'.out.cell (b := w2.heap.size + 1) (v := .slice a8 m8 c8) (by simp)⟩ (fun hS' => ?_)
      clear hS'
      refine wpAnyH_listed (listed := #[true, true, false, true, true, false, true, true, false, true, true, false, false, true, true, true, false, false, false, false]) (by kernel_rfl) ?_
      have hl1 := HE.out.lt (b := P1) (v := .slice none 0 0) (by simp)
      have hl2 := HE.out.lt (b := P2) (v := .slice none 0 0) (by simp)
      have hb7 := HE.out.lt (b := w2.heap.size) (v := .slice a7 m7 c7) (by simp)
      have hb8 := HE.out.lt (b := w2.heap.size + 1) (v := .slice a8 m8 c8) (by simp)
      have hsz := HE.out.below.size
      have HA' : Hid (([P1, P2, W.heap.size, w2.heap.size, w2.heap.size + 1] : List Nat).Nodup ∧ ∀ b ∈ ([P1, P2, W.heap.size, w2.heap.size, w2.heap.size + 1] : List Nat), w.heap.size ≤ b) := hide (by have := HA.out; simp at this ⊢; omega)
      clear hb7 hb8 hsz hl1 hl2
      try clear HE
      try clear HA
      generalize W.alloc (.cells #[.slice none 0 0] 25) = W' at HE' ⊢
      generalize W.heap.size = P3 at HE' HA' ⊢
      revert HE'; revert HA'; revert W'; revert P3; revert P2; revert P1
      exact k0_123.out
    exact AllReadyH.nil
  · intro k1_13 k0_013 k0_123
    intro P1 P3 W HA HE
    refine wpAnyH_ready (rs := [2, 12, 14]) (by kernel_rfl) (by simp) ?_
    refine AllReadyH.cons (o := { dst := some 28, op := Op.call { callee := Callee.value (Operand.func 10), args := #[Operand.tmp 26, Operand.tmp 27], argTypes := #[25, 25] }, type := 25, pos := "law.go:23", after := #[{ on := 0, ground := Ground.data }, { on := 1, ground := Ground.data }], guard := none }) rfl (fun K hK => ?_) ?_
    · have CC := hide (orD (a := a7) (c := c7) (n := m7) (s := s0) (a2 := a8) (c2 := c8) (n2 := m8) (t := s1) HE (by simp) (by simp) hm7 hm8 HU0 HUL0)
      go_simp
      go_at_call 10
      (with_reducible refine (Hid.out CC).mono ?_)
      rintro e W' ⟨r0, q0, M0, rfl, HM0, -, HE0⟩
      try go_wp2_with fail
      have HE' : Hid (Env w [(P1, .slice none 0 0), (P3, .slice none 0 0), (w2.heap.size, .slice a7 m7 c7), (w2.heap.size + 1, .slice a8 m8 c8)] [(r0, q0, U0), (a8, c8, s1), (a7, c7, s0)] [(a0, c0, l0), (a1, c1, l1)] W') := hide (HE0.out.sub (by simp) (by simp) (by simp))
      refine hK.out _ _ ⟨HE'.out.cell (b := w2.heap.size) (v := .slice a7 m7 c7) (by simp), HE'.out.cell (b := w2.heap.size + 1) (v := .slice a8 m8 c8) (by simp)⟩ (fun hS' => ?_)
      clear hS'
      refine wpAnyH_listed (listed := #[true, true, true, true, true, false, true, true, false, true, true, false, false, true, false, true, false, false, false, false]) (by kernel_rfl) ?_
      have HA' := HA
      clear CC HE0
      try clear HE
      try clear HA
      revert HE'; revert HA'; revert HM0; revert W'; revert M0; revert q0; revert r0; revert P3; revert P1
      exact k1_13.out
    refine AllReadyH.cons (o := { dst := some 9, op := Op.alloc 25, type := 0, pos := "law.go:23", after := #[], guard := none }) rfl (fun K hK => ?_) ?_
    · go_simp
      have HE' : Hid (Env w [(W.heap.size, .slice none 0 0), (P1, .slice none 0 0), (P3, .slice none 0 0), (w2.heap.size, .slice a7 m7 c7), (w2.heap.size + 1, .slice a8 m8 c8)] [(a8, c8, s1), (a7, c7, s0)] [(a0, c0, l0), (a1, c1, l1)] (W.alloc (.cells #[.slice none 0 0] 25))) := hide ((HE.out.box (.slice none 0 0) 25 rfl).sub (by simp) (by simp) (by simp))
      refine hK.out _ _ ⟨HE'.out.cell (b := w2.heap.size) (v := .slice a7 m7 c7) (by simp), HE'.out.cell (b := w2.heap.size + 1) (v := .slice a8 m8 c8) (by simp)⟩ (fun hS' => ?_)
      clear hS'
      refine wpAnyH_listed (listed := #[true, true, false, true, true, false, true, true, false, true, true, false, true, true, false, true, false, false, false, false]) (by kernel_rfl) ?_
      have hl1 := HE.out.lt (b := P1) (v := .slice none 0 0) (by simp)
      have hl3 := HE.out.lt (b := P3) (v := .slice none 0 0) (by simp)
      have hb7 := HE.out.lt (b := w2.heap.size) (v := .slice a7 m7 c7) (by simp)
      have hb8 := HE.out.lt (b := w2.heap.size + 1) (v := .slice a8 m8 c8) (by simp)
      have hsz := HE.out.below.size
      have HA' : Hid (([W.heap.size, P1, P3, w2.heap.size, w2.heap.size + 1] : List Nat).Nodup ∧ ∀ b ∈ ([W.heap.size, P1, P3, w2.heap.size, w2.heap.size + 1] : List Nat), w.heap.size ≤ b) := hide (by have := HA.out; simp at this ⊢; omega)
      clear hb7 hb8 hsz hl1 hl3
      try clear HE
      try clear HA
      generalize W.alloc (.cells #[.slice none 0 0] 25) = W' at HE' ⊢
      generalize W.heap.size = P0 at HE' HA' ⊢
      revert HE'; revert HA'; revert W'; revert P3; revert P1; revert P0
      exact k0_013.out
    refine AllReadyH.cons (o := { dst := some 11, op := Op.alloc 25, type := 0, pos := "law.go:23", after := #[], guard := none }) rfl (fun K hK => ?_) ?_
    · go_simp
      have HE' : Hid (Env w [(P1, .slice none 0 0), (W.heap.size, .slice none 0 0), (P3, .slice none 0 0), (w2.heap.size, .slice a7 m7 c7), (w2.heap.size + 1, .slice a8 m8 c8)] [(a8, c8, s1), (a7, c7, s0)] [(a0, c0, l0), (a1, c1, l1)] (W.alloc (.cells #[.slice none 0 0] 25))) := hide ((HE.out.box (.slice none 0 0) 25 rfl).sub (by simp) (by simp) (by simp))
      refine hK.out _ _ ⟨HE'.out.cell (b := w2.heap.size) (v := .slice a7 m7 c7) (by simp), HE'.out.cell (b := w2.heap.size + 1) (v := .slice a8 m8 c8) (by simp)⟩ (fun hS' => ?_)
      clear hS'
      refine wpAnyH_listed (listed := #[true, true, false, true, true, false, true, true, false, true, true, false, false, true, true, true, false, false, false, false]) (by kernel_rfl) ?_
      have hl1 := HE.out.lt (b := P1) (v := .slice none 0 0) (by simp)
      have hl3 := HE.out.lt (b := P3) (v := .slice none 0 0) (by simp)
      have hb7 := HE.out.lt (b := w2.heap.size) (v := .slice a7 m7 c7) (by simp)
      have hb8 := HE.out.lt (b := w2.heap.size + 1) (v := .slice a8 m8 c8) (by simp)
      have hsz := HE.out.below.size
      have HA' : Hid (([P1, W.heap.size, P3, w2.heap.size, w2.heap.size + 1] : List Nat).Nodup ∧ ∀ b ∈ ([P1, W.heap.size, P3, w2.heap.size, w2.heap.size + 1] : List Nat), w.heap.size ≤ b) := hide (by have := HA.out; simp at this ⊢; omega)
      clear hb7 hb8 hsz hl1 hl3
      try clear HE
      try clear HA
      generalize W.alloc (.cells #[.slice none 0 0] 25) = W' at HE' ⊢
      generalize W.heap.size = P2 at HE' HA' ⊢
      revert HE'; revert HA'; revert W'; revert P3; revert P2; revert P1
      exact k0_123.out
    exact AllReadyH.nil
  · intro k1_23 k0_023 k0_123
    intro P2 P3 W HA HE
    refine wpAnyH_ready (rs := [2, 12, 13]) (by kernel_rfl) (by simp) ?_
    refine AllReadyH.cons (o := { dst := some 28, op := Op.call { callee := Callee.value (Operand.func 10), args := #[Operand.tmp 26, Operand.tmp 27], argTypes := #[25, 25] }, type := 25, pos := "law.go:23", after := #[{ on := 0, ground := Ground.data }, { on := 1, ground := Ground.data }], guard := none }) rfl (fun K hK => ?_) ?_
    · have CC := hide (orD (a := a7) (c := c7) (n := m7) (s := s0) (a2 := a8) (c2 := c8) (n2 := m8) (t := s1) HE (by simp) (by simp) hm7 hm8 HU0 HUL0)
      go_simp
      go_at_call 10
      (with_reducible refine (Hid.out CC).mono ?_)
      rintro e W' ⟨r0, q0, M0, rfl, HM0, -, HE0⟩
      try go_wp2_with fail
      have HE' : Hid (Env w [(P2, .slice none 0 0), (P3, .slice none 0 0), (w2.heap.size, .slice a7 m7 c7), (w2.heap.size + 1, .slice a8 m8 c8)] [(r0, q0, U0), (a8, c8, s1), (a7, c7, s0)] [(a0, c0, l0), (a1, c1, l1)] W') := hide (HE0.out.sub (by simp) (by simp) (by simp))
      refine hK.out _ _ ⟨HE'.out.cell (b := w2.heap.size) (v := .slice a7 m7 c7) (by simp), HE'.out.cell (b := w2.heap.size + 1) (v := .slice a8 m8 c8) (by simp)⟩ (fun hS' => ?_)
      clear hS'
      refine wpAnyH_listed (listed := #[true, true, true, true, true, false, true, true, false, true, true, false, false, false, true, true, false, false, false, false]) (by kernel_rfl) ?_
      have HA' := HA
      clear CC HE0
      try clear HE
      try clear HA
      revert HE'; revert HA'; revert HM0; revert W'; revert M0; revert q0; revert r0; revert P3; revert P2
      exact k1_23.out
    refine AllReadyH.cons (o := { dst := some 9, op := Op.alloc 25, type := 0, pos := "law.go:23", after := #[], guard := none }) rfl (fun K hK => ?_) ?_
    · go_simp
      have HE' : Hid (Env w [(W.heap.size, .slice none 0 0), (P2, .slice none 0 0), (P3, .slice none 0 0), (w2.heap.size, .slice a7 m7 c7), (w2.heap.size + 1, .slice a8 m8 c8)] [(a8, c8, s1), (a7, c7, s0)] [(a0, c0, l0), (a1, c1, l1)] (W.alloc (.cells #[.slice none 0 0] 25))) := hide ((HE.out.box (.slice none 0 0) 25 rfl).sub (by simp) (by simp) (by simp))
      refine hK.out _ _ ⟨HE'.out.cell (b := w2.heap.size) (v := .slice a7 m7 c7) (by simp), HE'.out.cell (b := w2.heap.size + 1) (v := .slice a8 m8 c8) (by simp)⟩ (fun hS' => ?_)
      clear hS'
      refine wpAnyH_listed (listed := #[true, true, false, true, true, false, true, true, false, true, true, false, true, false, true, true, false, false, false, false]) (by kernel_rfl) ?_
      have hl2 := HE.out.lt (b := P2) (v := .slice none 0 0) (by simp)
      have hl3 := HE.out.lt (b := P3) (v := .slice none 0 0) (by simp)
      have hb7 := HE.out.lt (b := w2.heap.size) (v := .slice a7 m7 c7) (by simp)
      have hb8 := HE.out.lt (b := w2.heap.size + 1) (v := .slice a8 m8 c8) (by simp)
      have hsz := HE.out.below.size
      have HA' : Hid (([W.heap.size, P2, P3, w2.heap.size, w2.heap.size + 1] : List Nat).Nodup ∧ ∀ b ∈ ([W.heap.size, P2, P3, w2.heap.size, w2.heap.size + 1] : List Nat), w.heap.size ≤ b) := hide (by have := HA.out; simp at this ⊢; omega)
      clear hb7 hb8 hsz hl2 hl3
      try clear HE
      try clear HA
      generalize W.alloc (.cells #[.slice none 0 0] 25) = W' at HE' ⊢
      generalize W.heap.size = P0 at HE' HA' ⊢
      revert HE'; revert HA'; revert W'; revert P3; revert P2; revert P0
      exact k0_023.out
    refine AllReadyH.cons (o := { dst := some 10, op := Op.alloc 25, type := 0, pos := "law.go:23", after := #[], guard := none }) rfl (fun K hK => ?_) ?_
    · go_simp
      have HE' : Hid (Env w [(W.heap.size, .slice none 0 0), (P2, .slice none 0 0), (P3, .slice none 0 0), (w2.heap.size, .slice a7 m7 c7), (w2.heap.size + 1, .slice a8 m8 c8)] [(a8, c8, s1), (a7, c7, s0)] [(a0, c0, l0), (a1, c1, l1)] (W.alloc (.cells #[.slice none 0 0] 25))) := hide ((HE.out.box (.slice none 0 0) 25 rfl).sub (by simp) (by simp) (by simp))
      refine hK.out _ _ ⟨HE'.out.cell (b := w2.heap.size) (v := .slice a7 m7 c7) (by simp), HE'.out.cell (b := w2.heap.size + 1) (v := .slice a8 m8 c8) (by simp)⟩ (fun hS' => ?_)
      clear hS'
      refine wpAnyH_listed (listed := #[true, true, false, true, true, false, true, true, false, true, true, false, false, true, true, true, false, false, false, false]) (by kernel_rfl) ?_
      have hl2 := HE.out.lt (b := P2) (v := .slice none 0 0) (by simp)
      have hl3 := HE.out.lt (b := P3) (v := .slice none 0 0) (by simp)
      have hb7 := HE.out.lt (b := w2.heap.size) (v := .slice a7 m7 c7) (by simp)
      have hb8 := HE.out.lt (b := w2.heap.size + 1) (v := .slice a8 m8 c8) (by simp)
      have hsz := HE.out.below.size
      have HA' : Hid (([W.heap.size, P2, P3, w2.heap.size, w2.heap.size + 1] : List Nat).Nodup ∧ ∀ b ∈ ([W.heap.size, P2, P3, w2.heap.size, w2.heap.size + 1] : List Nat), w.heap.size ≤ b) := hide (by have := HA.out; simp at this ⊢; omega)
      clear hb7 hb8 hsz hl2 hl3
      try clear HE
      try clear HA
      generalize W.alloc (.cells #[.slice none 0 0] 25) = W' at HE' ⊢
      generalize W.heap.size = P1 at HE' HA' ⊢
      revert HE'; revert HA'; revert W'; revert P3; revert P2; revert P1
      exact k0_123.out
    exact AllReadyH.nil
  · intro k2_0 k1_01 k1_02 k1_03
    intro P0 r0 q0 M0 W HM0 HA HE
    refine wpAnyH_ready (rs := [5, 13, 14, 15]) (by kernel_rfl) (by simp) ?_
    refine AllReadyH.cons (o := { dst := some 31, op := Op.call { callee := Callee.value (Operand.func 11), args := #[Operand.tmp 29, Operand.tmp 30], argTypes := #[25, 25] }, type := 25, pos := "law.go:23", after := #[{ on := 3, ground := Ground.data }, { on := 4, ground := Ground.data }, { on := 2, ground := Ground.chain }], guard := none }) rfl (fun K hK => ?_) ?_
    · have CC := hide (andD (a := a7) (c := c7) (n := m7) (s := s0) (a2 := a8) (c2 := c8) (n2 := m8) (t := s1) HE (by simp) (by simp) hm7 hm8 HU1)
      go_simp
      go_at_call 11
      (with_reducible refine (Hid.out CC).mono ?_)
      rintro e W' ⟨r1, q1, M1, rfl, HM1, -, HE0⟩
      try go_wp2_with fail
      have HE' : Hid (Env w [(P0, .slice none 0 0), (w2.heap.size, .slice a7 m7 c7), (w2.heap.size + 1, .slice a8 m8 c8)] [(r0, q0, U0), (r1, q1, U1), (a8, c8, s1), (a7, c7, s0)] [(a0, c0, l0), (a1, c1, l1)] W') := hide (HE0.out.sub (by simp) (by simp) (by simp))
      refine hK.out _ _ ⟨HE'.out.cell (b := w2.heap.size) (v := .slice a7 m7 c7) (by simp), HE'.out.cell (b := w2.heap.size + 1) (v := .slice a8 m8 c8) (by simp)⟩ (fun hS' => ?_)
      clear hS'
      refine wpAnyH_listed (listed := #[true, true, true, true, true, true, true, true, false, true, true, false, true, false, false, false, false, false, false, false]) (by kernel_rfl) ?_
      have HA' := HA
      clear CC HE0
      try clear HE
      try clear HA
      revert HE'; revert HA'; revert HM1; revert HM0; revert W'; revert M1; revert q1; revert r1; revert M0; revert q0; revert r0; revert P0
      exact k2_0.out
    refine AllReadyH.cons (o := { dst := some 10, op := Op.alloc 25, type := 0, pos := "law.go:23", after := #[], guard := none }) rfl (fun K hK => ?_) ?_
    · go_simp
      have HE' : Hid (Env w [(P0, .slice none 0 0), (W.heap.size, .slice none 0 0), (w2.heap.size, .slice a7 m7 c7), (w2.heap.size + 1, .slice a8 m8 c8)] [(r0, q0, U0), (a8, c8, s1), (a7, c7, s0)] [(a0, c0, l0), (a1, c1, l1)] (W.alloc (.cells #[.slice none 0 0] 25))) := hide ((HE.out.box (.slice none 0 0) 25 rfl).sub (by simp) (by simp) (by simp))
      refine hK.out _ _ ⟨HE'.out.cell (b := w2.heap.size) (v := .slice a7 m7 c7) (by simp), HE'.out.cell (b := w2.heap.size + 1) (v := .slice a8 m8 c8) (by simp)⟩ (fun hS' => ?_)
      clear hS'
      refine wpAnyH_listed (listed := #[true, true, true, true, true, false, true, true, false, true, true, false, true, true, false, false, false, false, false, false]) (by kernel_rfl) ?_
      have hl0 := HE.out.lt (b := P0) (v := .slice none 0 0) (by simp)
      have hb7 := HE.out.lt (b := w2.heap.size) (v := .slice a7 m7 c7) (by simp)
      have hb8 := HE.out.lt (b := w2.heap.size + 1) (v := .slice a8 m8 c8) (by simp)
      have hsz := HE.out.below.size
      have HA' : Hid (([P0, W.heap.size, w2.heap.size, w2.heap.size + 1] : List Nat).Nodup ∧ ∀ b ∈ ([P0, W.heap.size, w2.heap.size, w2.heap.size + 1] : List Nat), w.heap.size ≤ b) := hide (by have := HA.out; simp at this ⊢; omega)
      clear hb7 hb8 hsz hl0
      try clear HE
      try clear HA
      generalize W.alloc (.cells #[.slice none 0 0] 25) = W' at HE' ⊢
      generalize W.heap.size = P1 at HE' HA' ⊢
      revert HE'; revert HA'; revert HM0; revert W'; revert M0; revert q0; revert r0; revert P1; revert P0
      exact k1_01.out
    refine AllReadyH.cons (o := { dst := some 11, op := Op.alloc 25, type := 0, pos := "law.go:23", after := #[], guard := none }) rfl (fun K hK => ?_) ?_
    · go_simp
      have HE' : Hid (Env w [(P0, .slice none 0 0), (W.heap.size, .slice none 0 0), (w2.heap.size, .slice a7 m7 c7), (w2.heap.size + 1, .slice a8 m8 c8)] [(r0, q0, U0), (a8, c8, s1), (a7, c7, s0)] [(a0, c0, l0), (a1, c1, l1)] (W.alloc (.cells #[.slice none 0 0] 25))) := hide ((HE.out.box (.slice none 0 0) 25 rfl).sub (by simp) (by simp) (by simp))
      refine hK.out _ _ ⟨HE'.out.cell (b := w2.heap.size) (v := .slice a7 m7 c7) (by simp), HE'.out.cell (b := w2.heap.size + 1) (v := .slice a8 m8 c8) (by simp)⟩ (fun hS' => ?_)
      clear hS'
      refine wpAnyH_listed (listed := #[true, true, true, true, true, false, true, true, false, true, true, false, true, false, true, false, false, false, false, false]) (by kernel_rfl) ?_
      have hl0 := HE.out.lt (b := P0) (v := .slice none 0 0) (by simp)
      have hb7 := HE.out.lt (b := w2.heap.size) (v := .slice a7 m7 c7) (by simp)
      have hb8 := HE.out.lt (b := w2.heap.size + 1) (v := .slice a8 m8 c8) (by simp)
      have hsz := HE.out.below.size
      have HA' : Hid (([P0, W.heap.size, w2.heap.size, w2.heap.size + 1] : List Nat).Nodup ∧ ∀ b ∈ ([P0, W.heap.size, w2.heap.size, w2.heap.size + 1] : List Nat), w.heap.size ≤ b) := hide (by have := HA.out; simp at this ⊢; omega)
      clear hb7 hb8 hsz hl0
      try clear HE
      try clear HA
      generalize W.alloc (.cells #[.slice none 0 0] 25) = W' at HE' ⊢
      generalize W.heap.size = P2 at HE' HA' ⊢
      revert HE'; revert HA'; revert HM0; revert W'; revert M0; revert q0; revert r0; revert P2; revert P0
      exact k1_02.out
    refine AllReadyH.cons (o := { dst := some 12, op := Op.alloc 25, type := 0, pos := "law.go:23", after := #[], guard := none }) rfl (fun K hK => ?_) ?_
    · go_simp
      have HE' : Hid (Env w [(P0, .slice none 0 0), (W.heap.size, .slice none 0 0), (w2.heap.size, .slice a7 m7 c7), (w2.heap.size + 1, .slice a8 m8 c8)] [(r0, q0, U0), (a8, c8, s1), (a7, c7, s0)] [(a0, c0, l0), (a1, c1, l1)] (W.alloc (.cells #[.slice none 0 0] 25))) := hide ((HE.out.box (.slice none 0 0) 25 rfl).sub (by simp) (by simp) (by simp))
      refine hK.out _ _ ⟨HE'.out.cell (b := w2.heap.size) (v := .slice a7 m7 c7) (by simp), HE'.out.cell (b := w2.heap.size + 1) (v := .slice a8 m8 c8) (by simp)⟩ (fun hS' => ?_)
      clear hS'
      refine wpAnyH_listed (listed := #[true, true, true, true, true, false, true, true, false, true, true, false, true, false, false, true, false, false, false, false]) (by kernel_rfl) ?_
      have hl0 := HE.out.lt (b := P0) (v := .slice none 0 0) (by simp)
      have hb7 := HE.out.lt (b := w2.heap.size) (v := .slice a7 m7 c7) (by simp)
      have hb8 := HE.out.lt (b := w2.heap.size + 1) (v := .slice a8 m8 c8) (by simp)
      have hsz := HE.out.below.size
      have HA' : Hid (([P0, W.heap.size, w2.heap.size, w2.heap.size + 1] : List Nat).Nodup ∧ ∀ b ∈ ([P0, W.heap.size, w2.heap.size, w2.heap.size + 1] : List Nat), w.heap.size ≤ b) := hide (by have := HA.out; simp at this ⊢; omega)
      clear hb7 hb8 hsz hl0
      try clear HE
      try clear HA
      generalize W.alloc (.cells #[.slice none 0 0] 25) = W' at HE' ⊢
      generalize W.heap.size = P3 at HE' HA' ⊢
      revert HE'; revert HA'; revert HM0; revert W'; revert M0; revert q0; revert r0; revert P3; revert P0
      exact k1_03.out
    exact AllReadyH.nil
  · intro k2_1 k1_01 k1_12 k1_13
    intro P1 r0 q0 M0 W HM0 HA HE
    refine wpAnyH_ready (rs := [5, 12, 14, 15]) (by kernel_rfl) (by simp) ?_
    refine AllReadyH.cons (o := { dst := some 31, op := Op.call { callee := Callee.value (Operand.func 11), args := #[Operand.tmp 29, Operand.tmp 30], argTypes := #[25, 25] }, type := 25, pos := "law.go:23", after := #[{ on := 3, ground := Ground.data }, { on := 4, ground := Ground.data }, { on := 2, ground := Ground.chain }], guard := none }) rfl (fun K hK => ?_) ?_
    · have CC := hide (andD (a := a7) (c := c7) (n := m7) (s := s0) (a2 := a8) (c2 := c8) (n2 := m8) (t := s1) HE (by simp) (by simp) hm7 hm8 HU1)
      go_simp
      go_at_call 11
      (with_reducible refine (Hid.out CC).mono ?_)
      rintro e W' ⟨r1, q1, M1, rfl, HM1, -, HE0⟩
      try go_wp2_with fail
      have HE' : Hid (Env w [(P1, .slice none 0 0), (w2.heap.size, .slice a7 m7 c7), (w2.heap.size + 1, .slice a8 m8 c8)] [(r0, q0, U0), (r1, q1, U1), (a8, c8, s1), (a7, c7, s0)] [(a0, c0, l0), (a1, c1, l1)] W') := hide (HE0.out.sub (by simp) (by simp) (by simp))
      refine hK.out _ _ ⟨HE'.out.cell (b := w2.heap.size) (v := .slice a7 m7 c7) (by simp), HE'.out.cell (b := w2.heap.size + 1) (v := .slice a8 m8 c8) (by simp)⟩ (fun hS' => ?_)
      clear hS'
      refine wpAnyH_listed (listed := #[true, true, true, true, true, true, true, true, false, true, true, false, false, true, false, false, false, false, false, false]) (by kernel_rfl) ?_
      have HA' := HA
      clear CC HE0
      try clear HE
      try clear HA
      revert HE'; revert HA'; revert HM1; revert HM0; revert W'; revert M1; revert q1; revert r1; revert M0; revert q0; revert r0; revert P1
      exact k2_1.out
    refine AllReadyH.cons (o := { dst := some 9, op := Op.alloc 25, type := 0, pos := "law.go:23", after := #[], guard := none }) rfl (fun K hK => ?_) ?_
    · go_simp
      have HE' : Hid (Env w [(W.heap.size, .slice none 0 0), (P1, .slice none 0 0), (w2.heap.size, .slice a7 m7 c7), (w2.heap.size + 1, .slice a8 m8 c8)] [(r0, q0, U0), (a8, c8, s1), (a7, c7, s0)] [(a0, c0, l0), (a1, c1, l1)] (W.alloc (.cells #[.slice none 0 0] 25))) := hide ((HE.out.box (.slice none 0 0) 25 rfl).sub (by simp) (by simp) (by simp))
      refine hK.out _ _ ⟨HE'.out.cell (b := w2.heap.size) (v := .slice a7 m7 c7) (by simp), HE'.out.cell (b := w2.heap.size + 1) (v := .slice a8 m8 c8) (by simp)⟩ (fun hS' => ?_)
      clear hS'
      refine wpAnyH_listed (listed := #[true, true, true, true, true, false, true, true, false, true, true, false, true, true, false, false, false, false, false, false]) (by kernel_rfl) ?_
      have hl1 := HE.out.lt (b := P1) (v := .slice none 0 0) (by simp)
      have hb7 := HE.out.lt (b := w2.heap.size) (v := .slice a7 m7 c7) (by simp)
      have hb8 := HE.out.lt (b := w2.heap.size + 1) (v := .slice a8 m8 c8) (by simp)
      have hsz := HE.out.below.size
      have HA' : Hid (([W.heap.size, P1, w2.heap.size, w2.heap.size + 1] : List Nat).Nodup ∧ ∀ b ∈ ([W.heap.size, P1, w2.heap.size, w2.heap.size + 1] : List Nat), w.heap.size ≤ b) := hide (by have := HA.out; simp at this ⊢; omega)
      clear hb7 hb8 hsz hl1
      try clear HE
      try clear HA
      generalize W.alloc (.cells #[.slice none 0 0] 25) = W' at HE' ⊢
      generalize W.heap.size = P0 at HE' HA' ⊢
      revert HE'; revert HA'; revert HM0; revert W'; revert M0; revert q0; revert r0; revert P1; revert P0
      exact k1_01.out
    refine AllReadyH.cons (o := { dst := some 11, op := Op.alloc 25, type := 0, pos := "law.go:23", after := #[], guard := none }) rfl (fun K hK => ?_) ?_
    · go_simp
      have HE' : Hid (Env w [(P1, .slice none 0 0), (W.heap.size, .slice none 0 0), (w2.heap.size, .slice a7 m7 c7), (w2.heap.size + 1, .slice a8 m8 c8)] [(r0, q0, U0), (a8, c8, s1), (a7, c7, s0)] [(a0, c0, l0), (a1, c1, l1)] (W.alloc (.cells #[.slice none 0 0] 25))) := hide ((HE.out.box (.slice none 0 0) 25 rfl).sub (by simp) (by simp) (by simp))
      refine hK.out _ _ ⟨HE'.out.cell (b := w2.heap.size) (v := .slice a7 m7 c7) (by simp), HE'.out.cell (b := w2.heap.size + 1) (v := .slice a8 m8 c8) (by simp)⟩ (fun hS' => ?_)
      clear hS'
      refine wpAnyH_listed (listed := #[true, true, true, true, true, false, true, true, false, true, true, false, false, true, true, false, false, false, false, false]) (by kernel_rfl) ?_
      have hl1 := HE.out.lt (b := P1) (v := .slice none 0 0) (by simp)
      have hb7 := HE.out.lt (b := w2.heap.size) (v := .slice a7 m7 c7) (by simp)
      have hb8 := HE.out.lt (b := w2.heap.size + 1) (v := .slice a8 m8 c8) (by simp)
      have hsz := HE.out.below.size
      have HA' : Hid (([P1, W.heap.size, w2.heap.size, w2.heap.size + 1] : List Nat).Nodup ∧ ∀ b ∈ ([P1, W.heap.size, w2.heap.size, w2.heap.size + 1] : List Nat), w.heap.size ≤ b) := hide (by have := HA.out; simp at this ⊢; omega)
      clear hb7 hb8 hsz hl1
      try clear HE
      try clear HA
      generalize W.alloc (.cells #[.slice none 0 0] 25) = W' at HE' ⊢
      generalize W.heap.size = P2 at HE' HA' ⊢
      revert HE'; revert HA'; revert HM0; revert W'; revert M0; revert q0; revert r0; revert P2; revert P1
      exact k1_12.out
    refine AllReadyH.cons (o := { dst := some 12, op := Op.alloc 25, type := 0, pos := "law.go:23", after := #[], guard := none }) rfl (fun K hK => ?_) ?_
    · go_simp
      have HE' : Hid (Env w [(P1, .slice none 0 0), (W.heap.size, .slice none 0 0), (w2.heap.size, .slice a7 m7 c7), (w2.heap.size + 1, .slice a8 m8 c8)] [(r0, q0, U0), (a8, c8, s1), (a7, c7, s0)] [(a0, c0, l0), (a1, c1, l1)] (W.alloc (.cells #[.slice none 0 0] 25))) := hide ((HE.out.box (.slice none 0 0) 25 rfl).sub (by simp) (by simp) (by simp))
      refine hK.out _ _ ⟨HE'.out.cell (b := w2.heap.size) (v := .slice a7 m7 c7) (by simp), HE'.out.cell (b := w2.heap.size + 1) (v := .slice a8 m8 c8) (by simp)⟩ (fun hS' => ?_)
      clear hS'
      refine wpAnyH_listed (listed := #[true, true, true, true, true, false, true, true, false, true, true, false, false, true, false, true, false, false, false, false]) (by kernel_rfl) ?_
      have hl1 := HE.out.lt (b := P1) (v := .slice none 0 0) (by simp)
      have hb7 := HE.out.lt (b := w2.heap.size) (v := .slice a7 m7 c7) (by simp)
      have hb8 := HE.out.lt (b := w2.heap.size + 1) (v := .slice a8 m8 c8) (by simp)
      have hsz := HE.out.below.size
      have HA' : Hid (([P1, W.heap.size, w2.heap.size, w2.heap.size + 1] : List Nat).Nodup ∧ ∀ b ∈ ([P1, W.heap.size, w2.heap.size, w2.heap.size + 1] : List Nat), w.heap.size ≤ b) := hide (by have := HA.out; simp at this ⊢; omega)
      clear hb7 hb8 hsz hl1
      try clear HE
      try clear HA
      generalize W.alloc (.cells #[.slice none 0 0] 25) = W' at HE' ⊢
      generalize W.heap.size = P3 at HE' HA' ⊢
      revert HE'; revert HA'; revert HM0; revert W'; revert M0; revert q0; revert r0; revert P3; revert P1
      exact k1_13.out
    exact AllReadyH.nil
  · intro k2_2 k1_02 k1_12 k1_23
    intro P2 r0 q0 M0 W HM0 HA HE
    refine wpAnyH_ready (rs := [5, 12, 13, 15]) (by kernel_rfl) (by simp) ?_
    refine AllReadyH.cons (o := { dst := some 31, op := Op.call { callee := Callee.value (Operand.func 11), args := #[Operand.tmp 29, Operand.tmp 30], argTypes := #[25, 25] }, type := 25, pos := "law.go:23", after := #[{ on := 3, ground := Ground.data }, { on := 4, ground := Ground.data }, { on := 2, ground := Ground.chain }], guard := none }) rfl (fun K hK => ?_) ?_
    · have CC := hide (andD (a := a7) (c := c7) (n := m7) (s := s0) (a2 := a8) (c2 := c8) (n2 := m8) (t := s1) HE (by simp) (by simp) hm7 hm8 HU1)
      go_simp
      go_at_call 11
      (with_reducible refine (Hid.out CC).mono ?_)
      rintro e W' ⟨r1, q1, M1, rfl, HM1, -, HE0⟩
      try go_wp2_with fail
      have HE' : Hid (Env w [(P2, .slice none 0 0), (w2.heap.size, .slice a7 m7 c7), (w2.heap.size + 1, .slice a8 m8 c8)] [(r0, q0, U0), (r1, q1, U1), (a8, c8, s1), (a7, c7, s0)] [(a0, c0, l0), (a1, c1, l1)] W') := hide (HE0.out.sub (by simp) (by simp) (by simp))
      refine hK.out _ _ ⟨HE'.out.cell (b := w2.heap.size) (v := .slice a7 m7 c7) (by simp), HE'.out.cell (b := w2.heap.size + 1) (v := .slice a8 m8 c8) (by simp)⟩ (fun hS' => ?_)
      clear hS'
      refine wpAnyH_listed (listed := #[true, true, true, true, true, true, true, true, false, true, true, false, false, false, true, false, false, false, false, false]) (by kernel_rfl) ?_
      have HA' := HA
      clear CC HE0
      try clear HE
      try clear HA
      revert HE'; revert HA'; revert HM1; revert HM0; revert W'; revert M1; revert q1; revert r1; revert M0; revert q0; revert r0; revert P2
      exact k2_2.out
    refine AllReadyH.cons (o := { dst := some 9, op := Op.alloc 25, type := 0, pos := "law.go:23", after := #[], guard := none }) rfl (fun K hK => ?_) ?_
    · go_simp
      have HE' : Hid (Env w [(W.heap.size, .slice none 0 0), (P2, .slice none 0 0), (w2.heap.size, .slice a7 m7 c7), (w2.heap.size + 1, .slice a8 m8 c8)] [(r0, q0, U0), (a8, c8, s1), (a7, c7, s0)] [(a0, c0, l0), (a1, c1, l1)] (W.alloc (.cells #[.slice none 0 0] 25))) := hide ((HE.out.box (.slice none 0 0) 25 rfl).sub (by simp) (by simp) (by simp))
      refine hK.out _ _ ⟨HE'.out.cell (b := w2.heap.size) (v := .slice a7 m7 c7) (by simp), HE'.out.cell (b := w2.heap.size + 1) (v := .slice a8 m8 c8) (by simp)⟩ (fun hS' => ?_)
      clear hS'
      refine wpAnyH_listed (listed := #[true, true, true, true, true, false, true, true, false, true, true, false, true, false, true, false, false, false, false, false]) (by kernel_rfl) ?_
      have hl2 := HE.out.lt (b := P2) (v := .slice none 0 0) (by simp)
      have hb7 := HE.out.lt (b := w2.heap.size) (v := .slice a7 m7 c7) (by simp)
      have hb8 := HE.out.lt (b := w2.heap.size + 1) (v := .slice a8 m8 c8) (by simp)
      have hsz := HE.out.below.size
      have HA' : Hid (([W.heap.size, P2, w2.heap.size, w2.heap.size + 1] : List Nat).Nodup ∧ ∀ b ∈ ([W.heap.size, P2, w2.heap.size, w2.heap.size + 1] : List Nat), w.heap.size ≤ b) := hide (by have := HA.out; simp at this ⊢; omega)
      clear hb7 hb8 hsz hl2
      try clear HE
      try clear HA
      generalize W.alloc (.cells #[.slice none 0 0] 25) = W' at HE' ⊢
      generalize W.heap.size = P0 at HE' HA' ⊢
      revert HE'; revert HA'; revert HM0; revert W'; revert M0; revert q0; revert r0; revert P2; revert P0
      exact k1_02.out
    refine AllReadyH.cons (o := { dst := some 10, op := Op.alloc 25, type := 0, pos := "law.go:23", after := #[], guard := none }) rfl (fun K hK => ?_) ?_
    · go_simp
      have HE' : Hid (Env w [(W.heap.size, .slice none 0 0), (P2, .slice none 0 0), (w2.heap.size, .slice a7 m7 c7), (w2.heap.size + 1, .slice a8 m8 c8)] [(r0, q0, U0), (a8, c8, s1), (a7, c7, s0)] [(a0, c0, l0), (a1, c1, l1)] (W.alloc (.cells #[.slice none 0 0] 25))) := hide ((HE.out.box (.slice none 0 0) 25 rfl).sub (by simp) (by simp) (by simp))
      refine hK.out _ _ ⟨HE'.out.cell (b := w2.heap.size) (v := .slice a7 m7 c7) (by simp), HE'.out.cell (b := w2.heap.size + 1) (v := .slice a8 m8 c8) (by simp)⟩ (fun hS' => ?_)
      clear hS'
      refine wpAnyH_listed (listed := #[true, true, true, true, true, false, true, true, false, true, true, false, false, true, true, false, false, false, false, false]) (by kernel_rfl) ?_
      have hl2 := HE.out.lt (b := P2) (v := .slice none 0 0) (by simp)
      have hb7 := HE.out.lt (b := w2.heap.size) (v := .slice a7 m7 c7) (by simp)
      have hb8 := HE.out.lt (b := w2.heap.size + 1) (v := .slice a8 m8 c8) (by simp)
      have hsz := HE.out.below.size
      have HA' : Hid (([W.heap.size, P2, w2.heap.size, w2.heap.size + 1] : List Nat).Nodup ∧ ∀ b ∈ ([W.heap.size, P2, w2.heap.size, w2.heap.size + 1] : List Nat), w.heap.size ≤ b) := hide (by have := HA.out; simp at this ⊢; omega)
      clear hb7 hb8 hsz hl2
      try clear HE
      try clear HA
      generalize W.alloc (.cells #[.slice none 0 0] 25) = W' at HE' ⊢
      generalize W.heap.size = P1 at HE' HA' ⊢
      revert HE'; revert HA'; revert HM0; revert W'; revert M0; revert q0; revert r0; revert P2; revert P1
      exact k1_12.out
    refine AllReadyH.cons (o := { dst := some 12, op := Op.alloc 25, type := 0, pos := "law.go:23", after := #[], guard := none }) rfl (fun K hK => ?_) ?_
    · go_simp
      have HE' : Hid (Env w [(P2, .slice none 0 0), (W.heap.size, .slice none 0 0), (w2.heap.size, .slice a7 m7 c7), (w2.heap.size + 1, .slice a8 m8 c8)] [(r0, q0, U0), (a8, c8, s1), (a7, c7, s0)] [(a0, c0, l0), (a1, c1, l1)] (W.alloc (.cells #[.slice none 0 0] 25))) := hide ((HE.out.box (.slice none 0 0) 25 rfl).sub (by simp) (by simp) (by simp))
      refine hK.out _ _ ⟨HE'.out.cell (b := w2.heap.size) (v := .slice a7 m7 c7) (by simp), HE'.out.cell (b := w2.heap.size + 1) (v := .slice a8 m8 c8) (by simp)⟩ (fun hS' => ?_)
      clear hS'
      refine wpAnyH_listed (listed := #[true, true, true, true, true, false, true, true, false, true, true, false, false, false, true, true, false, false, false, false]) (by kernel_rfl) ?_
      have hl2 := HE.out.lt (b := P2) (v := .slice none 0 0) (by simp)
      have hb7 := HE.out.lt (b := w2.heap.size) (v := .slice a7 m7 c7) (by simp)
      have hb8 := HE.out.lt (b := w2.heap.size + 1) (v := .slice a8 m8 c8) (by simp)
      have hsz := HE.out.below.size
      have HA' : Hid (([P2, W.heap.size, w2.heap.size, w2.heap.size + 1] : List Nat).Nodup ∧ ∀ b ∈ ([P2, W.heap.size, w2.heap.size, w2.heap.size + 1] : List Nat), w.heap.size ≤ b) := hide (by have := HA.out; simp at this ⊢; omega)
      clear hb7 hb8 hsz hl2
      try clear HE
      try clear HA
      generalize W.alloc (.cells #[.slice none 0 0] 25) = W' at HE' ⊢
      generalize W.heap.size = P3 at HE' HA' ⊢
      revert HE'; revert HA'; revert HM0; revert W'; revert M0; revert q0; revert r0; revert P3; revert P2
      exact k1_23.out
    exact AllReadyH.nil
  · intro k2_3 k1_03 k1_13 k1_23
    intro P3 r0 q0 M0 W HM0 HA HE
    refine wpAnyH_ready (rs := [5, 12, 13, 14]) (by kernel_rfl) (by simp) ?_
    refine AllReadyH.cons (o := { dst := some 31, op := Op.call { callee := Callee.value (Operand.func 11), args := #[Operand.tmp 29, Operand.tmp 30], argTypes := #[25, 25] }, type := 25, pos := "law.go:23", after := #[{ on := 3, ground := Ground.data }, { on := 4, ground := Ground.data }, { on := 2, ground := Ground.chain }], guard := none }) rfl (fun K hK => ?_) ?_
    · have CC := hide (andD (a := a7) (c := c7) (n := m7) (s := s0) (a2 := a8) (c2 := c8) (n2 := m8) (t := s1) HE (by simp) (by simp) hm7 hm8 HU1)
      go_simp
      go_at_call 11
      (with_reducible refine (Hid.out CC).mono ?_)
      rintro e W' ⟨r1, q1, M1, rfl, HM1, -, HE0⟩
      try go_wp2_with fail
      have HE' : Hid (Env w [(P3, .slice none 0 0), (w2.heap.size, .slice a7 m7 c7), (w2.heap.size + 1, .slice a8 m8 c8)] [(r0, q0, U0), (r1, q1, U1), (a8, c8, s1), (a7, c7, s0)] [(a0, c0, l0), (a1, c1, l1)] W') := hide (HE0.out.sub (by simp) (by simp) (by simp))
      refine hK.out _ _ ⟨HE'.out.cell (b := w2.heap.size) (v := .slice a7 m7 c7) (by simp), HE'.out.cell (b := w2.heap.size + 1) (v := .slice a8 m8 c8) (by simp)⟩ (fun hS' => ?_)
      clear hS'
      refine wpAnyH_listed (listed := #[true, true, true, true, true, true, true, true, false, true, true, false, false, false, false, true, false, false, false, false]) (by kernel_rfl) ?_
      have HA' := HA
      clear CC HE0
      try clear HE
      try clear HA
      revert HE'; revert HA'; revert HM1; revert HM0; revert W'; revert M1; revert q1; revert r1; revert M0; revert q0; revert r0; revert P3
      exact k2_3.out
    refine AllReadyH.cons (o := { dst := some 9, op := Op.alloc 25, type := 0, pos := "law.go:23", after := #[], guard := none }) rfl (fun K hK => ?_) ?_
    · go_simp
      have HE' : Hid (Env w [(W.heap.size, .slice none 0 0), (P3, .slice none 0 0), (w2.heap.size, .slice a7 m7 c7), (w2.heap.size + 1, .slice a8 m8 c8)] [(r0, q0, U0), (a8, c8, s1), (a7, c7, s0)] [(a0, c0, l0), (a1, c1, l1)] (W.alloc (.cells #[.slice none 0 0] 25))) := hide ((HE.out.box (.slice none 0 0) 25 rfl).sub (by simp) (by simp) (by simp))
      refine hK.out _ _ ⟨HE'.out.cell (b := w2.heap.size) (v := .slice a7 m7 c7) (by simp), HE'.out.cell (b := w2.heap.size + 1) (v := .slice a8 m8 c8) (by simp)⟩ (fun hS' => ?_)
      clear hS'
      refine wpAnyH_listed (listed := #[true, true, true, true, true, false, true, true, false, true, true, false, true, false, false, true, false, false, false, false]) (by kernel_rfl) ?_
      have hl3 := HE.out.lt (b := P3) (v := .slice none 0 0) (by simp)
      have hb7 := HE.out.lt (b := w2.heap.size) (v := .slice a7 m7 c7) (by simp)
      have hb8 := HE.out.lt (b := w2.heap.size + 1) (v := .slice a8 m8 c8) (by simp)
      have hsz := HE.out.below.size
      have HA' : Hid (([W.heap.size, P3, w2.heap.size, w2.heap.size + 1] : List Nat).Nodup ∧ ∀ b ∈ ([W.heap.size, P3, w2.heap.size, w2.heap.size + 1] : List Nat), w.heap.size ≤ b) := hide (by have := HA.out; simp at this ⊢; omega)
      clear hb7 hb8 hsz hl3
      try clear HE
      try clear HA
      generalize W.alloc (.cells #[.slice none 0 0] 25) = W' at HE' ⊢
      generalize W.heap.size = P0 at HE' HA' ⊢
      revert HE'; revert HA'; revert HM0; revert W'; revert M0; revert q0; revert r0; revert P3; revert P0
      exact k1_03.out
    refine AllReadyH.cons (o := { dst := some 10, op := Op.alloc 25, type := 0, pos := "law.go:23", after := #[], guard := none }) rfl (fun K hK => ?_) ?_
    · go_simp
      have HE' : Hid (Env w [(W.heap.size, .slice none 0 0), (P3, .slice none 0 0), (w2.heap.size, .slice a7 m7 c7), (w2.heap.size + 1, .slice a8 m8 c8)] [(r0, q0, U0), (a8, c8, s1), (a7, c7, s0)] [(a0, c0, l0), (a1, c1, l1)] (W.alloc (.cells #[.slice none 0 0] 25))) := hide ((HE.out.box (.slice none 0 0) 25 rfl).sub (by simp) (by simp) (by simp))
      refine hK.out _ _ ⟨HE'.out.cell (b := w2.heap.size) (v := .slice a7 m7 c7) (by simp), HE'.out.cell (b := w2.heap.size + 1) (v := .slice a8 m8 c8) (by simp)⟩ (fun hS' => ?_)
      clear hS'
      refine wpAnyH_listed (listed := #[true, true, true, true, true, false, true, true, false, true, true, false, false, true, false, true, false, false, false, false]) (by kernel_rfl) ?_
      have hl3 := HE.out.lt (b := P3) (v := .slice none 0 0) (by simp)
      have hb7 := HE.out.lt (b := w2.heap.size) (v := .slice a7 m7 c7) (by simp)
      have hb8 := HE.out.lt (b := w2.heap.size + 1) (v := .slice a8 m8 c8) (by simp)
      have hsz := HE.out.below.size
      have HA' : Hid (([W.heap.size, P3, w2.heap.size, w2.heap.size + 1] : List Nat).Nodup ∧ ∀ b ∈ ([W.heap.size, P3, w2.heap.size, w2.heap.size + 1] : List Nat), w.heap.size ≤ b) := hide (by have := HA.out; simp at this ⊢; omega)
      clear hb7 hb8 hsz hl3
      try clear HE
      try clear HA
      generalize W.alloc (.cells #[.slice none 0 0] 25) = W' at HE' ⊢
      generalize W.heap.size = P1 at HE' HA' ⊢
      revert HE'; revert HA'; revert HM0; revert W'; revert M0; revert q0; revert r0; revert P3; revert P1
      exact k1_13.out
    refine AllReadyH.cons (o := { dst := some 11, op := Op.alloc 25, type := 0, pos := "law.go:23", after := #[], guard := none }) rfl (fun K hK => ?_) ?_
    · go_simp
      have HE' : Hid (Env w [(W.heap.size, .slice none 0 0), (P3, .slice none 0 0), (w2.heap.size, .slice a7 m7 c7), (w2.heap.size + 1, .slice a8 m8 c8)] [(r0, q0, U0), (a8, c8, s1), (a7, c7, s0)] [(a0, c0, l0), (a1, c1, l1)] (W.alloc (.cells #[.slice none 0 0] 25))) := hide ((HE.out.box (.slice none 0 0) 25 rfl).sub (by simp) (by simp) (by simp))
      refine hK.out _ _ ⟨HE'.out.cell (b := w2.heap.size) (v := .slice a7 m7 c7) (by simp), HE'.out.cell (b := w2.heap.size + 1) (v := .slice a8 m8 c8) (by simp)⟩ (fun hS' => ?_)
      clear hS'
      refine wpAnyH_listed (listed := #[true, true, true, true, true, false, true, true, false, true, true, false, false, false, true, true, false, false, false, false]) (by kernel_rfl) ?_
      have hl3 := HE.out.lt (b := P3) (v := .slice none 0 0) (by simp)
      have hb7 := HE.out.lt (b := w2.heap.size) (v := .slice a7 m7 c7) (by simp)
      have hb8 := HE.out.lt (b := w2.heap.size + 1) (v := .slice a8 m8 c8) (by simp)
      have hsz := HE.out.below.size
      have HA' : Hid (([W.heap.size, P3, w2.heap.size, w2.heap.size + 1] : List Nat).Nodup ∧ ∀ b ∈ ([W.heap.size, P3, w2.heap.size, w2.heap.size + 1] : List Nat), w.heap.size ≤ b) := hide (by have := HA.out; simp at this ⊢; omega)
      clear hb7 hb8 hsz hl3
      try clear HE
      try clear HA
      generalize W.alloc (.cells #[.slice none 0 0] 25) = W' at HE' ⊢
      generalize W.heap.size = P2 at HE' HA' ⊢
      revert HE'; revert HA'; revert HM0; revert W'; revert M0; revert q0; revert r0; revert P3; revert P2
      exact k1_23.out
    exact AllReadyH.nil
  · intro k3_ k2_0 k2_1 k2_2 k2_3
    intro r0 q0 M0 r1 q1 M1 W HM0 HM1 HA HE
    refine wpAnyH_ready (rs := [8, 12, 13, 14, 15]) (by kernel_rfl) (by simp) ?_
    refine AllReadyH.cons (o := { dst := some 34, op := Op.call { callee := Callee.value (Operand.func 12), args := #[Operand.tmp 32, Operand.tmp 33], argTypes := #[25, 25] }, type := 25, pos := "law.go:23", after := #[{ on := 6, ground := Ground.data }, { on := 7, ground := Ground.data }, { on := 5, ground := Ground.chain }], guard := none }) rfl (fun K hK => ?_) ?_
    · have CC := hide (minusD (a := a7) (c := c7) (n := m7) (s := s0) (a2 := a8) (c2 := c8) (n2 := m8) (t := s1) HE (by simp) (by simp) hm7 hm8 HU2)
      go_simp
      go_at_call 12
      (with_reducible refine (Hid.out CC).mono ?_)
      rintro e W' ⟨r2, q2, M2, rfl, HM2, -, HE0⟩
      try go_wp2_with fail
      have HE' : Hid (Env w [(w2.heap.size, .slice a7 m7 c7), (w2.heap.size + 1, .slice a8 m8 c8)] [(r0, q0, U0), (r1, q1, U1), (r2, q2, U2), (a8, c8, s1), (a7, c7, s0)] [(a0, c0, l0), (a1, c1, l1)] W') := hide (HE0.out.sub (by simp) (by simp) (by simp))
      refine hK.out _ _ ⟨HE'.out.cell (b := w2.heap.size) (v := .slice a7 m7 c7) (by simp), HE'.out.cell (b := w2.heap.size + 1) (v := .slice a8 m8 c8) (by simp)⟩ (fun hS' => ?_)
      clear hS'
      refine wpAnyH_listed (listed := #[true, true, true, true, true, true, true, true, true, true, true, false, false, false, false, false, false, false, false, false]) (by kernel_rfl) ?_
      have HA' := HA
      clear CC HE0
      try clear HE
      try clear HA
      revert HE'; revert HA'; revert HM2; revert HM1; revert HM0; revert W'; revert M2; revert q2; revert r2; revert M1; revert q1; revert r1; revert M0; revert q0; revert r0
      exact k3_.out
    refine AllReadyH.cons (o := { dst := some 9, op := Op.alloc 25, type := 0, pos := "law.go:23", after := #[], guard := none }) rfl (fun K hK => ?_) ?_
    · go_simp
      have HE' : Hid (Env w [(W.heap.size, .slice none 0 0), (w2.heap.size, .slice a7 m7 c7), (w2.heap.size + 1, .slice a8 m8 c8)] [(r0, q0, U0), (r1, q1, U1), (a8, c8, s1), (a7, c7, s0)] [(a0, c0, l0), (a1, c1, l1)] (W.alloc (.cells #[.slice none 0 0] 25))) := hide ((HE.out.box (.slice none 0 0) 25 rfl).sub (by simp) (by simp) (by simp))
      refine hK.out _ _ ⟨HE'.out.cell (b := w2.heap.size) (v := .slice a7 m7 c7) (by simp), HE'.out.cell (b := w2.heap.size + 1) (v := .slice a8 m8 c8) (by simp)⟩ (fun hS' => ?_)
      clear hS'
      refine wpAnyH_listed (listed := #[true, true, true, true, true, true, true, true, false, true, true, false, true, false, false, false, false, false, false, false]) (by kernel_rfl) ?_
      have hb7 := HE.out.lt (b := w2.heap.size) (v := .slice a7 m7 c7) (by simp)
      have hb8 := HE.out.lt (b := w2.heap.size + 1) (v := .slice a8 m8 c8) (by simp)
      have hsz := HE.out.below.size
      have HA' : Hid (([W.heap.size, w2.heap.size, w2.heap.size + 1] : List Nat).Nodup ∧ ∀ b ∈ ([W.heap.size, w2.heap.size, w2.heap.size + 1] : List Nat), w.heap.size ≤ b) := hide (by have := HA.out; simp at this ⊢; omega)
      clear hb7 hb8 hsz
      try clear HE
      try clear HA
      generalize W.alloc (.cells #[.slice none 0 0] 25) = W' at HE' ⊢
      generalize W.heap.size = P0 at HE' HA' ⊢
      revert HE'; revert HA'; revert HM1; revert HM0; revert W'; revert M1; revert q1; revert r1; revert M0; revert q0; revert r0; revert P0
      exact k2_0.out
    refine AllReadyH.cons (o := { dst := some 10, op := Op.alloc 25, type := 0, pos := "law.go:23", after := #[], guard := none }) rfl (fun K hK => ?_) ?_
    · go_simp
      have HE' : Hid (Env w [(W.heap.size, .slice none 0 0), (w2.heap.size, .slice a7 m7 c7), (w2.heap.size + 1, .slice a8 m8 c8)] [(r0, q0, U0), (r1, q1, U1), (a8, c8, s1), (a7, c7, s0)] [(a0, c0, l0), (a1, c1, l1)] (W.alloc (.cells #[.slice none 0 0] 25))) := hide ((HE.out.box (.slice none 0 0) 25 rfl).sub (by simp) (by simp) (by simp))
      refine hK.out _ _ ⟨HE'.out.cell (b := w2.heap.size) (v := .slice a7 m7 c7) (by simp), HE'.out.cell (b := w2.heap.size + 1) (v := .slice a8 m8 c8) (by simp)⟩ (fun hS' => ?_)
      clear hS'
      refine wpAnyH_listed (listed := #[true, true, true, true, true, true, true, true, false, true, true, false, false, true, false, false, false, false, false, false]) (by kernel_rfl) ?_
      have hb7 := HE.out.lt (b := w2.heap.size) (v := .slice a7 m7 c7) (by simp)
      have hb8 := HE.out.lt (b := w2.heap.size + 1) (v := .slice a8 m8 c8) (by simp)
      have hsz := HE.out.below.size
      have HA' : Hid (([W.heap.size, w2.heap.size, w2.heap.size + 1] : List Nat).Nodup ∧ ∀ b ∈ ([W.heap.size, w2.heap.size, w2.heap.size + 1] : List Nat), w.heap.size ≤ b) := hide (by have := HA.out; simp at this ⊢; omega)
      clear hb7 hb8 hsz
      try clear HE
      try clear HA
      generalize W.alloc (.cells #[.slice none 0 0] 25) = W' at HE' ⊢
      generalize W.heap.size = P1 at HE' HA' ⊢
      revert HE'; revert HA'; revert HM1; revert HM0; revert W'; revert M1; revert q1; revert r1; revert M0; revert q0; revert r0; revert P1
      exact k2_1.out
    refine AllReadyH.cons (o := { dst := some 11, op := Op.alloc 25, type := 0, pos := "law.go:23", after := #[], guard := none }) rfl (fun K hK => ?_) ?_
    · go_simp
      have HE' : Hid (Env w [(W.heap.size, .slice none 0 0), (w2.heap.size, .slice a7 m7 c7), (w2.heap.size + 1, .slice a8 m8 c8)] [(r0, q0, U0), (r1, q1, U1), (a8, c8, s1), (a7, c7, s0)] [(a0, c0, l0), (a1, c1, l1)] (W.alloc (.cells #[.slice none 0 0] 25))) := hide ((HE.out.box (.slice none 0 0) 25 rfl).sub (by simp) (by simp) (by simp))
      refine hK.out _ _ ⟨HE'.out.cell (b := w2.heap.size) (v := .slice a7 m7 c7) (by simp), HE'.out.cell (b := w2.heap.size + 1) (v := .slice a8 m8 c8) (by simp)⟩ (fun hS' => ?_)
      clear hS'
      refine wpAnyH_listed (listed := #[true, true, true, true, true, true, true, true, false, true, true, false, false, false, true, false, false, false, false, false]) (by kernel_rfl) ?_
      have hb7 := HE.out.lt (b := w2.heap.size) (v := .slice a7 m7 c7) (by simp)
      have hb8 := HE.out.lt (b := w2.heap.size + 1) (v := .slice a8 m8 c8) (by simp)
      have hsz := HE.out.below.size
      have HA' : Hid (([W.heap.size, w2.heap.size, w2.heap.size + 1] : List Nat).Nodup ∧ ∀ b ∈ ([W.heap.size, w2.heap.size, w2.heap.size + 1] : List Nat), w.heap.size ≤ b) := hide (by have := HA.out; simp at this ⊢; omega)
      clear hb7 hb8 hsz
      try clear HE
      try clear HA
      generalize W.alloc (.cells #[.slice none 0 0] 25) = W' at HE' ⊢
      generalize W.heap.size = P2 at HE' HA' ⊢
      revert HE'; revert HA'; revert HM1; revert HM0; revert W'; revert M1; revert q1; revert r1; revert M0; revert q0; revert r0; revert P2
      exact k2_2.out
    refine AllReadyH.cons (o := { dst := some 12, op := Op.alloc 25, type := 0, pos := "law.go:23", after := #[], guard := none }) rfl (fun K hK => ?_) ?_
    · go_simp
      have HE' : Hid (Env w [(W.heap.size, .slice none 0 0), (w2.heap.size, .slice a7 m7 c7), (w2.heap.size + 1, .slice a8 m8 c8)] [(r0, q0, U0), (r1, q1, U1), (a8, c8, s1), (a7, c7, s0)] [(a0, c0, l0), (a1, c1, l1)] (W.alloc (.cells #[.slice none 0 0] 25))) := hide ((HE.out.box (.slice none 0 0) 25 rfl).sub (by simp) (by simp) (by simp))
      refine hK.out _ _ ⟨HE'.out.cell (b := w2.heap.size) (v := .slice a7 m7 c7) (by simp), HE'.out.cell (b := w2.heap.size + 1) (v := .slice a8 m8 c8) (by simp)⟩ (fun hS' => ?_)
      clear hS'
      refine wpAnyH_listed (listed := #[true, true, true, true, true, true, true, true, false, true, true, false, false, false, false, true, false, false, false, false]) (by kernel_rfl) ?_
      have hb7 := HE.out.lt (b := w2.heap.size) (v := .slice a7 m7 c7) (by simp)
      have hb8 := HE.out.lt (b := w2.heap.size + 1) (v := .slice a8 m8 c8) (by simp)
      have hsz := HE.out.below.size
      have HA' : Hid (([W.heap.size, w2.heap.size, w2.heap.size + 1] : List Nat).Nodup ∧ ∀ b ∈ ([W.heap.size, w2.heap.size, w2.heap.size + 1] : List Nat), w.heap.size ≤ b) := hide (by have := HA.out; simp at this ⊢; omega)
      clear hb7 hb8 hsz
      try clear HE
      try clear HA
      generalize W.alloc (.cells #[.slice none 0 0] 25) = W' at HE' ⊢
      generalize W.heap.size = P3 at HE' HA' ⊢
      revert HE'; revert HA'; revert HM1; revert HM0; revert W'; revert M1; revert q1; revert r1; revert M0; revert q0; revert r0; revert P3
      exact k2_3.out
    exact AllReadyH.nil
  · intro k1_012 k0_0123
    intro P0 P1 P2 W HA HE
    refine wpAnyH_ready (rs := [2, 15]) (by kernel_rfl) (by simp) ?_
    refine AllReadyH.cons (o := { dst := some 28, op := Op.call { callee := Callee.value (Operand.func 10), args := #[Operand.tmp 26, Operand.tmp 27], argTypes := #[25, 25] }, type := 25, pos := "law.go:23", after := #[{ on := 0, ground := Ground.data }, { on := 1, ground := Ground.data }], guard := none }) rfl (fun K hK => ?_) ?_
    · have CC := hide (orD (a := a7) (c := c7) (n := m7) (s := s0) (a2 := a8) (c2 := c8) (n2 := m8) (t := s1) HE (by simp) (by simp) hm7 hm8 HU0 HUL0)
      go_simp
      go_at_call 10
      (with_reducible refine (Hid.out CC).mono ?_)
      rintro e W' ⟨r0, q0, M0, rfl, HM0, -, HE0⟩
      try go_wp2_with fail
      have HE' : Hid (Env w [(P0, .slice none 0 0), (P1, .slice none 0 0), (P2, .slice none 0 0), (w2.heap.size, .slice a7 m7 c7), (w2.heap.size + 1, .slice a8 m8 c8)] [(r0, q0, U0), (a8, c8, s1), (a7, c7, s0)] [(a0, c0, l0), (a1, c1, l1)] W') := hide (HE0.out.sub (by simp) (by simp) (by simp))
      refine hK.out _ _ ⟨HE'.out.cell (b := w2.heap.size) (v := .slice a7 m7 c7) (by simp), HE'.out.cell (b := w2.heap.size + 1) (v := .slice a8 m8 c8) (by simp)⟩ (fun hS' => ?_)
      clear hS'
      refine wpAnyH_listed (listed := #[true, true, true, true, true, false, true, true, false, true, true, false, true, true, true, false, false, false, false, false]) (by kernel_rfl) ?_
      have HA' := HA
      clear CC HE0
      try clear HE
      try clear HA
      revert HE'; revert HA'; revert HM0; revert W'; revert M0; revert q0; revert r0; revert P2; revert P1; revert P0
      exact k1_012.out
    refine AllReadyH.cons (o := { dst := some 12, op := Op.alloc 25, type := 0, pos := "law.go:23", after := #[], guard := none }) rfl (fun K hK => ?_) ?_
    · go_simp
      have HE' : Hid (Env w [(P0, .slice none 0 0), (P1, .slice none 0 0), (P2, .slice none 0 0), (W.heap.size, .slice none 0 0), (w2.heap.size, .slice a7 m7 c7), (w2.heap.size + 1, .slice a8 m8 c8)] [(a8, c8, s1), (a7, c7, s0)] [(a0, c0, l0), (a1, c1, l1)] (W.alloc (.cells #[.slice none 0 0] 25))) := hide ((HE.out.box (.slice none 0 0) 25 rfl).sub (by simp) (by simp) (by simp))
      refine hK.out _ _ ⟨HE'.out.cell (b := w2.heap.size) (v := .slice a7 m7 c7) (by simp), HE'.out.cell (b := w2.heap.size + 1) (v := .slice a8 m8 c8) (by simp)⟩ (fun hS' => ?_)
      clear hS'
      refine wpAnyH_listed (listed := #[true, true, false, true, true, false, true, true, false, true, true, false, true, true, true, true, false, false, false, false]) (by kernel_rfl) ?_
      have hl0 := HE.out.lt (b := P0) (v := .slice none 0 0) (by simp)
      have hl1 := HE.out.lt (b := P1) (v := .slice none 0 0) (by simp)
      have hl2 := HE.out.lt (b := P2) (v := .slice none 0 0) (by simp)
      have hb7 := HE.out.lt (b := w2.heap.size) (v := .slice a7 m7 c7) (by simp)
      have hb8 := HE.out.lt (b := w2.heap.size + 1) (v := .slice a8 m8 c8) (by simp)
      have hsz := HE.out.below.size
      have HA' : Hid (([P0, P1, P2, W.heap.size, w2.heap.size, w2.heap.size + 1] : List Nat).Nodup ∧ ∀ b ∈ ([P0, P1, P2, W.heap.size, w2.heap.size, w2.heap.size + 1] : List Nat), w.heap.size ≤ b) := hide (by have := HA.out; simp at this ⊢; omega)
      clear hb7 hb8 hsz hl0 hl1 hl2
      try clear HE
      try clear HA
      generalize W.alloc (.cells #[.slice none 0 0] 25) = W' at HE' ⊢
      generalize W.heap.size = P3 at HE' HA' ⊢
      revert HE'; revert HA'; revert W'; revert P3; revert P2; revert P1; revert P0
      exact k0_0123.out
    exact AllReadyH.nil
  · intro k1_013 k0_0123
    intro P0 P1 P3 W HA HE
    refine wpAnyH_ready (rs := [2, 14]) (by kernel_rfl) (by simp) ?_
    refine AllReadyH.cons (o := { dst := some 28, op := Op.call { callee := Callee.value (Operand.func 10), args := #[Operand.tmp 26, Operand.tmp 27], argTypes := #[25, 25] }, type := 25, pos := "law.go:23", after := #[{ on := 0, ground := Ground.data }, { on := 1, ground := Ground.data }], guard := none }) rfl (fun K hK => ?_) ?_
    · have CC := hide (orD (a := a7) (c := c7) (n := m7) (s := s0) (a2 := a8) (c2 := c8) (n2 := m8) (t := s1) HE (by simp) (by simp) hm7 hm8 HU0 HUL0)
      go_simp
      go_at_call 10
      (with_reducible refine (Hid.out CC).mono ?_)
      rintro e W' ⟨r0, q0, M0, rfl, HM0, -, HE0⟩
      try go_wp2_with fail
      have HE' : Hid (Env w [(P0, .slice none 0 0), (P1, .slice none 0 0), (P3, .slice none 0 0), (w2.heap.size, .slice a7 m7 c7), (w2.heap.size + 1, .slice a8 m8 c8)] [(r0, q0, U0), (a8, c8, s1), (a7, c7, s0)] [(a0, c0, l0), (a1, c1, l1)] W') := hide (HE0.out.sub (by simp) (by simp) (by simp))
      refine hK.out _ _ ⟨HE'.out.cell (b := w2.heap.size) (v := .slice a7 m7 c7) (by simp), HE'.out.cell (b := w2.heap.size + 1) (v := .slice a8 m8 c8) (by simp)⟩ (fun hS' => ?_)
      clear hS'
      refine wpAnyH_listed (listed := #[true, true, true, true, true, false, true, true, false, true, true, false, true, true, false, true, false, false, false, false]) (by kernel_rfl) ?_
      have HA' := HA
      clear CC HE0
      try clear HE
      try clear HA
      revert HE'; revert HA'; revert HM0; revert W'; revert M0; revert q0; revert r0; revert P3; revert P1; revert P0
      exact k1_013.out
    refine AllReadyH.cons (o := { dst := some 11, op := Op.alloc 25, type := 0, pos := "law.go:23", after := #[], guard := none }) rfl (fun K hK => ?_) ?_
    · go_simp
      have HE' : Hid (Env w [(P0, .slice none 0 0), (P1, .slice none 0 0), (W.heap.size, .slice none 0 0), (P3, .slice none 0 0), (w2.heap.size, .slice a7 m7 c7), (w2.heap.size + 1, .slice a8 m8 c8)] [(a8, c8, s1), (a7, c7, s0)] [(a0, c0, l0), (a1, c1, l1)] (W.alloc (.cells #[.slice none 0 0] 25))) := hide ((HE.out.box (.slice none 0 0) 25 rfl).sub (by simp) (by simp) (by simp))
      refine hK.out _ _ ⟨HE'.out.cell (b := w2.heap.size) (v := .slice a7 m7 c7) (by simp), HE'.out.cell (b := w2.heap.size + 1) (v := .slice a8 m8 c8) (by simp)⟩ (fun hS' => ?_)
      clear hS'
      refine wpAnyH_listed (listed := #[true, true, false, true, true, false, true, true, false, true, true, false, true, true, true, true, false, false, false, false]) (by kernel_rfl) ?_
      have hl0 := HE.out.lt (b := P0) (v := .slice none 0 0) (by simp)
      have hl1 := HE.out.lt (b := P1) (v := .slice none 0 0) (by simp)
      have hl3 := HE.out.lt (b := P3) (v := .slice none 0 0) (by simp)
      have hb7 := HE.out.lt (b := w2.heap.size) (v := .slice a7 m7 c7) (by simp)
      have hb8 := HE.out.lt (b := w2.heap.size + 1) (v := .slice a8 m8 c8) (by simp)
      have hsz := HE.out.below.size
      have HA' : Hid (([P0, P1, W.heap.size, P3, w2.heap.size, w2.heap.size + 1] : List Nat).Nodup ∧ ∀ b ∈ ([P0, P1, W.heap.size, P3, w2.heap.size, w2.heap.size + 1] : List Nat), w.heap.size ≤ b) := hide (by have := HA.out; simp at this ⊢; omega)
      clear hb7 hb8 hsz hl0 hl1 hl3
      try clear HE
      try clear HA
      generalize W.alloc (.cells #[.slice none 0 0] 25) = W' at HE' ⊢
      generalize W.heap.size = P2 at HE' HA' ⊢
      revert HE'; revert HA'; revert W'; revert P3; revert P2; revert P1; revert P0
      exact k0_0123.out
    exact AllReadyH.nil
  · intro k1_023 k0_0123
    intro P0 P2 P3 W HA HE
    refine wpAnyH_ready (rs := [2, 13]) (by kernel_rfl) (by simp) ?_
    refine AllReadyH.cons (o := { dst := some 28, op := Op.call { callee := Callee.value (Operand.func 10), args := #[Operand.tmp 26, Operand.tmp 27], argTypes := #[25, 25] }, type := 25, pos := "law.go:23", after := #[{ on := 0, ground := Ground.data }, { on := 1, ground := Ground.data }], guard := none }) rfl (fun K hK => ?_) ?_
    · have CC := hide (orD (a := a7) (c := c7) (n := m7) (s := s0) (a2 := a8) (c2 := c8) (n2 := m8) (t := s1) HE (by simp) (by simp) hm7 hm8 HU0 HUL0)
      go_simp
      go_at_call 10
      (with_reducible refine (Hid.out CC).mono ?_)
      rintro e W' ⟨r0, q0, M0, rfl, HM0, -, HE0⟩
      try go_wp2_with fail
      have HE' : Hid (Env w [(P0, .slice none 0 0), (P2, .slice none 0 0), (P3, .slice none 0 0), (w2.heap.size, .slice a7 m7 c7), (w2.heap.size + 1, .slice a8 m8 c8)] [(r0, q0, U0), (a8, c8, s1), (a7, c7, s0)] [(a0, c0, l0), (a1, c1, l1)] W') := hide (HE0.out.sub (by simp) (by simp) (by simp))
      refine hK.out _ _ ⟨HE'.out.cell (b := w2.heap.size) (v := .slice a7 m7 c7) (by simp), HE'.out.cell (b := w2.heap.size + 1) (v := .slice a8 m8 c8) (by simp)⟩ (fun hS' => ?_)
      clear hS'
      refine wpAnyH_listed (listed := #[true, true, true, true, true, false, true, true, false, true, true, false, true, false, true, true, false, false, false, false]) (by kernel_rfl) ?_
      have HA' := HA
      clear CC HE0
      try clear HE
      try clear HA
      revert HE'; revert HA'; revert HM0; revert W'; revert M0; revert q0; revert r0; revert P3; revert P2; revert P0
      exact k1_023.out
    refine AllReadyH.cons (o := { dst := some 10, op := Op.alloc 25, type := 0, pos := "law.go:23", after := #[], guard := none }) rfl (fun K hK => ?_) ?_
    · go_simp
      have HE' : Hid (Env w [(P0, .slice none 0 0), (W.heap.size, .slice none 0 0), (P2, .slice none 0 0), (P3, .slice none 0 0), (w2.heap.size, .slice a7 m7 c7), (w2.heap.size + 1, .slice a8 m8 c8)] [(a8, c8, s1), (a7, c7, s0)] [(a0, c0, l0), (a1, c1, l1)] (W.alloc (.cells #[.slice none 0 0] 25))) := hide ((HE.out.box (.slice none 0 0) 25 rfl).sub (by simp) (by simp) (by simp))
      refine hK.out _ _ ⟨HE'.out.cell (b := w2.heap.size) (v := .slice a7 m7 c7) (by simp), HE'.out.cell (b := w2.heap.size + 1) (v := .slice a8 m8 c8) (by simp)⟩ (fun hS' => ?_)
      clear hS'
      refine wpAnyH_listed (listed := #[true, true, false, true, true, false, true, true, false, true, true, false, true, true, true, true, false, false, false, false]) (by kernel_rfl) ?_
      have hl0 := HE.out.lt (b := P0) (v := .slice none 0 0) (by simp)
      have hl2 := HE.out.lt (b := P2) (v := .slice none 0 0) (by simp)
      have hl3 := HE.out.lt (b := P3) (v := .slice none 0 0) (by simp)
      have hb7 := HE.out.lt (b := w2.heap.size) (v := .slice a7 m7 c7) (by simp)
      have hb8 := HE.out.lt (b := w2.heap.size + 1) (v := .slice a8 m8 c8) (by simp)
      have hsz := HE.out.below.size
      have HA' : Hid (([P0, W.heap.size, P2, P3, w2.heap.size, w2.heap.size + 1] : List Nat).Nodup ∧ ∀ b ∈ ([P0, W.heap.size, P2, P3, w2.heap.size, w2.heap.size + 1] : List Nat), w.heap.size ≤ b) := hide (by have := HA.out; simp at this ⊢; omega)
      clear hb7 hb8 hsz hl0 hl2 hl3
      try clear HE
      try clear HA
      generalize W.alloc (.cells #[.slice none 0 0] 25) = W' at HE' ⊢
      generalize W.heap.size = P1 at HE' HA' ⊢
      revert HE'; revert HA'; revert W'; revert P3; revert P2; revert P1; revert P0
      exact k0_0123.out
    exact AllReadyH.nil
  · intro k1_123 k0_0123
    intro P1 P2 P3 W HA HE
    refine wpAnyH_ready (rs := [2, 12]) (by kernel_rfl) (by simp) ?_
    refine AllReadyH.cons (o := { dst := some 28, op := Op.call { callee := Callee.value (Operand.func 10), args := #[Operand.tmp 26, Operand.tmp 27], argTypes := #[25, 25] }, type := 25, pos := "law.go:23", after := #[{ on := 0, ground := Ground.data }, { on := 1, ground := Ground.data }], guard := none }) rfl (fun K hK => ?_) ?_
    · have CC := hide (orD (a := a7) (c := c7) (n := m7) (s := s0) (a2 := a8) (c2 := c8) (n2 := m8) (t := s1) HE (by simp) (by simp) hm7 hm8 HU0 HUL0)
      go_simp
      go_at_call 10
      (with_reducible refine (Hid.out CC).mono ?_)
      rintro e W' ⟨r0, q0, M0, rfl, HM0, -, HE0⟩
      try go_wp2_with fail
      have HE' : Hid (Env w [(P1, .slice none 0 0), (P2, .slice none 0 0), (P3, .slice none 0 0), (w2.heap.size, .slice a7 m7 c7), (w2.heap.size + 1, .slice a8 m8 c8)] [(r0, q0, U0), (a8, c8, s1), (a7, c7, s0)] [(a0, c0, l0), (a1, c1, l1)] W') := hide (HE0.out.sub (by simp) (by simp) (by simp))
      refine hK.out _ _ ⟨HE'.out.cell (b := w2.heap.size) (v := .slice a7 m7 c7) (by simp), HE'.out.cell (b := w2.heap.size + 1) (v := .slice a8 m8 c8) (by simp)⟩ (fun hS' => ?_)
      clear hS'
      refine wpAnyH_listed (listed := #[true, true, true, true, true, false, true, true, false, true, true, false, false, true, true, true, false, false, false, false]) (by kernel_rfl) ?_
      have HA' := HA
      clear CC HE0
      try clear HE
      try clear HA
      revert HE'; revert HA'; revert HM0; revert W'; revert M0; revert q0; revert r0; revert P3; revert P2; revert P1
      exact k1_123.out
    refine AllReadyH.cons (o := { dst := some 9, op := Op.alloc 25, type := 0, pos := "law.go:23", after := #[], guard := none }) rfl (fun K hK => ?_) ?_
    · go_simp
      have HE' : Hid (Env w [(W.heap.size, .slice none 0 0), (P1, .slice none 0 0), (P2, .slice none 0 0), (P3, .slice none 0 0), (w2.heap.size, .slice a7 m7 c7), (w2.heap.size + 1, .slice a8 m8 c8)] [(a8, c8, s1), (a7, c7, s0)] [(a0, c0, l0), (a1, c1, l1)] (W.alloc (.cells #[.slice none 0 0] 25))) := hide ((HE.out.box (.slice none 0 0) 25 rfl).sub (by simp) (by simp) (by simp))
      refine hK.out _ _ ⟨HE'.out.cell (b := w2.heap.size) (v := .slice a7 m7 c7) (by simp), HE'.out.cell (b := w2.heap.size + 1) (v := .slice a8 m8 c8) (by simp)⟩ (fun hS' => ?_)
      clear hS'
      refine wpAnyH_listed (listed := #[true, true, false, true, true, false, true, true, false, true, true, false, true, true, true, true, false, false, false, false]) (by kernel_rfl) ?_
      have hl1 := HE.out.lt (b := P1) (v := .slice none 0 0) (by simp)
      have hl2 := HE.out.lt (b := P2) (v := .slice none 0 0) (by simp)
      have hl3 := HE.out.lt (b := P3) (v := .slice none 0 0) (by simp)
      have hb7 := HE.out.lt (b := w2.heap.size) (v := .slice a7 m7 c7) (by simp)
      have hb8 := HE.out.lt (b := w2.heap.size + 1) (v := .slice a8 m8 c8) (by simp)
      have hsz := HE.out.below.size
      have HA' : Hid (([W.heap.size, P1, P2, P3, w2.heap.size, w2.heap.size + 1] : List Nat).Nodup ∧ ∀ b ∈ ([W.heap.size, P1, P2, P3, w2.heap.size, w2.heap.size + 1] : List Nat), w.heap.size ≤ b) := hide (by have := HA.out; simp at this ⊢; omega)
      clear hb7 hb8 hsz hl1 hl2 hl3
      try clear HE
      try clear HA
      generalize W.alloc (.cells #[.slice none 0 0] 25) = W' at HE' ⊢
      generalize W.heap.size = P0 at HE' HA' ⊢
      revert HE'; revert HA'; revert W'; revert P3; revert P2; revert P1; revert P0
      exact k0_0123.out
    exact AllReadyH.nil
  · intro k2_01 k1_012 k1_013
    intro P0 P1 r0 q0 M0 W HM0 HA HE
    refine wpAnyH_ready (rs := [5, 14, 15]) (by kernel_rfl) (by simp) ?_
    refine AllReadyH.cons (o := { dst := some 31, op := Op.call { callee := Callee.value (Operand.func 11), args := #[Operand.tmp 29, Operand.tmp 30], argTypes := #[25, 25] }, type := 25, pos := "law.go:23", after := #[{ on := 3, ground := Ground.data }, { on := 4, ground := Ground.data }, { on := 2, ground := Ground.chain }], guard := none }) rfl (fun K hK => ?_) ?_
    · have CC := hide (andD (a := a7) (c := c7) (n := m7) (s := s0) (a2 := a8) (c2 := c8) (n2 := m8) (t := s1) HE (by simp) (by simp) hm7 hm8 HU1)
      go_simp
      go_at_call 11
      (with_reducible refine (Hid.out CC).mono ?_)
      rintro e W' ⟨r1, q1, M1, rfl, HM1, -, HE0⟩
      try go_wp2_with fail
      have HE' : Hid (Env w [(P0, .slice none 0 0), (P1, .slice none 0 0), (w2.heap.size, .slice a7 m7 c7), (w2.heap.size + 1, .slice a8 m8 c8)] [(r0, q0, U0), (r1, q1, U1), (a8, c8, s1), (a7, c7, s0)] [(a0, c0, l0), (a1, c1, l1)] W') := hide (HE0.out.sub (by simp) (by simp) (by simp))
      refine hK.out _ _ ⟨HE'.out.cell (b := w2.heap.size) (v := .slice a7 m7 c7) (by simp), HE'.out.cell (b := w2.heap.size + 1) (v := .slice a8 m8 c8) (by simp)⟩ (fun hS' => ?_)
      clear hS'
      refine wpAnyH_listed (listed := #[true, true, true, true, true, true, true, true, false, true, true, false, true, true, false, false, false, false, false, false]) (by kernel_rfl) ?_
      have HA' := HA
      clear CC HE0
      try clear HE
      try clear HA
      revert HE'; revert HA'; revert HM1; revert HM0; revert W'; revert M1; revert q1; revert r1; revert M0; revert q0; revert r0; revert P1; revert P0
      exact k2_01.out
    refine AllReadyH.cons (o := { dst := some 11, op := Op.alloc 25, type := 0, pos := "law.go:23", after := #[], guard := none }) rfl (fun K hK => ?_) ?_
    · go_simp
      have HE' : Hid (Env w [(P0, .slice none 0 0), (P1, .slice none 0 0), (W.heap.size, .slice none 0 0), (w2.heap.size, .slice a7 m7 c7), (w2.heap.size + 1, .slice a8 m8 c8)] [(r0, q0, U0), (a8, c8, s1), (a7, c7, s0)] [(a0, c0, l0), (a1, c1, l1)] (W.alloc (.cells #[.slice none 0 0] 25))) := hide ((HE.out.box (.slice none 0 0) 25 rfl).sub (by simp) (by simp) (by simp))
      refine hK.out _ _ ⟨HE'.out.cell (b := w2.heap.size) (v := .slice a7 m7 c7) (by simp), HE'.out.cell (b := w2.heap.size + 1) (v := .slice a8 m8 c8) (by simp)⟩ (fun hS' => ?_)
      clear hS'
      refine wpAnyH_listed (listed := #[true, true, true, true, true, false, true, true, false, true, true, false, true, true, true, false, false, false, false, false]) (by kernel_rfl) ?_
      have hl0 := HE.out.lt (b := P0) (v := .slice none 0 0) (by simp)
      have hl1 := HE.out.lt (b := P1) (v := .slice none 0 0) (by simp)
      have hb7 := HE.out.lt (b := w2.heap.size) (v := .slice a7 m7 c7) (by simp)
      have hb8 := HE.out.lt (b := w2.heap.size + 1) (v := .slice a8 m8 c8) (by simp)
      have hsz := HE.out.below.size
      have HA' : Hid (([P0, P1, W.heap.size, w2.heap.size, w2.heap.size + 1] : List Nat).Nodup ∧ ∀ b ∈ ([P0, P1, W.heap.size, w2.heap.size, w2.heap.size + 1] : List Nat), w.heap.size ≤ b) := hide (by have := HA.out; simp at this ⊢; omega)
      clear hb7 hb8 hsz hl0 hl1
      try clear HE
      try clear HA
      generalize W.alloc (.cells #[.slice none 0 0] 25) = W' at HE' ⊢
      generalize W.heap.size = P2 at HE' HA' ⊢
      revert HE'; revert HA'; revert HM0; revert W'; revert M0; revert q0; revert r0; revert P2; revert P1; revert P0
      exact k1_012.out
    refine AllReadyH.cons (o := { dst := some 12, op := Op.alloc 25, type := 0, pos := "law.go:23", after := #[], guard := none }) rfl (fun K hK => ?_) ?_
    · go_simp
      have HE' : Hid (Env w [(P0, .slice none 0 0), (P1, .slice none 0 0), (W.heap.size, .slice none 0 0), (w2.heap.size, .slice a7 m7 c7), (w2.heap.size + 1, .slice a8 m8 c8)] [(r0, q0, U0), (a8, c8, s1), (a7, c7, s0)] [(a0, c0, l0), (a1, c1, l1)] (W.alloc (.cells #[.slice none 0 0] 25))) := hide ((HE.out.box (.slice none 0 0) 25 rfl).sub (by simp) (by simp) (by simp))
      refine hK.out _ _ ⟨HE'.out.cell (b := w2.heap.size) (v := .slice a7 m7 c7) (by simp), HE'.out.cell (b := w2.heap.size + 1) (v := .slice a8 m8 c8) (by simp)⟩ (fun hS' => ?_)
      clear hS'
      refine wpAnyH_listed (listed := #[true, true, true, true, true, false, true, true, false, true, true, false, true, true, false, true, false, false, false, false]) (by kernel_rfl) ?_
      have hl0 := HE.out.lt (b := P0) (v := .slice none 0 0) (by simp)
      have hl1 := HE.out.lt (b := P1) (v := .slice none 0 0) (by simp)
      have hb7 := HE.out.lt (b := w2.heap.size) (v := .slice a7 m7 c7) (by simp)
      have hb8 := HE.out.lt (b := w2.heap.size + 1) (v := .slice a8 m8 c8) (by simp)
      have hsz := HE.out.below.size
      have HA' : Hid (([P0, P1, W.heap.size, w2.heap.size, w2.heap.size + 1] : List Nat).Nodup ∧ ∀ b ∈ ([P0, P1, W.heap.size, w2.heap.size, w2.heap.size + 1] : List Nat), w.heap.size ≤ b) := hide (by have := HA.out; simp at this ⊢; omega)
      clear hb7 hb8 hsz hl0 hl1
      try clear HE
      try clear HA
      generalize W.alloc (.cells #[.slice none 0 0] 25) = W' at HE' ⊢
      generalize W.heap.size = P3 at HE' HA' ⊢
      revert HE'; revert HA'; revert HM0; revert W'; revert M0; revert q0; revert r0; revert P3; revert P1; revert P0
      exact k1_013.out
    exact AllReadyH.nil
  · intro k2_02 k1_012 k1_023
    intro P0 P2 r0 q0 M0 W HM0 HA HE
    refine wpAnyH_ready (rs := [5, 13, 15]) (by kernel_rfl) (by simp) ?_
    refine AllReadyH.cons (o := { dst := some 31, op := Op.call { callee := Callee.value (Operand.func 11), args := #[Operand.tmp 29, Operand.tmp 30], argTypes := #[25, 25] }, type := 25, pos := "law.go:23", after := #[{ on := 3, ground := Ground.data }, { on := 4, ground := Ground.data }, { on := 2, ground := Ground.chain }], guard := none }) rfl (fun K hK => ?_) ?_
    · have CC := hide (andD (a := a7) (c := c7) (n := m7) (s := s0) (a2 := a8) (c2 := c8) (n2 := m8) (t := s1) HE (by simp) (by simp) hm7 hm8 HU1)
      go_simp
      go_at_call 11
      (with_reducible refine (Hid.out CC).mono ?_)
      rintro e W' ⟨r1, q1, M1, rfl, HM1, -, HE0⟩
      try go_wp2_with fail
      have HE' : Hid (Env w [(P0, .slice none 0 0), (P2, .slice none 0 0), (w2.heap.size, .slice a7 m7 c7), (w2.heap.size + 1, .slice a8 m8 c8)] [(r0, q0, U0), (r1, q1, U1), (a8, c8, s1), (a7, c7, s0)] [(a0, c0, l0), (a1, c1, l1)] W') := hide (HE0.out.sub (by simp) (by simp) (by simp))
      refine hK.out _ _ ⟨HE'.out.cell (b := w2.heap.size) (v := .slice a7 m7 c7) (by simp), HE'.out.cell (b := w2.heap.size + 1) (v := .slice a8 m8 c8) (by simp)⟩ (fun hS' => ?_)
      clear hS'
      refine wpAnyH_listed (listed := #[true, true, true, true, true, true, true, true, false, true, true, false, true, false, true, false, false, false, false, false]) (by kernel_rfl) ?_
      have HA' := HA
      clear CC HE0
      try clear HE
      try clear HA
      revert HE'; revert HA'; revert HM1; revert HM0; revert W'; revert M1; revert q1; revert r1; revert M0; revert q0; revert r0; revert P2; revert P0
      exact k2_02.out
    refine AllReadyH.cons (o := { dst := some 10, op := Op.alloc 25, type := 0, pos := "law.go:23", after := #[], guard := none }) rfl (fun K hK => ?_) ?_
    · go_simp
      have HE' : Hid (Env w [(P0, .slice none 0 0), (W.heap.size, .slice none 0 0), (P2, .slice none 0 0), (w2.heap.size, .slice a7 m7 c7), (w2.heap.size + 1, .slice a8 m8 c8)] [(r0, q0, U0), (a8, c8, s1), (a7, c7, s0)] [(a0, c0, l0), (a1, c1, l1)] (W.alloc (.cells #[.slice none 0 0] 25))) := hide ((HE.out.box (.slice none 0 0) 25 rfl).sub (by simp) (by simp) (by simp))
      refine hK.out _ _ ⟨HE'.out.cell (b := w2.heap.size) (v := .slice a7 m7 c7) (by simp), HE'.out.cell (b := w2.heap.size + 1) (v := .slice a8 m8 c8) (by simp)⟩ (fun hS' => ?_)
      clear hS'
      refine wpAnyH_listed (listed := #[true, true, true, true, true, false, true, true, false, true, true, false, true, true, true, false, false, false, false, false]) (by kernel_rfl) ?_
      have hl0 := HE.out.lt (b := P0) (v := .slice none 0 0) (by simp)
      have hl2 := HE.out.lt (b := P2) (v := .slice none 0 0) (by simp)
      have hb7 := HE.out.lt (b := w2.heap.size) (v := .slice a7 m7 c7) (by simp)
      have hb8 := HE.out.lt (b := w2.heap.size + 1) (v := .slice a8 m8 c8) (by simp)
      have hsz := HE.out.below.size
      have HA' : Hid (([P0, W.heap.size, P2, w2.heap.size, w2.heap.size + 1] : List Nat).Nodup ∧ ∀ b ∈ ([P0, W.heap.size, P2, w2.heap.size, w2.heap.size + 1] : List Nat), w.heap.size ≤ b) := hide (by have := HA.out; simp at this ⊢; omega)
      clear hb7 hb8 hsz hl0 hl2
      try clear HE
      try clear HA
      generalize W.alloc (.cells #[.slice none 0 0] 25) = W' at HE' ⊢
      generalize W.heap.size = P1 at HE' HA' ⊢
      revert HE'; revert HA'; revert HM0; revert W'; revert M0; revert q0; revert r0; revert P2; revert P1; revert P0
      exact k1_012.out
    refine AllReadyH.cons (o := { dst := some 12, op := Op.alloc 25, type := 0, pos := "law.go:23", after := #[], guard := none }) rfl (fun K hK => ?_) ?_
    · go_simp
      have HE' : Hid (Env w [(P0, .slice none 0 0), (P2, .slice none 0 0), (W.heap.size, .slice none 0 0), (w2.heap.size, .slice a7 m7 c7), (w2.heap.size + 1, .slice a8 m8 c8)] [(r0, q0, U0), (a8, c8, s1), (a7, c7, s0)] [(a0, c0, l0), (a1, c1, l1)] (W.alloc (.cells #[.slice none 0 0] 25))) := hide ((HE.out.box (.slice none 0 0) 25 rfl).sub (by simp) (by simp) (by simp))
      refine hK.out _ _ ⟨HE'.out.cell (b := w2.heap.size) (v := .slice a7 m7 c7) (by simp), HE'.out.cell (b := w2.heap.size + 1) (v := .slice a8 m8 c8) (by simp)⟩ (fun hS' => ?_)
      clear hS'
      refine wpAnyH_listed (listed := #[true, true, true, true, true, false, true, true, false, true, true, false, true, false, true, true, false, false, false, false]) (by kernel_rfl) ?_
      have hl0 := HE.out.lt (b := P0) (v := .slice none 0 0) (by simp)
      have hl2 := HE.out.lt (b := P2) (v := .slice none 0 0) (by simp)
      have hb7 := HE.out.lt (b := w2.heap.size) (v := .slice a7 m7 c7) (by simp)
      have hb8 := HE.out.lt (b := w2.heap.size + 1) (v := .slice a8 m8 c8) (by simp)
      have hsz := HE.out.below.size
      have HA' : Hid (([P0, P2, W.heap.size, w2.heap.size, w2.heap.size + 1] : List Nat).Nodup ∧ ∀ b ∈ ([P0, P2, W.heap.size, w2.heap.size, w2.heap.size + 1] : List Nat), w.heap.size ≤ b) := hide (by have := HA.out; simp at this ⊢; omega)
      clear hb7 hb8 hsz hl0 hl2
      try clear HE
      try clear HA
      generalize W.alloc (.cells #[.slice none 0 0] 25) = W' at HE' ⊢
      generalize W.heap.size = P3 at HE' HA' ⊢
      revert HE'; revert HA'; revert HM0; revert W'; revert M0; revert q0; revert r0; revert P3; revert P2; revert P0
      exact k1_023.out
    exact AllReadyH.nil
  · intro k2_03 k1_013 k1_023
    intro P0 P3 r0 q0 M0 W HM0 HA HE
    refine wpAnyH_ready (rs := [5, 13, 14]) (by kernel_rfl) (by simp) ?_
    refine AllReadyH.cons (o := { dst := some 31, op := Op.call { callee := Callee.value (Operand.func 11), args := #[Operand.tmp 29, Operand.tmp 30], argTypes := #[25, 25] }, type := 25, pos := "law.go:23", after := #[{ on := 3, ground := Ground.data }, { on := 4, ground := Ground.data }, { on := 2, ground := Ground.chain }], guard := none }) rfl (fun K hK => ?_) ?_
    · have CC := hide (andD (a := a7) (c := c7) (n := m7) (s := s0) (a2 := a8) (c2 := c8) (n2 := m8) (t := s1) HE (by simp) (by simp) hm7 hm8 HU1)
      go_simp
      go_at_call 11
      (with_reducible refine (Hid.out CC).mono ?_)
      rintro e W' ⟨r1, q1, M1, rfl, HM1, -, HE0⟩
      try go_wp2_with fail
      have HE' : Hid (Env w [(P0, .slice none 0 0), (P3, .slice none 0 0), (w2.heap.size, .slice a7 m7 c7), (w2.heap.size + 1, .slice a8 m8 c8)] [(r0, q0, U0), (r1, q1, U1), (a8, c8, s1), (a7, c7, s0)] [(a0, c0, l0), (a1, c1, l1)] W') := hide (HE0.out.sub (by simp) (by simp) (by simp))
      refine hK.out _ _ ⟨HE'.out.cell (b := w2.heap.size) (v := .slice a7 m7 c7) (by simp), HE'.out.cell (b := w2.heap.size + 1) (v := .slice a8 m8 c8) (by simp)⟩ (fun hS' => ?_)
      clear hS'
      refine wpAnyH_listed (listed := #[true, true, true, true, true, true, true, true, false, true, true, false, true, false, false, true, false, false, false, false]) (by kernel_rfl) ?_
      have HA' := HA
      clear CC HE0
      try clear HE
      try clear HA
      revert HE'; revert HA'; revert HM1; revert HM0; revert W'; revert M1; revert q1; revert r1; revert M0; revert q0; revert r0; revert P3; revert P0
      exact k2_03.out
    refine AllReadyH.cons (o := { dst := some 10, op := Op.alloc 25, type := 0, pos := "law.go:23", after := #[], guard := none }) rfl (fun K hK => ?_) ?_
    · go_simp
      have HE' : Hid (Env w [(P0, .slice none 0 0), (W.heap.size, .slice none 0 0), (P3, .slice none 0 0), (w2.heap.size, .slice a7 m7 c7), (w2.heap.size + 1, .slice a8 m8 c8)] [(r0, q0, U0), (a8, c8, s1), (a7, c7, s0)] [(a0, c0, l0), (a1, c1, l1)] (W.alloc (.cells #[.slice none 0 0] 25))) := hide ((HE.out.box (.slice none 0 0) 25 rfl).sub (by simp) (by simp) (by simp))
      refine hK.out _ _ ⟨HE'.out.cell (b := w2.heap.size) (v := .slice a7 m7 c7) (by simp), HE'.out.cell (b := w2.heap.size + 1) (v := .slice a8 m8 c8) (by simp)⟩ (fun hS' => ?_)
      clear hS'
      refine wpAnyH_listed (listed := #[true, true, true, true, true, false, true, true, false, true, true, false, true, true, false, true, false, false, false, false]) (by kernel_rfl) ?_
      have hl0 := HE.out.lt (b := P0) (v := .slice none 0 0) (by simp)
      have hl3 := HE.out.lt (b := P3) (v := .slice none 0 0) (by simp)
      have hb7 := HE.out.lt (b := w2.heap.size) (v := .slice a7 m7 c7) (by simp)
      have hb8 := HE.out.lt (b := w2.heap.size + 1) (v := .slice a8 m8 c8) (by simp)
      have hsz := HE.out.below.size
      have HA' : Hid (([P0, W.heap.size, P3, w2.heap.size, w2.heap.size + 1] : List Nat).Nodup ∧ ∀ b ∈ ([P0, W.heap.size, P3, w2.heap.size, w2.heap.size + 1] : List Nat), w.heap.size ≤ b) := hide (by have := HA.out; simp at this ⊢; omega)
      clear hb7 hb8 hsz hl0 hl3
      try clear HE
      try clear HA
      generalize W.alloc (.cells #[.slice none 0 0] 25) = W' at HE' ⊢
      generalize W.heap.size = P1 at HE' HA' ⊢
      revert HE'; revert HA'; revert HM0; revert W'; revert M0; revert q0; revert r0; revert P3; revert P1; revert P0
      exact k1_013.out
    refine AllReadyH.cons (o := { dst := some 11, op := Op.alloc 25, type := 0, pos := "law.go:23", after := #[], guard := none }) rfl (fun K hK => ?_) ?_
    · go_simp
      have HE' : Hid (Env w [(P0, .slice none 0 0), (W.heap.size, .slice none 0 0), (P3, .slice none 0 0), (w2.heap.size, .slice a7 m7 c7), (w2.heap.size + 1, .slice a8 m8 c8)] [(r0, q0, U0), (a8, c8, s1), (a7, c7, s0)] [(a0, c0, l0), (a1, c1, l1)] (W.alloc (.cells #[.slice none 0 0] 25))) := hide ((HE.out.box (.slice none 0 0) 25 rfl).sub (by simp) (by simp) (by simp))
      refine hK.out _ _ ⟨HE'.out.cell (b := w2.heap.size) (v := .slice a7 m7 c7) (by simp), HE'.out.cell (b := w2.heap.size + 1) (v := .slice a8 m8 c8) (by simp)⟩ (fun hS' => ?_)
      clear hS'
      refine wpAnyH_listed (listed := #[true, true, true, true, true, false, true, true, false, true, true, false, true, false, true, true, false, false, false, false]) (by kernel_rfl) ?_
      have hl0 := HE.out.lt (b := P0) (v := .slice none 0 0) (by simp)
      have hl3 := HE.out.lt (b := P3) (v := .slice none 0 0) (by simp)
      have hb7 := HE.out.lt (b := w2.heap.size) (v := .slice a7 m7 c7) (by simp)
      have hb8 := HE.out.lt (b := w2.heap.size + 1) (v := .slice a8 m8 c8) (by simp)
      have hsz := HE.out.below.size
      have HA' : Hid (([P0, W.heap.size, P3, w2.heap.size, w2.heap.size + 1] : List Nat).Nodup ∧ ∀ b ∈ ([P0, W.heap.size, P3, w2.heap.size, w2.heap.size + 1] : List Nat), w.heap.size ≤ b) := hide (by have := HA.out; simp at this ⊢; omega)
      clear hb7 hb8 hsz hl0 hl3
      try clear HE
      try clear HA
      generalize W.alloc (.cells #[.slice none 0 0] 25) = W' at HE' ⊢
      generalize W.heap.size = P2 at HE' HA' ⊢
      revert HE'; revert HA'; revert HM0; revert W'; revert M0; revert q0; revert r0; revert P3; revert P2; revert P0
      exact k1_023.out
    exact AllReadyH.nil
  · intro k2_12 k1_012 k1_123
    intro P1 P2 r0 q0 M0 W HM0 HA HE
    refine wpAnyH_ready (rs := [5, 12, 15]) (by kernel_rfl) (by simp) ?_
    refine AllReadyH.cons (o := { dst := some 31, op := Op.call { callee := Callee.value (Operand.func 11), args := #[Operand.tmp 29, Operand.tmp 30], argTypes := #[25, 25] }, type := 25, pos := "law.go:23", after := #[{ on := 3, ground := Ground.data }, { on := 4, ground := Ground.data }, { on := 2, ground := Ground.chain }], guard := none }) rfl (fun K hK => ?_) ?_
    · have CC := hide (andD (a := a7) (c := c7) (n := m7) (s := s0) (a2 := a8) (c2 := c8) (n2 := m8) (t := s1) HE (by simp) (by simp) hm7 hm8 HU1)
      go_simp
      go_at_call 11
      (with_reducible refine (Hid.out CC).mono ?_)
      rintro e W' ⟨r1, q1, M1, rfl, HM1, -, HE0⟩
      try go_wp2_with fail
      have HE' : Hid (Env w [(P1, .slice none 0 0), (P2, .slice none 0 0), (w2.heap.size, .slice a7 m7 c7), (w2.heap.size + 1, .slice a8 m8 c8)] [(r0, q0, U0), (r1, q1, U1), (a8, c8, s1), (a7, c7, s0)] [(a0, c0, l0), (a1, c1, l1)] W') := hide (HE0.out.sub (by simp) (by simp) (by simp))
      refine hK.out _ _ ⟨HE'.out.cell (b := w2.heap.size) (v := .slice a7 m7 c7) (by simp), HE'.out.cell (b := w2.heap.size + 1) (v := .slice a8 m8 c8) (by simp)⟩ (fun hS' => ?_)
      clear hS'
      refine wpAnyH_listed (listed := #[true, true, true, true, true, true, true, true, false, true, true, false, false, true, true, false, false, false, false, false]) (by kernel_rfl) ?_
      have HA' := HA
      clear CC HE0
      try clear HE
      try clear HA
      revert HE'; revert HA'; revert HM1; revert HM0; revert W'; revert M1; revert q1; revert r1; revert M0; revert q0; revert r0; revert P2; revert P1
      exact k2_12.out
    refine AllReadyH.cons (o := { dst := some 9, op := Op.alloc 25, type := 0, pos := "law.go:23", after := #[], guard := none }) rfl (fun K hK => ?_) ?_
    · go_simp
      have HE' : Hid (Env w [(W.heap.size, .slice none 0 0), (P1, .slice none 0 0), (P2, .slice none 0 0), (w2.heap.size, .slice a7 m7 c7), (w2.heap.size + 1, .slice a8 m8 c8)] [(r0, q0, U0), (a8, c8, s1), (a7, c7, s0)] [(a0, c0, l0), (a1, c1, l1)] (W.alloc (.cells #[.slice none 0 0] 25))) := hide ((HE.out.box (.slice none 0 0) 25 rfl).sub (by simp) (by simp) (by simp))
      refine hK.out _ _ ⟨HE'.out.cell (b := w2.heap.size) (v := .slice a7 m7 c7) (by simp), HE'.out.cell (b := w2.heap.size + 1) (v := .slice a8 m8 c8) (by simp)⟩ (fun hS' => ?_)
      clear hS'
      refine wpAnyH_listed (listed := #[true, true, true, true, true, false, true, true, false, true, true, false, true, true, true, false, false, false, false, false]) (by kernel_rfl) ?_
      have hl1 := HE.out.lt (b := P1) (v := .slice none 0 0) (by simp)
      have hl2 := HE.out.lt (b := P2) (v := .slice none 0 0) (by simp)
      have hb7 := HE.out.lt (b := w2.heap.size) (v := .slice a7 m7 c7) (by simp)
      have hb8 := HE.out.lt (b := w2.heap.size + 1) (v := .slice a8 m8 c8) (by simp)
      have hsz := HE.out.below.size
      have HA' : Hid (([W.heap.size, P1, P2, w2.heap.size, w2.heap.size + 1] : List Nat).Nodup ∧ ∀ b ∈ ([W.heap.size, P1, P2, w2.heap.size, w2.heap.size + 1] : List Nat), w.heap.size ≤ b) := hide (by have := HA.out; simp at this ⊢; omega)
      clear hb7 hb8 hsz hl1 hl2
      try clear HE
      try clear HA
      generalize W.alloc (.cells #[.slice none 0 0] 25) = W' at HE' ⊢
      generalize W.heap.size = P0 at HE' HA' ⊢
      revert HE'; revert HA'; revert HM0; revert W'; revert M0; revert q0; revert r0; revert P2; revert P1; revert P0
      exact k1_012.out
    refine AllReadyH.cons (o := { dst := some 12, op := Op.alloc 25, type := 0, pos := "law.go:23", after := #[], guard := none }) rfl (fun K hK => ?_) ?_
    · go_simp
      have HE' : Hid (Env w [(P1, .slice none 0 0), (P2, .slice none 0 0), (W.heap.size, .slice none 0 0), (w2.heap.size, .slice a7 m7 c7), (w2.heap.size + 1, .slice a8 m8 c8)] [(r0, q0, U0), (a8, c8, s1), (a7, c7, s0)] [(a0, c0, l0), (a1, c1, l1)] (W.alloc (.cells #[.slice none 0 0] 25))) := hide ((HE.out.box (.slice none 0 0) 25 rfl).sub (by simp) (by simp) (by simp))
      refine hK.out _ _ ⟨HE'.out.cell (b := w2.heap.size) (v := .slice a7 m7 c7) (by simp), HE'.out.cell (b := w2.heap.size + 1) (v := .slice a8 m8 c8) (by simp)⟩ (fun hS' => ?_)
      clear hS'
      refine wpAnyH_listed (listed := #[true, true, true, true, true, false, true, true, false, true, true, false, false, true, true, true, false, false, false, false]) (by kernel_rfl) ?_
      have hl1 := HE.out.lt (b := P1) (v := .slice none 0 0) (by simp)
      have hl2 := HE.out.lt (b := P2) (v := .slice none 0 0) (by simp)
      have hb7 := HE.out.lt (b := w2.heap.size) (v := .slice a7 m7 c7) (by simp)
      have hb8 := HE.out.lt (b := w2.heap.size + 1) (v := .slice a8 m8 c8) (by simp)
      have hsz := HE.out.below.size
      have HA' : Hid (([P1, P2, W.heap.size, w2.heap.size, w2.heap.size + 1] : List Nat).Nodup ∧ ∀ b ∈ ([P1, P2, W.heap.size, w2.heap.size, w2.heap.size + 1] : List Nat), w.heap.size ≤ b) := hide (by have := HA.out; simp at this ⊢; omega)
      clear hb7 hb8 hsz hl1 hl2
      try clear HE
      try clear HA
      generalize W.alloc (.cells #[.slice none 0 0] 25) = W' at HE' ⊢
      generalize W.heap.size = P3 at HE' HA' ⊢
      revert HE'; revert HA'; revert HM0; revert W'; revert M0; revert q0; revert r0; revert P3; revert P2; revert P1
      exact k1_123.out
    exact AllReadyH.nil
  · intro k2_13 k1_013 k1_123
    intro P1 P3 r0 q0 M0 W HM0 HA HE
    refine wpAnyH_ready (rs := [5, 12, 14]) (by kernel_rfl) (by simp) ?_
    refine AllReadyH.cons (o := { dst := some 31, op := Op.call { callee := Callee.value (Operand.func 11), args := #[Operand.tmp 29, Operand.tmp 30], argTypes := #[25, 25] }, type := 25, pos := "law.go:23", after := #[{ on := 3, ground := Ground.data }, { on := 4, ground := Ground.data }, { on := 2, ground := Ground.chain }], guard := none }) rfl (fun K hK => ?_) ?_
    · have CC := hide (andD (a := a7) (c := c7) (n := m7) (s := s0) (a2 := a8) (c2 := c8) (n2 := m8) (t := s1) HE (by simp) (by simp) hm7 hm8 HU1)
      go_simp
      go_at_call 11
      (with_reducible refine (Hid.out CC).mono ?_)
      rintro e W' ⟨r1, q1, M1, rfl, HM1, -, HE0⟩
      try go_wp2_with fail
      have HE' : Hid (Env w [(P1, .slice none 0 0), (P3, .slice none 0 0), (w2.heap.size, .slice a7 m7 c7), (w2.heap.size + 1, .slice a8 m8 c8)] [(r0, q0, U0), (r1, q1, U1), (a8, c8, s1), (a7, c7, s0)] [(a0, c0, l0), (a1, c1, l1)] W') := hide (HE0.out.sub (by simp) (by simp) (by simp))
      refine hK.out _ _ ⟨HE'.out.cell (b := w2.heap.size) (v := .slice a7 m7 c7) (by simp), HE'.out.cell (b := w2.heap.size + 1) (v := .slice a8 m8 c8) (by simp)⟩ (fun hS' => ?_)
      clear hS'
      refine wpAnyH_listed (listed := #[true, true, true, true, true, true, true, true, false, true, true, false, false, true, false, true, false, false, false, false]) (by kernel_rfl) ?_
      have HA' := HA
      clear CC HE0
      try clear HE
      try clear HA
      revert HE'; revert HA'; revert HM1; revert HM0; revert W'; revert M1; revert q1; revert r1; revert M0; revert q0; revert r0; revert P3; revert P1
      exact k2_13.out
    refine AllReadyH.cons (o := { dst := some 9, op := Op.alloc 25, type := 0, pos := "law.go:23", after := #[], guard := none }) rfl (fun K hK => ?_) ?_
    · go_simp
      have HE' : Hid (Env w [(W.heap.size, .slice none 0 0), (P1, .slice none 0 0), (P3, .slice none 0 0), (w2.heap.size, .slice a7 m7 c7), (w2.heap.size + 1, .slice a8 m8 c8)] [(r0, q0, U0), (a8, c8, s1), (a7, c7, s0)] [(a0, c0, l0), (a1, c1, l1)] (W.alloc (.cells #[.slice none 0 0] 25))) := hide ((HE.out.box (.slice none 0 0) 25 rfl).sub (by simp) (by simp) (by simp))
      refine hK.out _ _ ⟨HE'.out.cell (b := w2.heap.size) (v := .slice a7 m7 c7) (by simp), HE'.out.cell (b := w2.heap.size + 1) (v := .slice a8 m8 c8) (by simp)⟩ (fun hS' => ?_)
      clear hS'
      refine wpAnyH_listed (listed := #[true, true, true, true, true, false, true, true, false, true, true, false, true, true, false, true, false, false, false, false]) (by kernel_rfl) ?_
      have hl1 := HE.out.lt (b := P1) (v := .slice none 0 0) (by simp)
      have hl3 := HE.out.lt (b := P3) (v := .slice none 0 0) (by simp)
      have hb7 := HE.out.lt (b := w2.heap.size) (v := .slice a7 m7 c7) (by simp)
      have hb8 := HE.out.lt (b := w2.heap.size + 1) (v := .slice a8 m8 c8) (by simp)
      have hsz := HE.out.below.size
      have HA' : Hid (([W.heap.size, P1, P3, w2.heap.size, w2.heap.size + 1] : List Nat).Nodup ∧ ∀ b ∈ ([W.heap.size, P1, P3, w2.heap.size, w2.heap.size + 1] : List Nat), w.heap.size ≤ b) := hide (by have := HA.out; simp at this ⊢; omega)
      clear hb7 hb8 hsz hl1 hl3
      try clear HE
      try clear HA
      generalize W.alloc (.cells #[.slice none 0 0] 25) = W' at HE' ⊢
      generalize W.heap.size = P0 at HE' HA' ⊢
      revert HE'; revert HA'; revert HM0; revert W'; revert M0; revert q0; revert r0; revert P3; revert P1; revert P0
      exact k1_013.out
    refine AllReadyH.cons (o := { dst := some 11, op := Op.alloc 25, type := 0, pos := "law.go:23", after := #[], guard := none }) rfl (fun K hK => ?_) ?_
    · go_simp
      have HE' : Hid (Env w [(P1, .slice none 0 0), (W.heap.size, .slice none 0 0), (P3, .slice none 0 0), (w2.heap.size, .slice a7 m7 c7), (w2.heap.size + 1, .slice a8 m8 c8)] [(r0, q0, U0), (a8, c8, s1), (a7, c7, s0)] [(a0, c0, l0), (a1, c1, l1)] (W.alloc (.cells #[.slice none 0 0] 25))) := hide ((HE.out.box (.slice none 0 0) 25 rfl).sub (by simp) (by simp) (by simp))
      refine hK.out _ _ ⟨HE'.out.cell (b := w2.heap.size) (v := .slice a7 m7 c7) (by simp), HE'.out.cell (b := w2.heap.size + 1) (v := .slice a8 m8 c8) (by simp)⟩ (fun hS' => ?_)
      clear hS'
      refine wpAnyH_listed (listed := #[true, true, true, true, true, false, true, true, false, true, true, false, false, true, true, true, false, false, false, false]) (by kernel_rfl) ?_
      have hl1 := HE.out.lt (b := P1) (v := .slice none 0 0) (by simp)
      have hl3 := HE.out.lt (b := P3) (v := .slice none 0 0) (by simp)
      have hb7 := HE.out.lt (b := w2.heap.size) (v := .slice a7 m7 c7) (by simp)
      have hb8 := HE.out.lt (b := w2.heap.size + 1) (v := .slice a8 m8 c8) (by simp)
      have hsz := HE.out.below.size
      have HA' : Hid (([P1, W.heap.size, P3, w2.heap.size, w2.heap.size + 1] : List Nat).Nodup ∧ ∀ b ∈ ([P1, W.heap.size, P3, w2.heap.size, w2.heap.size + 1] : List Nat), w.heap.size ≤ b) := hide (by have := HA.out; simp at this ⊢; omega)
      clear hb7 hb8 hsz hl1 hl3
      try clear HE
      try clear HA
      generalize W.alloc (.cells #[.slice none 0 0] 25) = W' at HE' ⊢
      generalize W.heap.size = P2 at HE' HA' ⊢
      revert HE'; revert HA'; revert HM0; revert W'; revert M0; revert q0; revert r0; revert P3; revert P2; revert P1
      exact k1_123.out
    exact AllReadyH.nil
  · intro k2_23 k1_023 k1_123
    intro P2 P3 r0 q0 M0 W HM0 HA HE
    refine wpAnyH_ready (rs := [5, 12, 13]) (by kernel_rfl) (by simp) ?_
    refine AllReadyH.cons (o := { dst := some 31, op := Op.call { callee := Callee.value (Operand.func 11), args := #[Operand.tmp 29, Operand.tmp 30], argTypes := #[25, 25] }, type := 25, pos := "law.go:23", after := #[{ on := 3, ground := Ground.data }, { on := 4, ground := Ground.data }, { on := 2, ground := Ground.chain }], guard := none }) rfl (fun K hK => ?_) ?_
    · have CC := hide (andD (a := a7) (c := c7) (n := m7) (s := s0) (a2 := a8) (c2 := c8) (n2 := m8) (t := s1) HE (by simp) (by simp) hm7 hm8 HU1)
      go_simp
      go_at_call 11
      (with_reducible refine (Hid.out CC).mono ?_)
      rintro e W' ⟨r1, q1, M1, rfl, HM1, -, HE0⟩
      try go_wp2_with fail
      have HE' : Hid (Env w [(P2, .slice none 0 0), (P3, .slice none 0 0), (w2.heap.size, .slice a7 m7 c7), (w2.heap.size + 1, .slice a8 m8 c8)] [(r0, q0, U0), (r1, q1, U1), (a8, c8, s1), (a7, c7, s0)] [(a0, c0, l0), (a1, c1, l1)] W') := hide (HE0.out.sub (by simp) (by simp) (by simp))
      refine hK.out _ _ ⟨HE'.out.cell (b := w2.heap.size) (v := .slice a7 m7 c7) (by simp), HE'.out.cell (b := w2.heap.size + 1) (v := .slice a8 m8 c8) (by simp)⟩ (fun hS' => ?_)
      clear hS'
      refine wpAnyH_listed (listed := #[true, true, true, true, true, true, true, true, false, true, true, false, false, false, true, true, false, false, false, false]) (by kernel_rfl) ?_
      have HA' := HA
      clear CC HE0
      try clear HE
      try clear HA
      revert HE'; revert HA'; revert HM1; revert HM0; revert W'; revert M1; revert q1; revert r1; revert M0; revert q0; revert r0; revert P3; revert P2
      exact k2_23.out
    refine AllReadyH.cons (o := { dst := some 9, op := Op.alloc 25, type := 0, pos := "law.go:23", after := #[], guard := none }) rfl (fun K hK => ?_) ?_
    · go_simp
      have HE' : Hid (Env w [(W.heap.size, .slice none 0 0), (P2, .slice none 0 0), (P3, .slice none 0 0), (w2.heap.size, .slice a7 m7 c7), (w2.heap.size + 1, .slice a8 m8 c8)] [(r0, q0, U0), (a8, c8, s1), (a7, c7, s0)] [(a0, c0, l0), (a1, c1, l1)] (W.alloc (.cells #[.slice none 0 0] 25))) := hide ((HE.out.box (.slice none 0 0) 25 rfl).sub (by simp) (by simp) (by simp))
      refine hK.out _ _ ⟨HE'.out.cell (b := w2.heap.size) (v := .slice a7 m7 c7) (by simp), HE'.out.cell (b := w2.heap.size + 1) (v := .slice a8 m8 c8) (by simp)⟩ (fun hS' => ?_)
      clear hS'
      refine wpAnyH_listed (listed := #[true, true, true, true, true, false, true, true, false, true, true, false, true, false, true, true, false, false, false, false]) (by kernel_rfl) ?_
      have hl2 := HE.out.lt (b := P2) (v := .slice none 0 0) (by simp)
      have hl3 := HE.out.lt (b := P3) (v := .slice none 0 0) (by simp)
      have hb7 := HE.out.lt (b := w2.heap.size) (v := .slice a7 m7 c7) (by simp)
      have hb8 := HE.out.lt (b := w2.heap.size + 1) (v := .slice a8 m8 c8) (by simp)
      have hsz := HE.out.below.size
      have HA' : Hid (([W.heap.size, P2, P3, w2.heap.size, w2.heap.size + 1] : List Nat).Nodup ∧ ∀ b ∈ ([W.heap.size, P2, P3, w2.heap.size, w2.heap.size + 1] : List Nat), w.heap.size ≤ b) := hide (by have := HA.out; simp at this ⊢; omega)
      clear hb7 hb8 hsz hl2 hl3
      try clear HE
      try clear HA
      generalize W.alloc (.cells #[.slice none 0 0] 25) = W' at HE' ⊢
      generalize W.heap.size = P0 at HE' HA' ⊢
      revert HE'; revert HA'; revert HM0; revert W'; revert M0; revert q0; revert r0; revert P3; revert P2; revert P0
      exact k1_023.out
    refine AllReadyH.cons (o := { dst := some 10, op := Op.alloc 25, type := 0, pos := "law.go:23", after := #[], guard := none }) rfl (fun K hK => ?_) ?_
    · go_simp
      have HE' : Hid (Env w [(W.heap.size, .slice none 0 0), (P2, .slice none 0 0), (P3, .slice none 0 0), (w2.heap.size, .slice a7 m7 c7), (w2.heap.size + 1, .slice a8 m8 c8)] [(r0, q0, U0), (a8, c8, s1), (a7, c7, s0)] [(a0, c0, l0), (a1, c1, l1)] (W.alloc (.cells #[.slice none 0 0] 25))) := hide ((HE.out.box (.slice none 0 0) 25 rfl).sub (by simp) (by simp) (by simp))
      refine hK.out _ _ ⟨HE'.out.cell (b := w2.heap.size) (v := .slice a7 m7 c7) (by simp), HE'.out.cell (b := w2.heap.size + 1) (v := .slice a8 m8 c8) (by simp)⟩ (fun hS' => ?_)
      clear hS'
      refine wpAnyH_listed (listed := #[true, true, true, true, true, false, true, true, false, true, true, false, false, true, true, true, false, false, false, false]) (by kernel_rfl) ?_
      have hl2 := HE.out.lt (b := P2) (v := .slice none 0 0) (by simp)
      have hl3 := HE.out.lt (b := P3) (v := .slice none 0 0) (by simp)
      have hb7 := HE.out.lt (b := w2.heap.size) (v := .slice a7 m7 c7) (by simp)
      have hb8 := HE.out.lt (b := w2.heap.size + 1) (v := .slice a8 m8 c8) (by simp)
      have hsz := HE.out.below.size
      have HA' : Hid (([W.heap.size, P2, P3, w2.heap.size, w2.heap.size + 1] : List Nat).Nodup ∧ ∀ b ∈ ([W.heap.size, P2, P3, w2.heap.size, w2.heap.size + 1] : List Nat), w.heap.size ≤ b) := hide (by have := HA.out; simp at this ⊢; omega)
      clear hb7 hb8 hsz hl2 hl3
      try clear HE
      try clear HA
      generalize W.alloc (.cells #[.slice none 0 0] 25) = W' at HE' ⊢
      generalize W.heap.size = P1 at HE' HA' ⊢
      revert HE'; revert HA'; revert HM0; revert W'; revert M0; revert q0; revert r0; revert P3; revert P2; revert P1
      exact k1_123.out
    exact AllReadyH.nil
  · intro k3_0 k2_01 k2_02 k2_03
    intro P0 r0 q0 M0 r1 q1 M1 W HM0 HM1 HA HE
    refine wpAnyH_ready (rs := [8, 13, 14, 15]) (by kernel_rfl) (by simp) ?_
    refine AllReadyH.cons (o := { dst := some 34, op := Op.call { callee := Callee.value (Operand.func 12), args := #[Operand.tmp 32, Operand.tmp 33], argTypes := #[25, 25] }, type := 25, pos := "law.go:23", after := #[{ on := 6, ground := Ground.data }, { on := 7, ground := Ground.data }, { on := 5, ground := Ground.chain }], guard := none }) rfl (fun K hK => ?_) ?_
    · have CC := hide (minusD (a := a7) (c := c7) (n := m7) (s := s0) (a2 := a8) (c2 := c8) (n2 := m8) (t := s1) HE (by simp) (by simp) hm7 hm8 HU2)
      go_simp
      go_at_call 12
      (with_reducible refine (Hid.out CC).mono ?_)
      rintro e W' ⟨r2, q2, M2, rfl, HM2, -, HE0⟩
      try go_wp2_with fail
      have HE' : Hid (Env w [(P0, .slice none 0 0), (w2.heap.size, .slice a7 m7 c7), (w2.heap.size + 1, .slice a8 m8 c8)] [(r0, q0, U0), (r1, q1, U1), (r2, q2, U2), (a8, c8, s1), (a7, c7, s0)] [(a0, c0, l0), (a1, c1, l1)] W') := hide (HE0.out.sub (by simp) (by simp) (by simp))
      refine hK.out _ _ ⟨HE'.out.cell (b := w2.heap.size) (v := .slice a7 m7 c7) (by simp), HE'.out.cell (b := w2.heap.size + 1) (v := .slice a8 m8 c8) (by simp)⟩ (fun hS' => ?_)
      clear hS'
      refine wpAnyH_listed (listed := #[true, true, true, true, true, true, true, true, true, true, true, false, true, false, false, false, false, false, false, false]) (by kernel_rfl) ?_
      have HA' := HA
      clear CC HE0
      try clear HE
      try clear HA
      revert HE'; revert HA'; revert HM2; revert HM1; revert HM0; revert W'; revert M2; revert q2; revert r2; revert M1; revert q1; revert r1; revert M0; revert q0; revert r0; revert P0
      exact k3_0.out
    refine AllReadyH.cons (o := { dst := some 10, op := Op.alloc 25, type := 0, pos := "law.go:23", after := #[], guard := none }) rfl (fun K hK => ?_) ?_
    · go_simp
      have HE' : Hid (Env w [(P0, .slice none 0 0), (W.heap.size, .slice none 0 0), (w2.heap.size, .slice a7 m7 c7), (w2.heap.size + 1, .slice a8 m8 c8)] [(r0, q0, U0), (r1, q1, U1), (a8, c8, s1), (a7, c7, s0)] [(a0, c0, l0), (a1, c1, l1)] (W.alloc (.cells #[.slice none 0 0] 25))) := hide ((HE.out.box (.slice none 0 0) 25 rfl).sub (by simp) (by simp) (by simp))
      refine hK.out _ _ ⟨HE'.out.cell (b := w2.heap.size) (v := .slice a7 m7 c7) (by simp), HE'.out.cell (b := w2.heap.size + 1) (v := .slice a8 m8 c8) (by simp)⟩ (fun hS' => ?_)
      clear hS'
      refine wpAnyH_listed (listed := #[true, true, true, true, true, true, true, true, false, true, true, false, true, true, false, false, false, false, false, false]) (by kernel_rfl) ?_
      have hl0 := HE.out.lt (b := P0) (v := .slice none 0 0) (by simp)
      have hb7 := HE.out.lt (b := w2.heap.size) (v := .slice a7 m7 c7) (by simp)
      have hb8 := HE.out.lt (b := w2.heap.size + 1) (v := .slice a8 m8 c8) (by simp)
      have hsz := HE.out.below.size
      have HA' : Hid (([P0, W.heap.size, w2.heap.size, w2.heap.size + 1] : List Nat).Nodup ∧ ∀ b ∈ ([P0, W.heap.size, w2.heap.size, w2.heap.size + 1] : List Nat), w.heap.size ≤ b) := hide (by have := HA.out; simp at this ⊢; omega)
      clear hb7 hb8 hsz hl0
      try clear HE
      try clear HA
      generalize W.alloc (.cells #[.slice none 0 0] 25) = W' at HE' ⊢
      generalize W.heap.size = P1 at HE' HA' ⊢
      revert HE'; revert HA'; revert HM1; revert HM0; revert W'; revert M1; revert q1; revert r1; revert M0; revert q0; revert r0; revert P1; revert P0
      exact k2_01.out
    refine AllReadyH.cons (o := { dst := some 11, op := Op.alloc 25, type := 0, pos := "law.go:23", after := #[], guard := none }) rfl (fun K hK => ?_) ?_
    · go_simp
      have HE' : Hid (Env w [(P0, .slice none 0 0), (W.heap.size, .slice none 0 0), (w2.heap.size, .slice a7 m7 c7), (w2.heap.size + 1, .slice a8 m8 c8)] [(r0, q0, U0), (r1, q1, U1), (a8, c8, s1), (a7, c7, s0)] [(a0, c0, l0), (a1, c1, l1)] (W.alloc (.cells #[.slice none 0 0] 25))) := hide ((HE.out.box (.slice none 0 0) 25 rfl).sub (by simp) (by simp) (by simp))
      refine hK.out _ _ ⟨HE'.out.cell (b := w2.heap.size) (v := .slice a7 m7 c7) (by simp), HE'.out.cell (b := w2.heap.size + 1) (v := .slice a8 m8 c8) (by simp)⟩ (fun hS' => ?_)
      clear hS'
      refine wpAnyH_listed (listed := #[true, true, true, true, true, true, true, true, false, true, true, false, true, false, true, false, false, false, false, false]) (by kernel_rfl) ?_
      have hl0 := HE.out.lt (b := P0) (v := .slice none 0 0) (by simp)
      have hb7 := HE.out.lt (b := w2.heap.size) (v := .slice a7 m7 c7) (by simp)
      have hb8 := HE.out.lt (b := w2.heap.size + 1) (v := .slice a8 m8 c8) (by simp)
      have hsz := HE.out.below.size
      have HA' : Hid (([P0, W.heap.size, w2.heap.size, w2.heap.size + 1] : List Nat).Nodup ∧ ∀ b ∈ ([P0, W.heap.size, w2.heap.size, w2.heap.size + 1] : List Nat), w.heap.size ≤ b) := hide (by have := HA.out; simp at this ⊢; omega)
      clear hb7 hb8 hsz hl0
      try clear HE
      try clear HA
      generalize W.alloc (.cells #[.slice none 0 0] 25) = W' at HE' ⊢
      generalize W.heap.size = P2 at HE' HA' ⊢
      revert HE'; revert HA'; revert HM1; revert HM0; revert W'; revert M1; revert q1; revert r1; revert M0; revert q0; revert r0; revert P2; revert P0
      exact k2_02.out
    refine AllReadyH.cons (o := { dst := some 12, op := Op.alloc 25, type := 0, pos := "law.go:23", after := #[], guard := none }) rfl (fun K hK => ?_) ?_
    · go_simp
      have HE' : Hid (Env w [(P0, .slice none 0 0), (W.heap.size, .slice none 0 0), (w2.heap.size, .slice a7 m7 c7), (w2.heap.size + 1, .slice a8 m8 c8)] [(r0, q0, U0), (r1, q1, U1), (a8, c8, s1), (a7, c7, s0)] [(a0, c0, l0), (a1, c1, l1)] (W.alloc (.cells #[.slice none 0 0] 25))) := hide ((HE.out.box (.slice none 0 0) 25 rfl).sub (by simp) (by simp) (by simp))
      refine hK.out _ _ ⟨HE'.out.cell (b := w2.heap.size) (v := .slice a7 m7 c7) (by simp), HE'.out.cell (b := w2.heap.size + 1) (v := .slice a8 m8 c8) (by simp)⟩ (fun hS' => ?_)
      clear hS'
      refine wpAnyH_listed (listed := #[true, true, true, true, true, true, true, true, false, true, true, false, true, false, false, true, false, false, false, false]) (by kernel_rfl) ?_
      have hl0 := HE.out.lt (b := P0) (v := .slice none 0 0) (by simp)
      have hb7 := HE.out.lt (b := w2.heap.size) (v := .slice a7 m7 c7) (by simp)
      have hb8 := HE.out.lt (b := w2.heap.size + 1) (v := .slice a8 m8 c8) (by simp)
      have hsz := HE.out.below.size
      have HA' : Hid (([P0, W.heap.size, w2.heap.size, w2.heap.size + 1] : List Nat).Nodup ∧ ∀ b ∈ ([P0, W.heap.size, w2.heap.size, w2.heap.size + 1] : List Nat), w.heap.size ≤ b) := hide (by have := HA.out; simp at this ⊢; omega)
      clear hb7 hb8 hsz hl0
      try clear HE
      try clear HA
      generalize W.alloc (.cells #[.slice none 0 0] 25) = W' at HE' ⊢
      generalize W.heap.size = P3 at HE' HA' ⊢
      revert HE'; revert HA'; revert HM1; revert HM0; revert W'; revert M1; revert q1; revert r1; revert M0; revert q0; revert r0; revert P3; revert P0
      exact k2_03.out
    exact AllReadyH.nil
  · intro k3_1 k2_01 k2_12 k2_13
    intro P1 r0 q0 M0 r1 q1 M1 W HM0 HM1 HA HE
    refine wpAnyH_ready (rs := [8, 12, 14, 15]) (by kernel_rfl) (by simp) ?_
    refine AllReadyH.cons (o := { dst := some 34, op := Op.call { callee := Callee.value (Operand.func 12), args := #[Operand.tmp 32, Operand.tmp 33], argTypes := #[25, 25] }, type := 25, pos := "law.go:23", after := #[{ on := 6, ground := Ground.data }, { on := 7, ground := Ground.data }, { on := 5, ground := Ground.chain }], guard := none }) rfl (fun K hK => ?_) ?_
    · have CC := hide (minusD (a := a7) (c := c7) (n := m7) (s := s0) (a2 := a8) (c2 := c8) (n2 := m8) (t := s1) HE (by simp) (by simp) hm7 hm8 HU2)
      go_simp
      go_at_call 12
      (with_reducible refine (Hid.out CC).mono ?_)
      rintro e W' ⟨r2, q2, M2, rfl, HM2, -, HE0⟩
      try go_wp2_with fail
      have HE' : Hid (Env w [(P1, .slice none 0 0), (w2.heap.size, .slice a7 m7 c7), (w2.heap.size + 1, .slice a8 m8 c8)] [(r0, q0, U0), (r1, q1, U1), (r2, q2, U2), (a8, c8, s1), (a7, c7, s0)] [(a0, c0, l0), (a1, c1, l1)] W') := hide (HE0.out.sub (by simp) (by simp) (by simp))
      refine hK.out _ _ ⟨HE'.out.cell (b := w2.heap.size) (v := .slice a7 m7 c7) (by simp), HE'.out.cell (b := w2.heap.size + 1) (v := .slice a8 m8 c8) (by simp)⟩ (fun hS' => ?_)
      clear hS'
      refine wpAnyH_listed (listed := #[true, true, true, true, true, true, true, true, true, true, true, false, false, true, false, false, false, false, false, false]) (by kernel_rfl) ?_
      have HA' := HA
      clear CC HE0
      try clear HE
      try clear HA
      revert HE'; revert HA'; revert HM2; revert HM1; revert HM0; revert W'; revert M2; revert q2; revert r2; revert M1; revert q1; revert r1; revert M0; revert q0; revert r0; revert P1
      exact k3_1.out
    refine AllReadyH.cons (o := { dst := some 9, op := Op.alloc 25, type := 0, pos := "law.go:23", after := #[], guard := none }) rfl (fun K hK => ?_) ?_
    · go_simp
      have HE' : Hid (Env w [(W.heap.size, .slice none 0 0), (P1, .slice none 0 0), (w2.heap.size, .slice a7 m7 c7), (w2.heap.size + 1, .slice a8 m8 c8)] [(r0, q0, U0), (r1, q1, U1), (a8, c8, s1), (a7, c7, s0)] [(a0, c0, l0), (a1, c1, l1)] (W.alloc (.cells #[.slice none 0 0] 25))) := hide ((HE.out.box (.slice none 0 0) 25 rfl).sub (by simp) (by simp) (by simp))
      refine hK.out _ _ ⟨HE'.out.cell (b := w2.heap.size) (v := .slice a7 m7 c7) (by simp), HE'.out.cell (b := w2.heap.size + 1) (v := .slice a8 m8 c8) (by simp)⟩ (fun hS' => ?_)
      clear hS'
      refine wpAnyH_listed (listed := #[true, true, true, true, true, true, true, true, false, true, true, false, true, true, false, false, false, false, false, false]) (by kernel_rfl) ?_
      have hl1 := HE.out.lt (b := P1) (v := .slice none 0 0) (by simp)
      have hb7 := HE.out.lt (b := w2.heap.size) (v := .slice a7 m7 c7) (by simp)
      have hb8 := HE.out.lt (b := w2.heap.size + 1) (v := .slice a8 m8 c8) (by simp)
      have hsz := HE.out.below.size
      have HA' : Hid (([W.heap.size, P1, w2.heap.size, w2.heap.size + 1] : List Nat).Nodup ∧ ∀ b ∈ ([W.heap.size, P1, w2.heap.size, w2.heap.size + 1] : List Nat), w.heap.size ≤ b) := hide (by have := HA.out; simp at this ⊢; omega)
      clear hb7 hb8 hsz hl1
      try clear HE
      try clear HA
      generalize W.alloc (.cells #[.slice none 0 0] 25) = W' at HE' ⊢
      generalize W.heap.size = P0 at HE' HA' ⊢
      revert HE'; revert HA'; revert HM1; revert HM0; revert W'; revert M1; revert q1; revert r1; revert M0; revert q0; revert r0; revert P1; revert P0
      exact k2_01.out
    refine AllReadyH.cons (o := { dst := some 11, op := Op.alloc 25, type := 0, pos := "law.go:23", after := #[], guard := none }) rfl (fun K hK => ?_) ?_
    · go_simp
      have HE' : Hid (Env w [(P1, .slice none 0 0), (W.heap.size, .slice none 0 0), (w2.heap.size, .slice a7 m7 c7), (w2.heap.size + 1, .slice a8 m8 c8)] [(r0, q0, U0), (r1, q1, U1), (a8, c8, s1), (a7, c7, s0)] [(a0, c0, l0), (a1, c1, l1)] (W.alloc (.cells #[.slice none 0 0] 25))) := hide ((HE.out.box (.slice none 0 0) 25 rfl).sub (by simp) (by simp) (by simp))
      refine hK.out _ _ ⟨HE'.out.cell (b := w2.heap.size) (v := .slice a7 m7 c7) (by simp), HE'.out.cell (b := w2.heap.size + 1) (v := .slice a8 m8 c8) (by simp)⟩ (fun hS' => ?_)
      clear hS'
      refine wpAnyH_listed (listed := #[true, true, true, true, true, true, true, true, false, true, true, false, false, true, true, false, false, false, false, false]) (by kernel_rfl) ?_
      have hl1 := HE.out.lt (b := P1) (v := .slice none 0 0) (by simp)
      have hb7 := HE.out.lt (b := w2.heap.size) (v := .slice a7 m7 c7) (by simp)
      have hb8 := HE.out.lt (b := w2.heap.size + 1) (v := .slice a8 m8 c8) (by simp)
      have hsz := HE.out.below.size
      have HA' : Hid (([P1, W.heap.size, w2.heap.size, w2.heap.size + 1] : List Nat).Nodup ∧ ∀ b ∈ ([P1, W.heap.size, w2.heap.size, w2.heap.size + 1] : List Nat), w.heap.size ≤ b) := hide (by have := HA.out; simp at this ⊢; omega)
      clear hb7 hb8 hsz hl1
      try clear HE
      try clear HA
      generalize W.alloc (.cells #[.slice none 0 0] 25) = W' at HE' ⊢
      generalize W.heap.size = P2 at HE' HA' ⊢
      revert HE'; revert HA'; revert HM1; revert HM0; revert W'; revert M1; revert q1; revert r1; revert M0; revert q0; revert r0; revert P2; revert P1
      exact k2_12.out
    refine AllReadyH.cons (o := { dst := some 12, op := Op.alloc 25, type := 0, pos := "law.go:23", after := #[], guard := none }) rfl (fun K hK => ?_) ?_
    · go_simp
      have HE' : Hid (Env w [(P1, .slice none 0 0), (W.heap.size, .slice none 0 0), (w2.heap.size, .slice a7 m7 c7), (w2.heap.size + 1, .slice a8 m8 c8)] [(r0, q0, U0), (r1, q1, U1), (a8, c8, s1), (a7, c7, s0)] [(a0, c0, l0), (a1, c1, l1)] (W.alloc (.cells #[.slice none 0 0] 25))) := hide ((HE.out.box (.slice none 0 0) 25 rfl).sub (by simp) (by simp) (by simp))
      refine hK.out _ _ ⟨HE'.out.cell (b := w2.heap.size) (v := .slice a7 m7 c7) (by simp), HE'.out.cell (b := w2.heap.size + 1) (v := .slice a8 m8 c8) (by simp)⟩ (fun hS' => ?_)
      clear hS'
      refine wpAnyH_listed (listed := #[true, true, true, true, true, true, true, true, false, true, true, false, false, true, false, true, false, false, false, false]) (by kernel_rfl) ?_
      have hl1 := HE.out.lt (b := P1) (v := .slice none 0 0) (by simp)
      have hb7 := HE.out.lt (b := w2.heap.size) (v := .slice a7 m7 c7) (by simp)
      have hb8 := HE.out.lt (b := w2.heap.size + 1) (v := .slice a8 m8 c8) (by simp)
      have hsz := HE.out.below.size
      have HA' : Hid (([P1, W.heap.size, w2.heap.size, w2.heap.size + 1] : List Nat).Nodup ∧ ∀ b ∈ ([P1, W.heap.size, w2.heap.size, w2.heap.size + 1] : List Nat), w.heap.size ≤ b) := hide (by have := HA.out; simp at this ⊢; omega)
      clear hb7 hb8 hsz hl1
      try clear HE
      try clear HA
      generalize W.alloc (.cells #[.slice none 0 0] 25) = W' at HE' ⊢
      generalize W.heap.size = P3 at HE' HA' ⊢
      revert HE'; revert HA'; revert HM1; revert HM0; revert W'; revert M1; revert q1; revert r1; revert M0; revert q0; revert r0; revert P3; revert P1
      exact k2_13.out
    exact AllReadyH.nil
  · intro k3_2 k2_02 k2_12 k2_23
    intro P2 r0 q0 M0 r1 q1 M1 W HM0 HM1 HA HE
    refine wpAnyH_ready (rs := [8, 12, 13, 15]) (by kernel_rfl) (by simp) ?_
    refine AllReadyH.cons (o := { dst := some 34, op := Op.call { callee := Callee.value (Operand.func 12), args := #[Operand.tmp 32, Operand.tmp 33], argTypes := #[25, 25] }, type := 25, pos := "law.go:23", after := #[{ on := 6, ground := Ground.data }, { on := 7, ground := Ground.data }, { on := 5, ground := Ground.chain }], guard := none }) rfl (fun K hK => ?_) ?_
    · have CC := hide (minusD (a := a7) (c := c7) (n := m7) (s := s0) (a2 := a8) (c2 := c8) (n2 := m8) (t := s1) HE (by simp) (by simp) hm7 hm8 HU2)
      go_simp
      go_at_call 12
      (with_reducible refine (Hid.out CC).mono ?_)
      rintro e W' ⟨r2, q2, M2, rfl, HM2, -, HE0⟩
      try go_wp2_with fail
      have HE' : Hid (Env w [(P2, .slice none 0 0), (w2.heap.size, .slice a7 m7 c7), (w2.heap.size + 1, .slice a8 m8 c8)] [(r0, q0, U0), (r1, q1, U1), (r2, q2, U2), (a8, c8, s1), (a7, c7, s0)] [(a0, c0, l0), (a1, c1, l1)] W') := hide (HE0.out.sub (by simp) (by simp) (by simp))
      refine hK.out _ _ ⟨HE'.out.cell (b := w2.heap.size) (v := .slice a7 m7 c7) (by simp), HE'.out.cell (b := w2.heap.size + 1) (v := .slice a8 m8 c8) (by simp)⟩ (fun hS' => ?_)
      clear hS'
      refine wpAnyH_listed (listed := #[true, true, true, true, true, true, true, true, true, true, true, false, false, false, true, false, false, false, false, false]) (by kernel_rfl) ?_
      have HA' := HA
      clear CC HE0
      try clear HE
      try clear HA
      revert HE'; revert HA'; revert HM2; revert HM1; revert HM0; revert W'; revert M2; revert q2; revert r2; revert M1; revert q1; revert r1; revert M0; revert q0; revert r0; revert P2
      exact k3_2.out
    refine AllReadyH.cons (o := { dst := some 9, op := Op.alloc 25, type := 0, pos := "law.go:23", after := #[], guard := none }) rfl (fun K hK => ?_) ?_
    · go_simp
      have HE' : Hid (Env w [(W.heap.size, .slice none 0 0), (P2, .slice none 0 0), (w2.heap.size, .slice a7 m7 c7), (w2.heap.size + 1, .slice a8 m8 c8)] [(r0, q0, U0), (r1, q1, U1), (a8, c8, s1), (a7, c7, s0)] [(a0, c0, l0), (a1, c1, l1)] (W.alloc (.cells #[.slice none 0 0] 25))) := hide ((HE.out.box (.slice none 0 0) 25 rfl).sub (by simp) (by simp) (by simp))
      refine hK.out _ _ ⟨HE'.out.cell (b := w2.heap.size) (v := .slice a7 m7 c7) (by simp), HE'.out.cell (b := w2.heap.size + 1) (v := .slice a8 m8 c8) (by simp)⟩ (fun hS' => ?_)
      clear hS'
      refine wpAnyH_listed (listed := #[true, true, true, true, true, true, true, true, false, true, true, false, true, false, true, false, false, false, false, false]) (by kernel_rfl) ?_
      have hl2 := HE.out.lt (b := P2) (v := .slice none 0 0) (by simp)
      have hb7 := HE.out.lt (b := w2.heap.size) (v := .slice a7 m7 c7) (by simp)
      have hb8 := HE.out.lt (b := w2.heap.size + 1) (v := .slice a8 m8 c8) (by simp)
      have hsz := HE.out.below.size
      have HA' : Hid (([W.heap.size, P2, w2.heap.size, w2.heap.size + 1] : List Nat).Nodup ∧ ∀ b ∈ ([W.heap.size, P2, w2.heap.size, w2.heap.size + 1] : List Nat), w.heap.size ≤ b) := hide (by have := HA.out; simp at this ⊢; omega)
      clear hb7 hb8 hsz hl2
      try clear HE
      try clear HA
      generalize W.alloc (.cells #[.slice none 0 0] 25) = W' at HE' ⊢
      generalize W.heap.size = P0 at HE' HA' ⊢
      revert HE'; revert HA'; revert HM1; revert HM0; revert W'; revert M1; revert q1; revert r1; revert M0; revert q0; revert r0; revert P2; revert P0
      exact k2_02.out
    refine AllReadyH.cons (o := { dst := some 10, op := Op.alloc 25, type := 0, pos := "law.go:23", after := #[], guard := none }) rfl (fun K hK => ?_) ?_
    · go_simp
      have HE' : Hid (Env w [(W.heap.size, .slice none 0 0), (P2, .slice none 0 0), (w2.heap.size, .slice a7 m7 c7), (w2.heap.size + 1, .slice a8 m8 c8)] [(r0, q0, U0), (r1, q1, U1), (a8, c8, s1), (a7, c7, s0)] [(a0, c0, l0), (a1, c1, l1)] (W.alloc (.cells #[.slice none 0 0] 25))) := hide ((HE.out.box (.slice none 0 0) 25 rfl).sub (by simp) (by simp) (by simp))
      refine hK.out _ _ ⟨HE'.out.cell (b := w2.heap.size) (v := .slice a7 m7 c7) (by simp), HE'.out.cell (b := w2.heap.size + 1) (v := .slice a8 m8 c8) (by simp)⟩ (fun hS' => ?_)
      clear hS'
      refine wpAnyH_listed (listed := #[true, true, true, true, true, true, true, true, false, true, true, false, false, true, true, false, false, false, false, false]) (by kernel_rfl) ?_
      have hl2 := HE.out.lt (b := P2) (v := .slice none 0 0) (by simp)
      have hb7 := HE.out.lt (b := w2.heap.size) (v := .slice a7 m7 c7) (by simp)
      have hb8 := HE.out.lt (b := w2.heap.size + 1) (v := .slice a8 m8 c8) (by simp)
      have hsz := HE.out.below.size
      have HA' : Hid (([W.heap.size, P2, w2.heap.size, w2.heap.size + 1] : List Nat).Nodup ∧ ∀ b ∈ ([W.heap.size, P2, w2.heap.size, w2.heap.size + 1] : List Nat), w.heap.size ≤ b) := hide (by have := HA.out; simp at this ⊢; omega)
      clear hb7 hb8 hsz hl2
      try clear HE
      try clear HA
      generalize W.alloc (.cells #[.slice none 0 0] 25) = W' at HE' ⊢
      generalize W.heap.size = P1 at HE' HA' ⊢
      revert HE'; revert HA'; revert HM1; revert HM0; revert W'; revert M1; revert q1; revert r1; revert M0; revert q0; revert r0; revert P2; revert P1
      exact k2_12.out
    refine AllReadyH.cons (o := { dst := some 12, op := Op.alloc 25, type := 0, pos := "law.go:23", after := #[], guard := none }) rfl (fun K hK => ?_) ?_
    · go_simp
      have HE' : Hid (Env w [(P2, .slice none 0 0), (W.heap.size, .slice none 0 0), (w2.heap.size, .slice a7 m7 c7), (w2.heap.size + 1, .slice a8 m8 c8)] [(r0, q0, U0), (r1, q1, U1), (a8, c8, s1), (a7, c7, s0)] [(a0, c0, l0), (a1, c1, l1)] (W.alloc (.cells #[.slice none 0 0] 25))) := hide ((HE.out.box (.slice none 0 0) 25 rfl).sub (by simp) (by simp) (by simp))
      refine hK.out _ _ ⟨HE'.out.cell (b := w2.heap.size) (v := .slice a7 m7 c7) (by simp), HE'.out.cell (b := w2.heap.size + 1) (v := .slice a8 m8 c8) (by simp)⟩ (fun hS' => ?_)
      clear hS'
      refine wpAnyH_listed (listed := #[true, true, true, true, true, true, true, true, false, true, true, false, false, false, true, true, false, false, false, false]) (by kernel_rfl) ?_
      have hl2 := HE.out.lt (b := P2) (v := .slice none 0 0) (by simp)
      have hb7 := HE.out.lt (b := w2.heap.size) (v := .slice a7 m7 c7) (by simp)
      have hb8 := HE.out.lt (b := w2.heap.size + 1) (v := .slice a8 m8 c8) (by simp)
      have hsz := HE.out.below.size
      have HA' : Hid (([P2, W.heap.size, w2.heap.size, w2.heap.size + 1] : List Nat).Nodup ∧ ∀ b ∈ ([P2, W.heap.size, w2.heap.size, w2.heap.size + 1] : List Nat), w.heap.size ≤ b) := hide (by have := HA.out; simp at this ⊢; omega)
      clear hb7 hb8 hsz hl2
      try clear HE
      try clear HA
      generalize W.alloc (.cells #[.slice none 0 0] 25) = W' at HE' ⊢
      generalize W.heap.size = P3 at HE' HA' ⊢
      revert HE'; revert HA'; revert HM1; revert HM0; revert W'; revert M1; revert q1; revert r1; revert M0; revert q0; revert r0; revert P3; revert P2
      exact k2_23.out
    exact AllReadyH.nil
  · intro k3_3 k2_03 k2_13 k2_23
    intro P3 r0 q0 M0 r1 q1 M1 W HM0 HM1 HA HE
    refine wpAnyH_ready (rs := [8, 12, 13, 14]) (by kernel_rfl) (by simp) ?_
    refine AllReadyH.cons (o := { dst := some 34, op := Op.call { callee := Callee.value (Operand.func 12), args := #[Operand.tmp 32, Operand.tmp 33], argTypes := #[25, 25] }, type := 25, pos := "law.go:23", after := #[{ on := 6, ground := Ground.data }, { on := 7, ground := Ground.data }, { on := 5, ground := Ground.chain }], guard := none }) rfl (fun K hK => ?_) ?_
    · have CC := hide (minusD (a := a7) (c := c7) (n := m7) (s := s0) (a2 := a8) (c2 := c8) (n2 := m8) (t := s1) HE (by simp) (by simp) hm7 hm8 HU2)
      go_simp
      go_at_call 12
      (with_reducible refine (Hid.out CC).mono ?_)
      rintro e W' ⟨r2, q2, M2, rfl, HM2, -, HE0⟩
      try go_wp2_with fail
      have HE' : Hid (Env w [(P3, .slice none 0 0), (w2.heap.size, .slice a7 m7 c7), (w2.heap.size + 1, .slice a8 m8 c8)] [(r0, q0, U0), (r1, q1, U1), (r2, q2, U2), (a8, c8, s1), (a7, c7, s0)] [(a0, c0, l0), (a1, c1, l1)] W') := hide (HE0.out.sub (by simp) (by simp) (by simp))
      refine hK.out _ _ ⟨HE'.out.cell (b := w2.heap.size) (v := .slice a7 m7 c7) (by simp), HE'.out.cell (b := w2.heap.size + 1) (v := .slice a8 m8 c8) (by simp)⟩ (fun hS' => ?_)
      clear hS'
      refine wpAnyH_listed (listed := #[true, true, true, true, true, true, true, true, true, true, true, false, false, false, false, true, false, false, false, false]) (by kernel_rfl) ?_
      have HA' := HA
      clear CC HE0
      try clear HE
      try clear HA
      revert HE'; revert HA'; revert HM2; revert HM1; revert HM0; revert W'; revert M2; revert q2; revert r2; revert M1; revert q1; revert r1; revert M0; revert q0; revert r0; revert P3
      exact k3_3.out
    refine AllReadyH.cons (o := { dst := some 9, op := Op.alloc 25, type := 0, pos := "law.go:23", after := #[], guard := none }) rfl (fun K hK => ?_) ?_
    · go_simp
      have HE' : Hid (Env w [(W.heap.size, .slice none 0 0), (P3, .slice none 0 0), (w2.heap.size, .slice a7 m7 c7), (w2.heap.size + 1, .slice a8 m8 c8)] [(r0, q0, U0), (r1, q1, U1), (a8, c8, s1), (a7, c7, s0)] [(a0, c0, l0), (a1, c1, l1)] (W.alloc (.cells #[.slice none 0 0] 25))) := hide ((HE.out.box (.slice none 0 0) 25 rfl).sub (by simp) (by simp) (by simp))
      refine hK.out _ _ ⟨HE'.out.cell (b := w2.heap.size) (v := .slice a7 m7 c7) (by simp), HE'.out.cell (b := w2.heap.size + 1) (v := .slice a8 m8 c8) (by simp)⟩ (fun hS' => ?_)
      clear hS'
      refine wpAnyH_listed (listed := #[true, true, true, true, true, true, true, true, false, true, true, false, true, false, false, true, false, false, false, false]) (by kernel_rfl) ?_
      have hl3 := HE.out.lt (b := P3) (v := .slice none 0 0) (by simp)
      have hb7 := HE.out.lt (b := w2.heap.size) (v := .slice a7 m7 c7) (by simp)
      have hb8 := HE.out.lt (b := w2.heap.size + 1) (v := .slice a8 m8 c8) (by simp)
      have hsz := HE.out.below.size
      have HA' : Hid (([W.heap.size, P3, w2.heap.size, w2.heap.size + 1] : List Nat).Nodup ∧ ∀ b ∈ ([W.heap.size, P3, w2.heap.size, w2.heap.size + 1] : List Nat), w.heap.size ≤ b) := hide (by have := HA.out; simp at this ⊢; omega)
      clear hb7 hb8 hsz hl3
      try clear HE
      try clear HA
      generalize W.alloc (.cells #[.slice none 0 0] 25) = W' at HE' ⊢
      generalize W.heap.size = P0 at HE' HA' ⊢
      revert HE'; revert HA'; revert HM1; revert HM0; revert W'; revert M1; revert q1; revert r1; revert M0; revert q0; revert r0; revert P3; revert P0
      exact k2_03.out
    refine AllReadyH.cons (o := { dst := some 10, op := Op.alloc 25, type := 0, pos := "law.go:23", after := #[], guard := none }) rfl (fun K hK => ?_) ?_
    · go_simp
      have HE' : Hid (Env w [(W.heap.size, .slice none 0 0), (P3, .slice none 0 0), (w2.heap.size, .slice a7 m7 c7), (w2.heap.size + 1, .slice a8 m8 c8)] [(r0, q0, U0), (r1, q1, U1), (a8, c8, s1), (a7, c7, s0)] [(a0, c0, l0), (a1, c1, l1)] (W.alloc (.cells #[.slice none 0 0] 25))) := hide ((HE.out.box (.slice none 0 0) 25 rfl).sub (by simp) (by simp) (by simp))
      refine hK.out _ _ ⟨HE'.out.cell (b := w2.heap.size) (v := .slice a7 m7 c7) (by simp), HE'.out.cell (b := w2.heap.size + 1) (v := .slice a8 m8 c8) (by simp)⟩ (fun hS' => ?_)
      clear hS'
      refine wpAnyH_listed (listed := #[true, true, true, true, true, true, true, true, false, true, true, false, false, true, false, true, false, false, false, false]) (by kernel_rfl) ?_
      have hl3 := HE.out.lt (b := P3) (v := .slice none 0 0) (by simp)
      have hb7 := HE.out.lt (b := w2.heap.size) (v := .slice a7 m7 c7) (by simp)
      have hb8 := HE.out.lt (b := w2.heap.size + 1) (v := .slice a8 m8 c8) (by simp)
      have hsz := HE.out.below.size
      have HA' : Hid (([W.heap.size, P3, w2.heap.size, w2.heap.size + 1] : List Nat).Nodup ∧ ∀ b ∈ ([W.heap.size, P3, w2.heap.size, w2.heap.size + 1] : List Nat), w.heap.size ≤ b) := hide (by have := HA.out; simp at this ⊢; omega)
      clear hb7 hb8 hsz hl3
      try clear HE
      try clear HA
      generalize W.alloc (.cells #[.slice none 0 0] 25) = W' at HE' ⊢
      generalize W.heap.size = P1 at HE' HA' ⊢
      revert HE'; revert HA'; revert HM1; revert HM0; revert W'; revert M1; revert q1; revert r1; revert M0; revert q0; revert r0; revert P3; revert P1
      exact k2_13.out
    refine AllReadyH.cons (o := { dst := some 11, op := Op.alloc 25, type := 0, pos := "law.go:23", after := #[], guard := none }) rfl (fun K hK => ?_) ?_
    · go_simp
      have HE' : Hid (Env w [(W.heap.size, .slice none 0 0), (P3, .slice none 0 0), (w2.heap.size, .slice a7 m7 c7), (w2.heap.size + 1, .slice a8 m8 c8)] [(r0, q0, U0), (r1, q1, U1), (a8, c8, s1), (a7, c7, s0)] [(a0, c0, l0), (a1, c1, l1)] (W.alloc (.cells #[.slice none 0 0] 25))) := hide ((HE.out.box (.slice none 0 0) 25 rfl).sub (by simp) (by simp) (by simp))
      refine hK.out _ _ ⟨HE'.out.cell (b := w2.heap.size) (v := .slice a7 m7 c7) (by simp), HE'.out.cell (b := w2.heap.size + 1) (v := .slice a8 m8 c8) (by simp)⟩ (fun hS' => ?_)
      clear hS'
      refine wpAnyH_listed (listed := #[true, true, true, true, true, true, true, true, false, true, true, false, false, false, true, true, false, false, false, false]) (by kernel_rfl) ?_
      have hl3 := HE.out.lt (b := P3) (v := .slice none 0 0) (by simp)
      have hb7 := HE.out.lt (b := w2.heap.size) (v := .slice a7 m7 c7) (by simp)
      have hb8 := HE.out.lt (b := w2.heap.size + 1) (v := .slice a8 m8 c8) (by simp)
      have hsz := HE.out.below.size
      have HA' : Hid (([W.heap.size, P3, w2.heap.size, w2.heap.size + 1] : List Nat).Nodup ∧ ∀ b ∈ ([W.heap.size, P3, w2.heap.size, w2.heap.size + 1] : List Nat), w.heap.size ≤ b) := hide (by have := HA.out; simp at this ⊢; omega)
      clear hb7 hb8 hsz hl3
      try clear HE
      try clear HA
      generalize W.alloc (.cells #[.slice none 0 0] 25) = W' at HE' ⊢
      generalize W.heap.size = P2 at HE' HA' ⊢
      revert HE'; revert HA'; revert HM1; revert HM0; revert W'; revert M1; revert q1; revert r1; revert M0; revert q0; revert r0; revert P3; revert P2
      exact k2_23.out
    exact AllReadyH.nil
  · intro k4_ k3_0 k3_1 k3_2 k3_3
    intro r0 q0 M0 r1 q1 M1 r2 q2 M2 W HM0 HM1 HM2 HA HE
    refine wpAnyH_ready (rs := [11, 12, 13, 14, 15]) (by kernel_rfl) (by simp) ?_
    refine AllReadyH.cons (o := { dst := some 37, op := Op.call { callee := Callee.value (Operand.func 13), args := #[Operand.tmp 35, Operand.tmp 36], argTypes := #[25, 22] }, type := 25, pos := "law.go:23", after := #[{ on := 9, ground := Ground.data }, { on := 10, ground := Ground.data }, { on := 8, ground := Ground.chain }], guard := none }) rfl (fun K hK => ?_) ?_
    · have CC := hide (withD (a2 := a7) (c2 := c7) (n2 := m7) (s := s0) (a := a1) (c := c1) (n := n1) (l := l1) HE (by simp) (by simp) hm7 HN1 HU3 HUL3)
      go_simp
      go_at_call 13
      (with_reducible refine (Hid.out CC).mono ?_)
      rintro e W' ⟨r3, q3, M3, rfl, HM3, -, HE0⟩
      try go_wp2_with fail
      have HE' : Hid (Env w [(w2.heap.size, .slice a7 m7 c7), (w2.heap.size + 1, .slice a8 m8 c8)] [(r0, q0, U0), (r1, q1, U1), (r2, q2, U2), (r3, q3, U3), (a8, c8, s1), (a7, c7, s0)] [(a0, c0, l0), (a1, c1, l1)] W') := hide (HE0.out.sub (by simp) (by simp) (by simp))
      refine hK.out _ _ ⟨HE'.out.cell (b := w2.heap.size) (v := .slice a7 m7 c7) (by simp), HE'.out.cell (b := w2.heap.size + 1) (v := .slice a8 m8 c8) (by simp)⟩ (fun hS' => ?_)
      clear hS'
      refine wpAnyH_listed (listed := #[true, true, true, true, true, true, true, true, true, true, true, true, false, false, false, false, false, false, false, false]) (by kernel_rfl) ?_
      have HA' := HA
      clear CC HE0
      try clear HE
      try clear HA
      revert HE'; revert HA'; revert HM3; revert HM2; revert HM1; revert HM0; revert W'; revert M3; revert q3; revert r3; revert M2; revert q2; revert r2; revert M1; revert q1; revert r1; revert M0; revert q0; revert r0
      exact k4_.out
    refine AllReadyH.cons (o := { dst := some 9, op := Op.alloc 25, type := 0, pos := "law.go:23", after := #[], guard := none }) rfl (fun K hK => ?_) ?_
    · go_simp
      have HE' : Hid (Env w [(W.heap.size, .slice none 0 0), (w2.heap.size, .slice a7 m7 c7), (w2.heap.size + 1, .slice a8 m8 c8)] [(r0, q0, U0), (r1, q1, U1), (r2, q2, U2), (a8, c8, s1), (a7, c7, s0)] [(a0, c0, l0), (a1, c1, l1)] (W.alloc (.cells #[.slice none 0 0] 25))) := hide ((HE.out.box (.slice none 0 0) 25 rfl).sub (by simp) (by simp) (by simp))
      refine hK.out _ _ ⟨HE'.out.cell (b := w2.heap.size) (v := .slice a7 m7 c7) (by simp), HE'.out.cell (b := w2.heap.size + 1) (v := .slice a8 m8 c8) (by simp)⟩ (fun hS' => ?_)
      clear hS'
      refine wpAnyH_listed (listed := #[true, true, true, true, true, true, true, true, true, true, true, false, true, false, false, false, false, false, false, false]) (by kernel_rfl) ?_
      have hb7 := HE.out.lt (b := w2.heap.size) (v := .slice a7 m7 c7) (by simp)
      have hb8 := HE.out.lt (b := w2.heap.size + 1) (v := .slice a8 m8 c8) (by simp)
      have hsz := HE.out.below.size
      have HA' : Hid (([W.heap.size, w2.heap.size, w2.heap.size + 1] : List Nat).Nodup ∧ ∀ b ∈ ([W.heap.size, w2.heap.size, w2.heap.size + 1] : List Nat), w.heap.size ≤ b) := hide (by have := HA.out; simp at this ⊢; omega)
      clear hb7 hb8 hsz
      try clear HE
      try clear HA
      generalize W.alloc (.cells #[.slice none 0 0] 25) = W' at HE' ⊢
      generalize W.heap.size = P0 at HE' HA' ⊢
      revert HE'; revert HA'; revert HM2; revert HM1; revert HM0; revert W'; revert M2; revert q2; revert r2; revert M1; revert q1; revert r1; revert M0; revert q0; revert r0; revert P0
      exact k3_0.out
    refine AllReadyH.cons (o := { dst := some 10, op := Op.alloc 25, type := 0, pos := "law.go:23", after := #[], guard := none }) rfl (fun K hK => ?_) ?_
    · go_simp
      have HE' : Hid (Env w [(W.heap.size, .slice none 0 0), (w2.heap.size, .slice a7 m7 c7), (w2.heap.size + 1, .slice a8 m8 c8)] [(r0, q0, U0), (r1, q1, U1), (r2, q2, U2), (a8, c8, s1), (a7, c7, s0)] [(a0, c0, l0), (a1, c1, l1)] (W.alloc (.cells #[.slice none 0 0] 25))) := hide ((HE.out.box (.slice none 0 0) 25 rfl).sub (by simp) (by simp) (by simp))
      refine hK.out _ _ ⟨HE'.out.cell (b := w2.heap.size) (v := .slice a7 m7 c7) (by simp), HE'.out.cell (b := w2.heap.size + 1) (v := .slice a8 m8 c8) (by simp)⟩ (fun hS' => ?_)
      clear hS'
      refine wpAnyH_listed (listed := #[true, true, true, true, true, true, true, true, true, true, true, false, false, true, false, false, false, false, false, false]) (by kernel_rfl) ?_
      have hb7 := HE.out.lt (b := w2.heap.size) (v := .slice a7 m7 c7) (by simp)
      have hb8 := HE.out.lt (b := w2.heap.size + 1) (v := .slice a8 m8 c8) (by simp)
      have hsz := HE.out.below.size
      have HA' : Hid (([W.heap.size, w2.heap.size, w2.heap.size + 1] : List Nat).Nodup ∧ ∀ b ∈ ([W.heap.size, w2.heap.size, w2.heap.size + 1] : List Nat), w.heap.size ≤ b) := hide (by have := HA.out; simp at this ⊢; omega)
      clear hb7 hb8 hsz
      try clear HE
      try clear HA
      generalize W.alloc (.cells #[.slice none 0 0] 25) = W' at HE' ⊢
      generalize W.heap.size = P1 at HE' HA' ⊢
      revert HE'; revert HA'; revert HM2; revert HM1; revert HM0; revert W'; revert M2; revert q2; revert r2; revert M1; revert q1; revert r1; revert M0; revert q0; revert r0; revert P1
      exact k3_1.out
    refine AllReadyH.cons (o := { dst := some 11, op := Op.alloc 25, type := 0, pos := "law.go:23", after := #[], guard := none }) rfl (fun K hK => ?_) ?_
    · go_simp
      have HE' : Hid (Env w [(W.heap.size, .slice none 0 0), (w2.heap.size, .slice a7 m7 c7), (w2.heap.size + 1, .slice a8 m8 c8)] [(r0, q0, U0), (r1, q1, U1), (r2, q2, U2), (a8, c8, s1), (a7, c7, s0)] [(a0, c0, l0), (a1, c1, l1)] (W.alloc (.cells #[.slice none 0 0] 25))) := hide ((HE.out.box (.slice none 0 0) 25 rfl).sub (by simp) (by simp) (by simp))
      refine hK.out _ _ ⟨HE'.out.cell (b := w2.heap.size) (v := .slice a7 m7 c7) (by simp), HE'.out.cell (b := w2.heap.size + 1) (v := .slice a8 m8 c8) (by simp)⟩ (fun hS' => ?_)
      clear hS'
      refine wpAnyH_listed (listed := #[true, true, true, true, true, true, true, true, true, true, true, false, false, false, true, false, false, false, false, false]) (by kernel_rfl) ?_
      have hb7 := HE.out.lt (b := w2.heap.size) (v := .slice a7 m7 c7) (by simp)
      have hb8 := HE.out.lt (b := w2.heap.size + 1) (v := .slice a8 m8 c8) (by simp)
      have hsz := HE.out.below.size
      have HA' : Hid (([W.heap.size, w2.heap.size, w2.heap.size + 1] : List Nat).Nodup ∧ ∀ b ∈ ([W.heap.size, w2.heap.size, w2.heap.size + 1] : List Nat), w.heap.size ≤ b) := hide (by have := HA.out; simp at this ⊢; omega)
      clear hb7 hb8 hsz
      try clear HE
      try clear HA
      generalize W.alloc (.cells #[.slice none 0 0] 25) = W' at HE' ⊢
      generalize W.heap.size = P2 at HE' HA' ⊢
      revert HE'; revert HA'; revert HM2; revert HM1; revert HM0; revert W'; revert M2; revert q2; revert r2; revert M1; revert q1; revert r1; revert M0; revert q0; revert r0; revert P2
      exact k3_2.out
    refine AllReadyH.cons (o := { dst := some 12, op := Op.alloc 25, type := 0, pos := "law.go:23", after := #[], guard := none }) rfl (fun K hK => ?_) ?_
    · go_simp
      have HE' : Hid (Env w [(W.heap.size, .slice none 0 0), (w2.heap.size, .slice a7 m7 c7), (w2.heap.size + 1, .slice a8 m8 c8)] [(r0, q0, U0), (r1, q1, U1), (r2, q2, U2), (a8, c8, s1), (a7, c7, s0)] [(a0, c0, l0), (a1, c1, l1)] (W.alloc (.cells #[.slice none 0 0] 25))) := hide ((HE.out.box (.slice none 0 0) 25 rfl).sub (by simp) (by simp) (by simp))
      refine hK.out _ _ ⟨HE'.out.cell (b := w2.heap.size) (v := .slice a7 m7 c7) (by simp), HE'.out.cell (b := w2.heap.size + 1) (v := .slice a8 m8 c8) (by simp)⟩ (fun hS' => ?_)
      clear hS'
      refine wpAnyH_listed (listed := #[true, true, true, true, true, true, true, true, true, true, true, false, false, false, false, true, false, false, false, false]) (by kernel_rfl) ?_
      have hb7 := HE.out.lt (b := w2.heap.size) (v := .slice a7 m7 c7) (by simp)
      have hb8 := HE.out.lt (b := w2.heap.size + 1) (v := .slice a8 m8 c8) (by simp)
      have hsz := HE.out.below.size
      have HA' : Hid (([W.heap.size, w2.heap.size, w2.heap.size + 1] : List Nat).Nodup ∧ ∀ b ∈ ([W.heap.size, w2.heap.size, w2.heap.size + 1] : List Nat), w.heap.size ≤ b) := hide (by have := HA.out; simp at this ⊢; omega)
      clear hb7 hb8 hsz
      try clear HE
      try clear HA
      generalize W.alloc (.cells #[.slice none 0 0] 25) = W' at HE' ⊢
      generalize W.heap.size = P3 at HE' HA' ⊢
      revert HE'; revert HA'; revert HM2; revert HM1; revert HM0; revert W'; revert M2; revert q2; revert r2; revert M1; revert q1; revert r1; revert M0; revert q0; revert r0; revert P3
      exact k3_3.out
    exact AllReadyH.nil
  · intro k1_0123
    intro P0 P1 P2 P3 W HA HE
    refine wpAnyH_ready (rs := [2]) (by kernel_rfl) (by simp) ?_
    refine AllReadyH.cons (o := { dst := some 28, op := Op.call { callee := Callee.value (Operand.func 10), args := #[Operand.tmp 26, Operand.tmp 27], argTypes := #[25, 25] }, type := 25, pos := "law.go:23", after := #[{ on := 0, ground := Ground.data }, { on := 1, ground := Ground.data }], guard := none }) rfl (fun K hK => ?_) ?_
    · have CC := hide (orD (a := a7) (c := c7) (n := m7) (s := s0) (a2 := a8) (c2 := c8) (n2 := m8) (t := s1) HE (by simp) (by simp) hm7 hm8 HU0 HUL0)
      go_simp
      go_at_call 10
      (with_reducible refine (Hid.out CC).mono ?_)
      rintro e W' ⟨r0, q0, M0, rfl, HM0, -, HE0⟩
      try go_wp2_with fail
      have HE' : Hid (Env w [(P0, .slice none 0 0), (P1, .slice none 0 0), (P2, .slice none 0 0), (P3, .slice none 0 0), (w2.heap.size, .slice a7 m7 c7), (w2.heap.size + 1, .slice a8 m8 c8)] [(r0, q0, U0), (a8, c8, s1), (a7, c7, s0)] [(a0, c0, l0), (a1, c1, l1)] W') := hide (HE0.out.sub (by simp) (by simp) (by simp))
      refine hK.out _ _ ⟨HE'.out.cell (b := w2.heap.size) (v := .slice a7 m7 c7) (by simp), HE'.out.cell (b := w2.heap.size + 1) (v := .slice a8 m8 c8) (by simp)⟩ (fun hS' => ?_)
      clear hS'
      refine wpAnyH_listed (listed := #[true, true, true, true, true, false, true, true, false, true, true, false, true, true, true, true, false, false, false, false]) (by kernel_rfl) ?_
      have HA' := HA
      clear CC HE0
      try clear HE
      try clear HA
      revert HE'; revert HA'; revert HM0; revert W'; revert M0; revert q0; revert r0; revert P3; revert P2; revert P1; revert P0
      exact k1_0123.out
    exact AllReadyH.nil
  · intro k2_012 k1_0123
    intro P0 P1 P2 r0 q0 M0 W HM0 HA HE
    refine wpAnyH_ready (rs := [5, 15]) (by kernel_rfl) (by simp) ?_
    refine AllReadyH.cons (o := { dst := some 31, op := Op.call { callee := Callee.value (Operand.func 11), args := #[Operand.tmp 29, Operand.tmp 30], argTypes := #[25, 25] }, type := 25, pos := "law.go:23", after := #[{ on := 3, ground := Ground.data }, { on := 4, ground := Ground.data }, { on := 2, ground := Ground.chain }], guard := none }) rfl (fun K hK => ?_) ?_
    · have CC := hide (andD (a := a7) (c := c7) (n := m7) (s := s0) (a2 := a8) (c2 := c8) (n2 := m8) (t := s1) HE (by simp) (by simp) hm7 hm8 HU1)
      go_simp
      go_at_call 11
      (with_reducible refine (Hid.out CC).mono ?_)
      rintro e W' ⟨r1, q1, M1, rfl, HM1, -, HE0⟩
      try go_wp2_with fail
      have HE' : Hid (Env w [(P0, .slice none 0 0), (P1, .slice none 0 0), (P2, .slice none 0 0), (w2.heap.size, .slice a7 m7 c7), (w2.heap.size + 1, .slice a8 m8 c8)] [(r0, q0, U0), (r1, q1, U1), (a8, c8, s1), (a7, c7, s0)] [(a0, c0, l0), (a1, c1, l1)] W') := hide (HE0.out.sub (by simp) (by simp) (by simp))
      refine hK.out _ _ ⟨HE'.out.cell (b := w2.heap.size) (v := .slice a7 m7 c7) (by simp), HE'.out.cell (b := w2.heap.size + 1) (v := .slice a8 m8 c8) (by simp)⟩ (fun hS' => ?_)
      clear hS'
      refine wpAnyH_listed (listed := #[true, true, true, true, true, true, true, true, false, true, true, false, true, true, true, false, false, false, false, false]) (by kernel_rfl) ?_
      have HA' := HA
      clear CC HE0
      try clear HE
      try clear HA
      revert HE'; revert HA'; revert HM1; revert HM0; revert W'; revert M1; revert q1; revert r1; revert M0; revert q0; revert r0; revert P2; revert P1; revert P0
      exact k2_012.out
    refine AllReadyH.cons (o := { dst := some 12, op := Op.alloc 25, type := 0, pos := "law.go:23", after := #[], guard := none }) rfl (fun K hK => ?_) ?_
    · go_simp
      have HE' : Hid (Env w [(P0, .slice none 0 0), (P1, .slice none 0 0), (P2, .slice none 0 0), (W.heap.size, .slice none 0 0), (w2.heap.size, .slice a7 m7 c7), (w2.heap.size + 1, .slice a8 m8 c8)] [(r0, q0, U0), (a8, c8, s1), (a7, c7, s0)] [(a0, c0, l0), (a1, c1, l1)] (W.alloc (.cells #[.slice none 0 0] 25))) := hide ((HE.out.box (.slice none 0 0) 25 rfl).sub (by simp) (by simp) (by simp))
      refine hK.out _ _ ⟨HE'.out.cell (b := w2.heap.size) (v := .slice a7 m7 c7) (by simp), HE'.out.cell (b := w2.heap.size + 1) (v := .slice a8 m8 c8) (by simp)⟩ (fun hS' => ?_)
      clear hS'
      refine wpAnyH_listed (listed := #[true, true, true, true, true, false, true, true, false, true, true, false, true, true, true, true, false, false, false, false]) (by kernel_rfl) ?_
      have hl0 := HE.out.lt (b := P0) (v := .slice none 0 0) (by simp)
      have hl1 := HE.out.lt (b := P1) (v := .slice none 0 0) (by simp)
      have hl2 := HE.out.lt (b := P2) (v := .slice none 0 0) (by simp)
      have hb7 := HE.out.lt (b := w2.heap.size) (v := .slice a7 m7 c7) (by simp)
      have hb8 := HE.out.lt (b := w2.heap.size + 1) (v := .slice a8 m8 c8) (by simp)
      have hsz := HE.out.below.size
      have HA' : Hid (([P0, P1, P2, W.heap.size, w2.heap.size, w2.heap.size + 1] : List Nat).Nodup ∧ ∀ b ∈ ([P0, P1, P2, W.heap.size, w2.heap.size, w2.heap.size + 1] : List Nat), w.heap.size ≤ b) := hide (by have := HA.out; simp at this ⊢; omega)
      clear hb7 hb8 hsz hl0 hl1 hl2
      try clear HE
      try clear HA
      generalize W.alloc (.cells #[.slice none 0 0] 25) = W' at HE' ⊢
      generalize W.heap.size = P3 at HE' HA' ⊢
      revert HE'; revert HA'; revert HM0; revert W'; revert M0; revert q0; revert r0; revert P3; revert P2; revert P1; revert P0
      exact k1_0123.out
    exact AllReadyH.nil
  · intro k2_013 k1_0123
    intro P0 P1 P3 r0 q0 M0 W HM0 HA HE
    refine wpAnyH_ready (rs := [5, 14]) (by kernel_rfl) (by simp) ?_
    refine AllReadyH.cons (o := { dst := some 31, op := Op.call { callee := Callee.value (Operand.func 11), args := #[Operand.tmp 29, Operand.tmp 30], argTypes := #[25, 25] }, type := 25, pos := "law.go:23", after := #[{ on := 3, ground := Ground.data }, { on := 4, ground := Ground.data }, { on := 2, ground := Ground.chain }], guard := none }) rfl (fun K hK => ?_) ?_
    · have CC := hide (andD (a := a7) (c := c7) (n := m7) (s := s0) (a2 := a8) (c2 := c8) (n2 := m8) (t := s1) HE (by simp) (by simp) hm7 hm8 HU1)
      go_simp
      go_at_call 11
      (with_reducible refine (Hid.out CC).mono ?_)
      rintro e W' ⟨r1, q1, M1, rfl, HM1, -, HE0⟩
      try go_wp2_with fail
      have HE' : Hid (Env w [(P0, .slice none 0 0), (P1, .slice none 0 0), (P3, .slice none 0 0), (w2.heap.size, .slice a7 m7 c7), (w2.heap.size + 1, .slice a8 m8 c8)] [(r0, q0, U0), (r1, q1, U1), (a8, c8, s1), (a7, c7, s0)] [(a0, c0, l0), (a1, c1, l1)] W') := hide (HE0.out.sub (by simp) (by simp) (by simp))
      refine hK.out _ _ ⟨HE'.out.cell (b := w2.heap.size) (v := .slice a7 m7 c7) (by simp), HE'.out.cell (b := w2.heap.size + 1) (v := .slice a8 m8 c8) (by simp)⟩ (fun hS' => ?_)
      clear hS'
      refine wpAnyH_listed (listed := #[true, true, true, true, true, true, true, true, false, true, true, false, true, true, false, true, false, false, false, false]) (by kernel_rfl) ?_
      have HA' := HA
      clear CC HE0
      try clear HE
      try clear HA
      revert HE'; revert HA'; revert HM1; revert HM0; revert W'; revert M1; revert q1; revert r1; revert M0; revert q0; revert r0; revert P3; revert P1; revert P0
      exact k2_013.out
    refine AllReadyH.cons (o := { dst := some 11, op := Op.alloc 25, type := 0, pos := "law.go:23", after := #[], guard := none }) rfl (fun K hK => ?_) ?_
    · go_simp
      have HE' : Hid (Env w [(P0, .slice none 0 0), (P1, .slice none 0 0), (W.heap.size, .slice none 0 0), (P3, .slice none 0 0), (w2.heap.size, .slice a7 m7 c7), (w2.heap.size + 1, .slice a8 m8 c8)] [(r0, q0, U0), (a8, c8, s1), (a7, c7, s0)] [(a0, c0, l0), (a1, c1, l1)] (W.alloc (.cells #[.slice none 0 0] 25))) := hide ((HE.out.box (.slice none 0 0) 25 rfl).sub (by simp) (by simp) (by simp))
      refine hK.out _ _ ⟨HE'.out.cell (b := w2.heap.size) (v := .slice a7 m7 c7) (by simp), HE'.out.cell (b := w2.heap.size + 1) (v := .slice a8 m8 c8) (by simp)⟩ (fun hS' => ?_)
      clear hS'
      refine wpAnyH_listed (listed := #[true, true, true, true, true, false, true, true, false, true, true, false, true, true, true, true, false, false, false, false]) (by kernel_rfl) ?_
      have hl0 := HE.out.lt (b := P0) (v := .slice none 0 0) (by simp)
      have hl1 := HE.out.lt (b := P1) (v := .slice none 0 0) (by simp)
      have hl3 := HE.out.lt (b := P3) (v := .slice none 0 0) (by simp)
      have hb7 := HE.out.lt (b := w2.heap.size) (v := .slice a7 m7 c7) (by simp)
      have hb8 := HE.out.lt (b := w2.heap.size + 1) (v := .slice a8 m8 c8) (by simp)
      have hsz := HE.out.below.size
      have HA' : Hid (([P0, P1, W.heap.size, P3, w2.heap.size, w2.heap.size + 1] : List Nat).Nodup ∧ ∀ b ∈ ([P0, P1, W.heap.size, P3, w2.heap.size, w2.heap.size + 1] : List Nat), w.heap.size ≤ b) := hide (by have := HA.out; simp at this ⊢; omega)
      clear hb7 hb8 hsz hl0 hl1 hl3
      try clear HE
      try clear HA
      generalize W.alloc (.cells #[.slice none 0 0] 25) = W' at HE' ⊢
      generalize W.heap.size = P2 at HE' HA' ⊢
      revert HE'; revert HA'; revert HM0; revert W'; revert M0; revert q0; revert r0; revert P3; revert P2; revert P1; revert P0
      exact k1_0123.out
    exact AllReadyH.nil
  · intro k2_023 k1_0123
    intro P0 P2 P3 r0 q0 M0 W HM0 HA HE
    refine wpAnyH_ready (rs := [5, 13]) (by kernel_rfl) (by simp) ?_
    refine AllReadyH.cons (o := { dst := some 31, op := Op.call { callee := Callee.value (Operand.func 11), args := #[Operand.tmp 29, Operand.tmp 30], argTypes := #[25, 25] }, type := 25, pos := "law.go:23", after := #[{ on := 3, ground := Ground.data }, { on := 4, ground := Ground.data }, { on := 2, ground := Ground.chain }], guard := none }) rfl (fun K hK => ?_) ?_
    · have CC := hide (andD (a := a7) (c := c7) (n := m7) (s := s0) (a2 := a8) (c2 := c8) (n2 := m8) (t := s1) HE (by simp) (by simp) hm7 hm8 HU1)
      go_simp
      go_at_call 11
      (with_reducible refine (Hid.out CC).mono ?_)
      rintro e W' ⟨r1, q1, M1, rfl, HM1, -, HE0⟩
      try go_wp2_with fail
      have HE' : Hid (Env w [(P0, .slice none 0 0), (P2, .slice none 0 0), (P3, .slice none 0 0), (w2.heap.size, .slice a7 m7 c7), (w2.heap.size + 1, .slice a8 m8 c8)] [(r0, q0, U0), (r1, q1, U1), (a8, c8, s1), (a7, c7, s0)] [(a0, c0, l0), (a1, c1, l1)] W') := hide (HE0.out.sub (by simp) (by simp) (by simp))
      refine hK.out _ _ ⟨HE'.out.cell (b := w2.heap.size) (v := .slice a7 m7 c7) (by simp), HE'.out.cell (b := w2.heap.size + 1) (v := .slice a8 m8 c8) (by simp)⟩ (fun hS' => ?_)
      clear hS'
      refine wpAnyH_listed (listed := #[true, true, true, true, true, true, true, true, false, true, true, false, true, false, true, true, false, false, false, false]) (by kernel_rfl) ?_
      have HA' := HA
      clear CC HE0
      try clear HE
      try clear HA
      revert HE'; revert HA'; revert HM1; revert HM0; revert W'; revert M1; revert q1; revert r1; revert M0; revert q0; revert r0; revert P3; revert P2; revert P0
      exact k2_023.out
    refine AllReadyH.cons (o := { dst := some 10, op := Op.alloc 25, type := 0, pos := "law.go:23", after := #[], guard := none }) rfl (fun K hK => ?_) ?_
    · go_simp
      have HE' : Hid (Env w [(P0, .slice none 0 0), (W.heap.size, .slice none 0 0), (P2, .slice none 0 0), (P3, .slice none 0 0), (w2.heap.size, .slice a7 m7 c7), (w2.heap.size + 1, .slice a8 m8 c8)] [(r0, q0, U0), (a8, c8, s1), (a7, c7, s0)] [(a0, c0, l0), (a1, c1, l1)] (W.alloc (.cells #[.slice none 0 0] 25))) := hide ((HE.out.box (.slice none 0 0) 25 rfl).sub (by simp) (by simp) (by simp))
      refine hK.out _ _ ⟨HE'.out.cell (b := w2.heap.size) (v := .slice a7 m7 c7) (by simp), HE'.out.cell (b := w2.heap.size + 1) (v := .slice a8 m8 c8) (by simp)⟩ (fun hS' => ?_)
      clear hS'
      refine wpAnyH_listed (listed := #[true, true, true, true, true, false, true, true, false, true, true, false, true, true, true, true, false, false, false, false]) (by kernel_rfl) ?_
      have hl0 := HE.out.lt (b := P0) (v := .slice none 0 0) (by simp)
      have hl2 := HE.out.lt (b := P2) (v := .slice none 0 0) (by simp)
      have hl3 := HE.out.lt (b := P3) (v := .slice none 0 0) (by simp)
      have hb7 := HE.out.lt (b := w2.heap.size) (v := .slice a7 m7 c7) (by simp)
      have hb8 := HE.out.lt (b := w2.heap.size + 1) (v := .slice a8 m8 c8) (by simp)
      have hsz := HE.out.below.size
      have HA' : Hid (([P0, W.heap.size, P2, P3, w2.heap.size, w2.heap.size + 1] : List Nat).Nodup ∧ ∀ b ∈ ([P0, W.heap.size, P2, P3, w2.heap.size, w2.heap.size + 1] : List Nat), w.heap.size ≤ b) := hide (by have := HA.out; simp at this ⊢; omega)
      clear hb7 hb8 hsz hl0 hl2 hl3
      try clear HE
      try clear HA
      generalize W.alloc (.cells #[.slice none 0 0] 25) = W' at HE' ⊢
      generalize W.heap.size = P1 at HE' HA' ⊢
      revert HE'; revert HA'; revert HM0; revert W'; revert M0; revert q0; revert r0; revert P3; revert P2; revert P1; revert P0
      exact k1_0123.out
    exact AllReadyH.nil
  · intro k2_123 k1_0123
    intro P1 P2 P3 r0 q0 M0 W HM0 HA HE
    refine wpAnyH_ready (rs := [5, 12]) (by kernel_rfl) (by simp) ?_
    refine AllReadyH.cons (o := { dst := some 31, op := Op.call { callee := Callee.value (Operand.func 11), args := #[Operand.tmp 29, Operand.tmp 30], argTypes := #[25, 25] }, type := 25, pos := "law.go:23", after := #[{ on := 3, ground := Ground.data }, { on := 4, ground := Ground.data }, { on := 2, ground := Ground.chain }], guard := none }) rfl (fun K hK => ?_) ?_
    · have CC := hide (andD (a := a7) (c := c7) (n := m7) (s := s0) (a2 := a8) (c2 := c8) (n2 := m8) (t := s1) HE (by simp) (by simp) hm7 hm8 HU1)
      go_simp
      go_at_call 11
      (with_reducible refine (Hid.out CC).mono ?_)
      rintro e W' ⟨r1, q1, M1, rfl, HM1, -, HE0⟩
      try go_wp2_with fail
      have HE' : Hid (Env w [(P1, .slice none 0 0), (P2, .slice none 0 0), (P3, .slice none 0 0), (w2.heap.size, .slice a7 m7 c7), (w2.heap.size + 1, .slice a8 m8 c8)] [(r0, q0, U0), (r1, q1, U1), (a8, c8, s1), (a7, c7, s0)] [(a0, c0, l0), (a1, c1, l1)] W') := hide (HE0.out.sub (by simp) (by simp) (by simp))
      refine hK.out _ _ ⟨HE'.out.cell (b := w2.heap.size) (v := .slice a7 m7 c7) (by simp), HE'.out.cell (b := w2.heap.size + 1) (v := .slice a8 m8 c8) (by simp)⟩ (fun hS' => ?_)
      clear hS'
      refine wpAnyH_listed (listed := #[true, true, true, true, true, true, true, true, false, true, true, false, false, true, true, true, false, false, false, false]) (by kernel_rfl) ?_
      have HA' := HA
      clear CC HE0
      try clear HE
      try clear HA
      revert HE'; revert HA'; revert HM1; revert HM0; revert W'; revert M1; revert q1; revert r1; revert M0; revert q0; revert r0; revert P3; revert P2; revert P1
      exact k2_123.out
    refine AllReadyH.cons (o := { dst := some 9, op := Op.alloc 25, type := 0, pos := "law.go:23", after := #[], guard := none }) rfl (fun K hK => ?_) ?_
    · go_simp
      have HE' : Hid (Env w [(W.heap.size, .slice none 0 0), (P1, .slice none 0 0), (P2, .slice none 0 0), (P3, .slice none 0 0), (w2.heap.size, .slice a7 m7 c7), (w2.heap.size + 1, .slice a8 m8 c8)] [(r0, q0, U0), (a8, c8, s1), (a7, c7, s0)] [(a0, c0, l0), (a1, c1, l1)] (W.alloc (.cells #[.slice none 0 0] 25))) := hide ((HE.out.box (.slice none 0 0) 25 rfl).sub (by simp) (by simp) (by simp))
      refine hK.out _ _ ⟨HE'.out.cell (b := w2.heap.size) (v := .slice a7 m7 c7) (by simp), HE'.out.cell (b := w2.heap.size + 1) (v := .slice a8 m8 c8) (by simp)⟩ (fun hS' => ?_)
      clear hS'
      refine wpAnyH_listed (listed := #[true, true, true, true, true, false, true, true, false, true, true, false, true, true, true, true, false, false, false, false]) (by kernel_rfl) ?_
      have hl1 := HE.out.lt (b := P1) (v := .slice none 0 0) (by simp)
      have hl2 := HE.out.lt (b := P2) (v := .slice none 0 0) (by simp)
      have hl3 := HE.out.lt (b := P3) (v := .slice none 0 0) (by simp)
      have hb7 := HE.out.lt (b := w2.heap.size) (v := .slice a7 m7 c7) (by simp)
      have hb8 := HE.out.lt (b := w2.heap.size + 1) (v := .slice a8 m8 c8) (by simp)
      have hsz := HE.out.below.size
      have HA' : Hid (([W.heap.size, P1, P2, P3, w2.heap.size, w2.heap.size + 1] : List Nat).Nodup ∧ ∀ b ∈ ([W.heap.size, P1, P2, P3, w2.heap.size, w2.heap.size + 1] : List Nat), w.heap.size ≤ b) := hide (by have := HA.out; simp at this ⊢; omega)
      clear hb7 hb8 hsz hl1 hl2 hl3
      try clear HE
      try clear HA
      generalize W.alloc (.cells #[.slice none 0 0] 25) = W' at HE' ⊢
      generalize W.heap.size = P0 at HE' HA' ⊢
      revert HE'; revert HA'; revert HM0; revert W'; revert M0; revert q0; revert r0; revert P3; revert P2; revert P1; revert P0
      exact k1_0123.out
    exact AllReadyH.nil
  · intro k3_01 k2_012 k2_013
    intro P0 P1 r0 q0 M0 r1 q1 M1 W HM0 HM1 HA HE
    refine wpAnyH_ready (rs := [8, 14, 15]) (by kernel_rfl) (by simp) ?_
    refine AllReadyH.cons (o := { dst := some 34, op := Op.call { callee := Callee.value (Operand.func 12), args := #[Operand.tmp 32, Operand.tmp 33], argTypes := #[25, 25] }, type := 25, pos := "law.go:23", after := #[{ on := 6, ground := Ground.data }, { on := 7, ground := Ground.data }, { on := 5, ground := Ground.chain }], guard := none }) rfl (fun K hK => ?_) ?_
    · have CC := hide (minusD (a := a7) (c := c7) (n := m7) (s := s0) (a2 := a8) (c2 := c8) (n2 := m8) (t := s1) HE (by simp) (by simp) hm7 hm8 HU2)
      go_simp
      go_at_call 12
      (with_reducible refine (Hid.out CC).mono ?_)
      rintro e W' ⟨r2, q2, M2, rfl, HM2, -, HE0⟩
      try go_wp2_with fail
      have HE' : Hid (Env w [(P0, .slice none 0 0), (P1, .slice none 0 0), (w2.heap.size, .slice a7 m7 c7), (w2.heap.size + 1, .slice a8 m8 c8)] [(r0, q0, U0), (r1, q1, U1), (r2, q2, U2), (a8, c8, s1), (a7, c7, s0)] [(a0, c0, l0), (a1, c1, l1)] W') := hide (HE0.out.sub (by simp) (by simp) (by simp))
      refine hK.out _ _ ⟨HE'.out.cell (b := w2.heap.size) (v := .slice a7 m7 c7) (by simp), HE'.out.cell (b := w2.heap.size + 1) (v := .slice a8 m8 c8) (by simp)⟩ (fun hS' => ?_)
      clear hS'
      refine wpAnyH_listed (listed := #[true, true, true, true, true, true, true, true, true, true, true, false, true, true, false, false, false, false, false, false]) (by kernel_rfl) ?_
      have HA' := HA
      clear CC HE0
      try clear HE
      try clear HA
      revert HE'; revert HA'; revert HM2; revert HM1; revert HM0; revert W'; revert M2; revert q2; revert r2; revert M1; revert q1; revert r1; revert M0; revert q0; revert r0; revert P1; revert P0
      exact k3_01.out
    refine AllReadyH.cons (o := { dst := some 11, op := Op.alloc 25, type := 0, pos := "law.go:23", after := #[], guard := none }) rfl (fun K hK => ?_) ?_
    · go_simp
      have HE' : Hid (Env w [(P0, .slice none 0 0), (P1, .slice none 0 0), (W.heap.size, .slice none 0 0), (w2.heap.size, .slice a7 m7 c7), (w2.heap.size + 1, .slice a8 m8 c8)] [(r0, q0, U0), (r1, q1, U1), (a8, c8, s1), (a7, c7, s0)] [(a0, c0, l0), (a1, c1, l1)] (W.alloc (.cells #[.slice none 0 0] 25))) := hide ((HE.out.box (.slice none 0 0) 25 rfl).sub (by simp) (by simp) (by simp))
      refine hK.out _ _ ⟨HE'.out.cell (b := w2.heap.size) (v := .slice a7 m7 c7) (by simp), HE'.out.cell (b := w2.heap.size + 1) (v := .slice a8 m8 c8) (by simp)⟩ (fun hS' => ?_)
      clear hS'
      refine wpAnyH_listed (listed := #[true, true, true, true, true, true, true, true, false, true, true, false, true, true, true, false, false, false, false, false]) (by kernel_rfl) ?_
      have hl0 := HE.out.lt (b := P0) (v := .slice none 0 0) (by simp)
      have hl1 := HE.out.lt (b := P1) (v := .slice none 0 0) (by simp)
      have hb7 := HE.out.lt (b := w2.heap.size) (v := .slice a7 m7 c7) (by simp)
      have hb8 := HE.out.lt (b := w2.heap.size + 1) (v := .slice a8 m8 c8) (by simp)
      have hsz := HE.out.below.size
      have HA' : Hid (([P0, P1, W.heap.size, w2.heap.size, w2.heap.size + 1] : List Nat).Nodup ∧ ∀ b ∈ ([P0, P1, W.heap.size, w2.heap.size, w2.heap.size + 1] : List Nat), w.heap.size ≤ b) := hide (by have := HA.out; simp at this ⊢; omega)
      clear hb7 hb8 hsz hl0 hl1
      try clear HE
      try clear HA
      generalize W.alloc (.cells #[.slice none 0 0] 25) = W' at HE' ⊢
      generalize W.heap.size = P2 at HE' HA' ⊢
      revert HE'; revert HA'; revert HM1; revert HM0; revert W'; revert M1; revert q1; revert r1; revert M0; revert q0; revert r0; revert P2; revert P1; revert P0
      exact k2_012.out
    refine AllReadyH.cons (o := { dst := some 12, op := Op.alloc 25, type := 0, pos := "law.go:23", after := #[], guard := none }) rfl (fun K hK => ?_) ?_
    · go_simp
      have HE' : Hid (Env w [(P0, .slice none 0 0), (P1, .slice none 0 0), (W.heap.size, .slice none 0 0), (w2.heap.size, .slice a7 m7 c7), (w2.heap.size + 1, .slice a8 m8 c8)] [(r0, q0, U0), (r1, q1, U1), (a8, c8, s1), (a7, c7, s0)] [(a0, c0, l0), (a1, c1, l1)] (W.alloc (.cells #[.slice none 0 0] 25))) := hide ((HE.out.box (.slice none 0 0) 25 rfl).sub (by simp) (by simp) (by simp))
      refine hK.out _ _ ⟨HE'.out.cell (b := w2.heap.size) (v := .slice a7 m7 c7) (by simp), HE'.out.cell (b := w2.heap.size + 1) (v := .slice a8 m8 c8) (by simp)⟩ (fun hS' => ?_)
      clear hS'
      refine wpAnyH_listed (listed := #[true, true, true, true, true, true, true, true, false, true, true, false, true, true, false, true, false, false, false, false]) (by kernel_rfl) ?_
      have hl0 := HE.out.lt (b := P0) (v := .slice none 0 0) (by simp)
      have hl1 := HE.out.lt (b := P1) (v := .slice none 0 0) (by simp)
      have hb7 := HE.out.lt (b := w2.heap.size) (v := .slice a7 m7 c7) (by simp)
      have hb8 := HE.out.lt (b := w2.heap.size + 1) (v := .slice a8 m8 c8) (by simp)
      have hsz := HE.out.below.size
      have HA' : Hid (([P0, P1, W.heap.size, w2.heap.size, w2.heap.size + 1] : List Nat).Nodup ∧ ∀ b ∈ ([P0, P1, W.heap.size, w2.heap.size, w2.heap.size + 1] : List Nat), w.heap.size ≤ b) := hide (by have := HA.out; simp at this ⊢; omega)
      clear hb7 hb8 hsz hl0 hl1
      try clear HE
      try clear HA
      generalize W.alloc (.cells #[.slice none 0 0] 25) = W' at HE' ⊢
      generalize W.heap.size = P3 at HE' HA' ⊢
      revert HE'; revert HA'; revert HM1; revert HM0; revert W'; revert M1; revert q1; revert r1; revert M0; revert q0; revert r0; revert P3; revert P1; revert P0
      exact k2_013.out
    exact AllReadyH.nil
  · intro k3_02 k2_012 k2_023
    intro P0 P2 r0 q0 M0 r1 q1 M1 W HM0 HM1 HA HE
    refine wpAnyH_ready (rs := [8, 13, 15]) (by kernel_rfl) (by simp) ?_
    refine AllReadyH.cons (o := { dst := some 34, op := Op.call { callee := Callee.value (Operand.func 12), args := #[Operand.tmp 32, Operand.tmp 33], argTypes := #[25, 25] }, type := 25, pos := "law.go:23", after := #[{ on := 6, ground := Ground.data }, { on := 7, ground := Ground.data }, { on := 5, ground := Ground.chain }], guard := none }) rfl (fun K hK => ?_) ?_
    · have CC := hide (minusD (a := a7) (c := c7) (n := m7) (s := s0) (a2 := a8) (c2 := c8) (n2 := m8) (t := s1) HE (by simp) (by simp) hm7 hm8 HU2)
      go_simp
      go_at_call 12
      (with_reducible refine (Hid.out CC).mono ?_)
      rintro e W' ⟨r2, q2, M2, rfl, HM2, -, HE0⟩
      try go_wp2_with fail
      have HE' : Hid (Env w [(P0, .slice none 0 0), (P2, .slice none 0 0), (w2.heap.size, .slice a7 m7 c7), (w2.heap.size + 1, .slice a8 m8 c8)] [(r0, q0, U0), (r1, q1, U1), (r2, q2, U2), (a8, c8, s1), (a7, c7, s0)] [(a0, c0, l0), (a1, c1, l1)] W') := hide (HE0.out.sub (by simp) (by simp) (by simp))
      refine hK.out _ _ ⟨HE'.out.cell (b := w2.heap.size) (v := .slice a7 m7 c7) (by simp), HE'.out.cell (b := w2.heap.size + 1) (v := .slice a8 m8 c8) (by simp)⟩ (fun hS' => ?_)
      clear hS'
      refine wpAnyH_listed (listed := #[true, true, true, true, true, true, true, true, true, true, true, false, true, false, true, false, false, false, false, false]) (by kernel_rfl) ?_
      have HA' := HA
      clear CC HE0
      try clear HE
      try clear HA
      revert HE'; revert HA'; revert HM2; revert HM1; revert HM0; revert W'; revert M2; revert q2; revert r2; revert M1; revert q1; revert r1; revert M0; revert q0; revert r0; revert P2; revert P0
      exact k3_02.out
    refine AllReadyH.cons (o := { dst := some 10, op := Op.alloc 25, type := 0, pos := "law.go:23", after := #[], guard := none }) rfl (fun K hK => ?_) ?_
    · go_simp
      have HE' : Hid (Env w [(P0, .slice none 0 0), (W.heap.size, .slice none 0 0), (P2, .slice none 0 0), (w2.heap.size, .slice a7 m7 c7), (w2.heap.size + 1, .slice a8 m8 c8)] [(r0, q0, U0), (r1, q1, U1), (a8, c8, s1), (a7, c7, s0)] [(a0, c0, l0), (a1, c1, l1)] (W.alloc (.cells #[.slice none 0 0] 25))) := hide ((HE.out.box (.slice none 0 0) 25 rfl).sub (by simp) (by simp) (by simp))
      refine hK.out _ _ ⟨HE'.out.cell (b := w2.heap.size) (v := .slice a7 m7 c7) (by simp), HE'.out.cell (b := w2.heap.size + 1) (v := .slice a8 m8 c8) (by simp)⟩ (fun hS' => ?_)
      clear hS'
      refine wpAnyH_listed (listed := #[true, true, true, true, true, true, true, true, false, true, true, false, true, true, true, false, false, false, false, false]) (by kernel_rfl) ?_
      have hl0 := HE.out.lt (b := P0) (v := .slice none 0 0) (by simp)
      have hl2 := HE.out.lt (b := P2) (v := .slice none 0 0) (by simp)
      have hb7 := HE.out.lt (b := w2.heap.size) (v := .slice a7 m7 c7) (by simp)
      have hb8 := HE.out.lt (b := w2.heap.size + 1) (v := .slice a8 m8 c8) (by simp)
      have hsz := HE.out.below.size
      have HA' : Hid (([P0, W.heap.size, P2, w2.heap.size, w2.heap.size + 1] : List Nat).Nodup ∧ ∀ b ∈ ([P0, W.heap.size, P2, w2.heap.size, w2.heap.size + 1] : List Nat), w.heap.size ≤ b) := hide (by have := HA.out; simp at this ⊢; omega)
      clear hb7 hb8 hsz hl0 hl2
      try clear HE
      try clear HA
      generalize W.alloc (.cells #[.slice none 0 0] 25) = W' at HE' ⊢
      generalize W.heap.size = P1 at HE' HA' ⊢
      revert HE'; revert HA'; revert HM1; revert HM0; revert W'; revert M1; revert q1; revert r1; revert M0; revert q0; revert r0; revert P2; revert P1; revert P0
      exact k2_012.out
    refine AllReadyH.cons (o := { dst := some 12, op := Op.alloc 25, type := 0, pos := "law.go:23", after := #[], guard := none }) rfl (fun K hK => ?_) ?_
    · go_simp
      have HE' : Hid (Env w [(P0, .slice none 0 0), (P2, .slice none 0 0), (W.heap.size, .slice none 0 0), (w2.heap.size, .slice a7 m7 c7), (w2.heap.size + 1, .slice a8 m8 c8)] [(r0, q0, U0), (r1, q1, U1), (a8, c8, s1), (a7, c7, s0)] [(a0, c0, l0), (a1, c1, l1)] (W.alloc (.cells #[.slice none 0 0] 25))) := hide ((HE.out.box (.slice none 0 0) 25 rfl).sub (by simp) (by simp) (by simp))
      refine hK.out _ _ ⟨HE'.out.cell (b := w2.heap.size) (v := .slice a7 m7 c7) (by simp), HE'.out.cell (b := w2.heap.size + 1) (v := .slice a8 m8 c8) (by simp)⟩ (fun hS' => ?_)
      clear hS'
      refine wpAnyH_listed (listed := #[true, true, true, true, true, true, true, true, false, true, true, false, true, false, true, true, false, false, false, false]) (by kernel_rfl) ?_
      have hl0 := HE.out.lt (b := P0) (v := .slice none 0 0) (by simp)
      have hl2 := HE.out.lt (b := P2) (v := .slice none 0 0) (by simp)
      have hb7 := HE.out.lt (b := w2.heap.size) (v := .slice a7 m7 c7) (by simp)
      have hb8 := HE.out.lt (b := w2.heap.size + 1) (v := .slice a8 m8 c8) (by simp)
      have hsz := HE.out.below.size
      have HA' : Hid (([P0, P2, W.heap.size, w2.heap.size, w2.heap.size + 1] : List Nat).Nodup ∧ ∀ b ∈ ([P0, P2, W.heap.size, w2.heap.size, w2.heap.size + 1] : List Nat), w.heap.size ≤ b) := hide (by have := HA.out; simp at this ⊢; omega)
      clear hb7 hb8 hsz hl0 hl2
      try clear HE
      try clear HA
      generalize W.alloc (.cells #[.slice none 0 0] 25) = W' at HE' ⊢
      generalize W.heap.size = P3 at HE' HA' ⊢
      revert HE'; revert HA'; revert HM1; revert HM0; revert W'; revert M1; revert q1; revert r1; revert M0; revert q0; revert r0; revert P3; revert P2; revert P0
      exact k2_023.out
    exact AllReadyH.nil
  · intro k3_03 k2_013 k2_023
    intro P0 P3 r0 q0 M0 r1 q1 M1 W HM0 HM1 HA HE
    refine wpAnyH_ready (rs := [8, 13, 14]) (by kernel_rfl) (by simp) ?_
    refine AllReadyH.cons (o := { dst := some 34, op := Op.call { callee := Callee.value (Operand.func 12), args := #[Operand.tmp 32, Operand.tmp 33], argTypes := #[25, 25] }, type := 25, pos := "law.go:23", after := #[{ on := 6, ground := Ground.data }, { on := 7, ground := Ground.data }, { on := 5, ground := Ground.chain }], guard := none }) rfl (fun K hK => ?_) ?_
    · have CC := hide (minusD (a := a7) (c := c7) (n := m7) (s := s0) (a2 := a8) (c2 := c8) (n2 := m8) (t := s1) HE (by simp) (by simp) hm7 hm8 HU2)
      go_simp
      go_at_call 12
      (with_reducible refine (Hid.out CC).mono ?_)
      rintro e W' ⟨r2, q2, M2, rfl, HM2, -, HE0⟩
      try go_wp2_with fail
      have HE' : Hid (Env w [(P0, .slice none 0 0), (P3, .slice none 0 0), (w2.heap.size, .slice a7 m7 c7), (w2.heap.size + 1, .slice a8 m8 c8)] [(r0, q0, U0), (r1, q1, U1), (r2, q2, U2), (a8, c8, s1), (a7, c7, s0)] [(a0, c0, l0), (a1, c1, l1)] W') := hide (HE0.out.sub (by simp) (by simp) (by simp))
      refine hK.out _ _ ⟨HE'.out.cell (b := w2.heap.size) (v := .slice a7 m7 c7) (by simp), HE'.out.cell (b := w2.heap.size + 1) (v := .slice a8 m8 c8) (by simp)⟩ (fun hS' => ?_)
      clear hS'
      refine wpAnyH_listed (listed := #[true, true, true, true, true, true, true, true, true, true, true, false, true, false, false, true, false, false, false, false]) (by kernel_rfl) ?_
      have HA' := HA
      clear CC HE0
      try clear HE
      try clear HA
      revert HE'; revert HA'; revert HM2; revert HM1; revert HM0; revert W'; revert M2; revert q2; revert r2; revert M1; revert q1; revert r1; revert M0; revert q0; revert r0; revert P3; revert P0
      exact k3_03.out
    refine AllReadyH.cons (o := { dst := some 10, op := Op.alloc 25, type := 0, pos := "law.go:23", after := #[], guard := none }) rfl (fun K hK => ?_) ?_
    · go_simp
      have HE' : Hid (Env w [(P0, .slice none 0 0), (W.heap.size, .slice none 0 0), (P3, .slice none 0 0), (w2.heap.size, .slice a7 m7 c7), (w2.heap.size + 1, .slice a8 m8 c8)] [(r0, q0, U0), (r1, q1, U1), (a8, c8, s1), (a7, c7, s0)] [(a0, c0, l0), (a1, c1, l1)] (W.alloc (.cells #[.slice none 0 0] 25))) := hide ((HE.out.box (.slice none 0 0) 25 rfl).sub (by simp) (by simp) (by simp))
      refine hK.out _ _ ⟨HE'.out.cell (b := w2.heap.size) (v := .slice a7 m7 c7) (by simp), HE'.out.cell (b := w2.heap.size + 1) (v := .slice a8 m8 c8) (by simp)⟩ (fun hS' => ?_)
      clear hS'
      refine wpAnyH_listed (listed := #[true, true, true, true, true, true, true, true, false, true, true, false, true, true, false, true, false, false, false, false]) (by kernel_rfl) ?_
      have hl0 := HE.out.lt (b := P0) (v := .slice none 0 0) (by simp)
      have hl3 := HE.out.lt (b := P3) (v := .slice none 0 0) (by simp)
      have hb7 := HE.out.lt (b := w2.heap.size) (v := .slice a7 m7 c7) (by simp)
      have hb8 := HE.out.lt (b := w2.heap.size + 1) (v := .slice a8 m8 c8) (by simp)
      have hsz := HE.out.below.size
      have HA' : Hid (([P0, W.heap.size, P3, w2.heap.size, w2.heap.size + 1] : List Nat).Nodup ∧ ∀ b ∈ ([P0, W.heap.size, P3, w2.heap.size, w2.heap.size + 1] : List Nat), w.heap.size ≤ b) := hide (by have := HA.out; simp at this ⊢; omega)
      clear hb7 hb8 hsz hl0 hl3
      try clear HE
      try clear HA
      generalize W.alloc (.cells #[.slice none 0 0] 25) = W' at HE' ⊢
      generalize W.heap.size = P1 at HE' HA' ⊢
      revert HE'; revert HA'; revert HM1; revert HM0; revert W'; revert M1; revert q1; revert r1; revert M0; revert q0; revert r0; revert P3; revert P1; revert P0
      exact k2_013.out
    refine AllReadyH.cons (o := { dst := some 11, op := Op.alloc 25, type := 0, pos := "law.go:23", after := #[], guard := none }) rfl (fun K hK => ?_) ?_
    · go_simp
      have HE' : Hid (Env w [(P0, .slice none 0 0), (W.heap.size, .slice none 0 0), (P3, .slice none 0 0), (w2.heap.size, .slice a7 m7 c7), (w2.heap.size + 1, .slice a8 m8 c8)] [(r0, q0, U0), (r1, q1, U1), (a8, c8, s1), (a7, c7, s0)] [(a0, c0, l0), (a1, c1, l1)] (W.alloc (.cells #[.slice none 0 0] 25))) := hide ((HE.out.box (.slice none 0 0) 25 rfl).sub (by simp) (by simp) (by simp))
      refine hK.out _ _ ⟨HE'.out.cell (b := w2.heap.size) (v := .slice a7 m7 c7) (by simp), HE'.out.cell (b := w2.heap.size + 1) (v := .slice a8 m8 c8) (by simp)⟩ (fun hS' => ?_)
      clear hS'
      refine wpAnyH_listed (listed := #[true, true, true, true, true, true, true, true, false, true, true, false, true, false, true, true, false, false, false, false]) (by kernel_rfl) ?_
      have hl0 := HE.out.lt (b := P0) (v := .slice none 0 0) (by simp)
      have hl3 := HE.out.lt (b := P3) (v := .slice none 0 0) (by simp)
      have hb7 := HE.out.lt (b := w2.heap.size) (v := .slice a7 m7 c7) (by simp)
      have hb8 := HE.out.lt (b := w2.heap.size + 1) (v := .slice a8 m8 c8) (by simp)
      have hsz := HE.out.below.size
      have HA' : Hid (([P0, W.heap.size, P3, w2.heap.size, w2.heap.size + 1] : List Nat).Nodup ∧ ∀ b ∈ ([P0, W.heap.size, P3, w2.heap.size, w2.heap.size + 1] : List Nat), w.heap.size ≤ b) := hide (by have := HA.out; simp at this ⊢; omega)
      clear hb7 hb8 hsz hl0 hl3
      try clear HE
      try clear HA
      generalize W.alloc (.cells #[.slice none 0 0] 25) = W' at HE' ⊢
      generalize W.heap.size = P2 at HE' HA' ⊢
      revert HE'; revert HA'; revert HM1; revert HM0; revert W'; revert M1; revert q1; revert r1; revert M0; revert q0; revert r0; revert P3; revert P2; revert P0
      exact k2_023.out
    exact AllReadyH.nil
  · intro k3_12 k2_012 k2_123
    intro P1 P2 r0 q0 M0 r1 q1 M1 W HM0 HM1 HA HE
    refine wpAnyH_ready (rs := [8, 12, 15]) (by kernel_rfl) (by simp) ?_
    refine AllReadyH.cons (o := { dst := some 34, op := Op.call { callee := Callee.value (Operand.func 12), args := #[Operand.tmp 32, Operand.tmp 33], argTypes := #[25, 25] }, type := 25, pos := "law.go:23", after := #[{ on := 6, ground := Ground.data }, { on := 7, ground := Ground.data }, { on := 5, ground := Ground.chain }], guard := none }) rfl (fun K hK => ?_) ?_
    · have CC := hide (minusD (a := a7) (c := c7) (n := m7) (s := s0) (a2 := a8) (c2 := c8) (n2 := m8) (t := s1) HE (by simp) (by simp) hm7 hm8 HU2)
      go_simp
      go_at_call 12
      (with_reducible refine (Hid.out CC).mono ?_)
      rintro e W' ⟨r2, q2, M2, rfl, HM2, -, HE0⟩
      try go_wp2_with fail
      have HE' : Hid (Env w [(P1, .slice none 0 0), (P2, .slice none 0 0), (w2.heap.size, .slice a7 m7 c7), (w2.heap.size + 1, .slice a8 m8 c8)] [(r0, q0, U0), (r1, q1, U1), (r2, q2, U2), (a8, c8, s1), (a7, c7, s0)] [(a0, c0, l0), (a1, c1, l1)] W') := hide (HE0.out.sub (by simp) (by simp) (by simp))
      refine hK.out _ _ ⟨HE'.out.cell (b := w2.heap.size) (v := .slice a7 m7 c7) (by simp), HE'.out.cell (b := w2.heap.size + 1) (v := .slice a8 m8 c8) (by simp)⟩ (fun hS' => ?_)
      clear hS'
      refine wpAnyH_listed (listed := #[true, true, true, true, true, true, true, true, true, true, true, false, false, true, true, false, false, false, false, false]) (by kernel_rfl) ?_
      have HA' := HA
      clear CC HE0
      try clear HE
      try clear HA
      revert HE'; revert HA'; revert HM2; revert HM1; revert HM0; revert W'; revert M2; revert q2; revert r2; revert M1; revert q1; revert r1; revert M0; revert q0; revert r0; revert P2; revert P1
      exact k3_12.out
    refine AllReadyH.cons (o := { dst := some 9, op := Op.alloc 25, type := 0, pos := "law.go:23", after := #[], guard := none }) rfl (fun K hK => ?_) ?_
    · go_simp
      have HE' : Hid (Env w [(W.heap.size, .slice none 0 0), (P1, .slice none 0 0), (P2, .slice none 0 0), (w2.heap.size, .slice a7 m7 c7), (w2.heap.size + 1, .slice a8 m8 c8)] [(r0, q0, U0), (r1, q1, U1), (a8, c8, s1), (a7, c7, s0)] [(a0, c0, l0), (a1, c1, l1)] (W.alloc (.cells #[.slice none 0 0] 25))) := hide ((HE.out.box (.slice none 0 0) 25 rfl).sub (by simp) (by simp) (by simp))
      refine hK.out _ _ ⟨HE'.out.cell (b := w2.heap.size) (v := .slice a7 m7 c7) (by simp), HE'.out.cell (b := w2.heap.size + 1) (v := .slice a8 m8 c8) (by simp)⟩ (fun hS' => ?_)
      clear hS'
      refine wpAnyH_listed (listed := #[true, true, true, true, true, true, true, true, false, true, true, false, true, true, true, false, false, false, false, false]) (by kernel_rfl) ?_
      have hl1 := HE.out.lt (b := P1) (v := .slice none 0 0) (by simp)
      have hl2 := HE.out.lt (b := P2) (v := .slice none 0 0) (by simp)
      have hb7 := HE.out.lt (b := w2.heap.size) (v := .slice a7 m7 c7) (by simp)
      have hb8 := HE.out.lt (b := w2.heap.size + 1) (v := .slice a8 m8 c8) (by simp)
      have hsz := HE.out.below.size
      have HA' : Hid (([W.heap.size, P1, P2, w2.heap.size, w2.heap.size + 1] : List Nat).Nodup ∧ ∀ b ∈ ([W.heap.size, P1, P2, w2.heap.size, w2.heap.size + 1] : List Nat), w.heap.size ≤ b) := hide (by have := HA.out; simp at this ⊢; omega)
      clear hb7 hb8 hsz hl1 hl2
      try clear HE
      try clear HA
      generalize W.alloc (.cells #[.slice none 0 0] 25) = W' at HE' ⊢
      generalize W.heap.size = P0 at HE' HA' ⊢
      revert HE'; revert HA'; revert HM1; revert HM0; revert W'; revert M1; revert q1; revert r1; revert M0; revert q0; revert r0; revert P2; revert P1; revert P0
      exact k2_012.out
    refine AllReadyH.cons (o := { dst := some 12, op := Op.alloc 25, type := 0, pos := "law.go:23", after := #[], guard := none }) rfl (fun K hK => ?_) ?_
    · go_simp
      have HE' : Hid (Env w [(P1, .slice none 0 0), (P2, .slice none 0 0), (W.heap.size, .slice none 0 0), (w2.heap.size, .slice a7 m7 c7), (w2.heap.size + 1, .slice a8 m8 c8)] [(r0, q0, U0), (r1, q1, U1), (a8, c8, s1), (a7, c7, s0)] [(a0, c0, l0), (a1, c1, l1)] (W.alloc (.cells #[.slice none 0 0] 25))) := hide ((HE.out.box (.slice none 0 0) 25 rfl).sub (by simp) (by simp) (by simp))
      refine hK.out _ _ ⟨HE'.out.cell (b := w2.heap.size) (v := .slice a7 m7 c7) (by simp), HE'.out.cell (b := w2.heap.size + 1) (v := .slice a8 m8 c8) (by simp)⟩ (fun hS' => ?_)
      clear hS'
      refine wpAnyH_listed (listed := #[true, true, true, true, true, true, true, true, false, true, true, false, false, true, true, true, false, false, false, false]) (by kernel_rfl) ?_
      have hl1 := HE.out.lt (b := P1) (v := .slice none 0 0) (by simp)
      have hl2 := HE.out.lt (b := P2) (v := .slice none 0 0) (by simp)
      have hb7 := HE.out.lt (b := w2.heap.size) (v := .slice a7 m7 c7) (by simp)
      have hb8 := HE.out.lt (b := w2.heap.size + 1) (v := .slice a8 m8 c8) (by simp)
      have hsz := HE.out.below.size
      have HA' : Hid (([P1, P2, W.heap.size, w2.heap.size, w2.heap.size + 1] : List Nat).Nodup ∧ ∀ b ∈ ([P1, P2, W.heap.size, w2.heap.size, w2.heap.size + 1] : List Nat), w.heap.size ≤ b) := hide (by have := HA.out; simp at this ⊢; omega)
      clear hb7 hb8 hsz hl1 hl2
      try clear HE
      try clear HA
      generalize W.alloc (.cells #[.slice none 0 0] 25) = W' at HE' ⊢
      generalize W.heap.size = P3 at HE' HA' ⊢
      revert HE'; revert HA'; revert HM1; revert HM0; revert W'; revert M1; revert q1; revert r1; revert M0; revert q0; revert r0; revert P3; revert P2; revert P1
      exact k2_123.out
    exact AllReadyH.nil
  · intro k3_13 k2_013 k2_123
    intro P1 P3 r0 q0 M0 r1 q1 M1 W HM0 HM1 HA HE
    refine wpAnyH_ready (rs := [8, 12, 14]) (by kernel_rfl) (by simp) ?_
    refine AllReadyH.cons (o := { dst := some 34, op := Op.call { callee := Callee.value (Operand.func 12), args := #[Operand.tmp 32, Operand.tmp 33], argTypes := #[25, 25] }, type := 25, pos := "law.go:23", after := #[{ on := 6, ground := Ground.data }, { on := 7, ground := Ground.data }, { on := 5, ground := Ground.chain }], guard := none }) rfl (fun K hK => ?_) ?_
    · have CC := hide (minusD (a := a7) (c := c7) (n := m7) (s := s0) (a2 := a8) (c2 := c8) (n2 := m8) (t := s1) HE (by simp) (by simp) hm7 hm8 HU2)
      go_simp
      go_at_call 12
      (with_reducible refine (Hid.out CC).mono ?_)
      rintro e W' ⟨r2, q2, M2, rfl, HM2, -, HE0⟩
      try go_wp2_with fail
      have HE' : Hid (Env w [(P1, .slice none 0 0), (P3, .slice none 0 0), (w2.heap.size, .slice a7 m7 c7), (w2.heap.size + 1, .slice a8 m8 c8)] [(r0, q0, U0), (r1, q1, U1), (r2, q2, U2), (a8, c8, s1), (a7, c7, s0)] [(a0, c0, l0), (a1, c1, l1)] W') := hide (HE0.out.sub (by simp) (by simp) (by simp))
      refine hK.out _ _ ⟨HE'.out.cell (b := w2.heap.size) (v := .slice a7 m7 c7) (by simp), HE'.out.cell (b := w2.heap.size + 1) (v := .slice a8 m8 c8) (by simp)⟩ (fun hS' => ?_)
      clear hS'
      refine wpAnyH_listed (listed := #[true, true, true, true, true, true, true, true, true, true, true, false, false, true, false, true, false, false, false, false]) (by kernel_rfl) ?_
      have HA' := HA
      clear CC HE0
      try clear HE
      try clear HA
      revert HE'; revert HA'; revert HM2; revert HM1; revert HM0; revert W'; revert M2; revert q2; revert r2; revert M1; revert q1; revert r1; revert M0; revert q0; revert r0; revert P3; revert P1
      exact k3_13.out
    refine AllReadyH.cons (o := { dst := some 9, op := Op.alloc 25, type := 0, pos := "law.go:23", after := #[], guard := none }) rfl (fun K hK => ?_) ?_
    · go_simp
      have HE' : Hid (Env w [(W.heap.size, .slice none 0 0), (P1, .slice none 0 0), (P3, .slice none 0 0), (w2.heap.size, .slice a7 m7 c7), (w2.heap.size + 1, .slice a8 m8 c8)] [(r0, q0, U0), (r1, q1, U1), (a8, c8, s1), (a7, c7, s0)] [(a0, c0, l0), (a1, c1, l1)] (W.alloc (.cells #[.slice none 0 0] 25))) := hide ((HE.out.box (.slice none 0 0) 25 rfl).sub (by simp) (by simp) (by simp))
      refine hK.out _ _ ⟨HE'.out.cell (b := w2.heap.size) (v := .slice a7 m7 c7) (by simp), HE'.out.cell (b := w2.heap.size + 1) (v := .slice a8 m8 c8) (by simp)⟩ (fun hS' => ?_)
      clear hS'
      refine wpAnyH_listed (listed := #[true, true, true, true, true, true, true, true, false, true, true, false, true, true, false, true, false, false, false, false]) (by kernel_rfl) ?_
      have hl1 := HE.out.lt (b := P1) (v := .slice none 0 0) (by simp)
      have hl3 := HE.out.lt (b := P3) (v := .slice none 0 0) (by simp)
      have hb7 := HE.out.lt (b := w2.heap.size) (v := .slice a7 m7 c7) (by simp)
      have hb8 := HE.out.lt (b := w2.heap.size + 1) (v := .slice a8 m8 c8) (by simp)
      have hsz := HE.out.below.size
      have HA' : Hid (([W.heap.size, P1, P3, w2.heap.size, w2.heap.size + 1] : List Nat).Nodup ∧ ∀ b ∈ ([W.heap.size, P1, P3, w2.heap.size, w2.heap.size + 1] : List Nat), w.heap.size ≤ b) := hide (by have := HA.out; simp at this ⊢; omega)
      clear hb7 hb8 hsz hl1 hl3
      try clear HE
      try clear HA
      generalize W.alloc (.cells #[.slice none 0 0] 25) = W' at HE' ⊢
      generalize W.heap.size = P0 at HE' HA' ⊢
      revert HE'; revert HA'; revert HM1; revert HM0; revert W'; revert M1; revert q1; revert r1; revert M0; revert q0; revert r0; revert P3; revert P1; revert P0
      exact k2_013.out
    refine AllReadyH.cons (o := { dst := some 11, op := Op.alloc 25, type := 0, pos := "law.go:23", after := #[], guard := none }) rfl (fun K hK => ?_) ?_
    · go_simp
      have HE' : Hid (Env w [(P1, .slice none 0 0), (W.heap.size, .slice none 0 0), (P3, .slice none 0 0), (w2.heap.size, .slice a7 m7 c7), (w2.heap.size + 1, .slice a8 m8 c8)] [(r0, q0, U0), (r1, q1, U1), (a8, c8, s1), (a7, c7, s0)] [(a0, c0, l0), (a1, c1, l1)] (W.alloc (.cells #[.slice none 0 0] 25))) := hide ((HE.out.box (.slice none 0 0) 25 rfl).sub (by simp) (by simp) (by simp))
      refine hK.out _ _ ⟨HE'.out.cell (b := w2.heap.size) (v := .slice a7 m7 c7) (by simp), HE'.out.cell (b := w2.heap.size + 1) (v := .slice a8 m8 c8) (by simp)⟩ (fun hS' => ?_)
      clear hS'
      refine wpAnyH_listed (listed := #[true, true, true, true, true, true, true, true, false, true, true, false, false, true, true, true, false, false, false, false]) (by kernel_rfl) ?_
      have hl1 := HE.out.lt (b := P1) (v := .slice none 0 0) (by simp)
      have hl3 := HE.out.lt (b := P3) (v := .slice none 0 0) (by simp)
      have hb7 := HE.out.lt (b := w2.heap.size) (v := .slice a7 m7 c7) (by simp)
      have hb8 := HE.out.lt (b := w2.heap.size + 1) (v := .slice a8 m8 c8) (by simp)
      have hsz := HE.out.below.size
      have HA' : Hid (([P1, W.heap.size, P3, w2.heap.size, w2.heap.size + 1] : List Nat).Nodup ∧ ∀ b ∈ ([P1, W.heap.size, P3, w2.heap.size, w2.heap.size + 1] : List Nat), w.heap.size ≤ b) := hide (by have := HA.out; simp at this ⊢; omega)
      clear hb7 hb8 hsz hl1 hl3
      try clear HE
      try clear HA
      generalize W.alloc (.cells #[.slice none 0 0] 25) = W' at HE' ⊢
      generalize W.heap.size = P2 at HE' HA' ⊢
      revert HE'; revert HA'; revert HM1; revert HM0; revert W'; revert M1; revert q1; revert r1; revert M0; revert q0; revert r0; revert P3; revert P2; revert P1
      exact k2_123.out
    exact AllReadyH.nil
  · intro k3_23 k2_023 k2_123
    intro P2 P3 r0 q0 M0 r1 q1 M1 W HM0 HM1 HA HE
    refine wpAnyH_ready (rs := [8, 12, 13]) (by kernel_rfl) (by simp) ?_
    refine AllReadyH.cons (o := { dst := some 34, op := Op.call { callee := Callee.value (Operand.func 12), args := #[Operand.tmp 32, Operand.tmp 33], argTypes := #[25, 25] }, type := 25, pos := "law.go:23", after := #[{ on := 6, ground := Ground.data }, { on := 7, ground := Ground.data }, { on := 5, ground := Ground.chain }], guard := none }) rfl (fun K hK => ?_) ?_
    · have CC := hide (minusD (a := a7) (c := c7) (n := m7) (s := s0) (a2 := a8) (c2 := c8) (n2 := m8) (t := s1) HE (by simp) (by simp) hm7 hm8 HU2)
      go_simp
      go_at_call 12
      (with_reducible refine (Hid.out CC).mono ?_)
      rintro e W' ⟨r2, q2, M2, rfl, HM2, -, HE0⟩
      try go_wp2_with fail
      have HE' : Hid (Env w [(P2, .slice none 0 0), (P3, .slice none 0 0), (w2.heap.size, .slice a7 m7 c7), (w2.heap.size + 1, .slice a8 m8 c8)] [(r0, q0, U0), (r1, q1, U1), (r2, q2, U2), (a8, c8, s1), (a7, c7, s0)] [(a0, c0, l0), (a1, c1, l1)] W') := hide (HE0.out.sub (by simp) (by simp) (by simp))
      refine hK.out _ _ ⟨HE'.out.cell (b := w2.heap.size) (v := .slice a7 m7 c7) (by simp), HE'.out.cell (b := w2.heap.size + 1) (v := .slice a8 m8 c8) (by simp)⟩ (fun hS' => ?_)
      clear hS'
      refine wpAnyH_listed (listed := #[true, true, true, true, true, true, true, true, true, true, true, false, false, false, true, true, false, false, false, false]) (by kernel_rfl) ?_
      have HA' := HA
      clear CC HE0
      try clear HE
      try clear HA
      revert HE'; revert HA'; revert HM2; revert HM1; revert HM0; revert W'; revert M2; revert q2; revert r2; revert M1; revert q1; revert r1; revert M0; revert q0; revert r0; revert P3; revert P2
      exact k3_23.out
    refine AllReadyH.cons (o := { dst := some 9, op := Op.alloc 25, type := 0, pos := "law.go:23", after := #[], guard := none }) rfl (fun K hK => ?_) ?_
    · go_simp
      have HE' : Hid (Env w [(W.heap.size, .slice none 0 0), (P2, .slice none 0 0), (P3, .slice none 0 0), (w2.heap.size, .slice a7 m7 c7), (w2.heap.size + 1, .slice a8 m8 c8)] [(r0, q0, U0), (r1, q1, U1), (a8, c8, s1), (a7, c7, s0)] [(a0, c0, l0), (a1, c1, l1)] (W.alloc (.cells #[.slice none 0 0] 25))) := hide ((HE.out.box (.slice none 0 0) 25 rfl).sub (by simp) (by simp) (by simp))
      refine hK.out _ _ ⟨HE'.out.cell (b := w2.heap.size) (v := .slice a7 m7 c7) (by simp), HE'.out.cell (b := w2.heap.size + 1) (v := .slice a8 m8 c8) (by simp)⟩ (fun hS' => ?_)
      clear hS'
      refine wpAnyH_listed (listed := #[true, true, true, true, true, true, true, true, false, true, true, false, true, false, true, true, false, false, false, false]) (by kernel_rfl) ?_
      have hl2 := HE.out.lt (b := P2) (v := .slice none 0 0) (by simp)
      have hl3 := HE.out.lt (b := P3) (v := .slice none 0 0) (by simp)
      have hb7 := HE.out.lt (b := w2.heap.size) (v := .slice a7 m7 c7) (by simp)
      have hb8 := HE.out.lt (b := w2.heap.size + 1) (v := .slice a8 m8 c8) (by simp)
      have hsz := HE.out.below.size
      have HA' : Hid (([W.heap.size, P2, P3, w2.heap.size, w2.heap.size + 1] : List Nat).Nodup ∧ ∀ b ∈ ([W.heap.size, P2, P3, w2.heap.size, w2.heap.size + 1] : List Nat), w.heap.size ≤ b) := hide (by have := HA.out; simp at this ⊢; omega)
      clear hb7 hb8 hsz hl2 hl3
      try clear HE
      try clear HA
      generalize W.alloc (.cells #[.slice none 0 0] 25) = W' at HE' ⊢
      generalize W.heap.size = P0 at HE' HA' ⊢
      revert HE'; revert HA'; revert HM1; revert HM0; revert W'; revert M1; revert q1; revert r1; revert M0; revert q0; revert r0; revert P3; revert P2; revert P0
      exact k2_023.out
    refine AllReadyH.cons (o := { dst := some 10, op := Op.alloc 25, type := 0, pos := "law.go:23", after := #[], guard := none }) rfl (fun K hK => ?_) ?_
    · go_simp
      have HE' : Hid (Env w [(W.heap.size, .slice none 0 0), (P2, .slice none 0 0), (P3, .slice none 0 0), (w2.heap.size, .slice a7 m7 c7), (w2.heap.size + 1, .slice a8 m8 c8)] [(r0, q0, U0), (r1, q1, U1), (a8, c8, s1), (a7, c7, s0)] [(a0, c0, l0), (a1, c1, l1)] (W.alloc (.cells #[.slice none 0 0] 25))) := hide ((HE.out.box (.slice none 0 0) 25 rfl).sub (by simp) (by simp) (by simp))
      refine hK.out _ _ ⟨HE'.out.cell (b := w2.heap.size) (v := .slice a7 m7 c7) (by simp), HE'.out.cell (b := w2.heap.size + 1) (v := .slice a8 m8 c8) (by simp)⟩ (fun hS' => ?_)
      clear hS'
      refine wpAnyH_listed (listed := #[true, true, true, true, true, true, true, true, false, true, true, false, false, true, true, true, false, false, false, false]) (by kernel_rfl) ?_
      have hl2 := HE.out.lt (b := P2) (v := .slice none 0 0) (by simp)
      have hl3 := HE.out.lt (b := P3) (v := .slice none 0 0) (by simp)
      have hb7 := HE.out.lt (b := w2.heap.size) (v := .slice a7 m7 c7) (by simp)
      have hb8 := HE.out.lt (b := w2.heap.size + 1) (v := .slice a8 m8 c8) (by simp)
      have hsz := HE.out.below.size
      have HA' : Hid (([W.heap.size, P2, P3, w2.heap.size, w2.heap.size + 1] : List Nat).Nodup ∧ ∀ b ∈ ([W.heap.size, P2, P3, w2.heap.size, w2.heap.size + 1] : List Nat), w.heap.size ≤ b) := hide (by have := HA.out; simp at this ⊢; omega)
      clear hb7 hb8 hsz hl2 hl3
      try clear HE
      try clear HA
      generalize W.alloc (.cells #[.slice none 0 0] 25) = W' at HE' ⊢
      generalize W.heap.size = P1 at HE' HA' ⊢
      revert HE'; revert HA'; revert HM1; revert HM0; revert W'; revert M1; revert q1; revert r1; revert M0; revert q0; revert r0; revert P3; revert P2; revert P1
      exact k2_123.out
    exact AllReadyH.nil
  · intro k4_0 k3_01 k3_02 k3_03
    intro P0 r0 q0 M0 r1 q1 M1 r2 q2 M2 W HM0 HM1 HM2 HA HE
    refine wpAnyH_ready (rs := [11, 13, 14, 15]) (by kernel_rfl) (by simp) ?_
    refine AllReadyH.cons (o := { dst := some 37, op := Op.call { callee := Callee.value (Operand.func 13), args := #[Operand.tmp 35, Operand.tmp 36], argTypes := #[25, 22] }, type := 25, pos := "law.go:23", after := #[{ on := 9, ground := Ground.data }, { on := 10, ground := Ground.data }, { on := 8, ground := Ground.chain }], guard := none }) rfl (fun K hK => ?_) ?_
    · have CC := hide (withD (a2 := a7) (c2 := c7) (n2 := m7) (s := s0) (a := a1) (c := c1) (n := n1) (l := l1) HE (by simp) (by simp) hm7 HN1 HU3 HUL3)
      go_simp
      go_at_call 13
      (with_reducible refine (Hid.out CC).mono ?_)
      rintro e W' ⟨r3, q3, M3, rfl, HM3, -, HE0⟩
      try go_wp2_with fail
      have HE' : Hid (Env w [(P0, .slice none 0 0), (w2.heap.size, .slice a7 m7 c7), (w2.heap.size + 1, .slice a8 m8 c8)] [(r0, q0, U0), (r1, q1, U1), (r2, q2, U2), (r3, q3, U3), (a8, c8, s1), (a7, c7, s0)] [(a0, c0, l0), (a1, c1, l1)] W') := hide (HE0.out.sub (by simp) (by simp) (by simp))
      refine hK.out _ _ ⟨HE'.out.cell (b := w2.heap.size) (v := .slice a7 m7 c7) (by simp), HE'.out.cell (b := w2.heap.size + 1) (v := .slice a8 m8 c8) (by simp)⟩ (fun hS' => ?_)
      clear hS'
      refine wpAnyH_listed (listed := #[true, true, true, true, true, true, true, true, true, true, true, true, true, false, false, false, false, false, false, false]) (by kernel_rfl) ?_
      have HA' := HA
      clear CC HE0
      try clear HE
      try clear HA
      revert HE'; revert HA'; revert HM3; revert HM2; revert HM1; revert HM0; revert W'; revert M3; revert q3; revert r3; revert M2; revert q2; revert r2; revert M1; revert q1; revert r1; revert M0; revert q0; revert r0; revert P0
      exact k4_0.out
    refine AllReadyH.cons (o := { dst := some 10, op := Op.alloc 25, type := 0, pos := "law.go:23", after := #[], guard := none }) rfl (fun K hK => ?_) ?_
    · go_simp
      have HE' : Hid (Env w [(P0, .slice none 0 0), (W.heap.size, .slice none 0 0), (w2.heap.size, .slice a7 m7 c7), (w2.heap.size + 1, .slice a8 m8 c8)] [(r0, q0, U0), (r1, q1, U1), (r2, q2, U2), (a8, c8, s1), (a7, c7, s0)] [(a0, c0, l0), (a1, c1, l1)] (W.alloc (.cells #[.slice none 0 0] 25))) := hide ((HE.out.box (.slice none 0 0) 25 rfl).sub (by simp) (by simp) (by simp))
      refine hK.out _ _ ⟨HE'.out.cell (b := w2.heap.size) (v := .slice a7 m7 c7) (by simp), HE'.out.cell (b := w2.heap.size + 1) (v := .slice a8 m8 c8) (by simp)⟩ (fun hS' => ?_)
      clear hS'
      refine wpAnyH_listed (listed := #[true, true, true, true, true, true, true, true, true, true, true, false, true, true, false, false, false, false, false, false]) (by kernel_rfl) ?_
      have hl0 := HE.out.lt (b := P0) (v := .slice none 0 0) (by simp)
      have hb7 := HE.out.lt (b := w2.heap.size) (v := .slice a7 m7 c7) (by simp)
      have hb8 := HE.out.lt (b := w2.heap.size + 1) (v := .slice a8 m8 c8) (by simp)
      have hsz := HE.out.below.size
      have HA' : Hid (([P0, W.heap.size, w2.heap.size, w2.heap.size + 1] : List Nat).Nodup ∧ ∀ b ∈ ([P0, W.heap.size, w2.heap.size, w2.heap.size + 1] : List Nat), w.heap.size ≤ b) := hide (by have := HA.out; simp at this ⊢; omega)
      clear hb7 hb8 hsz hl0
      try clear HE
      try clear HA
      generalize W.alloc (.cells #[.slice none 0 0] 25) = W' at HE' ⊢
      generalize W.heap.size = P1 at HE' HA' ⊢
      revert HE'; revert HA'; revert HM2; revert HM1; revert HM0; revert W'; revert M2; revert q2; revert r2; revert M1; revert q1; revert r1; revert M0; revert q0; revert r0; revert P1; revert P0
      exact k3_01.out
    refine AllReadyH.cons (o := { dst := some 11, op := Op.alloc 25, type := 0, pos := "law.go:23", after := #[], guard := none }) rfl (fun K hK => ?_) ?_
    · go_simp
      have HE' : Hid (Env w [(P0, .slice none 0 0), (W.heap.size, .slice none 0 0), (w2.heap.size, .slice a7 m7 c7), (w2.heap.size + 1, .slice a8 m8 c8)] [(r0, q0, U0), (r1, q1, U1), (r2, q2, U2), (a8, c8, s1), (a7, c7, s0)] [(a0, c0, l0), (a1, c1, l1)] (W.alloc (.cells #[.slice none 0 0] 25))) := hide ((HE.out.box (.slice none 0 0) 25 rfl).sub (by simp) (by simp) (by simp))
      refine hK.out _ _ ⟨HE'.out.cell (b := w2.heap.size) (v := .slice a7 m7 c7) (by simp), HE'.out.cell (b := w2.heap.size + 1) (v := .slice a8 m8 c8) (by simp)⟩ (fun hS' => ?_)
      clear hS'
      refine wpAnyH_listed (listed := #[true, true, true, true, true, true, true, true, true, true, true, false, true, false, true, false, false, false, false, false]) (by kernel_rfl) ?_
      have hl0 := HE.out.lt (b := P0) (v := .slice none 0 0) (by simp)
      have hb7 := HE.out.lt (b := w2.heap.size) (v := .slice a7 m7 c7) (by simp)
      have hb8 := HE.out.lt (b := w2.heap.size + 1) (v := .slice a8 m8 c8) (by simp)
      have hsz := HE.out.below.size
      have HA' : Hid (([P0, W.heap.size, w2.heap.size, w2.heap.size + 1] : List Nat).Nodup ∧ ∀ b ∈ ([P0, W.heap.size, w2.heap.size, w2.heap.size + 1] : List Nat), w.heap.size ≤ b) := hide (by have := HA.out; simp at this ⊢; omega)
      clear hb7 hb8 hsz hl0
      try clear HE
      try clear HA
      generalize W.alloc (.cells #[.slice none 0 0] 25) = W' at HE' ⊢
      generalize W.heap.size = P2 at HE' HA' ⊢
      revert HE'; revert HA'; revert HM2; revert HM1; revert HM0; revert W'; revert M2; revert q2; revert r2; revert M1; revert q1; revert r1; revert M0; revert q0; revert r0; revert P2; revert P0
      exact k3_02.out
    refine AllReadyH.cons (o := { dst := some 12, op := Op.alloc 25, type := 0, pos := "law.go:23", after := #[], guard := none }) rfl (fun K hK => ?_) ?_
    · go_simp
      have HE' : Hid (Env w [(P0, .slice none 0 0), (W.heap.size, .slice none 0 0), (w2.heap.size, .slice a7 m7 c7), (w2.heap.size + 1, .slice a8 m8 c8)] [(r0, q0, U0), (r1, q1, U1), (r2, q2, U2), (a8, c8, s1), (a7, c7, s0)] [(a0, c0, l0), (a1, c1, l1)] (W.alloc (.cells #[.slice none 0 0] 25))) := hide ((HE.out.box (.slice none 0 0) 25 rfl).sub (by simp) (by simp) (by simp))
      refine hK.out _ _ ⟨HE'.out.cell (b := w2.heap.size) (v := .slice a7 m7 c7) (by simp), HE'.out.cell (b := w2.heap.size + 1) (v := .slice a8 m8 c8) (by simp)⟩ (fun hS' => ?_)
      clear hS'
      refine wpAnyH_listed (listed := #[true, true, true, true, true, true, true, true, true, true, true, false, true, false, false, true, false, false, false, false]) (by kernel_rfl) ?_
      have hl0 := HE.out.lt (b := P0) (v := .slice none 0 0) (by simp)
      have hb7 := HE.out.lt (b := w2.heap.size) (v := .slice a7 m7 c7) (by simp)
      have hb8 := HE.out.lt (b := w2.heap.size + 1) (v := .slice a8 m8 c8) (by simp)
      have hsz := HE.out.below.size
      have HA' : Hid (([P0, W.heap.size, w2.heap.size, w2.heap.size + 1] : List Nat).Nodup ∧ ∀ b ∈ ([P0, W.heap.size, w2.heap.size, w2.heap.size + 1] : List Nat), w.heap.size ≤ b) := hide (by have := HA.out; simp at this ⊢; omega)
      clear hb7 hb8 hsz hl0
      try clear HE
      try clear HA
      generalize W.alloc (.cells #[.slice none 0 0] 25) = W' at HE' ⊢
      generalize W.heap.size = P3 at HE' HA' ⊢
      revert HE'; revert HA'; revert HM2; revert HM1; revert HM0; revert W'; revert M2; revert q2; revert r2; revert M1; revert q1; revert r1; revert M0; revert q0; revert r0; revert P3; revert P0
      exact k3_03.out
    exact AllReadyH.nil
  · intro k4_1 k3_01 k3_12 k3_13
    intro P1 r0 q0 M0 r1 q1 M1 r2 q2 M2 W HM0 HM1 HM2 HA HE
    refine wpAnyH_ready (rs := [11, 12, 14, 15]) (by kernel_rfl) (by simp) ?_
    refine AllReadyH.cons (o := { dst := some 37, op := Op.call { callee := Callee.value (Operand.func 13), args := #[Operand.tmp 35, Operand.tmp 36], argTypes := #[25, 22] }, type := 25, pos := "law.go:23", after := #[{ on := 9, ground := Ground.data }, { on := 10, ground := Ground.data }, { on := 8, ground := Ground.chain }], guard := none }) rfl (fun K hK => ?_) ?_
    · have CC := hide (withD (a2 := a7) (c2 := c7) (n2 := m7) (s := s0) (a := a1) (c := c1) (n := n1) (l := l1) HE (by simp) (by simp) hm7 HN1 HU3 HUL3)
      go_simp
      go_at_call 13
      (with_reducible refine (Hid.out CC).mono ?_)
      rintro e W' ⟨r3, q3, M3, rfl, HM3, -, HE0⟩
      try go_wp2_with fail
      have HE' : Hid (Env w [(P1, .slice none 0 0), (w2.heap.size, .slice a7 m7 c7), (w2.heap.size + 1, .slice a8 m8 c8)] [(r0, q0, U0), (r1, q1, U1), (r2, q2, U2), (r3, q3, U3), (a8, c8, s1), (a7, c7, s0)] [(a0, c0, l0), (a1, c1, l1)] W') := hide (HE0.out.sub (by simp) (by simp) (by simp))
      refine hK.out _ _ ⟨HE'.out.cell (b := w2.heap.size) (v := .slice a7 m7 c7) (by simp), HE'.out.cell (b := w2.heap.size + 1) (v := .slice a8 m8 c8) (by simp)⟩ (fun hS' => ?_)
      clear hS'
      refine wpAnyH_listed (listed := #[true, true, true, true, true, true, true, true, true, true, true, true, false, true, false, false, false, false, false, false]) (by kernel_rfl) ?_
      have HA' := HA
      clear CC HE0
      try clear HE
      try clear HA
      revert HE'; revert HA'; revert HM3; revert HM2; revert HM1; revert HM0; revert W'; revert M3; revert q3; revert r3; revert M2; revert q2; revert r2; revert M1; revert q1; revert r1; revert M0; revert q0; revert r0; revert P1
      exact k4_1.out
    refine AllReadyH.cons (o := { dst := some 9, op := Op.alloc 25, type := 0, pos := "law.go:23", after := #[], guard := none }) rfl (fun K hK => ?_) ?_
    · go_simp
      have HE' : Hid (Env w [(W.heap.size, .slice none 0 0), (P1, .slice none 0 0), (w2.heap.size, .slice a7 m7 c7), (w2.heap.size + 1, .slice a8 m8 c8)] [(r0, q0, U0), (r1, q1, U1), (r2, q2, U2), (a8, c8, s1), (a7, c7, s0)] [(a0, c0, l0), (a1, c1, l1)] (W.alloc (.cells #[.slice none 0 0] 25))) := hide ((HE.out.box (.slice none 0 0) 25 rfl).sub (by simp) (by simp) (by simp))
      refine hK.out _ _ ⟨HE'.out.cell (b := w2.heap.size) (v := .slice a7 m7 c7) (by simp), HE'.out.cell (b := w2.heap.size + 1) (v := .slice a8 m8 c8) (by simp)⟩ (fun hS' => ?_)
      clear hS'
      refine wpAnyH_listed (listed := #[true, true, true, true, true, true, true, true, true, true, true, false, true, true, false, false, false, false, false, false]) (by kernel_rfl) ?_
      have hl1 := HE.out.lt (b := P1) (v := .slice none 0 0) (by simp)
      have hb7 := HE.out.lt (b := w2.heap.size) (v := .slice a7 m7 c7) (by simp)
      have hb8 := HE.out.lt (b := w2.heap.size + 1) (v := .slice a8 m8 c8) (by simp)
      have hsz := HE.out.below.size
      have HA' : Hid (([W.heap.size, P1, w2.heap.size, w2.heap.size + 1] : List Nat).Nodup ∧ ∀ b ∈ ([W.heap.size, P1, w2.heap.size, w2.heap.size + 1] : List Nat), w.heap.size ≤ b) := hide (by have := HA.out; simp at this ⊢; omega)
      clear hb7 hb8 hsz hl1
      try clear HE
      try clear HA
      generalize W.alloc (.cells #[.slice none 0 0] 25) = W' at HE' ⊢
      generalize W.heap.size = P0 at HE' HA' ⊢
      revert HE'; revert HA'; revert HM2; revert HM1; revert HM0; revert W'; revert M2; revert q2; revert r2; revert M1; revert q1; revert r1; revert M0; revert q0; revert r0; revert P1; revert P0
      exact k3_01.out
    refine AllReadyH.cons (o := { dst := some 11, op := Op.alloc 25, type := 0, pos := "law.go:23", after := #[], guard := none }) rfl (fun K hK => ?_) ?_
    · go_simp
      have HE' : Hid (Env w [(P1, .slice none 0 0), (W.heap.size, .slice none 0 0), (w2.heap.size, .slice a7 m7 c7), (w2.heap.size + 1, .slice a8 m8 c8)] [(r0, q0, U0), (r1, q1, U1), (r2, q2, U2), (a8, c8, s1), (a7, c7, s0)] [(a0, c0, l0), (a1, c1, l1)] (W.alloc (.cells #[.slice none 0 0] 25))) := hide ((HE.out.box (.slice none 0 0) 25 rfl).sub (by simp) (by simp) (by simp))
      refine hK.out _ _ ⟨HE'.out.cell (b := w2.heap.size) (v := .slice a7 m7 c7) (by simp), HE'.out.cell (b := w2.heap.size + 1) (v := .slice a8 m8 c8) (by simp)⟩ (fun hS' => ?_)
      clear hS'
      refine wpAnyH_listed (listed := #[true, true, true, true, true, true, true, true, true, true, true, false, false, true, true, false, false, false, false, false]) (by kernel_rfl) ?_
      have hl1 := HE.out.lt (b := P1) (v := .slice none 0 0) (by simp)
      have hb7 := HE.out.lt (b := w2.heap.size) (v := .slice a7 m7 c7) (by simp)
      have hb8 := HE.out.lt (b := w2.heap.size + 1) (v := .slice a8 m8 c8) (by simp)
      have hsz := HE.out.below.size
      have HA' : Hid (([P1, W.heap.size, w2.heap.size, w2.heap.size + 1] : List Nat).Nodup ∧ ∀ b ∈ ([P1, W.heap.size, w2.heap.size, w2.heap.size + 1] : List Nat), w.heap.size ≤ b) := hide (by have := HA.out; simp at this ⊢; omega)
      clear hb7 hb8 hsz hl1
      try clear HE
      try clear HA
      generalize W.alloc (.cells #[.slice none 0 0] 25) = W' at HE' ⊢
      generalize W.heap.size = P2 at HE' HA' ⊢
      revert HE'; revert HA'; revert HM2; revert HM1; revert HM0; revert W'; revert M2; revert q2; revert r2; revert M1; revert q1; revert r1; revert M0; revert q0; revert r0; revert P2; revert P1
      exact k3_12.out
    refine AllReadyH.cons (o := { dst := some 12, op := Op.alloc 25, type := 0, pos := "law.go:23", after := #[], guard := none }) rfl (fun K hK => ?_) ?_
    · go_simp
      have HE' : Hid (Env w [(P1, .slice none 0 0), (W.heap.size, .slice none 0 0), (w2.heap.size, .slice a7 m7 c7), (w2.heap.size + 1, .slice a8 m8 c8)] [(r0, q0, U0), (r1, q1, U1), (r2, q2, U2), (a8, c8, s1), (a7, c7, s0)] [(a0, c0, l0), (a1, c1, l1)] (W.alloc (.cells #[.slice none 0 0] 25))) := hide ((HE.out.box (.slice none 0 0) 25 rfl).sub (by simp) (by simp) (by simp))
      refine hK.out _ _ ⟨HE'.out.cell (b := w2.heap.size) (v := .slice a7 m7 c7) (by simp), HE'.out.cell (b := w2.heap.size + 1) (v := .slice a8 m8 c8) (by simp)⟩ (fun hS' => ?_)
      clear hS'
      refine wpAnyH_listed (listed := #[true, true, true, true, true, true, true, true, true, true, true, false, false, true, false, true, false, false, false, false]) (by kernel_rfl) ?_
      have hl1 := HE.out.lt (b := P1) (v := .slice none 0 0) (by simp)
      have hb7 := HE.out.lt (b := w2.heap.size) (v := .slice a7 m7 c7) (by simp)
      have hb8 := HE.out.lt (b := w2.heap.size + 1) (v := .slice a8 m8 c8) (by simp)
      have hsz := HE.out.below.size
      have HA' : Hid (([P1, W.heap.size, w2.heap.size, w2.heap.size + 1] : List Nat).Nodup ∧ ∀ b ∈ ([P1, W.heap.size, w2.heap.size, w2.heap.size + 1] : List Nat), w.heap.size ≤ b) := hide (by have := HA.out; simp at this ⊢; omega)
      clear hb7 hb8 hsz hl1
      try clear HE
      try clear HA
      generalize W.alloc (.cells #[.slice none 0 0] 25) = W' at HE' ⊢
      generalize W.heap.size = P3 at HE' HA' ⊢
      revert HE'; revert HA'; revert HM2; revert HM1; revert HM0; revert W'; revert M2; revert q2; revert r2; revert M1; revert q1; revert r1; revert M0; revert q0; revert r0; revert P3; revert P1
      exact k3_13.out
    exact AllReadyH.nil
  · intro k4_2 k3_02 k3_12 k3_23
    intro P2 r0 q0 M0 r1 q1 M1 r2 q2 M2 W HM0 HM1 HM2 HA HE
    refine wpAnyH_ready (rs := [11, 12, 13, 15]) (by kernel_rfl) (by simp) ?_
    refine AllReadyH.cons (o := { dst := some 37, op := Op.call { callee := Callee.value (Operand.func 13), args := #[Operand.tmp 35, Operand.tmp 36], argTypes := #[25, 22] }, type := 25, pos := "law.go:23", after := #[{ on := 9, ground := Ground.data }, { on := 10, ground := Ground.data }, { on := 8, ground := Ground.chain }], guard := none }) rfl (fun K hK => ?_) ?_
    · have CC := hide (withD (a2 := a7) (c2 := c7) (n2 := m7) (s := s0) (a := a1) (c := c1) (n := n1) (l := l1) HE (by simp) (by simp) hm7 HN1 HU3 HUL3)
      go_simp
      go_at_call 13
      (with_reducible refine (Hid.out CC).mono ?_)
      rintro e W' ⟨r3, q3, M3, rfl, HM3, -, HE0⟩
      try go_wp2_with fail
      have HE' : Hid (Env w [(P2, .slice none 0 0), (w2.heap.size, .slice a7 m7 c7), (w2.heap.size + 1, .slice a8 m8 c8)] [(r0, q0, U0), (r1, q1, U1), (r2, q2, U2), (r3, q3, U3), (a8, c8, s1), (a7, c7, s0)] [(a0, c0, l0), (a1, c1, l1)] W') := hide (HE0.out.sub (by simp) (by simp) (by simp))
      refine hK.out _ _ ⟨HE'.out.cell (b := w2.heap.size) (v := .slice a7 m7 c7) (by simp), HE'.out.cell (b := w2.heap.size + 1) (v := .slice a8 m8 c8) (by simp)⟩ (fun hS' => ?_)
      clear hS'
      refine wpAnyH_listed (listed := #[true, true, true, true, true, true, true, true, true, true, true, true, false, false, true, false, false, false, false, false]) (by kernel_rfl) ?_
      have HA' := HA
      clear CC HE0
      try clear HE
      try clear HA
      revert HE'; revert HA'; revert HM3; revert HM2; revert HM1; revert HM0; revert W'; revert M3; revert q3; revert r3; revert M2; revert q2; revert r2; revert M1; revert q1; revert r1; revert M0; revert q0; revert r0; revert P2
      exact k4_2.out
    refine AllReadyH.cons (o := { dst := some 9, op := Op.alloc 25, type := 0, pos := "law.go:23", after := #[], guard := none }) rfl (fun K hK => ?_) ?_
    · go_simp
      have HE' : Hid (Env w [(W.heap.size, .slice none 0 0), (P2, .slice none 0 0), (w2.heap.size, .slice a7 m7 c7), (w2.heap.size + 1, .slice a8 m8 c8)] [(r0, q0, U0), (r1, q1, U1), (r2, q2, U2), (a8, c8, s1), (a7, c7, s0)] [(a0, c0, l0), (a1, c1, l1)] (W.alloc (.cells #[.slice none 0 0] 25))) := hide ((HE.out.box (.slice none 0 0) 25 rfl).sub (by simp) (by simp) (by simp))
      refine hK.out _ _ ⟨HE'.out.cell (b := w2.heap.size) (v := .slice a7 m7 c7) (by simp), HE'.out.cell (b := w2.heap.size + 1) (v := .slice a8 m8 c8) (by simp)⟩ (fun hS' => ?_)
      clear hS'
      refine wpAnyH_listed (listed := #[true, true, true, true, true, true, true, true, true, true, true, false, true, false, true, false, false, false, false, false]) (by kernel_rfl) ?_
      have hl2 := HE.out.lt (b := P2) (v := .slice none 0 0) (by simp)
      have hb7 := HE.out.lt (b := w2.heap.size) (v := .slice a7 m7 c7) (by simp)
      have hb8 := HE.out.lt (b := w2.heap.size + 1) (v := .slice a8 m8 c8) (by simp)
      have hsz := HE.out.below.size
      have HA' : Hid (([W.heap.size, P2, w2.heap.size, w2.heap.size + 1] : List Nat).Nodup ∧ ∀ b ∈ ([W.heap.size, P2, w2.heap.size, w2.heap.size + 1] : List Nat), w.heap.size ≤ b) := hide (by have := HA.out; simp at this ⊢; omega)
      clear hb7 hb8 hsz hl2
      try clear HE
      try clear HA
      generalize W.alloc (.cells #[.slice none 0 0] 25) = W' at HE' ⊢
      generalize W.heap.size = P0 at HE' HA' ⊢
      revert HE'; revert HA'; revert HM2; revert HM1; revert HM0; revert W'; revert M2; revert q2; revert r2; revert M1; revert q1; revert r1; revert M0; revert q0; revert r0; revert P2; revert P0
      exact k3_02.out
    refine AllReadyH.cons (o := { dst := some 10, op := Op.alloc 25, type := 0, pos := "law.go:23", after := #[], guard := none }) rfl (fun K hK => ?_) ?_
    · go_simp
      have HE' : Hid (Env w [(W.heap.size, .slice none 0 0), (P2, .slice none 0 0), (w2.heap.size, .slice a7 m7 c7), (w2.heap.size + 1, .slice a8 m8 c8)] [(r0, q0, U0), (r1, q1, U1), (r2, q2, U2), (a8, c8, s1), (a7, c7, s0)] [(a0, c0, l0), (a1, c1, l1)] (W.alloc (.cells #[.slice none 0 0] 25))) := hide ((HE.out.box (.slice none 0 0) 25 rfl).sub (by simp) (by simp) (by simp))
      refine hK.out _ _ ⟨HE'.out.cell (b := w2.heap.size) (v := .slice a7 m7 c7) (by simp), HE'.out.cell (b := w2.heap.size + 1) (v := .slice a8 m8 c8) (by simp)⟩ (fun hS' => ?_)
      clear hS'
      refine wpAnyH_listed (listed := #[true, true, true, true, true, true, true, true, true, true, true, false, false, true, true, false, false, false, false, false]) (by kernel_rfl) ?_
      have hl2 := HE.out.lt (b := P2) (v := .slice none 0 0) (by simp)
      have hb7 := HE.out.lt (b := w2.heap.size) (v := .slice a7 m7 c7) (by simp)
      have hb8 := HE.out.lt (b := w2.heap.size + 1) (v := .slice a8 m8 c8) (by simp)
      have hsz := HE.out.below.size
      have HA' : Hid (([W.heap.size, P2, w2.heap.size, w2.heap.size + 1] : List Nat).Nodup ∧ ∀ b ∈ ([W.heap.size, P2, w2.heap.size, w2.heap.size + 1] : List Nat), w.heap.size ≤ b) := hide (by have := HA.out; simp at this ⊢; omega)
      clear hb7 hb8 hsz hl2
      try clear HE
      try clear HA
      generalize W.alloc (.cells #[.slice none 0 0] 25) = W' at HE' ⊢
      generalize W.heap.size = P1 at HE' HA' ⊢
      revert HE'; revert HA'; revert HM2; revert HM1; revert HM0; revert W'; revert M2; revert q2; revert r2; revert M1; revert q1; revert r1; revert M0; revert q0; revert r0; revert P2; revert P1
      exact k3_12.out
    refine AllReadyH.cons (o := { dst := some 12, op := Op.alloc 25, type := 0, pos := "law.go:23", after := #[], guard := none }) rfl (fun K hK => ?_) ?_
    · go_simp
      have HE' : Hid (Env w [(P2, .slice none 0 0), (W.heap.size, .slice none 0 0), (w2.heap.size, .slice a7 m7 c7), (w2.heap.size + 1, .slice a8 m8 c8)] [(r0, q0, U0), (r1, q1, U1), (r2, q2, U2), (a8, c8, s1), (a7, c7, s0)] [(a0, c0, l0), (a1, c1, l1)] (W.alloc (.cells #[.slice none 0 0] 25))) := hide ((HE.out.box (.slice none 0 0) 25 rfl).sub (by simp) (by simp) (by simp))
      refine hK.out _ _ ⟨HE'.out.cell (b := w2.heap.size) (v := .slice a7 m7 c7) (by simp), HE'.out.cell (b := w2.heap.size + 1) (v := .slice a8 m8 c8) (by simp)⟩ (fun hS' => ?_)
      clear hS'
      refine wpAnyH_listed (listed := #[true, true, true, true, true, true, true, true, true, true, true, false, false, false, true, true, false, false, false, false]) (by kernel_rfl) ?_
      have hl2 := HE.out.lt (b := P2) (v := .slice none 0 0) (by simp)
      have hb7 := HE.out.lt (b := w2.heap.size) (v := .slice a7 m7 c7) (by simp)
      have hb8 := HE.out.lt (b := w2.heap.size + 1) (v := .slice a8 m8 c8) (by simp)
      have hsz := HE.out.below.size
      have HA' : Hid (([P2, W.heap.size, w2.heap.size, w2.heap.size + 1] : List Nat).Nodup ∧ ∀ b ∈ ([P2, W.heap.size, w2.heap.size, w2.heap.size + 1] : List Nat), w.heap.size ≤ b) := hide (by have := HA.out; simp at this ⊢; omega)
      clear hb7 hb8 hsz hl2
      try clear HE
      try clear HA
      generalize W.alloc (.cells #[.slice none 0 0] 25) = W' at HE' ⊢
      generalize W.heap.size = P3 at HE' HA' ⊢
      revert HE'; revert HA'; revert HM2; revert HM1; revert HM0; revert W'; revert M2; revert q2; revert r2; revert M1; revert q1; revert r1; revert M0; revert q0; revert r0; revert P3; revert P2
      exact k3_23.out
    exact AllReadyH.nil
  · intro k4_3 k3_03 k3_13 k3_23
    intro P3 r0 q0 M0 r1 q1 M1 r2 q2 M2 W HM0 HM1 HM2 HA HE
    refine wpAnyH_ready (rs := [11, 12, 13, 14]) (by kernel_rfl) (by simp) ?_
    refine AllReadyH.cons (o := { dst := some 37, op := Op.call { callee := Callee.value (Operand.func 13), args := #[Operand.tmp 35, Operand.tmp 36], argTypes := #[25, 22] }, type := 25, pos := "law.go:23", after := #[{ on := 9, ground := Ground.data }, { on := 10, ground := Ground.data }, { on := 8, ground := Ground.chain }], guard := none }) rfl (fun K hK => ?_) ?_
    · have CC := hide (withD (a2 := a7) (c2 := c7) (n2 := m7) (s := s0) (a := a1) (c := c1) (n := n1) (l := l1) HE (by simp) (by simp) hm7 HN1 HU3 HUL3)
      go_simp
      go_at_call 13
      (with_reducible refine (Hid.out CC).mono ?_)
      rintro e W' ⟨r3, q3, M3, rfl, HM3, -, HE0⟩
      try go_wp2_with fail
      have HE' : Hid (Env w [(P3, .slice none 0 0), (w2.heap.size, .slice a7 m7 c7), (w2.heap.size + 1, .slice a8 m8 c8)] [(r0, q0, U0), (r1, q1, U1), (r2, q2, U2), (r3, q3, U3), (a8, c8, s1), (a7, c7, s0)] [(a0, c0, l0), (a1, c1, l1)] W') := hide (HE0.out.sub (by simp) (by simp) (by simp))
      refine hK.out _ _ ⟨HE'.out.cell (b := w2.heap.size) (v := .slice a7 m7 c7) (by simp), HE'.out.cell (b := w2.heap.size + 1) (v := .slice a8 m8 c8) (by simp)⟩ (fun hS' => ?_)
      clear hS'
      refine wpAnyH_listed (listed := #[true, true, true, true, true, true, true, true, true, true, true, true, false, false, false, true, false, false, false, false]) (by kernel_rfl) ?_
      have HA' := HA
      clear CC HE0
      try clear HE
      try clear HA
      revert HE'; revert HA'; revert HM3; revert HM2; revert HM1; revert HM0; revert W'; revert M3; revert q3; revert r3; revert M2; revert q2; revert r2; revert M1; revert q1; revert r1; revert M0; revert q0; revert r0; revert P3
      exact k4_3.out
    refine AllReadyH.cons (o := { dst := some 9, op := Op.alloc 25, type := 0, pos := "law.go:23", after := #[], guard := none }) rfl (fun K hK => ?_) ?_
    · go_simp
      have HE' : Hid (Env w [(W.heap.size, .slice none 0 0), (P3, .slice none 0 0), (w2.heap.size, .slice a7 m7 c7), (w2.heap.size + 1, .slice a8 m8 c8)] [(r0, q0, U0), (r1, q1, U1), (r2, q2, U2), (a8, c8, s1), (a7, c7, s0)] [(a0, c0, l0), (a1, c1, l1)] (W.alloc (.cells #[.slice none 0 0] 25))) := hide ((HE.out.box (.slice none 0 0) 25 rfl).sub (by simp) (by simp) (by simp))
      refine hK.out _ _ ⟨HE'.out.cell (b := w2.heap.size) (v := .slice a7 m7 c7) (by simp), HE'.out.cell (b := w2.heap.size + 1) (v := .slice a8 m8 c8) (by simp)⟩ (fun hS' => ?_)
      clear hS'
      refine wpAnyH_listed (listed := #[true, true, true, true, true, true, true, true, true, true, true, false, true, false, false, true, false, false, false, false]) (by kernel_rfl) ?_
      have hl3 := HE.out.lt (b := P3) (v := .slice none 0 0) (by simp)
      have hb7 := HE.out.lt (b := w2.heap.size) (v := .slice a7 m7 c7) (by simp)
      have hb8 := HE.out.lt (b := w2.heap.size + 1) (v := .slice a8 m8 c8) (by simp)
      have hsz := HE.out.below.size
      have HA' : Hid (([W.heap.size, P3, w2.heap.size, w2.heap.size + 1] : List Nat).Nodup ∧ ∀ b ∈ ([W.heap.size, P3, w2.heap.size, w2.heap.size + 1] : List Nat), w.heap.size ≤ b) := hide (by have := HA.out; simp at this ⊢; omega)
      clear hb7 hb8 hsz hl3
      try clear HE
      try clear HA
      generalize W.alloc (.cells #[.slice none 0 0] 25) = W' at HE' ⊢
      generalize W.heap.size = P0 at HE' HA' ⊢
      revert HE'; revert HA'; revert HM2; revert HM1; revert HM0; revert W'; revert M2; revert q2; revert r2; revert M1; revert q1; revert r1; revert M0; revert q0; revert r0; revert P3; revert P0
      exact k3_03.out
    refine AllReadyH.cons (o := { dst := some 10, op := Op.alloc 25, type := 0, pos := "law.go:23", after := #[], guard := none }) rfl (fun K hK => ?_) ?_
    · go_simp
      have HE' : Hid (Env w [(W.heap.size, .slice none 0 0), (P3, .slice none 0 0), (w2.heap.size, .slice a7 m7 c7), (w2.heap.size + 1, .slice a8 m8 c8)] [(r0, q0, U0), (r1, q1, U1), (r2, q2, U2), (a8, c8, s1), (a7, c7, s0)] [(a0, c0, l0), (a1, c1, l1)] (W.alloc (.cells #[.slice none 0 0] 25))) := hide ((HE.out.box (.slice none 0 0) 25 rfl).sub (by simp) (by simp) (by simp))
      refine hK.out _ _ ⟨HE'.out.cell (b := w2.heap.size) (v := .slice a7 m7 c7) (by simp), HE'.out.cell (b := w2.heap.size + 1) (v := .slice a8 m8 c8) (by simp)⟩ (fun hS' => ?_)
      clear hS'
      refine wpAnyH_listed (listed := #[true, true, true, true, true, true, true, true, true, true, true, false, false, true, false, true, false, false, false, false]) (by kernel_rfl) ?_
      have hl3 := HE.out.lt (b := P3) (v := .slice none 0 0) (by simp)
      have hb7 := HE.out.lt (b := w2.heap.size) (v := .slice a7 m7 c7) (by simp)
      have hb8 := HE.out.lt (b := w2.heap.size + 1) (v := .slice a8 m8 c8) (by simp)
      have hsz := HE.out.below.size
      have HA' : Hid (([W.heap.size, P3, w2.heap.size, w2.heap.size + 1] : List Nat).Nodup ∧ ∀ b ∈ ([W.heap.size, P3, w2.heap.size, w2.heap.size + 1] : List Nat), w.heap.size ≤ b) := hide (by have := HA.out; simp at this ⊢; omega)
      clear hb7 hb8 hsz hl3
      try clear HE
      try clear HA
      generalize W.alloc (.cells #[.slice none 0 0] 25) = W' at HE' ⊢
      generalize W.heap.size = P1 at HE' HA' ⊢
      revert HE'; revert HA'; revert HM2; revert HM1; revert HM0; revert W'; revert M2; revert q2; revert r2; revert M1; revert q1; revert r1; revert M0; revert q0; revert r0; revert P3; revert P1
      exact k3_13.out
    refine AllReadyH.cons (o := { dst := some 11, op := Op.alloc 25, type := 0, pos := "law.go:23", after := #[], guard := none }) rfl (fun K hK => ?_) ?_
    · go_simp
      have HE' : Hid (Env w [(W.heap.size, .slice none 0 0), (P3, .slice none 0 0), (w2.heap.size, .slice a7 m7 c7), (w2.heap.size + 1, .slice a8 m8 c8)] [(r0, q0, U0), (r1, q1, U1), (r2, q2, U2), (a8, c8, s1), (a7, c7, s0)] [(a0, c0, l0), (a1, c1, l1)] (W.alloc (.cells #[.slice none 0 0] 25))) := hide ((HE.out.box (.slice none 0 0) 25 rfl).sub (by simp) (by simp) (by simp))
      refine hK.out _ _ ⟨HE'.out.cell (b := w2.heap.size) (v := .slice a7 m7 c7) (by simp), HE'.out.cell (b := w2.heap.size + 1) (v := .slice a8 m8 c8) (by simp)⟩ (fun hS' => ?_)
      clear hS'
      refine wpAnyH_listed (listed := #[true, true, true, true, true, true, true, true, true, true, true, false, false, false, true, true, false, false, false, false]) (by kernel_rfl) ?_
      have hl3 := HE.out.lt (b := P3) (v := .slice none 0 0) (by simp)
      have hb7 := HE.out.lt (b := w2.heap.size) (v := .slice a7 m7 c7) (by simp)
      have hb8 := HE.out.lt (b := w2.heap.size + 1) (v := .slice a8 m8 c8) (by simp)
      have hsz := HE.out.below.size
      have HA' : Hid (([W.heap.size, P3, w2.heap.size, w2.heap.size + 1] : List Nat).Nodup ∧ ∀ b ∈ ([W.heap.size, P3, w2.heap.size, w2.heap.size + 1] : List Nat), w.heap.size ≤ b) := hide (by have := HA.out; simp at this ⊢; omega)
      clear hb7 hb8 hsz hl3
      try clear HE
      try clear HA
      generalize W.alloc (.cells #[.slice none 0 0] 25) = W' at HE' ⊢
      generalize W.heap.size = P2 at HE' HA' ⊢
      revert HE'; revert HA'; revert HM2; revert HM1; revert HM0; revert W'; revert M2; revert q2; revert r2; revert M1; revert q1; revert r1; revert M0; revert q0; revert r0; revert P3; revert P2
      exact k3_23.out
    exact AllReadyH.nil
  · intro k4_0 k4_1 k4_2 k4_3
    intro r0 q0 M0 r1 q1 M1 r2 q2 M2 r3 q3 M3 W HM0 HM1 HM2 HM3 HA HE
    refine wpAnyH_ready (rs := [12, 13, 14, 15]) (by kernel_rfl) (by simp) ?_
    refine AllReadyH.cons (o := { dst := some 9, op := Op.alloc 25, type := 0, pos := "law.go:23", after := #[], guard := none }) rfl (fun K hK => ?_) ?_
    · go_simp
      have HE' : Hid (Env w [(W.heap.size, .slice none 0 0), (w2.heap.size, .slice a7 m7 c7), (w2.heap.size + 1, .slice a8 m8 c8)] [(r0, q0, U0), (r1, q1, U1), (r2, q2, U2), (r3, q3, U3), (a8, c8, s1), (a7, c7, s0)] [(a0, c0, l0), (a1, c1, l1)] (W.alloc (.cells #[.slice none 0 0] 25))) := hide ((HE.out.box (.slice none 0 0) 25 rfl).sub (by simp) (by simp) (by simp))
      refine hK.out _ _ ⟨HE'.out.cell (b := w2.heap.size) (v := .slice a7 m7 c7) (by simp), HE'.out.cell (b := w2.heap.size + 1) (v := .slice a8 m8 c8) (by simp)⟩ (fun hS' => ?_)
      clear hS'
      refine wpAnyH_listed (listed := #[true, true, true, true, true, true, true, true, true, true, true, true, true, false, false, false, false, false, false, false]) (by kernel_rfl) ?_
      have hb7 := HE.out.lt (b := w2.heap.size) (v := .slice a7 m7 c7) (by simp)
      have hb8 := HE.out.lt (b := w2.heap.size + 1) (v := .slice a8 m8 c8) (by simp)
      have hsz := HE.out.below.size
      have HA' : Hid (([W.heap.size, w2.heap.size, w2.heap.size + 1] : List Nat).Nodup ∧ ∀ b ∈ ([W.heap.size, w2.heap.size, w2.heap.size + 1] : List Nat), w.heap.size ≤ b) := hide (by have := HA.out; simp at this ⊢; omega)
      clear hb7 hb8 hsz
      try clear HE
      try clear HA
      generalize W.alloc (.cells #[.slice none 0 0] 25) = W' at HE' ⊢
      generalize W.heap.size = P0 at HE' HA' ⊢
      revert HE'; revert HA'; revert HM3; revert HM2; revert HM1; revert HM0; revert W'; revert M3; revert q3; revert r3; revert M2; revert q2; revert r2; revert M1; revert q1; revert r1; revert M0; revert q0; revert r0; revert P0
      exact k4_0.out
    refine AllReadyH.cons (o := { dst := some 10, op := Op.alloc 25, type := 0, pos := "law.go:23", after := #[], guard := none }) rfl (fun K hK => ?_) ?_
    · go_simp
      have HE' : Hid (Env w [(W.heap.size, .slice none 0 0), (w2.heap.size, .slice a7 m7 c7), (w2.heap.size + 1, .slice a8 m8 c8)] [(r0, q0, U0), (r1, q1, U1), (r2, q2, U2), (r3, q3, U3), (a8, c8, s1), (a7, c7, s0)] [(a0, c0, l0), (a1, c1, l1)] (W.alloc (.cells #[.slice none 0 0] 25))) := hide ((HE.out.box (.slice none 0 0) 25 rfl).sub (by simp) (by simp) (by simp))
      refine hK.out _ _ ⟨HE'.out.cell (b := w2.heap.size) (v := .slice a7 m7 c7) (by simp), HE'.out.cell (b := w2.heap.size + 1) (v := .slice a8 m8 c8) (by simp)⟩ (fun hS' => ?_)
      clear hS'
      refine wpAnyH_listed (listed := #[true, true, true, true, true, true, true, true, true, true, true, true, false, true, false, false, false, false, false, false]) (by kernel_rfl) ?_
      have hb7 := HE.out.lt (b := w2.heap.size) (v := .slice a7 m7 c7) (by simp)
      have hb8 := HE.out.lt (b := w2.heap.size + 1) (v := .slice a8 m8 c8) (by simp)
      have hsz := HE.out.below.size
      have HA' : Hid (([W.heap.size, w2.heap.size, w2.heap.size + 1] : List Nat).Nodup ∧ ∀ b ∈ ([W.heap.size, w2.heap.size, w2.heap.size + 1] : List Nat), w.heap.size ≤ b) := hide (by have := HA.out; simp at this ⊢; omega)
      clear hb7 hb8 hsz
      try clear HE
      try clear HA
      generalize W.alloc (.cells #[.slice none 0 0] 25) = W' at HE' ⊢
      generalize W.heap.size = P1 at HE' HA' ⊢
      revert HE'; revert HA'; revert HM3; revert HM2; revert HM1; revert HM0; revert W'; revert M3; revert q3; revert r3; revert M2; revert q2; revert r2; revert M1; revert q1; revert r1; revert M0; revert q0; revert r0; revert P1
      exact k4_1.out
    refine AllReadyH.cons (o := { dst := some 11, op := Op.alloc 25, type := 0, pos := "law.go:23", after := #[], guard := none }) rfl (fun K hK => ?_) ?_
    · go_simp
      have HE' : Hid (Env w [(W.heap.size, .slice none 0 0), (w2.heap.size, .slice a7 m7 c7), (w2.heap.size + 1, .slice a8 m8 c8)] [(r0, q0, U0), (r1, q1, U1), (r2, q2, U2), (r3, q3, U3), (a8, c8, s1), (a7, c7, s0)] [(a0, c0, l0), (a1, c1, l1)] (W.alloc (.cells #[.slice none 0 0] 25))) := hide ((HE.out.box (.slice none 0 0) 25 rfl).sub (by simp) (by simp) (by simp))
      refine hK.out _ _ ⟨HE'.out.cell (b := w2.heap.size) (v := .slice a7 m7 c7) (by simp), HE'.out.cell (b := w2.heap.size + 1) (v := .slice a8 m8 c8) (by simp)⟩ (fun hS' => ?_)
      clear hS'
      refine wpAnyH_listed (listed := #[true, true, true, true, true, true, true, true, true, true, true, true, false, false, true, false, false, false, false, false]) (by kernel_rfl) ?_
      have hb7 := HE.out.lt (b := w2.heap.size) (v := .slice a7 m7 c7) (by simp)
      have hb8 := HE.out.lt (b := w2.heap.size + 1) (v := .slice a8 m8 c8) (by simp)
      have hsz := HE.out.below.size
      have HA' : Hid (([W.heap.size, w2.heap.size, w2.heap.size + 1] : List Nat).Nodup ∧ ∀ b ∈ ([W.heap.size, w2.heap.size, w2.heap.size + 1] : List Nat), w.heap.size ≤ b) := hide (by have := HA.out; simp at this ⊢; omega)
      clear hb7 hb8 hsz
      try clear HE
      try clear HA
      generalize W.alloc (.cells #[.slice none 0 0] 25) = W' at HE' ⊢
      generalize W.heap.size = P2 at HE' HA' ⊢
      revert HE'; revert HA'; revert HM3; revert HM2; revert HM1; revert HM0; revert W'; revert M3; revert q3; revert r3; revert M2; revert q2; revert r2; revert M1; revert q1; revert r1; revert M0; revert q0; revert r0; revert P2
      exact k4_2.out
    refine AllReadyH.cons (o := { dst := some 12, op := Op.alloc 25, type := 0, pos := "law.go:23", after := #[], guard := none }) rfl (fun K hK => ?_) ?_
    · go_simp
      have HE' : Hid (Env w [(W.heap.size, .slice none 0 0), (w2.heap.size, .slice a7 m7 c7), (w2.heap.size + 1, .slice a8 m8 c8)] [(r0, q0, U0), (r1, q1, U1), (r2, q2, U2), (r3, q3, U3), (a8, c8, s1), (a7, c7, s0)] [(a0, c0, l0), (a1, c1, l1)] (W.alloc (.cells #[.slice none 0 0] 25))) := hide ((HE.out.box (.slice none 0 0) 25 rfl).sub (by simp) (by simp) (by simp))
      refine hK.out _ _ ⟨HE'.out.cell (b := w2.heap.size) (v := .slice a7 m7 c7) (by simp), HE'.out.cell (b := w2.heap.size + 1) (v := .slice a8 m8 c8) (by simp)⟩ (fun hS' => ?_)
      clear hS'
      refine wpAnyH_listed (listed := #[true, true, true, true, true, true, true, true, true, true, true, true, false, false, false, true, false, false, false, false]) (by kernel_rfl) ?_
      have hb7 := HE.out.lt (b := w2.heap.size) (v := .slice a7 m7 c7) (by simp)
      have hb8 := HE.out.lt (b := w2.heap.size + 1) (v := .slice a8 m8 c8) (by simp)
      have hsz := HE.out.below.size
      have HA' : Hid (([W.heap.size, w2.heap.size, w2.heap.size + 1] : List Nat).Nodup ∧ ∀ b ∈ ([W.heap.size, w2.heap.size, w2.heap.size + 1] : List Nat), w.heap.size ≤ b) := hide (by have := HA.out; simp at this ⊢; omega)
      clear hb7 hb8 hsz
      try clear HE
      try clear HA
      generalize W.alloc (.cells #[.slice none 0 0] 25) = W' at HE' ⊢
      generalize W.heap.size = P3 at HE' HA' ⊢
      revert HE'; revert HA'; revert HM3; revert HM2; revert HM1; revert HM0; revert W'; revert M3; revert q3; revert r3; revert M2; revert q2; revert r2; revert M1; revert q1; revert r1; revert M0; revert q0; revert r0; revert P3
      exact k4_3.out
    exact AllReadyH.nil
  · intro k2_0123
    intro P0 P1 P2 P3 r0 q0 M0 W HM0 HA HE
    refine wpAnyH_ready (rs := [5]) (by kernel_rfl) (by simp) ?_
    refine AllReadyH.cons (o := { dst := some 31, op := Op.call { callee := Callee.value (Operand.func 11), args := #[Operand.tmp 29, Operand.tmp 30], argTypes := #[25, 25] }, type := 25, pos := "law.go:23", after := #[{ on := 3, ground := Ground.data }, { on := 4, ground := Ground.data }, { on := 2, ground := Ground.chain }], guard := none }) rfl (fun K hK => ?_) ?_
    · have CC := hide (andD (a := a7) (c := c7) (n := m7) (s := s0) (a2 := a8) (c2 := c8) (n2 := m8) (t := s1) HE (by simp) (by simp) hm7 hm8 HU1)
      go_simp
      go_at_call 11
      (with_reducible refine (Hid.out CC).mono ?_)
      rintro e W' ⟨r1, q1, M1, rfl, HM1, -, HE0⟩
      try go_wp2_with fail
      have HE' : Hid (Env w [(P0, .slice none 0 0), (P1, .slice none 0 0), (P2, .slice none 0 0), (P3, .slice none 0 0), (w2.heap.size, .slice a7 m7 c7), (w2.heap.size + 1, .slice a8 m8 c8)] [(r0, q0, U0), (r1, q1, U1), (a8, c8, s1), (a7, c7, s0)] [(a0, c0, l0), (a1, c1, l1)] W') := hide (HE0.out.sub (by simp) (by simp) (by simp))
      refine hK.out _ _ ⟨HE'.out.cell (b := w2.heap.size) (v := .slice a7 m7 c7) (by simp), HE'.out.cell (b := w2.heap.size + 1) (v := .slice a8 m8 c8) (by simp)⟩ (fun hS' => ?_)
      clear hS'
      refine wpAnyH_listed (listed := #[true, true, true, true, true, true, true, true, false, true, true, false, true, true, true, true, false, false, false, false]) (by kernel_rfl) ?_
      have HA' := HA
      clear CC HE0
      try clear HE
      try clear HA
      revert HE'; revert HA'; revert HM1; revert HM0; revert W'; revert M1; revert q1; revert r1; revert M0; revert q0; revert r0; revert P3; revert P2; revert P1; revert P0
      exact k2_0123.out
    exact AllReadyH.nil
  · intro k3_012 k2_0123
    intro P0 P1 P2 r0 q0 M0 r1 q1 M1 W HM0 HM1 HA HE
    refine wpAnyH_ready (rs := [8, 15]) (by kernel_rfl) (by simp) ?_
    refine AllReadyH.cons (o := { dst := some 34, op := Op.call { callee := Callee.value (Operand.func 12), args := #[Operand.tmp 32, Operand.tmp 33], argTypes := #[25, 25] }, type := 25, pos := "law.go:23", after := #[{ on := 6, ground := Ground.data }, { on := 7, ground := Ground.data }, { on := 5, ground := Ground.chain }], guard := none }) rfl (fun K hK => ?_) ?_
    · have CC := hide (minusD (a := a7) (c := c7) (n := m7) (s := s0) (a2 := a8) (c2 := c8) (n2 := m8) (t := s1) HE (by simp) (by simp) hm7 hm8 HU2)
      go_simp
      go_at_call 12
      (with_reducible refine (Hid.out CC).mono ?_)
      rintro e W' ⟨r2, q2, M2, rfl, HM2, -, HE0⟩
      try go_wp2_with fail
      have HE' : Hid (Env w [(P0, .slice none 0 0), (P1, .slice none 0 0), (P2, .slice none 0 0), (w2.heap.size, .slice a7 m7 c7), (w2.heap.size + 1, .slice a8 m8 c8)] [(r0, q0, U0), (r1, q1, U1), (r2, q2, U2), (a8, c8, s1), (a7, c7, s0)] [(a0, c0, l0), (a1, c1, l1)] W') := hide (HE0.out.sub (by simp) (by simp) (by simp))
      refine hK.out _ _ ⟨HE'.out.cell (b := w2.heap.size) (v := .slice a7 m7 c7) (by simp), HE'.out.cell (b := w2.heap.size + 1) (v := .slice a8 m8 c8) (by simp)⟩ (fun hS' => ?_)
      clear hS'
      refine wpAnyH_listed (listed := #[true, true, true, true, true, true, true, true, true, true, true, false, true, true, true, false, false, false, false, false]) (by kernel_rfl) ?_
      have HA' := HA
      clear CC HE0
      try clear HE
      try clear HA
      revert HE'; revert HA'; revert HM2; revert HM1; revert HM0; revert W'; revert M2; revert q2; revert r2; revert M1; revert q1; revert r1; revert M0; revert q0; revert r0; revert P2; revert P1; revert P0
      exact k3_012.out
    refine AllReadyH.cons (o := { dst := some 12, op := Op.alloc 25, type := 0, pos := "law.go:23", after := #[], guard := none }) rfl (fun K hK => ?_) ?_
    · go_simp
      have HE' : Hid (Env w [(P0, .slice none 0 0), (P1, .slice none 0 0), (P2, .slice none 0 0), (W.heap.size, .slice none 0 0), (w2.heap.size, .slice a7 m7 c7), (w2.heap.size + 1, .slice a8 m8 c8)] [(r0, q0, U0), (r1, q1, U1), (a8, c8, s1), (a7, c7, s0)] [(a0, c0, l0), (a1, c1, l1)] (W.alloc (.cells #[.slice none 0 0] 25))) := hide ((HE.out.box (.slice none 0 0) 25 rfl).sub (by simp) (by simp) (by simp))
      refine hK.out _ _ ⟨HE'.out.cell (b := w2.heap.size) (v := .slice a7 m7 c7) (by simp), HE'.out.cell (b := w2.heap.size + 1) (v := .slice a8 m8 c8) (by simp)⟩ (fun hS' => ?_)
      clear hS'
      refine wpAnyH_listed (listed := #[true, true, true, true, true, true, true, true, false, true, true, false, true, true, true, true, false, false, false, false]) (by kernel_rfl) ?_
      have hl0 := HE.out.lt (b := P0) (v := .slice none 0 0) (by simp)
      have hl1 := HE.out.lt (b := P1) (v := .slice none 0 0) (by simp)
      have hl2 := HE.out.lt (b := P2) (v := .slice none 0 0) (by simp)
      have hb7 := HE.out.lt (b := w2.heap.size) (v := .slice a7 m7 c7) (by simp)
      have hb8 := HE.out.lt (b := w2.heap.size + 1) (v := .slice a8 m8 c8) (by simp)
      have hsz := HE.out.below.size
      have HA' : Hid (([P0, P1, P2, W.heap.size, w2.heap.size, w2.heap.size + 1] : List Nat).Nodup ∧ ∀ b ∈ ([P0, P1, P2, W.heap.size, w2.heap.size, w2.heap.size + 1] : List Nat), w.heap.size ≤ b) := hide (by have := HA.out; simp at this ⊢; omega)
      clear hb7 hb8 hsz hl0 hl1 hl2
      try clear HE
      try clear HA
      generalize W.alloc (.cells #[.slice none 0 0] 25) = W' at HE' ⊢
      generalize W.heap.size = P3 at HE' HA' ⊢
      revert HE'; revert HA'; revert HM1; revert HM0; revert W'; revert M1; revert q1; revert r1; revert M0; revert q0; revert r0; revert P3; revert P2; revert P1; revert P0
      exact k2_0123.out
    exact AllReadyH.nil
  · intro k3_013 k2_0123
    intro P0 P1 P3 r0 q0 M0 r1 q1 M1 W HM0 HM1 HA HE
    refine wpAnyH_ready (rs := [8, 14]) (by kernel_rfl) (by simp) ?_
    refine AllReadyH.cons (o := { dst := some 34, op := Op.call { callee := Callee.value (Operand.func 12), args := #[Operand.tmp 32, Operand.tmp 33], argTypes := #[25, 25] }, type := 25, pos := "law.go:23", after := #[{ on := 6, ground := Ground.data }, { on := 7, ground := Ground.data }, { on := 5, ground := Ground.chain }], guard := none }) rfl (fun K hK => ?_) ?_
    · have CC := hide (minusD (a := a7) (c := c7) (n := m7) (s := s0) (a2 := a8) (c2 := c8) (n2 := m8) (t := s1) HE (by simp) (by simp) hm7 hm8 HU2)
      go_simp
      go_at_call 12
      (with_reducible refine (Hid.out CC).mono ?_)
      rintro e W' ⟨r2, q2, M2, rfl, HM2, -, HE0⟩
      try go_wp2_with fail
      have HE' : Hid (Env w [(P0, .slice none 0 0), (P1, .slice none 0 0), (P3, .slice none 0 0), (w2.heap.size, .slice a7 m7 c7), (w2.heap.size + 1, .slice a8 m8 c8)] [(r0, q0, U0), (r1, q1, U1), (r2, q2, U2), (a8, c8, s1), (a7, c7, s0)] [(a0, c0, l0), (a1, c1, l1)] W') := hide (HE0.out.sub (by simp) (by simp) (by simp))
      refine hK.out _ _ ⟨HE'.out.cell (b := w2.heap.size) (v := .slice a7 m7 c7) (by simp), HE'.out.cell (b := w2.heap.size + 1) (v := .slice a8 m8 c8) (by simp)⟩ (fun hS' => ?_)
      clear hS'
      refine wpAnyH_listed (listed := #[true, true, true, true, true, true, true, true, true, true, true, false, true, true, false, true, false, false, false, false]) (by kernel_rfl) ?_
      have HA' := HA
      clear CC HE0
      try clear HE
      try clear HA
      revert HE'; revert HA'; revert HM2; revert HM1; revert HM0; revert W'; revert M2; revert q2; revert r2; revert M1; revert q1; revert r1; revert M0; revert q0; revert r0; revert P3; revert P1; revert P0
      exact k3_013.out
    refine AllReadyH.cons (o := { dst := some 11, op := Op.alloc 25, type := 0, pos := "law.go:23", after := #[], guard := none }) rfl (fun K hK => ?_) ?_
    · go_simp
      have HE' : Hid (Env w [(P0, .slice none 0 0), (P1, .slice none 0 0), (W.heap.size, .slice none 0 0), (P3, .slice none 0 0), (w2.heap.size, .slice a7 m7 c7), (w2.heap.size + 1, .slice a8 m8 c8)] [(r0, q0, U0), (r1, q1, U1), (a8, c8, s1), (a7, c7, s0)] [(a0, c0, l0), (a1, c1, l1)] (W.alloc (.cells #[.slice none 0 0] 25))) := hide ((HE.out.box (.slice none 0 0) 25 rfl).sub (by simp) (by simp) (by simp))
      refine hK.out _ _ ⟨HE'.out.cell (b := w2.heap.size) (v := .slice a7 m7 c7) (by simp), HE'.out.cell (b := w2.heap.size + 1) (v := .slice a8 m8 c8) (by simp)⟩ (fun hS' => ?_)
      clear hS'
      refine wpAnyH_listed (listed := #[true, true, true, true, true, true, true, true, false, true, true, false, true, true, true, true, false, false, false, false]) (by kernel_rfl) ?_
      have hl0 := HE.out.lt (b := P0) (v := .slice none 0 0) (by simp)
      have hl1 := HE.out.lt (b := P1) (v := .slice none 0 0) (by simp)
      have hl3 := HE.out.lt (b := P3) (v := .slice none 0 0) (by simp)
      have hb7 := HE.out.lt (b := w2.heap.size) (v := .slice a7 m7 c7) (by simp)
      have hb8 := HE.out.lt (b := w2.heap.size + 1) (v := .slice a8 m8 c8) (by simp)
      have hsz := HE.out.below.size
      have HA' : Hid (([P0, P1, W.heap.size, P3, w2.heap.size, w2.heap.size + 1] : List Nat).Nodup ∧ ∀ b ∈ ([P0, P1, W.heap.size, P3, w2.heap.size, w2.heap.size + 1] : List Nat), w.heap.size ≤ b) := hide (by have := HA.out; simp at this ⊢; omega)
      clear hb7 hb8 hsz hl0 hl1 hl3
      try clear HE
      try clear HA
      generalize W.alloc (.cells #[.slice none 0 0] 25) = W' at HE' ⊢
      generalize W.heap.size = P2 at HE' HA' ⊢
      revert HE'; revert HA'; revert HM1; revert HM0; revert W'; revert M1; revert q1; revert r1; revert M0; revert q0; revert r0; revert P3; revert P2; revert P1; revert P0
      exact k2_0123.out
    exact AllReadyH.nil
  · intro k3_023 k2_0123
    intro P0 P2 P3 r0 q0 M0 r1 q1 M1 W HM0 HM1 HA HE
    refine wpAnyH_ready (rs := [8, 13]) (by kernel_rfl) (by simp) ?_
    refine AllReadyH.cons (o := { dst := some 34, op := Op.call { callee := Callee.value (Operand.func 12), args := #[Operand.tmp 32, Operand.tmp 33], argTypes := #[25, 25] }, type := 25, pos := "law.go:23", after := #[{ on := 6, ground := Ground.data }, { on := 7, ground := Ground.data }, { on := 5, ground := Ground.chain }], guard := none }) rfl (fun K hK => ?_) ?_
    · have CC := hide (minusD (a := a7) (c := c7) (n := m7) (s := s0) (a2 := a8) (c2 := c8) (n2 := m8) (t := s1) HE (by simp) (by simp) hm7 hm8 HU2)
      go_simp
      go_at_call 12
      (with_reducible refine (Hid.out CC).mono ?_)
      rintro e W' ⟨r2, q2, M2, rfl, HM2, -, HE0⟩
      try go_wp2_with fail
      have HE' : Hid (Env w [(P0, .slice none 0 0), (P2, .slice none 0 0), (P3, .slice none 0 0), (w2.heap.size, .slice a7 m7 c7), (w2.heap.size + 1, .slice a8 m8 c8)] [(r0, q0, U0), (r1, q1, U1), (r2, q2, U2), (a8, c8, s1), (a7, c7, s0)] [(a0, c0, l0), (a1, c1, l1)] W') := hide (HE0.out.sub (by simp) (by simp) (by simp))
      refine hK.out _ _ ⟨HE'.out.cell (b := w2.heap.size) (v := .slice a7 m7 c7) (by simp), HE'.out.cell (b := w2.heap.size + 1) (v := .slice a8 m8 c8) (by simp)⟩ (fun hS' => ?_)
      clear hS'
      refine wpAnyH_listed (listed := #[true, true, true, true, true, true, true, true, true, true, true, false, true, false, true, true, false, false, false, false]) (by kernel_rfl) ?_
      have HA' := HA
      clear CC HE0
      try clear HE
      try clear HA
      revert HE'; revert HA'; revert HM2; revert HM1; revert HM0; revert W'; revert M2; revert q2; revert r2; revert M1; revert q1; revert r1; revert M0; revert q0; revert r0; revert P3; revert P2; revert P0
      exact k3_023.out
    refine AllReadyH.cons (o := { dst := some 10, op := Op.alloc 25, type := 0, pos := "law.go:23", after := #[], guard := none }) rfl (fun K hK => ?_) ?_
    · go_simp
      have HE' : Hid (Env w [(P0, .slice none 0 0), (W.heap.size, .slice none 0 0), (P2, .slice none 0 0), (P3, .slice none 0 0), (w2.heap.size, .slice a7 m7 c7), (w2.heap.size + 1, .slice a8 m8 c8)] [(r0, q0, U0), (r1, q1, U1), (a8, c8, s1), (a7, c7, s0)] [(a0, c0, l0), (a1, c1, l1)] (W.alloc (.cells #[.slice none 0 0] 25))) := hide ((HE.out.box (.slice none 0 0) 25 rfl).sub (by simp) (by simp) (by simp))
      refine hK.out _ _ ⟨HE'.out.cell (b := w2.heap.size) (v := .slice a7 m7 c7) (by simp), HE'.out.cell (b := w2.heap.size + 1) (v := .slice a8 m8 c8) (by simp)⟩ (fun hS' => ?_)
      clear hS'
      refine wpAnyH_listed (listed := #[true, true, true, true, true, true, true, true, false, true, true, false, true, true, true, true, false, false, false, false]) (by kernel_rfl) ?_
      have hl0 := HE.out.lt (b := P0) (v := .slice none 0 0) (by simp)
      have hl2 := HE.out.lt (b := P2) (v := .slice none 0 0) (by simp)
      have hl3 := HE.out.lt (b := P3) (v := .slice none 0 0) (by simp)
      have hb7 := HE.out.lt (b := w2.heap.size) (v := .slice a7 m7 c7) (by simp)
      have hb8 := HE.out.lt (b := w2.heap.size + 1) (v := .slice a8 m8 c8) (by simp)
      have hsz := HE.out.below.size
      have HA' : Hid (([P0, W.heap.size, P2, P3, w2.heap.size, w2.heap.size + 1] : List Nat).Nodup ∧ ∀ b ∈ ([P0, W.heap.size, P2, P3, w2.heap.size, w2.heap.size + 1] : List Nat), w.heap.size ≤ b) := hide (by have := HA.out; simp at this ⊢; omega)
      clear hb7 hb8 hsz hl0 hl2 hl3
      try clear HE
      try clear HA
      generalize W.alloc (.cells #[.slice none 0 0] 25) = W' at HE' ⊢
      generalize W.heap.size = P1 at HE' HA' ⊢
      revert HE'; revert HA'; revert HM1; revert HM0; revert W'; revert M1; revert q1; revert r1; revert M0; revert q0; revert r0; revert P3; revert P2; revert P1; revert P0
      exact k2_0123.out
    exact AllReadyH.nil
  · intro k3_123 k2_0123
    intro P1 P2 P3 r0 q0 M0 r1 q1 M1 W HM0 HM1 HA HE
    refine wpAnyH_ready (rs := [8, 12]) (by kernel_rfl) (by simp) ?_
    refine AllReadyH.cons (o := { dst := some 34, op := Op.call { callee := Callee.value (Operand.func 12), args := #[Operand.tmp 32, Operand.tmp 33], argTypes := #[25, 25] }, type := 25, pos := "law.go:23", after := #[{ on := 6, ground := Ground.data }, { on := 7, ground := Ground.data }, { on := 5, ground := Ground.chain }], guard := none }) rfl (fun K hK => ?_) ?_
    · have CC := hide (minusD (a := a7) (c := c7) (n := m7) (s := s0) (a2 := a8) (c2 := c8) (n2 := m8) (t := s1) HE (by simp) (by simp) hm7 hm8 HU2)
      go_simp
      go_at_call 12
      (with_reducible refine (Hid.out CC).mono ?_)
      rintro e W' ⟨r2, q2, M2, rfl, HM2, -, HE0⟩
      try go_wp2_with fail
      have HE' : Hid (Env w [(P1, .slice none 0 0), (P2, .slice none 0 0), (P3, .slice none 0 0), (w2.heap.size, .slice a7 m7 c7), (w2.heap.size + 1, .slice a8 m8 c8)] [(r0, q0, U0), (r1, q1, U1), (r2, q2, U2), (a8, c8, s1), (a7, c7, s0)] [(a0, c0, l0), (a1, c1, l1)] W') := hide (HE0.out.sub (by simp) (by simp) (by simp))
      refine hK.out _ _ ⟨HE'.out.cell (b := w2.heap.size) (v := .slice a7 m7 c7) (by simp), HE'.out.cell (b := w2.heap.size + 1) (v := .slice a8 m8 c8) (by simp)⟩ (fun hS' => ?_)
      clear hS'
      refine wpAnyH_listed (listed := #[true, true, true, true, true, true, true, true, true, true, true, false, false, true, true, true, false, false, false, false]) (by kernel_rfl) ?_
      have HA' := HA
      clear CC HE0
      try clear HE
      try clear HA
      revert HE'; revert HA'; revert HM2; revert HM1; revert HM0; revert W'; revert M2; revert q2; revert r2; revert M1; revert q1; revert r1; revert M0; revert q0; revert r0; revert P3; revert P2; revert P1
      exact k3_123.out
    refine AllReadyH.cons (o := { dst := some 9, op := Op.alloc 25, type := 0, pos := "law.go:23", after := #[], guard := none }) rfl (fun K hK => ?_) ?_
    · go_simp
      have HE' : Hid (Env w [(W.heap.size, .slice none 0 0), (P1, .slice none 0 0), (P2, .slice none 0 0), (P3, .slice none 0 0), (w2.heap.size, .slice a7 m7 c7), (w2.heap.size + 1, .slice a8 m8 c8)] [(r0, q0, U0), (r1, q1, U1), (a8, c8, s1), (a7, c7, s0)] [(a0, c0, l0), (a1, c1, l1)] (W.alloc (.cells #[.slice none 0 0] 25))) := hide ((HE.out.box (.slice none 0 0) 25 rfl).sub (by simp) (by simp) (by simp))
      refine hK.out _ _ ⟨HE'.out.cell (b := w2.heap.size) (v := .slice a7 m7 c7) (by simp), HE'.out.cell (b := w2.heap.size + 1) (v := .slice a8 m8 c8) (by simp)⟩ (fun hS' => ?_)
      clear hS'
      refine wpAnyH_listed (listed := #[true, true, true, true, true, true, true, true, false, true, true, false, true, true, true, true, false, false, false, false]) (by kernel_rfl) ?_
      have hl1 := HE.out.lt (b := P1) (v := .slice none 0 0) (by simp)
      have hl2 := HE.out.lt (b := P2) (v := .slice none 0 0) (by simp)
      have hl3 := HE.out.lt (b := P3) (v := .slice none 0 0) (by simp)
      have hb7 := HE.out.lt (b := w2.heap.size) (v := .slice a7 m7 c7) (by simp)
      have hb8 := HE.out.lt (b := w2.heap.size + 1) (v := .slice a8 m8 c8) (by simp)
      have hsz := HE.out.below.size
      have HA' : Hid (([W.heap.size, P1, P2, P3, w2.heap.size, w2.heap.size + 1] : List Nat).Nodup ∧ ∀ b ∈ ([W.heap.size, P1, P2, P3, w2.heap.size, w2.heap.size + 1] : List Nat), w.heap.size ≤ b) := hide (by have := HA.out; simp at this ⊢; omega)
      clear hb7 hb8 hsz hl1 hl2 hl3
      try clear HE
      try clear HA
      generalize W.alloc (.cells #[.slice none 0 0] 25) = W' at HE' ⊢
      generalize W.heap.size = P0 at HE' HA' ⊢
      revert HE'; revert HA'; revert HM1; revert HM0; revert W'; revert M1; revert q1; revert r1; revert M0; revert q0; revert r0; revert P3; revert P2; revert P1; revert P0
      exact k2_0123.out
    exact AllReadyH.nil
  · intro k4_01 k3_012 k3_013
    intro P0 P1 r0 q0 M0 r1 q1 M1 r2 q2 M2 W HM0 HM1 HM2 HA HE
    refine wpAnyH_ready (rs := [11, 14, 15]) (by kernel_rfl) (by simp) ?_
    refine AllReadyH.cons (o := { dst := some 37, op := Op.call { callee := Callee.value (Operand.func 13), args := #[Operand.tmp 35, Operand.tmp 36], argTypes := #[25, 22] }, type := 25, pos := "law.go:23", after := #[{ on := 9, ground := Ground.data }, { on := 10, ground := Ground.data }, { on := 8, ground := Ground.chain }], guard := none }) rfl (fun K hK => ?_) ?_
    · have CC := hide (withD (a2 := a7) (c2 := c7) (n2 := m7) (s := s0) (a := a1) (c := c1) (n := n1) (l := l1) HE (by simp) (by simp) hm7 HN1 HU3 HUL3)
      go_simp
      go_at_call 13
      (with_reducible refine (Hid.out CC).mono ?_)
      rintro e W' ⟨r3, q3, M3, rfl, HM3, -, HE0⟩
      try go_wp2_with fail
      have HE' : Hid (Env w [(P0, .slice none 0 0), (P1, .slice none 0 0), (w2.heap.size, .slice a7 m7 c7), (w2.heap.size + 1, .slice a8 m8 c8)] [(r0, q0, U0), (r1, q1, U1), (r2, q2, U2), (r3, q3, U3), (a8, c8, s1), (a7, c7, s0)] [(a0, c0, l0), (a1, c1, l1)] W') := hide (HE0.out.sub (by simp) (by simp) (by simp))
      refine hK.out _ _ ⟨HE'.out.cell (b := w2.heap.size) (v := .slice a7 m7 c7) (by simp), HE'.out.cell (b := w2.heap.size + 1) (v := .slice a8 m8 c8) (by simp)⟩ (fun hS' => ?_)
      clear hS'
      refine wpAnyH_listed (listed := #[true, true, true, true, true, true, true, true, true, true, true, true, true, true, false, false, false, false, false, false]) (by kernel_rfl) ?_
      have HA' := HA
      clear CC HE0
      try clear HE
      try clear HA
      revert HE'; revert HA'; revert HM3; revert HM2; revert HM1; revert HM0; revert W'; revert M3; revert q3; revert r3; revert M2; revert q2; revert r2; revert M1; revert q1; revert r1; revert M0; revert q0; revert r0; revert P1; revert P0
      exact k4_01.out
    refine AllReadyH.cons (o := { dst := some 11, op := Op.alloc 25, type := 0, pos := "law.go:23", after := #[], guard := none }) rfl (fun K hK => ?_) ?_
    · go_simp
      have HE' : Hid (Env w [(P0, .slice none 0 0), (P1, .slice none 0 0), (W.heap.size, .slice none 0 0), (w2.heap.size, .slice a7 m7 c7), (w2.heap.size + 1, .slice a8 m8 c8)] [(r0, q0, U0), (r1, q1, U1), (r2, q2, U2), (a8, c8, s1), (a7, c7, s0)] [(a0, c0, l0), (a1, c1, l1)] (W.alloc (.cells #[.slice none 0 0] 25))) := hide ((HE.out.box (.slice none 0 0) 25 rfl).sub (by simp) (by simp) (by simp))
      refine hK.out _ _ ⟨HE'.out.cell (b := w2.heap.size) (v := .slice a7 m7 c7) (by simp), HE'.out.cell (b := w2.heap.size + 1) (v := .slice a8 m8 c8) (by simp)⟩ (fun hS' => ?_)
      clear hS'
      refine wpAnyH_listed (listed := #[true, true, true, true, true, true, true, true, true, true, true, false, true, true, true, false, false, false, false, false]) (by kernel_rfl) ?_
      have hl0 := HE.out.lt (b := P0) (v := .slice none 0 0) (by simp)
      have hl1 := HE.out.lt (b := P1) (v := .slice none 0 0) (by simp)
      have hb7 := HE.out.lt (b := w2.heap.size) (v := .slice a7 m7 c7) (by simp)
      have hb8 := HE.out.lt (b := w2.heap.size + 1) (v := .slice a8 m8 c8) (by simp)
      have hsz := HE.out.below.size
      have HA' : Hid (([P0, P1, W.heap.size, w2.heap.size, w2.heap.size + 1] : List Nat).Nodup ∧ ∀ b ∈ ([P0, P1, W.heap.size, w2.heap.size, w2.heap.size + 1] : List Nat), w.heap.size ≤ b) := hide (by have := HA.out; simp at this ⊢; omega)
      clear hb7 hb8 hsz hl0 hl1
      try clear HE
      try clear HA
      generalize W.alloc (.cells #[.slice none 0 0] 25) = W' at HE' ⊢
      generalize W.heap.size = P2 at HE' HA' ⊢
      revert HE'; revert HA'; revert HM2; revert HM1; revert HM0; revert W'; revert M2; revert q2; revert r2; revert M1; revert q1; revert r1; revert M0; revert q0; revert r0; revert P2; revert P1; revert P0
      exact k3_012.out
    refine AllReadyH.cons (o := { dst := some 12, op := Op.alloc 25, type := 0, pos := "law.go:23", after := #[], guard := none }) rfl (fun K hK => ?_) ?_
    · go_simp
      have HE' : Hid (Env w [(P0, .slice none 0 0), (P1, .slice none 0 0), (W.heap.size, .slice none 0 0), (w2.heap.size, .slice a7 m7 c7), (w2.heap.size + 1, .slice a8 m8 c8)] [(r0, q0, U0), (r1, q1, U1), (r2, q2, U2), (a8, c8, s1), (a7, c7, s0)] [(a0, c0, l0), (a1, c1, l1)] (W.alloc (.cells #[.slice none 0 0] 25))) := hide ((HE.out.box (.slice none 0 0) 25 rfl).sub (by simp) (by simp) (by simp))
      refine hK.out _ _ ⟨HE'.out.cell (b := w2.heap.size) (v := .slice a7 m7 c7) (by simp), HE'.out.cell (b := w2.heap.size + 1) (v := .slice a8 m8 c8) (by simp)⟩ (fun hS' => ?_)
      clear hS'
      refine wpAnyH_listed (listed := #[true, true, true, true, true, true, true, true, true, true, true, false, true, true, false, true, false, false, false, false]) (by kernel_rfl) ?_
      have hl0 := HE.out.lt (b := P0) (v := .slice none 0 0) (by simp)
      have hl1 := HE.out.lt (b := P1) (v := .slice none 0 0) (by simp)
      have hb7 := HE.out.lt (b := w2.heap.size) (v := .slice a7 m7 c7) (by simp)
      have hb8 := HE.out.lt (b := w2.heap.size + 1) (v := .slice a8 m8 c8) (by simp)
      have hsz := HE.out.below.size
      have HA' : Hid (([P0, P1, W.heap.size, w2.heap.size, w2.heap.size + 1] : List Nat).Nodup ∧ ∀ b ∈ ([P0, P1, W.heap.size, w2.heap.size, w2.heap.size + 1] : List Nat), w.heap.size ≤ b) := hide (by have := HA.out; simp at this ⊢; omega)
      clear hb7 hb8 hsz hl0 hl1
      try clear HE
      try clear HA
      generalize W.alloc (.cells #[.slice none 0 0] 25) = W' at HE' ⊢
      generalize W.heap.size = P3 at HE' HA' ⊢
      revert HE'; revert HA'; revert HM2; revert HM1; revert HM0; revert W'; revert M2; revert q2; revert r2; revert M1; revert q1; revert r1; revert M0; revert q0; revert r0; revert P3; revert P1; revert P0
      exact k3_013.out
    exact AllReadyH.nil
  · intro k4_02 k3_012 k3_023
    intro P0 P2 r0 q0 M0 r1 q1 M1 r2 q2 M2 W HM0 HM1 HM2 HA HE
    refine wpAnyH_ready (rs := [11, 13, 15]) (by kernel_rfl) (by simp) ?_
    refine AllReadyH.cons (o := { dst := some 37, op := Op.call { callee := Callee.value (Operand.func 13), args := #[Operand.tmp 35, Operand.tmp 36], argTypes := #[25, 22] }, type := 25, pos := "law.go:23", after := #[{ on := 9, ground := Ground.data }, { on := 10, ground := Ground.data }, { on := 8, ground := Ground.chain }], guard := none }) rfl (fun K hK => ?_) ?_
    · have CC := hide (withD (a2 := a7) (c2 := c7) (n2 := m7) (s := s0) (a := a1) (c := c1) (n := n1) (l := l1) HE (by simp) (by simp) hm7 HN1 HU3 HUL3)
      go_simp
      go_at_call 13
      (with_reducible refine (Hid.out CC).mono ?_)
      rintro e W' ⟨r3, q3, M3, rfl, HM3, -, HE0⟩
      try go_wp2_with fail
      have HE' : Hid (Env w [(P0, .slice none 0 0), (P2, .slice none 0 0), (w2.heap.size, .slice a7 m7 c7), (w2.heap.size + 1, .slice a8 m8 c8)] [(r0, q0, U0), (r1, q1, U1), (r2, q2, U2), (r3, q3, U3), (a8, c8, s1), (a7, c7, s0)] [(a0, c0, l0), (a1, c1, l1)] W') := hide (HE0.out.sub (by simp) (by simp) (by simp))
      refine hK.out _ _ ⟨HE'.out.cell (b := w2.heap.size) (v := .slice a7 m7 c7) (by simp), HE'.out.cell (b := w2.heap.size + 1) (v := .slice a8 m8 c8) (by simp)⟩ (fun hS' => ?_)
      clear hS'
      refine wpAnyH_listed (listed := #[true, true, true, true, true, true, true, true, true, true, true, true, true, false, true, false, false, false, false, false]) (by kernel_rfl) ?_
      have HA' := HA
      clear CC HE0
      try clear HE
      try clear HA
      revert HE'; revert HA'; revert HM3; revert HM2; revert HM1; revert HM0; revert W'; revert M3; revert q3; revert r3; revert M2; revert q2; revert r2; revert M1; revert q1; revert r1; revert M0; revert q0; revert r0; revert P2; revert P0
      exact k4_02.out
    refine AllReadyH.cons (o := { dst := some 10, op := Op.alloc 25, type := 0, pos := "law.go:23", after := #[], guard := none }) rfl (fun K hK => ?_) ?_
    · go_simp
      have HE' : Hid (Env w [(P0, .slice none 0 0), (W.heap.size, .slice none 0 0), (P2, .slice none 0 0), (w2.heap.size, .slice a7 m7 c7), (w2.heap.size + 1, .slice a8 m8 c8)] [(r0, q0, U0), (r1, q1, U1), (r2, q2, U2), (a8, c8, s1), (a7, c7, s0)] [(a0, c0, l0), (a1, c1, l1)] (W.alloc (.cells #[.slice none 0 0] 25))) := hide ((HE.out.box (.slice none 0 0) 25 rfl).sub (by simp) (by simp) (by simp))
      refine hK.out _ _ ⟨HE'.out.cell (b := w2.heap.size) (v := .slice a7 m7 c7) (by simp), HE'.out.cell (b := w2.heap.size + 1) (v := .slice a8 m8 c8) (by simp)⟩ (fun hS' => ?_)
      clear hS'
      refine wpAnyH_listed (listed := #[true, true, true, true, true, true, true, true, true, true, true, false, true, true, true, false, false, false, false, false]) (by kernel_rfl) ?_
      have hl0 := HE.out.lt (b := P0) (v := .slice none 0 0) (by simp)
      have hl2 := HE.out.lt (b := P2) (v := .slice none 0 0) (by simp)
      have hb7 := HE.out.lt (b := w2.heap.size) (v := .slice a7 m7 c7) (by simp)
      have hb8 := HE.out.lt (b := w2.heap.size + 1) (v := .slice a8 m8 c8) (by simp)
      have hsz := HE.out.below.size
      have HA' : Hid (([P0, W.heap.size, P2, w2.heap.size, w2.heap.size + 1] : List Nat).Nodup ∧ ∀ b ∈ ([P0, W.heap.size, P2, w2.heap.size, w2.heap.size + 1] : List Nat), w.heap.size ≤ b) := hide (by have := HA.out; simp at this ⊢; omega)
      clear hb7 hb8 hsz hl0 hl2
      try clear HE
      try clear HA
      generalize W.alloc (.cells #[.slice none 0 0] 25) = W' at HE' ⊢
      generalize W.heap.size = P1 at HE' HA' ⊢
      revert HE'; revert HA'; revert HM2; revert HM1; revert HM0; revert W'; revert M2; revert q2; revert r2; revert M1; revert q1; revert r1; revert M0; revert q0; revert r0; revert P2; revert P1; revert P0
      exact k3_012.out
    refine AllReadyH.cons (o := { dst := some 12, op := Op.alloc 25, type := 0, pos := "law.go:23", after := #[], guard := none }) rfl (fun K hK => ?_) ?_
    · go_simp
      have HE' : Hid (Env w [(P0, .slice none 0 0), (P2, .slice none 0 0), (W.heap.size, .slice none 0 0), (w2.heap.size, .slice a7 m7 c7), (w2.heap.size + 1, .slice a8 m8 c8)] [(r0, q0, U0), (r1, q1, U1), (r2, q2, U2), (a8, c8, s1), (a7, c7, s0)] [(a0, c0, l0), (a1, c1, l1)] (W.alloc (.cells #[.slice none 0 0] 25))) := hide ((HE.out.box (.slice none 0 0) 25 rfl).sub (by simp) (by simp) (by simp))
      refine hK.out _ _ ⟨HE'.out.cell (b := w2.heap.size) (v := .slice a7 m7 c7) (by simp), HE'.out.cell (b := w2.heap.size + 1) (v := .slice a8 m8 c8) (by simp)⟩ (fun hS' => ?_)
      clear hS'
      refine wpAnyH_listed (listed := #[true, true, true, true, true, true, true, true, true, true, true, false, true, false, true, true, false, false, false, false]) (by kernel_rfl) ?_
      have hl0 := HE.out.lt (b := P0) (v := .slice none 0 0) (by simp)
      have hl2 := HE.out.lt (b := P2) (v := .slice none 0 0) (by simp)
      have hb7 := HE.out.lt (b := w2.heap.size) (v := .slice a7 m7 c7) (by simp)
      have hb8 := HE.out.lt (b := w2.heap.size + 1) (v := .slice a8 m8 c8) (by simp)
      have hsz := HE.out.below.size
      have HA' : Hid (([P0, P2, W.heap.size, w2.heap.size, w2.heap.size + 1] : List Nat).Nodup ∧ ∀ b ∈ ([P0, P2, W.heap.size, w2.heap.size, w2.heap.size + 1] : List Nat), w.heap.size ≤ b) := hide (by have := HA.out; simp at this ⊢; omega)
      clear hb7 hb8 hsz hl0 hl2
      try clear HE
      try clear HA
      generalize W.alloc (.cells #[.slice none 0 0] 25) = W' at HE' ⊢
      generalize W.heap.size = P3 at HE' HA' ⊢
      revert HE'; revert HA'; revert HM2; revert HM1; revert HM0; revert W'; revert M2; revert q2; revert r2; revert M1; revert q1; revert r1; revert M0; revert q0; revert r0; revert P3; revert P2; revert P0
      exact k3_023.out
    exact AllReadyH.nil
  · intro k4_03 k3_013 k3_023
    intro P0 P3 r0 q0 M0 r1 q1 M1 r2 q2 M2 W HM0 HM1 HM2 HA HE
    refine wpAnyH_ready (rs := [11, 13, 14]) (by kernel_rfl) (by simp) ?_
    refine AllReadyH.cons (o := { dst := some 37, op := Op.call { callee := Callee.value (Operand.func 13), args := #[Operand.tmp 35, Operand.tmp 36], argTypes := #[25, 22] }, type := 25, pos := "law.go:23", after := #[{ on := 9, ground := Ground.data }, { on := 10, ground := Ground.data }, { on := 8, ground := Ground.chain }], guard := none }) rfl (fun K hK => ?_) ?_
    · have CC := hide (withD (a2 := a7) (c2 := c7) (n2 := m7) (s := s0) (a := a1) (c := c1) (n := n1) (l := l1) HE (by simp) (by simp) hm7 HN1 HU3 HUL3)
      go_simp
      go_at_call 13
      (with_reducible refine (Hid.out CC).mono ?_)
      rintro e W' ⟨r3, q3, M3, rfl, HM3, -, HE0⟩
      try go_wp2_with fail
      have HE' : Hid (Env w [(P0, .slice none 0 0), (P3, .slice none 0 0), (w2.heap.size, .slice a7 m7 c7), (w2.heap.size + 1, .slice a8 m8 c8)] [(r0, q0, U0), (r1, q1, U1), (r2, q2, U2), (r3, q3, U3), (a8, c8, s1), (a7, c7, s0)] [(a0, c0, l0), (a1, c1, l1)] W') := hide (HE0.out.sub (by simp) (by simp) (by simp))
      refine hK.out _ _ ⟨HE'.out.cell (b := w2.heap.size) (v := .slice a7 m7 c7) (by simp), HE'.out.cell (b := w2.heap.size + 1) (v := .slice a8 m8 c8) (by simp)⟩ (fun hS' => ?_)
      clear hS'
      refine wpAnyH_listed (listed := #[true, true, true, true, true, true, true, true, true, true, true, true, true, false, false, true, false, false, false, false]) (by kernel_rfl) ?_
      have HA' := HA
      clear CC HE0
      try clear HE
      try clear HA
      revert HE'; revert HA'; revert HM3; revert HM2; revert HM1; revert HM0; revert W'; revert M3; revert q3; revert r3; revert M2; revert q2; revert r2; revert M1; revert q1; revert r1; revert M0; revert q0; revert r0; revert P3; revert P0
      exact k4_03.out
    refine AllReadyH.cons (o := { dst := some 10, op := Op.alloc 25, type := 0, pos := "law.go:23", after := #[], guard := none }) rfl (fun K hK => ?_) ?_
    · go_simp
      have HE' : Hid (Env w [(P0, .slice none 0 0), (W.heap.size, .slice none 0 0), (P3, .slice none 0 0), (w2.heap.size, .slice a7 m7 c7), (w2.heap.size + 1, .slice a8 m8 c8)] [(r0, q0, U0), (r1, q1, U1), (r2, q2, U2), (a8, c8, s1), (a7, c7, s0)] [(a0, c0, l0), (a1, c1, l1)] (W.alloc (.cells #[.slice none 0 0] 25))) := hide ((HE.out.box (.slice none 0 0) 25 rfl).sub (by simp) (by simp) (by simp))
      refine hK.out _ _ ⟨HE'.out.cell (b := w2.heap.size) (v := .slice a7 m7 c7) (by simp), HE'.out.cell (b := w2.heap.size + 1) (v := .slice a8 m8 c8) (by simp)⟩ (fun hS' => ?_)
      clear hS'
      refine wpAnyH_listed (listed := #[true, true, true, true, true, true, true, true, true, true, true, false, true, true, false, true, false, false, false, false]) (by kernel_rfl) ?_
      have hl0 := HE.out.lt (b := P0) (v := .slice none 0 0) (by simp)
      have hl3 := HE.out.lt (b := P3) (v := .slice none 0 0) (by simp)
      have hb7 := HE.out.lt (b := w2.heap.size) (v := .slice a7 m7 c7) (by simp)
      have hb8 := HE.out.lt (b := w2.heap.size + 1) (v := .slice a8 m8 c8) (by simp)
      have hsz := HE.out.below.size
      have HA' : Hid (([P0, W.heap.size, P3, w2.heap.size, w2.heap.size + 1] : List Nat).Nodup ∧ ∀ b ∈ ([P0, W.heap.size, P3, w2.heap.size, w2.heap.size + 1] : List Nat), w.heap.size ≤ b) := hide (by have := HA.out; simp at this ⊢; omega)
      clear hb7 hb8 hsz hl0 hl3
      try clear HE
      try clear HA
      generalize W.alloc (.cells #[.slice none 0 0] 25) = W' at HE' ⊢
      generalize W.heap.size = P1 at HE' HA' ⊢
      revert HE'; revert HA'; revert HM2; revert HM1; revert HM0; revert W'; revert M2; revert q2; revert r2; revert M1; revert q1; revert r1; revert M0; revert q0; revert r0; revert P3; revert P1; revert P0
      exact k3_013.out
    refine AllReadyH.cons (o := { dst := some 11, op := Op.alloc 25, type := 0, pos := "law.go:23", after := #[], guard := none }) rfl (fun K hK => ?_) ?_
    · go_simp
      have HE' : Hid (Env w [(P0, .slice none 0 0), (W.heap.size, .slice none 0 0), (P3, .slice none 0 0), (w2.heap.size, .slice a7 m7 c7), (w2.heap.size + 1, .slice a8 m8 c8)] [(r0, q0, U0), (r1, q1, U1), (r2, q2, U2), (a8, c8, s1), (a7, c7, s0)] [(a0, c0, l0), (a1, c1, l1)] (W.alloc (.cells #[.slice none 0 0] 25))) := hide ((HE.out.box (.slice none 0 0) 25 rfl).sub (by simp) (by simp) (by simp))
      refine hK.out _ _ ⟨HE'.out.cell (b := w2.heap.size) (v := .slice a7 m7 c7) (by simp), HE'.out.cell (b := w2.heap.size + 1) (v := .slice a8 m8 c8) (by simp)⟩ (fun hS' => ?_)
      clear hS'
      refine wpAnyH_listed (listed := #[true, true, true, true, true, true, true, true, true, true, true, false, true, false, true, true, false, false, false, false]) (by kernel_rfl) ?_
      have hl0 := HE.out.lt (b := P0) (v := .slice none 0 0) (by simp)
      have hl3 := HE.out.lt (b := P3) (v := .slice none 0 0) (by simp)
      have hb7 := HE.out.lt (b := w2.heap.size) (v := .slice a7 m7 c7) (by simp)
      have hb8 := HE.out.lt (b := w2.heap.size + 1) (v := .slice a8 m8 c8) (by simp)
      have hsz := HE.out.below.size
      have HA' : Hid (([P0, W.heap.size, P3, w2.heap.size, w2.heap.size + 1] : List Nat).Nodup ∧ ∀ b ∈ ([P0, W.heap.size, P3, w2.heap.size, w2.heap.size + 1] : List Nat), w.heap.size ≤ b) := hide (by have := HA.out; simp at this ⊢; omega)
      clear hb7 hb8 hsz hl0 hl3
      try clear HE
      try clear HA
      generalize W.alloc (.cells #[.slice none 0 0] 25) = W' at HE' ⊢
      generalize W.heap.size = P2 at HE' HA' ⊢
      revert HE'; revert HA'; revert HM2; revert HM1; revert HM0; revert W'; revert M2; revert q2; revert r2; revert M1; revert q1; revert r1; revert M0; revert q0; revert r0; revert P3; revert P2; revert P0
      exact k3_023.out
    exact AllReadyH.nil
  · intro k4_12 k3_012 k3_123
    intro P1 P2 r0 q0 M0 r1 q1 M1 r2 q2 M2 W HM0 HM1 HM2 HA HE
    refine wpAnyH_ready (rs := [11, 12, 15]) (by kernel_rfl) (by simp) ?_
    refine AllReadyH.cons (o := { dst := some 37, op := Op.call { callee := Callee.value (Operand.func 13), args := #[Operand.tmp 35, Operand.tmp 36], argTypes := #[25, 22] }, type := 25, pos := "law.go:23", after := #[{ on := 9, ground := Ground.data }, { on := 10, ground := Ground.data }, { on := 8, ground := Ground.chain }], guard := none }) rfl (fun K hK => ?_) ?_
    · have CC := hide (withD (a2 := a7) (c2 := c7) (n2 := m7) (s := s0) (a := a1) (c := c1) (n := n1) (l := l1) HE (by simp) (by simp) hm7 HN1 HU3 HUL3)
      go_simp
      go_at_call 13
      (with_reducible refine (Hid.out CC).mono ?_)
      rintro e W' ⟨r3, q3, M3, rfl, HM3, -, HE0⟩
      try go_wp2_with fail
      have HE' : Hid (Env w [(P1, .slice none 0 0), (P2, .slice none 0 0), (w2.heap.size, .slice a7 m7 c7), (w2.heap.size + 1, .slice a8 m8 c8)] [(r0, q0, U0), (r1, q1, U1), (r2, q2, U2), (r3, q3, U3), (a8, c8, s1), (a7, c7, s0)] [(a0, c0, l0), (a1, c1, l1)] W') := hide (HE0.out.sub (by simp) (by simp) (by simp))
      refine hK.out _ _ ⟨HE'.out.cell (b := w2.heap.size) (v := .slice a7 m7 c7) (by simp), HE'.out.cell (b := w2.heap.size + 1) (v := .slice a8 m8 c8) (by simp)⟩ (fun hS' => ?_)
      clear hS'
      refine wpAnyH_listed (listed := #[true, true, true, true, true, true, true, true, true, true, true, true, false, true, true, false, false, false, false, false]) (by kernel_rfl) ?_
      have HA' := HA
      clear CC HE0
      try clear HE
      try clear HA
      revert HE'; revert HA'; revert HM3; revert HM2; revert HM1; revert HM0; revert W'; revert M3; revert q3; revert r3; revert M2; revert q2; revert r2; revert M1; revert q1; revert r1; revert M0; revert q0; revert r0; revert P2; revert P1
      exact k4_12.out
    refine AllReadyH.cons (o := { dst := some 9, op := Op.alloc 25, type := 0, pos := "law.go:23", after := #[], guard := none }) rfl (fun K hK => ?_) ?_
    · go_simp
      have HE' : Hid (Env w [(W.heap.size, .slice none 0 0), (P1, .slice none 0 0), (P2, .slice none 0 0), (w2.heap.size, .slice a7 m7 c7), (w2.heap.size + 1, .slice a8 m8 c8)] [(r0, q0, U0), (r1, q1, U1), (r2, q2, U2), (a8, c8, s1), (a7, c7, s0)] [(a0, c0, l0), (a1, c1, l1)] (W.alloc (.cells #[.slice none 0 0] 25))) := hide ((HE.out.box (.slice none 0 0) 25 rfl).sub (by simp) (by simp) (by simp))
      refine hK.out _ _ ⟨HE'.out.cell (b := w2.heap.size) (v := .slice a7 m7 c7) (by simp), HE'.out.cell (b := w2.heap.size + 1) (v := .slice a8 m8 c8) (by simp)⟩ (fun hS' => ?_)
      clear hS'
      refine wpAnyH_listed (listed := #[true, true, true, true, true, true, true, true, true, true, true, false, true, true, true, false, false, false, false, false]) (by kernel_rfl) ?_
      have hl1 := HE.out.lt (b := P1) (v := .slice none 0 0) (by simp)
      have hl2 := HE.out.lt (b := P2) (v := .slice none 0 0) (by simp)
      have hb7 := HE.out.lt (b := w2.heap.size) (v := .slice a7 m7 c7) (by simp)
      have hb8 := HE.out.lt (b := w2.heap.size + 1) (v := .slice a8 m8 c8) (by simp)
      have hsz := HE.out.below.size
      have HA' : Hid (([W.heap.size, P1, P2, w2.heap.size, w2.heap.size + 1] : List Nat).Nodup ∧ ∀ b ∈ ([W.heap.size, P1, P2, w2.heap.size, w2.heap.size + 1] : List Nat), w.heap.size ≤ b) := hide (by have := HA.out; simp at this ⊢; omega)
      clear hb7 hb8 hsz hl1 hl2
      try clear HE
      try clear HA
      generalize W.alloc (.cells #[.slice none 0 0] 25) = W' at HE' ⊢
      generalize W.heap.size = P0 at HE' HA' ⊢
      revert HE'; revert HA'; revert HM2; revert HM1; revert HM0; revert W'; revert M2; revert q2; revert r2; revert M1; revert q1; revert r1; revert M0; revert q0; revert r0; revert P2; revert P1; revert P0
      exact k3_012.out
    refine AllReadyH.cons (o := { dst := some 12, op := Op.alloc 25, type := 0, pos := "law.go:23", after := #[], guard := none }) rfl (fun K hK => ?_) ?_
    · go_simp
      have HE' : Hid (Env w [(P1, .slice none 0 0), (P2, .slice none 0 0), (W.heap.size, .slice none 0 0), (w2.heap.size, .slice a7 m7 c7), (w2.heap.size + 1, .slice a8 m8 c8)] [(r0, q0, U0), (r1, q1, U1), (r2, q2, U2), (a8, c8, s1), (a7, c7, s0)] [(a0, c0, l0), (a1, c1, l1)] (W.alloc (.cells #[.slice none 0 0] 25))) := hide ((HE.out.box (.slice none 0 0) 25 rfl).sub (by simp) (by simp) (by simp))
      refine hK.out _ _ ⟨HE'.out.cell (b := w2.heap.size) (v := .slice a7 m7 c7) (by simp), HE'.out.cell (b := w2.heap.size + 1) (v := .slice a8 m8 c8) (by simp)⟩ (fun hS' => ?_)
      clear hS'
      refine wpAnyH_listed (listed := #[true, true, true, true, true, true, true, true, true, true, true, false, false, true, true, true, false, false, false, false]) (by kernel_rfl) ?_
      have hl1 := HE.out.lt (b := P1) (v := .slice none 0 0) (by simp)
      have hl2 := HE.out.lt (b := P2) (v := .slice none 0 0) (by simp)
      have hb7 := HE.out.lt (b := w2.heap.size) (v := .slice a7 m7 c7) (by simp)
      have hb8 := HE.out.lt (b := w2.heap.size + 1) (v := .slice a8 m8 c8) (by simp)
      have hsz := HE.out.below.size
      have HA' : Hid (([P1, P2, W.heap.size, w2.heap.size, w2.heap.size + 1] : List Nat).Nodup ∧ ∀ b ∈ ([P1, P2, W.heap.size, w2.heap.size, w2.heap.size + 1] : List Nat), w.heap.size ≤ b) := hide (by have := HA.out; simp at this ⊢; omega)
      clear hb7 hb8 hsz hl1 hl2
      try clear HE
      try clear HA
      generalize W.alloc (.cells #[.slice none 0 0] 25) = W' at HE' ⊢
      generalize W.heap.size = P3 at HE' HA' ⊢
      revert HE'; revert HA'; revert HM2; revert HM1; revert HM0; revert W'; revert M2; revert q2; revert r2; revert M1; revert q1; revert r1; revert M0; revert q0; revert r0; revert P3; revert P2; revert P1
      exact k3_123.out
    exact AllReadyH.nil
  · intro k4_13 k3_013 k3_123
    intro P1 P3 r0 q0 M0 r1 q1 M1 r2 q2 M2 W HM0 HM1 HM2 HA HE
    refine wpAnyH_ready (rs := [11, 12, 14]) (by kernel_rfl) (by simp) ?_
    refine AllReadyH.cons (o := { dst := some 37, op := Op.call { callee := Callee.value (Operand.func 13), args := #[Operand.tmp 35, Operand.tmp 36], argTypes := #[25, 22] }, type := 25, pos := "law.go:23", after := #[{ on := 9, ground := Ground.data }, { on := 10, ground := Ground.data }, { on := 8, ground := Ground.chain }], guard := none }) rfl (fun K hK => ?_) ?_
    · have CC := hide (withD (a2 := a7) (c2 := c7) (n2 := m7) (s := s0) (a := a1) (c := c1) (n := n1) (l := l1) HE (by simp) (by simp) hm7 HN1 HU3 HUL3)
      go_simp
      go_at_call 13
      (with_reducible refine (Hid.out CC).mono ?_)
      rintro e W' ⟨r3, q3, M3, rfl, HM3, -, HE0⟩
      try go_wp2_with fail
      have HE' : Hid (Env w [(P1, .slice none 0 0), (P3, .slice none 0 0), (w2.heap.size, .slice a7 m7 c7), (w2.heap.size + 1, .slice a8 m8 c8)] [(r0, q0, U0), (r1, q1, U1), (r2, q2, U2), (r3, q3, U3), (a8, c8, s1), (a7, c7, s0)] [(a0, c0, l0), (a1, c1, l1)] W') := hide (HE0.out.sub (by simp) (by simp) (by simp))
      refine hK.out _ _ ⟨HE'.out.cell (b := w2.heap.size) (v := .slice a7 m7 c7) (by simp), HE'.out.cell (b := w2.heap.size + 1) (v := .slice a8 m8 c8) (by simp)⟩ (fun hS' => ?_)
      clear hS'
      refine wpAnyH_listed (listed := #[true, true, true, true, true, true, true, true, true, true, true, true, false, true, false, true, false, false, false, false]) (by kernel_rfl) ?_
      have HA' := HA
      clear CC HE0
      try clear HE
      try clear HA
      revert HE'; revert HA'; revert HM3; revert HM2; revert HM1; revert HM0; revert W'; revert M3; revert q3; revert r3; revert M2; revert q2; revert r2; revert M1; revert q1; revert r1; revert M0; revert q0; revert r0; revert P3; revert P1
      exact k4_13.out
    refine AllReadyH.cons (o := { dst := some 9, op := Op.alloc 25, type := 0, pos := "law.go:23", after := #[], guard := none }) rfl (fun K hK => ?_) ?_
    · go_simp
      have HE' : Hid (Env w [(W.heap.size, .slice none 0 0), (P1, .slice none 0 0), (P3, .slice none 0 0), (w2.heap.size, .slice a7 m7 c7), (w2.heap.size + 1, .slice a8 m8 c8)] [(r0, q0, U0), (r1, q1, U1), (r2, q2, U2), (a8, c8, s1), (a7, c7, s0)] [(a0, c0, l0), (a1, c1, l1)] (W.alloc (.cells #[.slice none 0 0] 25))) := hide ((HE.out.box (.slice none 0 0) 25 rfl).sub (by simp) (by simp) (by simp))
      refine hK.out _ _ ⟨HE'.out.cell (b := w2.heap.size) (v := .slice a7 m7 c7) (by simp), HE'.out.cell (b := w2.heap.size + 1) (v := .slice a8 m8 c8) (by simp)⟩ (fun hS' => ?_)
      clear hS'
      refine wpAnyH_listed (listed := #[true, true, true, true, true, true, true, true, true, true, true, false, true, true, false, true, false, false, false, false]) (by kernel_rfl) ?_
      have hl1 := HE.out.lt (b := P1) (v := .slice none 0 0) (by simp)
      have hl3 := HE.out.lt (b := P3) (v := .slice none 0 0) (by simp)
      have hb7 := HE.out.lt (b := w2.heap.size) (v := .slice a7 m7 c7) (by simp)
      have hb8 := HE.out.lt (b := w2.heap.size + 1) (v := .slice a8 m8 c8) (by simp)
      have hsz := HE.out.below.size
      have HA' : Hid (([W.heap.size, P1, P3, w2.heap.size, w2.heap.size + 1] : List Nat).Nodup ∧ ∀ b ∈ ([W.heap.size, P1, P3, w2.heap.size, w2.heap.size + 1] : List Nat), w.heap.size ≤ b) := hide (by have := HA.out; simp at this ⊢; omega)
      clear hb7 hb8 hsz hl1 hl3
      try clear HE
      try clear HA
      generalize W.alloc (.cells #[.slice none 0 0] 25) = W' at HE' ⊢
      generalize W.heap.size = P0 at HE' HA' ⊢
      revert HE'; revert HA'; revert HM2; revert HM1; revert HM0; revert W'; revert M2; revert q2; revert r2; revert M1; revert q1; revert r1; revert M0; revert q0; revert r0; revert P3; revert P1; revert P0
      exact k3_013.out
    refine AllReadyH.cons (o := { dst := some 11, op := Op.alloc 25, type := 0, pos := "law.go:23", after := #[], guard := none }) rfl (fun K hK => ?_) ?_
    · go_simp
      have HE' : Hid (Env w [(P1, .slice none 0 0), (W.heap.size, .slice none 0 0), (P3, .slice none 0 0), (w2.heap.size, .slice a7 m7 c7), (w2.heap.size + 1, .slice a8 m8 c8)] [(r0, q0, U0), (r1, q1, U1), (r2, q2, U2), (a8, c8, s1), (a7, c7, s0)] [(a0, c0, l0), (a1, c1, l1)] (W.alloc (.cells #[.slice none 0 0] 25))) := hide ((HE.out.box (.slice none 0 0) 25 rfl).sub (by simp) (by simp) (by simp))
      refine hK.out _ _ ⟨HE'.out.cell (b := w2.heap.size) (v := .slice a7 m7 c7) (by simp), HE'.out.cell (b := w2.heap.size + 1) (v := .slice a8 m8 c8) (by simp)⟩ (fun hS' => ?_)
      clear hS'
      refine wpAnyH_listed (listed := #[true, true, true, true, true, true, true, true, true, true, true, false, false, true, true, true, false, false, false, false]) (by kernel_rfl) ?_
      have hl1 := HE.out.lt (b := P1) (v := .slice none 0 0) (by simp)
      have hl3 := HE.out.lt (b := P3) (v := .slice none 0 0) (by simp)
      have hb7 := HE.out.lt (b := w2.heap.size) (v := .slice a7 m7 c7) (by simp)
      have hb8 := HE.out.lt (b := w2.heap.size + 1) (v := .slice a8 m8 c8) (by simp)
      have hsz := HE.out.below.size
      have HA' : Hid (([P1, W.heap.size, P3, w2.heap.size, w2.heap.size + 1] : List Nat).Nodup ∧ ∀ b ∈ ([P1, W.heap.size, P3, w2.heap.size, w2.heap.size + 1] : List Nat), w.heap.size ≤ b) := hide (by have := HA.out; simp at this ⊢; omega)
      clear hb7 hb8 hsz hl1 hl3
      try clear HE
      try clear HA
      generalize W.alloc (.cells #[.slice none 0 0] 25) = W' at HE' ⊢
      generalize W.heap.size = P2 at HE' HA' ⊢
      revert HE'; revert HA'; revert HM2; revert HM1; revert HM0; revert W'; revert M2; revert q2; revert r2; revert M1; revert q1; revert r1; revert M0; revert q0; revert r0; revert P3; revert P2; revert P1
      exact k3_123.out
    exact AllReadyH.nil
  · intro k4_23 k3_023 k3_123
    intro P2 P3 r0 q0 M0 r1 q1 M1 r2 q2 M2 W HM0 HM1 HM2 HA HE
    refine wpAnyH_ready (rs := [11, 12, 13]) (by kernel_rfl) (by simp) ?_
    refine AllReadyH.cons (o := { dst := some 37, op := Op.call { callee := Callee.value (Operand.func 13), args := #[Operand.tmp 35, Operand.tmp 36], argTypes := #[25, 22] }, type := 25, pos := "law.go:23", after := #[{ on := 9, ground := Ground.data }, { on := 10, ground := Ground.data }, { on := 8, ground := Ground.chain }], guard := none }) rfl (fun K hK => ?_) ?_
    · have CC := hide (withD (a2 := a7) (c2 := c7) (n2 := m7) (s := s0) (a := a1) (c := c1) (n := n1) (l := l1) HE (by simp) (by simp) hm7 HN1 HU3 HUL3)
      go_simp
      go_at_call 13
      (with_reducible refine (Hid.out CC).mono ?_)
      rintro e W' ⟨r3, q3, M3, rfl, HM3, -, HE0⟩
      try go_wp2_with fail
      have HE' : Hid (Env w [(P2, .slice none 0 0), (P3, .slice none 0 0), (w2.heap.size, .slice a7 m7 c7), (w2.heap.size + 1, .slice a8 m8 c8)] [(r0, q0, U0), (r1, q1, U1), (r2, q2, U2), (r3, q3, U3), (a8, c8, s1), (a7, c7, s0)] [(a0, c0, l0), (a1, c1, l1)] W') := hide (HE0.out.sub (by simp) (by simp) (by simp))
      refine hK.out _ _ ⟨HE'.out.cell (b := w2.heap.size) (v := .slice a7 m7 c7) (by simp), HE'.out.cell (b := w2.heap.size + 1) (v := .slice a8 m8 c8) (by simp)⟩ (fun hS' => ?_)
      clear hS'
      refine wpAnyH_listed (listed := #[true, true, true, true, true, true, true, true, true, true, true, true, false, false, true, true, false, false, false, false]) (by kernel_rfl) ?_
      have HA' := HA
      clear CC HE0
      try clear HE
      try clear HA
      revert HE'; revert HA'; revert HM3; revert HM2; revert HM1; revert HM0; revert W'; revert M3; revert q3; revert r3; revert M2; revert q2; revert r2; revert M1; revert q1; revert r1; revert M0; revert q0; revert r0; revert P3; revert P2
      exact k4_23.out
    refine AllReadyH.cons (o := { dst := some 9, op := Op.alloc 25, type := 0, pos := "law.go:23", after := #[], guard := none }) rfl (fun K hK => ?_) ?_
    · go_simp
      have HE' : Hid (Env w [(W.heap.size, .slice none 0 0), (P2, .slice none 0 0), (P3, .slice none 0 0), (w2.heap.size, .slice a7 m7 c7), (w2.heap.size + 1, .slice a8 m8 c8)] [(r0, q0, U0), (r1, q1, U1), (r2, q2, U2), (a8, c8, s1), (a7, c7, s0)] [(a0, c0, l0), (a1, c1, l1)] (W.alloc (.cells #[.slice none 0 0] 25))) := hide ((HE.out.box (.slice none 0 0) 25 rfl).sub (by simp) (by simp) (by simp))
      refine hK.out _ _ ⟨HE'.out.cell (b := w2.heap.size) (v := .slice a7 m7 c7) (by simp), HE'.out.cell (b := w2.heap.size + 1) (v := .slice a8 m8 c8) (by simp)⟩ (fun hS' => ?_)
      clear hS'
      refine wpAnyH_listed (listed := #[true, true, true, true, true, true, true, true, true, true, true, false, true, false, true, true, false, false, false, false]) (by kernel_rfl) ?_
      have hl2 := HE.out.lt (b := P2) (v := .slice none 0 0) (by simp)
      have hl3 := HE.out.lt (b := P3) (v := .slice none 0 0) (by simp)
      have hb7 := HE.out.lt (b := w2.heap.size) (v := .slice a7 m7 c7) (by simp)
      have hb8 := HE.out.lt (b := w2.heap.size + 1) (v := .slice a8 m8 c8) (by simp)
      have hsz := HE.out.below.size
      have HA' : Hid (([W.heap.size, P2, P3, w2.heap.size, w2.heap.size + 1] : List Nat).Nodup ∧ ∀ b ∈ ([W.heap.size, P2, P3, w2.heap.size, w2.heap.size + 1] : List Nat), w.heap.size ≤ b) := hide (by have := HA.out; simp at this ⊢; omega)
      clear hb7 hb8 hsz hl2 hl3
      try clear HE
      try clear HA
      generalize W.alloc (.cells #[.slice none 0 0] 25) = W' at HE' ⊢
      generalize W.heap.size = P0 at HE' HA' ⊢
      revert HE'; revert HA'; revert HM2; revert HM1; revert HM0; revert W'; revert M2; revert q2; revert r2; revert M1; revert q1; revert r1; revert M0; revert q0; revert r0; revert P3; revert P2; revert P0
      exact k3_023.out
    refine AllReadyH.cons (o := { dst := some 10, op := Op.alloc 25, type := 0, pos := "law.go:23", after := #[], guard := none }) rfl (fun K hK => ?_) ?_
    · go_simp
      have HE' : Hid (Env w [(W.heap.size, .slice none 0 0), (P2, .slice none 0 0), (P3, .slice none 0 0), (w2.heap.size, .slice a7 m7 c7), (w2.heap.size + 1, .slice a8 m8 c8)] [(r0, q0, U0), (r1, q1, U1), (r2, q2, U2), (a8, c8, s1), (a7, c7, s0)] [(a0, c0, l0), (a1, c1, l1)] (W.alloc (.cells #[.slice none 0 0] 25))) := hide ((HE.out.box (.slice none 0 0) 25 rfl).sub (by simp) (by simp) (by simp))
      refine hK.out _ _ ⟨HE'.out.cell (b := w2.heap.size) (v := .slice a7 m7 c7) (by simp), HE'.out.cell (b := w2.heap.size + 1) (v := .slice a8 m8 c8) (by simp)⟩ (fun hS' => ?_)
      clear hS'
      refine wpAnyH_listed (listed := #[true, true, true, true, true, true, true, true, true, true, true, false, false, true, true, true, false, false, false, false]) (by kernel_rfl) ?_
      have hl2 := HE.out.lt (b := P2) (v := .slice none 0 0) (by simp)
      have hl3 := HE.out.lt (b := P3) (v := .slice none 0 0) (by simp)
      have hb7 := HE.out.lt (b := w2.heap.size) (v := .slice a7 m7 c7) (by simp)
      have hb8 := HE.out.lt (b := w2.heap.size + 1) (v := .slice a8 m8 c8) (by simp)
      have hsz := HE.out.below.size
      have HA' : Hid (([W.heap.size, P2, P3, w2.heap.size, w2.heap.size + 1] : List Nat).Nodup ∧ ∀ b ∈ ([W.heap.size, P2, P3, w2.heap.size, w2.heap.size + 1] : List Nat), w.heap.size ≤ b) := hide (by have := HA.out; simp at this ⊢; omega)
      clear hb7 hb8 hsz hl2 hl3
      try clear HE
      try clear HA
      generalize W.alloc (.cells #[.slice none 0 0] 25) = W' at HE' ⊢
      generalize W.heap.size = P1 at HE' HA' ⊢
      revert HE'; revert HA'; revert HM2; revert HM1; revert HM0; revert W'; revert M2; revert q2; revert r2; revert M1; revert q1; revert r1; revert M0; revert q0; revert r0; revert P3; revert P2; revert P1
      exact k3_123.out
    exact AllReadyH.nil
  · intro k4_01 k4_02 k4_03
    intro P0 r0 q0 M0 r1 q1 M1 r2 q2 M2 r3 q3 M3 W HM0 HM1 HM2 HM3 HA HE
    refine wpAnyH_ready (rs := [13, 14, 15]) (by kernel_rfl) (by simp) ?_
    refine AllReadyH.cons (o := { dst := some 10, op := Op.alloc 25, type := 0, pos := "law.go:23", after := #[], guard := none }) rfl (fun K hK => ?_) ?_
    · go_simp
      have HE' : Hid (Env w [(P0, .slice none 0 0), (W.heap.size, .slice none 0 0), (w2.heap.size, .slice a7 m7 c7), (w2.heap.size + 1, .slice a8 m8 c8)] [(r0, q0, U0), (r1, q1, U1), (r2, q2, U2), (r3, q3, U3), (a8, c8, s1), (a7, c7, s0)] [(a0, c0, l0), (a1, c1, l1)] (W.alloc (.cells #[.slice none 0 0] 25))) := hide ((HE.out.box (.slice none 0 0) 25 rfl).sub (by simp) (by simp) (by simp))
      refine hK.out _ _ ⟨HE'.out.cell (b := w2.heap.size) (v := .slice a7 m7 c7) (by simp), HE'.out.cell (b := w2.heap.size + 1) (v := .slice a8 m8 c8) (by simp)⟩ (fun hS' => ?_)
      clear hS'
      refine wpAnyH_listed (listed := #[true, true, true, true, true, true, true, true, true, true, true, true, true, true, false, false, false, false, false, false]) (by kernel_rfl) ?_
      have hl0 := HE.out.lt (b := P0) (v := .slice none 0 0) (by simp)
      have hb7 := HE.out.lt (b := w2.heap.size) (v := .slice a7 m7 c7) (by simp)
      have hb8 := HE.out.lt (b := w2.heap.size + 1) (v := .slice a8 m8 c8) (by simp)
      have hsz := HE.out.below.size
      have HA' : Hid (([P0, W.heap.size, w2.heap.size, w2.heap.size + 1] : List Nat).Nodup ∧ ∀ b ∈ ([P0, W.heap.size, w2.heap.size, w2.heap.size + 1] : List Nat), w.heap.size ≤ b) := hide (by have := HA.out; simp at this ⊢; omega)
      clear hb7 hb8 hsz hl0
      try clear HE
      try clear HA
      generalize W.alloc (.cells #[.slice none 0 0] 25) = W' at HE' ⊢
      generalize W.heap.size = P1 at HE' HA' ⊢
      revert HE'; revert HA'; revert HM3; revert HM2; revert HM1; revert HM0; revert W'; revert M3; revert q3; revert r3; revert M2; revert q2; revert r2; revert M1; revert q1; revert r1; revert M0; revert q0; revert r0; revert P1; revert P0
      exact k4_01.out
    refine AllReadyH.cons (o := { dst := some 11, op := Op.alloc 25, type := 0, pos := "law.go:23", after := #[], guard := none }) rfl (fun K hK => ?_) ?_
    · go_simp
      have HE' : Hid (Env w [(P0, .slice none 0 0), (W.heap.size, .slice none 0 0), (w2.heap.size, .slice a7 m7 c7), (w2.heap.size + 1, .slice a8 m8 c8)] [(r0, q0, U0), (r1, q1, U1), (r2, q2, U2), (r3, q3, U3), (a8, c8, s1), (a7, c7, s0)] [(a0, c0, l0), (a1, c1, l1)] (W.alloc (.cells #[.slice none 0 0] 25))) := hide ((HE.out.box (.slice none 0 0) 25 rfl).sub (by simp) (by simp) (by simp))
      refine hK.out _ _ ⟨HE'.out.cell (b := w2.heap.size) (v := .slice a7 m7 c7) (by simp), HE'.out.cell (b := w2.heap.size + 1) (v := .slice a8 m8 c8) (by simp)⟩ (fun hS' => ?_)
      clear hS'
      refine wpAnyH_listed (listed := #[true, true, true, true, true, true, true, true, true, true, true, true, true, false, true, false, false, false, false, false]) (by kernel_rfl) ?_
      have hl0 := HE.out.lt (b := P0) (v := .slice none 0 0) (by simp)
      have hb7 := HE.out.lt (b := w2.heap.size) (v := .slice a7 m7 c7) (by simp)
      have hb8 := HE.out.lt (b := w2.heap.size + 1) (v := .slice a8 m8 c8) (by simp)
      have hsz := HE.out.below.size
      have HA' : Hid (([P0, W.heap.size, w2.heap.size, w2.heap.size + 1] : List Nat).Nodup ∧ ∀ b ∈ ([P0, W.heap.size, w2.heap.size, w2.heap.size + 1] : List Nat), w.heap.size ≤ b) := hide (by have := HA.out; simp at this ⊢; omega)
      clear hb7 hb8 hsz hl0
      try clear HE
      try clear HA
      generalize W.alloc (.cells #[.slice none 0 0] 25) = W' at HE' ⊢
      generalize W.heap.size = P2 at HE' HA' ⊢
      revert HE'; revert HA'; revert HM3; revert HM2; revert HM1; revert HM0; revert W'; revert M3; revert q3; revert r3; revert M2; revert q2; revert r2; revert M1; revert q1; revert r1; revert M0; revert q0; revert r0; revert P2; revert P0
      exact k4_02.out
    refine AllReadyH.cons (o := { dst := some 12, op := Op.alloc 25, type := 0, pos := "law.go:23", after := #[], guard := none }) rfl (fun K hK => ?_) ?_
    · go_simp
      have HE' : Hid (Env w [(P0, .slice none 0 0), (W.heap.size, .slice none 0 0), (w2.heap.size, .slice a7 m7 c7), (w2.heap.size + 1, .slice a8 m8 c8)] [(r0, q0, U0), (r1, q1, U1), (r2, q2, U2), (r3, q3, U3), (a8, c8, s1), (a7, c7, s0)] [(a0, c0, l0), (a1, c1, l1)] (W.alloc (.cells #[.slice none 0 0] 25))) := hide ((HE.out.box (.slice none 0 0) 25 rfl).sub (by simp) (by simp) (by simp))
      refine hK.out _ _ ⟨HE'.out.cell (b := w2.heap.size) (v := .slice a7 m7 c7) (by simp), HE'.out.cell (b := w2.heap.size + 1) (v := .slice a8 m8 c8) (by simp)⟩ (fun hS' => ?_)
      clear hS'
      refine wpAnyH_listed (listed := #[true, true, true, true, true, true, true, true, true, true, true, true, true, false, false, true, false, false, false, false]) (by kernel_rfl) ?_
      have hl0 := HE.out.lt (b := P0) (v := .slice none 0 0) (by simp)
      have hb7 := HE.out.lt (b := w2.heap.size) (v := .slice a7 m7 c7) (by simp)
      have hb8 := HE.out.lt (b := w2.heap.size + 1) (v := .slice a8 m8 c8) (by simp)
      have hsz := HE.out.below.size
      have HA' : Hid (([P0, W.heap.size, w2.heap.size, w2.heap.size + 1] : List Nat).Nodup ∧ ∀ b ∈ ([P0, W.heap.size, w2.heap.size, w2.heap.size + 1] : List Nat), w.heap.size ≤ b) := hide (by have := HA.out; simp at this ⊢; omega)
      clear hb7 hb8 hsz hl0
      try clear HE
      try clear HA
      generalize W.alloc (.cells #[.slice none 0 0] 25) = W' at HE' ⊢
      generalize W.heap.size = P3 at HE' HA' ⊢
      revert HE'; revert HA'; revert HM3; revert HM2; revert HM1; revert HM0; revert W'; revert M3; revert q3; revert r3; revert M2; revert q2; revert r2; revert M1; revert q1; revert r1; revert M0; revert q0; revert r0; revert P3; revert P0
      exact k4_03.out
    exact AllReadyH.nil
  · intro k4_01 k4_12 k4_13
    intro P1 r0 q0 M0 r1 q1 M1 r2 q2 M2 r3 q3 M3 W HM0 HM1 HM2 HM3 HA HE
    refine wpAnyH_ready (rs := [12, 14, 15]) (by kernel_rfl) (by simp) ?_
    refine AllReadyH.cons (o := { dst := some 9, op := Op.alloc 25, type := 0, pos := "law.go:23", after := #[], guard := none }) rfl (fun K hK => ?_) ?_
    · go_simp
      have HE' : Hid (Env w [(W.heap.size, .slice none 0 0), (P1, .slice none 0 0), (w2.heap.size, .slice a7 m7 c7), (w2.heap.size + 1, .slice a8 m8 c8)] [(r0, q0, U0), (r1, q1, U1), (r2, q2, U2), (r3, q3, U3), (a8, c8, s1), (a7, c7, s0)] [(a0, c0, l0), (a1, c1, l1)] (W.alloc (.cells #[.slice none 0 0] 25))) := hide ((HE.out.box (.slice none 0 0) 25 rfl).sub (by simp) (by simp) (by simp))
      refine hK.out _ _ ⟨HE'.out.cell (b := w2.heap.size) (v := .slice a7 m7 c7) (by simp), HE'.out.cell (b := w2.heap.size + 1) (v := .slice a8 m8 c8) (by simp)⟩ (fun hS' => ?_)
      clear hS'
      refine wpAnyH_listed (listed := #[true, true, true, true, true, true, true, true, true, true, true, true, true, true, false, false, false, false, false, false]) (by kernel_rfl) ?_
      have hl1 := HE.out.lt (b := P1) (v := .slice none 0 0) (by simp)
      have hb7 := HE.out.lt (b := w2.heap.size) (v := .slice a7 m7 c7) (by simp)
      have hb8 := HE.out.lt (b := w2.heap.size + 1) (v := .slice a8 m8 c8) (by simp)
      have hsz := HE.out.below.size
      have HA' : Hid (([W.heap.size, P1, w2.heap.size, w2.heap.size + 1] : List Nat).Nodup ∧ ∀ b ∈ ([W.heap.size, P1, w2.heap.size, w2.heap.size + 1] : List Nat), w.heap.size ≤ b) := hide (by have := HA.out; simp at this ⊢; omega)
      clear hb7 hb8 hsz hl1
      try clear HE
      try clear HA
      generalize W.alloc (.cells #[.slice none 0 0] 25) = W' at HE' ⊢
      generalize W.heap.size = P0 at HE' HA' ⊢
      revert HE'; revert HA'; revert HM3; revert HM2; revert HM1; revert HM0; revert W'; revert M3; revert q3; revert r3; revert M2; revert q2; revert r2; revert M1; revert q1; revert r1; revert M0; revert q0; revert r0; revert P1; revert P0
      exact k4_01.out
    refine AllReadyH.cons (o := { dst := some 11, op := Op.alloc 25, type := 0, pos := "law.go:23", after := #[], guard := none }) rfl (fun K hK => ?_) ?_
    · go_simp
      have HE' : Hid (Env w [(P1, .slice none 0 0), (W.heap.size, .slice none 0 0), (w2.heap.size, .slice a7 m7 c7), (w2.heap.size + 1, .slice a8 m8 c8)] [(r0, q0, U0), (r1, q1, U1), (r2, q2, U2), (r3, q3, U3), (a8, c8, s1), (a7, c7, s0)] [(a0, c0, l0), (a1, c1, l1)] (W.alloc (.cells #[.slice none 0 0] 25))) := hide ((HE.out.box (.slice none 0 0) 25 rfl).sub (by simp) (by simp) (by simp))
      refine hK.out _ _ ⟨HE'.out.cell (b := w2.heap.size) (v := .slice a7 m7 c7) (by simp), HE'.out.cell (b := w2.heap.size + 1) (v := .slice a8 m8 c8) (by simp)⟩ (fun hS' => ?_)
      clear hS'
      refine wpAnyH_listed (listed := #[true, true, true, true, true, true, true, true, true, true, true, true, false, true, true, false, false, false, false, false]) (by kernel_rfl) ?_
      have hl1 := HE.out.lt (b := P1) (v := .slice none 0 0) (by simp)
      have hb7 := HE.out.lt (b := w2.heap.size) (v := .slice a7 m7 c7) (by simp)
      have hb8 := HE.out.lt (b := w2.heap.size + 1) (v := .slice a8 m8 c8) (by simp)
      have hsz := HE.out.below.size
      have HA' : Hid (([P1, W.heap.size, w2.heap.size, w2.heap.size + 1] : List Nat).Nodup ∧ ∀ b ∈ ([P1, W.heap.size, w2.heap.size, w2.heap.size + 1] : List Nat), w.heap.size ≤ b) := hide (by have := HA.out; simp at this ⊢; omega)
      clear hb7 hb8 hsz hl1
      try clear HE
      try clear HA
      generalize W.alloc (.cells #[.slice none 0 0] 25) = W' at HE' ⊢
      generalize W.heap.size = P2 at HE' HA' ⊢
      revert HE'; revert HA'; revert HM3; revert HM2; revert HM1; revert HM0; revert W'; revert M3; revert q3; revert r3; revert M2; revert q2; revert r2; revert M1; revert q1; revert r1; revert M0; revert q0; revert r0; revert P2; revert P1
      exact k4_12.out
    refine AllReadyH.cons (o := { dst := some 12, op := Op.alloc 25, type := 0, pos := "law.go:23", after := #[], guard := none }) rfl (fun K hK => ?_) ?_
    · go_simp
      have HE' : Hid (Env w [(P1, .slice none 0 0), (W.heap.size, .slice none 0 0), (w2.heap.size, .slice a7 m7 c7), (w2.heap.size + 1, .slice a8 m8 c8)] [(r0, q0, U0), (r1, q1, U1), (r2, q2, U2), (r3, q3, U3), (a8, c8, s1), (a7, c7, s0)] [(a0, c0, l0), (a1, c1, l1)] (W.alloc (.cells #[.slice none 0 0] 25))) := hide ((HE.out.box (.slice none 0 0) 25 rfl).sub (by simp) (by simp) (by simp))
      refine hK.out _ _ ⟨HE'.out.cell (b := w2.heap.size) (v := .slice a7 m7 c7) (by simp), HE'.out.cell (b := w2.heap.size + 1) (v := .slice a8 m8 c8) (by simp)⟩ (fun hS' => ?_)
      clear hS'
      refine wpAnyH_listed (listed := #[true, true, true, true, true, true, true, true, true, true, true, true, false, true, false, true, false, false, false, false]) (by kernel_rfl) ?_
      have hl1 := HE.out.lt (b := P1) (v := .slice none 0 0) (by simp)
      have hb7 := HE.out.lt (b := w2.heap.size) (v := .slice a7 m7 c7) (by simp)
      have hb8 := HE.out.lt (b := w2.heap.size + 1) (v := .slice a8 m8 c8) (by simp)
      have hsz := HE.out.below.size
      have HA' : Hid (([P1, W.heap.size, w2.heap.size, w2.heap.size + 1] : List Nat).Nodup ∧ ∀ b ∈ ([P1, W.heap.size, w2.heap.size, w2.heap.size + 1] : List Nat), w.heap.size ≤ b) := hide (by have := HA.out; simp at this ⊢; omega)
      clear hb7 hb8 hsz hl1
      try clear HE
      try clear HA
      generalize W.alloc (.cells #[.slice none 0 0] 25) = W' at HE' ⊢
      generalize W.heap.size = P3 at HE' HA' ⊢
      revert HE'; revert HA'; revert HM3; revert HM2; revert HM1; revert HM0; revert W'; revert M3; revert q3; revert r3; revert M2; revert q2; revert r2; revert M1; revert q1; revert r1; revert M0; revert q0; revert r0; revert P3; revert P1
      exact k4_13.out
    exact AllReadyH.nil
  · intro k4_02 k4_12 k4_23
    intro P2 r0 q0 M0 r1 q1 M1 r2 q2 M2 r3 q3 M3 W HM0 HM1 HM2 HM3 HA HE
    refine wpAnyH_ready (rs := [12, 13, 15]) (by kernel_rfl) (by simp) ?_
    refine AllReadyH.cons (o := { dst := some 9, op := Op.alloc 25, type := 0, pos := "law.go:23", after := #[], guard := none }) rfl (fun K hK => ?_) ?_
    · go_simp
      have HE' : Hid (Env w [(W.heap.size, .slice none 0 0), (P2, .slice none 0 0), (w2.heap.size, .slice a7 m7 c7), (w2.heap.size + 1, .slice a8 m8 c8)] [(r0, q0, U0), (r1, q1, U1), (r2, q2, U2), (r3, q3, U3), (a8, c8, s1), (a7, c7, s0)] [(a0, c0, l0), (a1, c1, l1)] (W.alloc (.cells #[.slice none 0 0] 25))) := hide ((HE.out.box (.slice none 0 0) 25 rfl).sub (by simp) (by simp) (by simp))
      refine hK.out _ _ ⟨HE'.out.cell (b := w2.heap.size) (v := .slice a7 m7 c7) (by simp), HE'.out.cell (b := w2.heap.size + 1) (v := .slice a8 m8 c8) (by simp)⟩ (fun hS' => ?_)
      clear hS'
      refine wpAnyH_listed (listed := #[true, true, true, true, true, true, true, true, true, true, true, true, true, false, true, false, false, false, false, false]) (by kernel_rfl) ?_
      have hl2 := HE.out.lt (b := P2) (v := .slice none 0 0) (by simp)
      have hb7 := HE.out.lt (b := w2.heap.size) (v := .slice a7 m7 c7) (by simp)
      have hb8 := HE.out.lt (b := w2.heap.size + 1) (v := .slice a8 m8 c8) (by simp)
      have hsz := HE.out.below.size
      have HA' : Hid (([W.heap.size, P2, w2.heap.size, w2.heap.size + 1] : List Nat).Nodup ∧ ∀ b ∈ ([W.heap.size, P2, w2.heap.size, w2.heap.size + 1] : List Nat), w.heap.size ≤ b) := hide (by have := HA.out; simp at this ⊢; omega)
      clear hb7 hb8 hsz hl2
      try clear HE
      try clear HA
      generalize W.alloc (.cells #[.slice none 0 0] 25) = W' at HE' ⊢
      generalize W.heap.size = P0 at HE' HA' ⊢
      revert HE'; revert HA'; revert HM3; revert HM2; revert HM1; revert HM0; revert W'; revert M3; revert q3; revert r3; revert M2; revert q2; revert r2; revert M1; revert q1; revert r1; revert M0; revert q0; revert r0; revert P2; revert P0
      exact k4_02.out
    refine AllReadyH.cons (o := { dst := some 10, op := Op.alloc 25, type := 0, pos := "law.go:23", after := #[], guard := none }) rfl (fun K hK => ?_) ?_
    · go_simp
      have HE' : Hid (Env w [(W.heap.size, .slice none 0 0), (P2, .slice none 0 0), (w2.heap.size, .slice a7 m7 c7), (w2.heap.size + 1, .slice a8 m8 c8)] [(r0, q0, U0), (r1, q1, U1), (r2, q2, U2), (r3, q3, U3), (a8, c8, s1), (a7, c7, s0)] [(a0, c0, l0), (a1, c1, l1)] (W.alloc (.cells #[.slice none 0 0] 25))) := hide ((HE.out.box (.slice none 0 0) 25 rfl).sub (by simp) (by simp) (by simp))
      refine hK.out _ _ ⟨HE'.out.cell (b := w2.heap.size) (v := .slice a7 m7 c7) (by simp), HE'.out.cell (b := w2.heap.size + 1) (v := .slice a8 m8 c8) (by simp)⟩ (fun hS' => ?_)
      clear hS'
      refine wpAnyH_listed (listed := #[true, true, true, true, true, true, true, true, true, true, true, true, false, true, true, false, false, false, false, false]) (by kernel_rfl) ?_
      have hl2 := HE.out.lt (b := P2) (v := .slice none 0 0) (by simp)
      have hb7 := HE.out.lt (b := w2.heap.size) (v := .slice a7 m7 c7) (by simp)
      have hb8 := HE.out.lt (b := w2.heap.size + 1) (v := .slice a8 m8 c8) (by simp)
      have hsz := HE.out.below.size
      have HA' : Hid (([W.heap.size, P2, w2.heap.size, w2.heap.size + 1] : List Nat).Nodup ∧ ∀ b ∈ ([W.heap.size, P2, w2.heap.size, w2.heap.size + 1] : List Nat), w.heap.size ≤ b) := hide (by have := HA.out; simp at this ⊢; omega)
      clear hb7 hb8 hsz hl2
      try clear HE
      try clear HA
      generalize W.alloc (.cells #[.slice none 0 0] 25) = W' at HE' ⊢
      generalize W.heap.size = P1 at HE' HA' ⊢
      revert HE'; revert HA'; revert HM3; revert HM2; revert HM1; revert HM0; revert W'; revert M3; revert q3; revert r3; revert M2; revert q2; revert r2; revert M1; revert q1; revert r1; revert M0; revert q0; revert r0; revert P2; revert P1
      exact k4_12.out
    refine AllReadyH.cons (o := { dst := some 12, op := Op.alloc 25, type := 0, pos := "law.go:23", after := #[], guard := none }) rfl (fun K hK => ?_) ?_
    · go_simp
      have HE' : Hid (Env w [(P2, .slice none 0 0), (W.heap.size, .slice none 0 0), (w2.heap.size, .slice a7 m7 c7), (w2.heap.size + 1, .slice a8 m8 c8)] [(r0, q0, U0), (r1, q1, U1), (r2, q2, U2), (r3, q3, U3), (a8, c8, s1), (a7, c7, s0)] [(a0, c0, l0), (a1, c1, l1)] (W.alloc (.cells #[.slice none 0 0] 25))) := hide ((HE.out.box (.slice none 0 0) 25 rfl).sub (by simp) (by simp) (by simp))
      refine hK.out _ _ ⟨HE'.out.cell (b := w2.heap.size) (v := .slice a7 m7 c7) (by simp), HE'.out.cell (b := w2.heap.size + 1) (v := .slice a8 m8 c8) (by simp)⟩ (fun hS' => ?_)
      clear hS'
      refine wpAnyH_listed (listed := #[true, true, true, true, true, true, true, true, true, true, true, true, false, false, true, true, false, false, false, false]) (by kernel_rfl) ?_
      have hl2 := HE.out.lt (b := P2) (v := .slice none 0 0) (by simp)
      have hb7 := HE.out.lt (b := w2.heap.size) (v := .slice a7 m7 c7) (by simp)
      have hb8 := HE.out.lt (b := w2.heap.size + 1) (v := .slice a8 m8 c8) (by simp)
      have hsz := HE.out.below.size
      have HA' : Hid (([P2, W.heap.size, w2.heap.size, w2.heap.size + 1] : List Nat).Nodup ∧ ∀ b ∈ ([P2, W.heap.size, w2.heap.size, w2.heap.size + 1] : List Nat), w.heap.size ≤ b) := hide (by have := HA.out; simp at this ⊢; omega)
      clear hb7 hb8 hsz hl2
      try clear HE
      try clear HA
      generalize W.alloc (.cells #[.slice none 0 0] 25) = W' at HE' ⊢
      generalize W.heap.size = P3 at HE' HA' ⊢
      revert HE'; revert HA'; revert HM3; revert HM2; revert HM1; revert HM0; revert W'; revert M3; revert q3; revert r3; revert M2; revert q2; revert r2; revert M1; revert q1; revert r1; revert M0; revert q0; revert r0; revert P3; revert P2
      exact k4_23.out
    exact AllReadyH.nil
  · intro k4_03 k4_13 k4_23
    intro P3 r0 q0 M0 r1 q1 M1 r2 q2 M2 r3 q3 M3 W HM0 HM1 HM2 HM3 HA HE
    refine wpAnyH_ready (rs := [12, 13, 14]) (by kernel_rfl) (by simp) ?_
    refine AllReadyH.cons (o := { dst := some 9, op := Op.alloc 25, type := 0, pos := "law.go:23", after := #[], guard := none }) rfl (fun K hK => ?_) ?_
    · go_simp
      have HE' : Hid (Env w [(W.heap.size, .slice none 0 0), (P3, .slice none 0 0), (w2.heap.size, .slice a7 m7 c7), (w2.heap.size + 1, .slice a8 m8 c8)] [(r0, q0, U0), (r1, q1, U1), (r2, q2, U2), (r3, q3, U3), (a8, c8, s1), (a7, c7, s0)] [(a0, c0, l0), (a1, c1, l1)] (W.alloc (.cells #[.slice none 0 0] 25))) := hide ((HE.out.box (.slice none 0 0) 25 rfl).sub (by simp) (by simp) (by simp))
      refine hK.out _ _ ⟨HE'.out.cell (b := w2.heap.size) (v := .slice a7 m7 c7) (by simp), HE'.out.cell (b := w2.heap.size + 1) (v := .slice a8 m8 c8) (by simp)⟩ (fun hS' => ?_)
      clear hS'
      refine wpAnyH_listed (listed := #[true, true, true, true, true, true, true, true, true, true, true, true, true, false, false, true, false, false, false, false]) (by kernel_rfl) ?_
      have hl3 := HE.out.lt (b := P3) (v := .slice none 0 0) (by simp)
      have hb7 := HE.out.lt (b := w2.heap.size) (v := .slice a7 m7 c7) (by simp)
      have hb8 := HE.out.lt (b := w2.heap.size + 1) (v := .slice a8 m8 c8) (by simp)
      have hsz := HE.out.below.size
      have HA' : Hid (([W.heap.size, P3, w2.heap.size, w2.heap.size + 1] : List Nat).Nodup ∧ ∀ b ∈ ([W.heap.size, P3, w2.heap.size, w2.heap.size + 1] : List Nat), w.heap.size ≤ b) := hide (by have := HA.out; simp at this ⊢; omega)
      clear hb7 hb8 hsz hl3
      try clear HE
      try clear HA
      generalize W.alloc (.cells #[.slice none 0 0] 25) = W' at HE' ⊢
      generalize W.heap.size = P0 at HE' HA' ⊢
      revert HE'; revert HA'; revert HM3; revert HM2; revert HM1; revert HM0; revert W'; revert M3; revert q3; revert r3; revert M2; revert q2; revert r2; revert M1; revert q1; revert r1; revert M0; revert q0; revert r0; revert P3; revert P0
      exact k4_03.out
    refine AllReadyH.cons (o := { dst := some 10, op := Op.alloc 25, type := 0, pos := "law.go:23", after := #[], guard := none }) rfl (fun K hK => ?_) ?_
    · go_simp
      have HE' : Hid (Env w [(W.heap.size, .slice none 0 0), (P3, .slice none 0 0), (w2.heap.size, .slice a7 m7 c7), (w2.heap.size + 1, .slice a8 m8 c8)] [(r0, q0, U0), (r1, q1, U1), (r2, q2, U2), (r3, q3, U3), (a8, c8, s1), (a7, c7, s0)] [(a0, c0, l0), (a1, c1, l1)] (W.alloc (.cells #[.slice none 0 0] 25))) := hide ((HE.out.box (.slice none 0 0) 25 rfl).sub (by simp) (by simp) (by simp))
      refine hK.out _ _ ⟨HE'.out.cell (b := w2.heap.size) (v := .slice a7 m7 c7) (by simp), HE'.out.cell (b := w2.heap.size + 1) (v := .slice a8 m8 c8) (by simp)⟩ (fun hS' => ?_)
      clear hS'
      refine wpAnyH_listed (listed := #[true, true, true, true, true, true, true, true, true, true, true, true, false, true, false, true, false, false, false, false]) (by kernel_rfl) ?_
      have hl3 := HE.out.lt (b := P3) (v := .slice none 0 0) (by simp)
      have hb7 := HE.out.lt (b := w2.heap.size) (v := .slice a7 m7 c7) (by simp)
      have hb8 := HE.out.lt (b := w2.heap.size + 1) (v := .slice a8 m8 c8) (by simp)
      have hsz := HE.out.below.size
      have HA' : Hid (([W.heap.size, P3, w2.heap.size, w2.heap.size + 1] : List Nat).Nodup ∧ ∀ b ∈ ([W.heap.size, P3, w2.heap.size, w2.heap.size + 1] : List Nat), w.heap.size ≤ b) := hide (by have := HA.out; simp at this ⊢; omega)
      clear hb7 hb8 hsz hl3
      try clear HE
      try clear HA
      generalize W.alloc (.cells #[.slice none 0 0] 25) = W' at HE' ⊢
      generalize W.heap.size = P1 at HE' HA' ⊢
      revert HE'; revert HA'; revert HM3; revert HM2; revert HM1; revert HM0; revert W'; revert M3; revert q3; revert r3; revert M2; revert q2; revert r2; revert M1; revert q1; revert r1; revert M0; revert q0; revert r0; revert P3; revert P1
      exact k4_13.out
    refine AllReadyH.cons (o := { dst := some 11, op := Op.alloc 25, type := 0, pos := "law.go:23", after := #[], guard := none }) rfl (fun K hK => ?_) ?_
    · go_simp
      have HE' : Hid (Env w [(W.heap.size, .slice none 0 0), (P3, .slice none 0 0), (w2.heap.size, .slice a7 m7 c7), (w2.heap.size + 1, .slice a8 m8 c8)] [(r0, q0, U0), (r1, q1, U1), (r2, q2, U2), (r3, q3, U3), (a8, c8, s1), (a7, c7, s0)] [(a0, c0, l0), (a1, c1, l1)] (W.alloc (.cells #[.slice none 0 0] 25))) := hide ((HE.out.box (.slice none 0 0) 25 rfl).sub (by simp) (by simp) (by simp))
      refine hK.out _ _ ⟨HE'.out.cell (b := w2.heap.size) (v := .slice a7 m7 c7) (by simp), HE'.out.cell (b := w2.heap.size + 1) (v := .slice a8 m8 c8) (by simp)⟩ (fun hS' => ?_)
      clear hS'
      refine wpAnyH_listed (listed := #[true, true, true, true, true, true, true, true, true, true, true, true, false, false, true, true, false, false, false, false]) (by kernel_rfl) ?_
      have hl3 := HE.out.lt (b := P3) (v := .slice none 0 0) (by simp)
      have hb7 := HE.out.lt (b := w2.heap.size) (v := .slice a7 m7 c7) (by simp)
      have hb8 := HE.out.lt (b := w2.heap.size + 1) (v := .slice a8 m8 c8) (by simp)
      have hsz := HE.out.below.size
      have HA' : Hid (([W.heap.size, P3, w2.heap.size, w2.heap.size + 1] : List Nat).Nodup ∧ ∀ b ∈ ([W.heap.size, P3, w2.heap.size, w2.heap.size + 1] : List Nat), w.heap.size ≤ b) := hide (by have := HA.out; simp at this ⊢; omega)
      clear hb7 hb8 hsz hl3
      try clear HE
      try clear HA
      generalize W.alloc (.cells #[.slice none 0 0] 25) = W' at HE' ⊢
      generalize W.heap.size = P2 at HE' HA' ⊢
      revert HE'; revert HA'; revert HM3; revert HM2; revert HM1; revert HM0; revert W'; revert M3; revert q3; revert r3; revert M2; revert q2; revert r2; revert M1; revert q1; revert r1; revert M0; revert q0; revert r0; revert P3; revert P2
      exact k4_23.out
    exact AllReadyH.nil
  · intro k3_0123
    intro P0 P1 P2 P3 r0 q0 M0 r1 q1 M1 W HM0 HM1 HA HE
    refine wpAnyH_ready (rs := [8]) (by kernel_rfl) (by simp) ?_
    refine AllReadyH.cons (o := { dst := some 34, op := Op.call { callee := Callee.value (Operand.func 12), args := #[Operand.tmp 32, Operand.tmp 33], argTypes := #[25, 25] }, type := 25, pos := "law.go:23", after := #[{ on := 6, ground := Ground.data }, { on := 7, ground := Ground.data }, { on := 5, ground := Ground.chain }], guard := none }) rfl (fun K hK => ?_) ?_
    · have CC := hide (minusD (a := a7) (c := c7) (n := m7) (s := s0) (a2 := a8) (c2 := c8) (n2 := m8) (t := s1) HE (by simp) (by simp) hm7 hm8 HU2)
      go_simp
      go_at_call 12
      (with_reducible refine (Hid.out CC).mono ?_)
      rintro e W' ⟨r2, q2, M2, rfl, HM2, -, HE0⟩
      try go_wp2_with fail
      have HE' : Hid (Env w [(P0, .slice none 0 0), (P1, .slice none 0 0), (P2, .slice none 0 0), (P3, .slice none 0 0), (w2.heap.size, .slice a7 m7 c7), (w2.heap.size + 1, .slice a8 m8 c8)] [(r0, q0, U0), (r1, q1, U1), (r2, q2, U2), (a8, c8, s1), (a7, c7, s0)] [(a0, c0, l0), (a1, c1, l1)] W') := hide (HE0.out.sub (by simp) (by simp) (by simp))
      refine hK.out _ _ ⟨HE'.out.cell (b := w2.heap.size) (v := .slice a7 m7 c7) (by simp), HE'.out.cell (b := w2.heap.size + 1) (v := .slice a8 m8 c8) (by simp)⟩ (fun hS' => ?_)
      clear hS'
      refine wpAnyH_listed (listed := #[true, true, true, true, true, true, true, true, true, true, true, false, true, true, true, true, false, false, false, false]) (by kernel_rfl) ?_
      have HA' := HA
      clear CC HE0
      try clear HE
      try clear HA
      revert HE'; revert HA'; revert HM2; revert HM1; revert HM0; revert W'; revert M2; revert q2; revert r2; revert M1; revert q1; revert r1; revert M0; revert q0; revert r0; revert P3; revert P2; revert P1; revert P0
      exact k3_0123.out
    exact AllReadyH.nil
  · intro k4_012 k3_0123
    intro P0 P1 P2 r0 q0 M0 r1 q1 M1 r2 q2 M2 W HM0 HM1 HM2 HA HE
    refine wpAnyH_ready (rs := [11, 15]) (by kernel_rfl) (by simp) ?_
    refine AllReadyH.cons (o := { dst := some 37, op := Op.call { callee := Callee.value (Operand.func 13), args := #[Operand.tmp 35, Operand.tmp 36], argTypes := #[25, 22] }, type := 25, pos := "law.go:23", after := #[{ on := 9, ground := Ground.data }, { on := 10, ground := Ground.data }, { on := 8, ground := Ground.chain }], guard := none }) rfl (fun K hK => ?_) ?_
    · have CC := hide (withD (a2 := a7) (c2 := c7) (n2 := m7) (s := s0) (a := a1) (c := c1) (n := n1) (l := l1) HE (by simp) (by simp) hm7 HN1 HU3 HUL3)
      go_simp
      go_at_call 13
      (with_reducible refine (Hid.out CC).mono ?_)
      rintro e W' ⟨r3, q3, M3, rfl, HM3, -, HE0⟩
      try go_wp2_with fail
      have HE' : Hid (Env w [(P0, .slice none 0 0), (P1, .slice none 0 0), (P2, .slice none 0 0), (w2.heap.size, .slice a7 m7 c7), (w2.heap.size + 1, .slice a8 m8 c8)] [(r0, q0, U0), (r1, q1, U1), (r2, q2, U2), (r3, q3, U3), (a8, c8, s1), (a7, c7, s0)] [(a0, c0, l0), (a1, c1, l1)] W') := hide (HE0.out.sub (by simp) (by simp) (by simp))
      refine hK.out _ _ ⟨HE'.out.cell (b := w2.heap.size) (v := .slice a7 m7 c7) (by simp), HE'.out.cell (b := w2.heap.size + 1) (v := .slice a8 m8 c8) (by simp)⟩ (fun hS' => ?_)
      clear hS'
      refine wpAnyH_listed (listed := #[true, true, true, true, true, true, true, true, true, true, true, true, true, true, true, false, false, false, false, false]) (by kernel_rfl) ?_
      have HA' := HA
      clear CC HE0
      try clear HE
      try clear HA
      revert HE'; revert HA'; revert HM3; revert HM2; revert HM1; revert HM0; revert W'; revert M3; revert q3; revert r3; revert M2; revert q2; revert r2; revert M1; revert q1; revert r1; revert M0; revert q0; revert r0; revert P2; revert P1; revert P0
      exact k4_012.out
    refine AllReadyH.cons (o := { dst := some 12, op := Op.alloc 25, type := 0, pos := "law.go:23", after := #[], guard := none }) rfl (fun K hK => ?_) ?_
    · go_simp
      have HE' : Hid (Env w [(P0, .slice none 0 0), (P1, .slice none 0 0), (P2, .slice none 0 0), (W.heap.size, .slice none 0 0), (w2.heap.size, .slice a7 m7 c7), (w2.heap.size + 1, .slice a8 m8 c8)] [(r0, q0, U0), (r1, q1, U1), (r2, q2, U2), (a8, c8, s1), (a7, c7, s0)] [(a0, c0, l0), (a1, c1, l1)] (W.alloc (.cells #[.slice none 0 0] 25))) := hide ((HE.out.box (.slice none 0 0) 25 rfl).sub (by simp) (by simp) (by simp))
      refine hK.out _ _ ⟨HE'.out.cell (b := w2.heap.size) (v := .slice a7 m7 c7) (by simp), HE'.out.cell (b := w2.heap.size + 1) (v := .slice a8 m8 c8) (by simp)⟩ (fun hS' => ?_)
      clear hS'
      refine wpAnyH_listed (listed := #[true, true, true, true, true, true, true, true, true, true, true, false, true, true, true, true, false, false, false, false]) (by kernel_rfl) ?_
      have hl0 := HE.out.lt (b := P0) (v := .slice none 0 0) (by simp)
      have hl1 := HE.out.lt (b := P1) (v := .slice none 0 0) (by simp)
      have hl2 := HE.out.lt (b := P2) (v := .slice none 0 0) (by simp)
      have hb7 := HE.out.lt (b := w2.heap.size) (v := .slice a7 m7 c7) (by simp)
      have hb8 := HE.out.lt (b := w2.heap.size + 1) (v := .slice a8 m8 c8) (by simp)
      have hsz := HE.out.below.size
      have HA' : Hid (([P0, P1, P2, W.heap.size, w2.heap.size, w2.heap.size + 1] : List Nat).Nodup ∧ ∀ b ∈ ([P0, P1, P2, W.heap.size, w2.heap.size, w2.heap.size + 1] : List Nat), w.heap.size ≤ b) := hide (by have := HA.out; simp at this ⊢; omega)
      clear hb7 hb8 hsz hl0 hl1 hl2
      try clear HE
      try clear HA
      generalize W.alloc (.cells #[.slice none 0 0] 25) = W' at HE' ⊢
      generalize W.heap.size = P3 at HE' HA' ⊢
      revert HE'; revert HA'; revert HM2; revert HM1; revert HM0; revert W'; revert M2; revert q2; revert r2; revert M1; revert q1; revert r1; revert M0; revert q0; revert r0; revert P3; revert P2; revert P1; revert P0
      exact k3_0123.out
    exact AllReadyH.nil
  · intro k4_013 k3_0123
    intro P0 P1 P3 r0 q0 M0 r1 q1 M1 r2 q2 M2 W HM0 HM1 HM2 HA HE
    refine wpAnyH_ready (rs := [11, 14]) (by kernel_rfl) (by simp) ?_
    refine AllReadyH.cons (o := { dst := some 37, op := Op.call { callee := Callee.value (Operand.func 13), args := #[Operand.tmp 35, Operand.tmp 36], argTypes := #[25, 22] }, type := 25, pos := "law.go:23", after := #[{ on := 9, ground := Ground.data }, { on := 10, ground := Ground.data }, { on := 8, ground := Ground.chain }], guard := none }) rfl (fun K hK => ?_) ?_
    · have CC := hide (withD (a2 := a7) (c2 := c7) (n2 := m7) (s := s0) (a := a1) (c := c1) (n := n1) (l := l1) HE (by simp) (by simp) hm7 HN1 HU3 HUL3)
      go_simp
      go_at_call 13
      (with_reducible refine (Hid.out CC).mono ?_)
      rintro e W' ⟨r3, q3, M3, rfl, HM3, -, HE0⟩
      try go_wp2_with fail
      have HE' : Hid (Env w [(P0, .slice none 0 0), (P1, .slice none 0 0), (P3, .slice none 0 0), (w2.heap.size, .slice a7 m7 c7), (w2.heap.size + 1, .slice a8 m8 c8)] [(r0, q0, U0), (r1, q1, U1), (r2, q2, U2), (r3, q3, U3), (a8, c8, s1), (a7, c7, s0)] [(a0, c0, l0), (a1, c1, l1)] W') := hide (HE0.out.sub (by simp) (by simp) (by simp))
      refine hK.out _ _ ⟨HE'.out.cell (b := w2.heap.size) (v := .slice a7 m7 c7) (by simp), HE'.out.cell (b := w2.heap.size + 1) (v := .slice a8 m8 c8) (by simp)⟩ (fun hS' => ?_)
      clear hS'
      refine wpAnyH_listed (listed := #[true, true, true, true, true, true, true, true, true, true, true, true, true, true, false, true, false, false, false, false]) (by kernel_rfl) ?_
      have HA' := HA
      clear CC HE0
      try clear HE
      try clear HA
      revert HE'; revert HA'; revert HM3; revert HM2; revert HM1; revert HM0; revert W'; revert M3; revert q3; revert r3; revert M2; revert q2; revert r2; revert M1; revert q1; revert r1; revert M0; revert q0; revert r0; revert P3; revert P1; revert P0
      exact k4_013.out
    refine AllReadyH.cons (o := { dst := some 11, op := Op.alloc 25, type := 0, pos := "law.go:23", after := #[], guard := none }) rfl (fun K hK => ?_) ?_
    · go_simp
      have HE' : Hid (Env w [(P0, .slice none 0 0), (P1, .slice none 0 0), (W.heap.size, .slice none 0 0), (P3, .slice none 0 0), (w2.heap.size, .slice a7 m7 c7), (w2.heap.size + 1, .slice a8 m8 c8)] [(r0, q0, U0), (r1, q1, U1), (r2, q2, U2), (a8, c8, s1), (a7, c7, s0)] [(a0, c0, l0), (a1, c1, l1)] (W.alloc (.cells #[.slice none 0 0] 25))) := hide ((HE.out.box (.slice none 0 0) 25 rfl).sub (by simp) (by simp) (by simp))
      refine hK.out _ _ ⟨HE'.out.cell (b := w2.heap.size) (v := .slice a7 m7 c7) (by simp), HE'.out.cell (b := w2.heap.size + 1) (v := .slice a8 m8 c8) (by simp)⟩ (fun hS' => ?_)
      clear hS'
      refine wpAnyH_listed (listed := #[true, true, true, true, true, true, true, true, true, true, true, false, true, true, true, true, false, false, false, false]) (by kernel_rfl) ?_
      have hl0 := HE.out.lt (b := P0) (v := .slice none 0 0) (by simp)
      have hl1 := HE.out.lt (b := P1) (v := .slice none 0 0) (by simp)
      have hl3 := HE.out.lt (b := P3) (v := .slice none 0 0) (by simp)
      have hb7 := HE.out.lt (b := w2.heap.size) (v := .slice a7 m7 c7) (by simp)
      have hb8 := HE.out.lt (b := w2.heap.size + 1) (v := .slice a8 m8 c8) (by simp)
      have hsz := HE.out.below.size
      have HA' : Hid (([P0, P1, W.heap.size, P3, w2.heap.size, w2.heap.size + 1] : List Nat).Nodup ∧ ∀ b ∈ ([P0, P1, W.heap.size, P3, w2.heap.size, w2.heap.size + 1] : List Nat), w.heap.size ≤ b) := hide (by have := HA.out; simp at this ⊢; omega)
      clear hb7 hb8 hsz hl0 hl1 hl3
      try clear HE
      try clear HA
      generalize W.alloc (.cells #[.slice none 0 0] 25) = W' at HE' ⊢
      generalize W.heap.size = P2 at HE' HA' ⊢
      revert HE'; revert HA'; revert HM2; revert HM1; revert HM0; revert W'; revert M2; revert q2; revert r2; revert M1; revert q1; revert r1; revert M0; revert q0; revert r0; revert P3; revert P2; revert P1; revert P0
      exact k3_0123.out
    exact AllReadyH.nil
  · intro k4_023 k3_0123
    intro P0 P2 P3 r0 q0 M0 r1 q1 M1 r2 q2 M2 W HM0 HM1 HM2 HA HE
    refine wpAnyH_ready (rs := [11, 13]) (by kernel_rfl) (by simp) ?_
    refine AllReadyH.cons (o := { dst := some 37, op := Op.call { callee := Callee.value (Operand.func 13), args := #[Operand.tmp 35, Operand.tmp 36], argTypes := #[25, 22] }, type := 25, pos := "law.go:23", after := #[{ on := 9, ground := Ground.data }, { on := 10, ground := Ground.data }, { on := 8, ground := Ground.chain }], guard := none }) rfl (fun K hK => ?_) ?_
    · have CC := hide (withD (a2 := a7) (c2 := c7) (n2 := m7) (s := s0) (a := a1) (c := c1) (n := n1) (l := l1) HE (by simp) (by simp) hm7 HN1 HU3 HUL3)
      go_simp
      go_at_call 13
      (with_reducible refine (Hid.out CC).mono ?_)
      rintro e W' ⟨r3, q3, M3, rfl, HM3, -, HE0⟩
      try go_wp2_with fail
      have HE' : Hid (Env w [(P0, .slice none 0 0), (P2, .slice none 0 0), (P3, .slice none 0 0), (w2.heap.size, .slice a7 m7 c7), (w2.heap.size + 1, .slice a8 m8 c8)] [(r0, q0, U0), (r1, q1, U1), (r2, q2, U2), (r3, q3, U3), (a8, c8, s1), (a7, c7, s0)] [(a0, c0, l0), (a1, c1, l1)] W') := hide (HE0.out.sub (by simp) (by simp) (by simp))
      refine hK.out _ _ ⟨HE'.out.cell (b := w2.heap.size) (v := .slice a7 m7 c7) (by simp), HE'.out.cell (b := w2.heap.size + 1) (v := .slice a8 m8 c8) (by simp)⟩ (fun hS' => ?_)
      clear hS'
      refine wpAnyH_listed (listed := #[true, true, true, true, true, true, true, true, true, true, true, true, true, false, true, true, false, false, false, false]) (by kernel_rfl) ?_
      have HA' := HA
      clear CC HE0
      try clear HE
      try clear HA
      revert HE'; revert HA'; revert HM3; revert HM2; revert HM1; revert HM0; revert W'; revert M3; revert q3; revert r3; revert M2; revert q2; revert r2; revert M1; revert q1; revert r1; revert M0; revert q0; revert r0; revert P3; revert P2; revert P0
      exact k4_023.out
    refine AllReadyH.cons (o := { dst := some 10, op := Op.alloc 25, type := 0, pos := "law.go:23", after := #[], guard := none }) rfl (fun K hK => ?_) ?_
    · go_simp
      have HE' : Hid (Env w [(P0, .slice none 0 0), (W.heap.size, .slice none 0 0), (P2, .slice none 0 0), (P3, .slice none 0 0), (w2.heap.size, .slice a7 m7 c7), (w2.heap.size + 1, .slice a8 m8 c8)] [(r0, q0, U0), (r1, q1, U1), (r2, q2, U2), (a8, c8, s1), (a7, c7, s0)] [(a0, c0, l0), (a1, c1, l1)] (W.alloc (.cells #[.slice none 0 0] 25))) := hide ((HE.out.box (.slice none 0 0) 25 rfl).sub (by simp) (by simp) (by simp))
      refine hK.out _ _ ⟨HE'.out.cell (b := w2.heap.size) (v := .slice a7 m7 c7) (by simp), HE'.out.cell (b := w2.heap.size + 1) (v := .slice a8 m8 c8) (by simp)⟩ (fun hS' => ?_)
      clear hS'
      refine wpAnyH_listed (listed := #[true, true, true, true, true, true, true, true, true, true, true, false, true, true, true, true, false, false, false, false]) (by kernel_rfl) ?_
      have hl0 := HE.out.lt (b := P0) (v := .slice none 0 0) (by simp)
      have hl2 := HE.out.lt (b := P2) (v := .slice none 0 0) (by simp)
      have hl3 := HE.out.lt (b := P3) (v := .slice none 0 0) (by simp)
      have hb7 := HE.out.lt (b := w2.heap.size) (v := .slice a7 m7 c7) (by simp)
      have hb8 := HE.out.lt (b := w2.heap.size + 1) (v := .slice a8 m8 c8) (by simp)
      have hsz := HE.out.below.size
      have HA' : Hid (([P0, W.heap.size, P2, P3, w2.heap.size, w2.heap.size + 1] : List Nat).Nodup ∧ ∀ b ∈ ([P0, W.heap.size, P2, P3, w2.heap.size, w2.heap.size + 1] : List Nat), w.heap.size ≤ b) := hide (by have := HA.out; simp at this ⊢; omega)
      clear hb7 hb8 hsz hl0 hl2 hl3
      try clear HE
      try clear HA
      generalize W.alloc (.cells #[.slice none 0 0] 25) = W' at HE' ⊢
      generalize W.heap.size = P1 at HE' HA' ⊢
      revert HE'; revert HA'; revert HM2; revert HM1; revert HM0; revert W'; revert M2; revert q2; revert r2; revert M1; revert q1; revert r1; revert M0; revert q0; revert r0; revert P3; revert P2; revert P1; revert P0
      exact k3_0123.out
    exact AllReadyH.nil
  · intro k4_123 k3_0123
    intro P1 P2 P3 r0 q0 M0 r1 q1 M1 r2 q2 M2 W HM0 HM1 HM2 HA HE
    refine wpAnyH_ready (rs := [11, 12]) (by kernel_rfl) (by simp) ?_
    refine AllReadyH.cons (o := { dst := some 37, op := Op.call { callee := Callee.value (Operand.func 13), args := #[Operand.tmp 35, Operand.tmp 36], argTypes := #[25, 22] }, type := 25, pos := "law.go:23", after := #[{ on := 9, ground := Ground.data }, { on := 10, ground := Ground.data }, { on := 8, ground := Ground.chain }], guard := none }) rfl (fun K hK => ?_) ?_
    · have CC := hide (withD (a2 := a7) (c2 := c7) (n2 := m7) (s := s0) (a := a1) (c := c1) (n := n1) (l := l1) HE (by simp) (by simp) hm7 HN1 HU3 HUL3)
      go_simp
      go_at_call 13
      (with_reducible refine (Hid.out CC).mono ?_)
      rintro e W' ⟨r3, q3, M3, rfl, HM3, -, HE0⟩
      try go_wp2_with fail
      have HE' : Hid (Env w [(P1, .slice none 0 0), (P2, .slice none 0 0), (P3, .slice none 0 0), (w2.heap.size, .slice a7 m7 c7), (w2.heap.size + 1, .slice a8 m8 c8)] [(r0, q0, U0), (r1, q1, U1), (r2, q2, U2), (r3, q3, U3), (a8, c8, s1), (a7, c7, s0)] [(a0, c0, l0), (a1, c1, l1)] W') := hide (HE0.out.sub (by simp) (by simp) (by simp))
      refine hK.out _ _ ⟨HE'.out.cell (b := w2.heap.size) (v := .slice a7 m7 c7) (by simp), HE'.out.cell (b := w2.heap.size + 1) (v := .slice a8 m8 c8) (by simp)⟩ (fun hS' => ?_)
      clear hS'
      refine wpAnyH_listed (listed := #[true, true, true, true, true, true, true, true, true, true, true, true, false, true, true, true, false, false, false, false]) (by kernel_rfl) ?_
      have HA' := HA
      clear CC HE0
      try clear HE
      try clear HA
      revert HE'; revert HA'; revert HM3; revert HM2; revert HM1; revert HM0; revert W'; revert M3; revert q3; revert r3; revert M2; revert q2; revert r2; revert M1; revert q1; revert r1; revert M0; revert q0; revert r0; revert P3; revert P2; revert P1
      exact k4_123.out
    refine AllReadyH.cons (o := { dst := some 9, op := Op.alloc 25, type := 0, pos := "law.go:23", after := #[], guard := none }) rfl (fun K hK => ?_) ?_
    · go_simp
      have HE' : Hid (Env w [(W.heap.size, .slice none 0 0), (P1, .slice none 0 0), (P2, .slice none 0 0), (P3, .slice none 0 0), (w2.heap.size, .slice a7 m7 c7), (w2.heap.size + 1, .slice a8 m8 c8)] [(r0, q0, U0), (r1, q1, U1), (r2, q2, U2), (a8, c8, s1), (a7, c7, s0)] [(a0, c0, l0), (a1, c1, l1)] (W.alloc (.cells #[.slice none 0 0] 25))) := hide ((HE.out.box (.slice none 0 0) 25 rfl).sub (by simp) (by simp) (by simp))
      refine hK.out _ _ ⟨HE'.out.cell (b := w2.heap.size) (v := .slice a7 m7 c7) (by simp), HE'.out.cell (b := w2.heap.size + 1) (v := .slice a8 m8 c8) (by simp)⟩ (fun hS' => ?_)
      clear hS'
      refine wpAnyH_listed (listed := #[true, true, true, true, true, true, true, true, true, true, true, false, true, true, true, true, false, false, false, false]) (by kernel_rfl) ?_
      have hl1 := HE.out.lt (b := P1) (v := .slice none 0 0) (by simp)
      have hl2 := HE.out.lt (b := P2) (v := .slice none 0 0) (by simp)
      have hl3 := HE.out.lt (b := P3) (v := .slice none 0 0) (by simp)
      have hb7 := HE.out.lt (b := w2.heap.size) (v := .slice a7 m7 c7) (by simp)
      have hb8 := HE.out.lt (b := w2.heap.size + 1) (v := .slice a8 m8 c8) (by simp)
      have hsz := HE.out.below.size
      have HA' : Hid (([W.heap.size, P1, P2, P3, w2.heap.size, w2.heap.size + 1] : List Nat).Nodup ∧ ∀ b ∈ ([W.heap.size, P1, P2, P3, w2.heap.size, w2.heap.size + 1] : List Nat), w.heap.size ≤ b) := hide (by have := HA.out; simp at this ⊢; omega)
      clear hb7 hb8 hsz hl1 hl2 hl3
      try clear HE
      try clear HA
      generalize W.alloc (.cells #[.slice none 0 0] 25) = W' at HE' ⊢
      generalize W.heap.size = P0 at HE' HA' ⊢
      revert HE'; revert HA'; revert HM2; revert HM1; revert HM0; revert W'; revert M2; revert q2; revert r2; revert M1; revert q1; revert r1; revert M0; revert q0; revert r0; revert P3; revert P2; revert P1; revert P0
      exact k3_0123.out
    exact AllReadyH.nil
  · intro k4_012 k4_013
    intro P0 P1 r0 q0 M0 r1 q1 M1 r2 q2 M2 r3 q3 M3 W HM0 HM1 HM2 HM3 HA HE
    refine wpAnyH_ready (rs := [14, 15]) (by kernel_rfl) (by simp) ?_
    refine AllReadyH.cons (o := { dst := some 11, op := Op.alloc 25, type := 0, pos := "law.go:23", after := #[], guard := none }) rfl (fun K hK => ?_) ?_
    · go_simp
      have HE' : Hid (Env w [(P0, .slice none 0 0), (P1, .slice none 0 0), (W.heap.size, .slice none 0 0), (w2.heap.size, .slice a7 m7 c7), (w2.heap.size + 1, .slice a8 m8 c8)] [(r0, q0, U0), (r1, q1, U1), (r2, q2, U2), (r3, q3, U3), (a8, c8, s1), (a7, c7, s0)] [(a0, c0, l0), (a1, c1, l1)] (W.alloc (.cells #[.slice none 0 0] 25))) := hide ((HE.out.box (.slice none 0 0) 25 rfl).sub (by simp) (by simp) (by simp))
      refine hK.out _ _ ⟨HE'.out.cell (b := w2.heap.size) (v := .slice a7 m7 c7) (by simp), HE'.out.cell (b := w2.heap.size + 1) (v := .slice a8 m8 c8) (by simp)⟩ (fun hS' => ?_)
      clear hS'
      refine wpAnyH_listed (listed := #[true, true, true, true, true, true, true, true, true, true, true, true, true, true, true, false, false, false, false, false]) (by kernel_rfl) ?_
      have hl0 := HE.out.lt (b := P0) (v := .slice none 0 0) (by simp)
      have hl1 := HE.out.lt (b := P1) (v := .slice none 0 0) (by simp)
      have hb7 := HE.out.lt (b := w2.heap.size) (v := .slice a7 m7 c7) (by simp)
      have hb8 := HE.out.lt (b := w2.heap.size + 1) (v := .slice a8 m8 c8) (by simp)
      have hsz := HE.out.below.size
      have HA' : Hid (([P0, P1, W.heap.size, w2.heap.size, w2.heap.size + 1] : List Nat).Nodup ∧ ∀ b ∈ ([P0, P1, W.heap.size, w2.heap.size, w2.heap.size + 1] : List Nat), w.heap.size ≤ b) := hide (by have := HA.out; simp at this ⊢; omega)
      clear hb7 hb8 hsz hl0 hl1
      try clear HE
      try clear HA
      generalize W.alloc (.cells #[.slice none 0 0] 25) = W' at HE' ⊢
      generalize W.heap.size = P2 at HE' HA' ⊢
      revert HE'; revert HA'; revert HM3; revert HM2; revert HM1; revert HM0; revert W'; revert M3; revert q3; revert r3; revert M2; revert q2; revert r2; revert M1; revert q1; revert r1; revert M0; revert q0; revert r0; revert P2; revert P1; revert P0
      exact k4_012.out
    refine AllReadyH.cons (o := { dst := some 12, op := Op.alloc 25, type := 0, pos := "law.go:23", after := #[], guard := none }) rfl (fun K hK => ?_) ?_
    · go_simp
      have HE' : Hid (Env w [(P0, .slice none 0 0), (P1, .slice none 0 0), (W.heap.size, .slice none 0 0), (w2.heap.size, .slice a7 m7 c7), (w2.heap.size + 1, .slice a8 m8 c8)] [(r0, q0, U0), (r1, q1, U1), (r2, q2, U2), (r3, q3, U3), (a8, c8, s1), (a7, c7, s0)] [(a0, c0, l0), (a1, c1, l1)] (W.alloc (.cells #[.slice none 0 0] 25))) := hide ((HE.out.box (.slice none 0 0) 25 rfl).sub (by simp) (by simp) (by simp))
      refine hK.out _ _ ⟨HE'.out.cell (b := w2.heap.size) (v := .slice a7 m7 c7) (by simp), HE'.out.cell (b := w2.heap.size + 1) (v := .slice a8 m8 c8) (by simp)⟩ (fun hS' => ?_)
      clear hS'
      refine wpAnyH_listed (listed := #[true, true, true, true, true, true, true, true, true, true, true, true, true, true, false, true, false, false, false, false]) (by kernel_rfl) ?_
      have hl0 := HE.out.lt (b := P0) (v := .slice none 0 0) (by simp)
      have hl1 := HE.out.lt (b := P1) (v := .slice none 0 0) (by simp)
      have hb7 := HE.out.lt (b := w2.heap.size) (v := .slice a7 m7 c7) (by simp)
      have hb8 := HE.out.lt (b := w2.heap.size + 1) (v := .slice a8 m8 c8) (by simp)
      have hsz := HE.out.below.size
      have HA' : Hid (([P0, P1, W.heap.size, w2.heap.size, w2.heap.size + 1] : List Nat).Nodup ∧ ∀ b ∈ ([P0, P1, W.heap.size, w2.heap.size, w2.heap.size + 1] : List Nat), w.heap.size ≤ b) := hide (by have := HA.out; simp at this ⊢; omega)
      clear hb7 hb8 hsz hl0 hl1
      try clear HE
      try clear HA
      generalize W.alloc (.cells #[.slice none 0 0] 25) = W' at HE' ⊢
      generalize W.heap.size = P3 at HE' HA' ⊢
      revert HE'; revert HA'; revert HM3; revert HM2; revert HM1; revert HM0; revert W'; revert M3; revert q3; revert r3; revert M2; revert q2; revert r2; revert M1; revert q1; revert r1; revert M0; revert q0; revert r0; revert P3; revert P1; revert P0
      exact k4_013.out
    exact AllReadyH.nil
  · intro k4_012 k4_023
    intro P0 P2 r0 q0 M0 r1 q1 M1 r2 q2 M2 r3 q3 M3 W HM0 HM1 HM2 HM3 HA HE
    refine wpAnyH_ready (rs := [13, 15]) (by kernel_rfl) (by simp) ?_
    refine AllReadyH.cons (o := { dst := some 10, op := Op.alloc 25, type := 0, pos := "law.go:23", after := #[], guard := none }) rfl (fun K hK => ?_) ?_
    · go_simp
      have HE' : Hid (Env w [(P0, .slice none 0 0), (W.heap.size, .slice none 0 0), (P2, .slice none 0 0), (w2.heap.size, .slice a7 m7 c7), (w2.heap.size + 1, .slice a8 m8 c8)] [(r0, q0, U0), (r1, q1, U1), (r2, q2, U2), (r3, q3, U3), (a8, c8, s1), (a7, c7, s0)] [(a0, c0, l0), (a1, c1, l1)] (W.alloc (.cells #[.slice none 0 0] 25))) := hide ((HE.out.box (.slice none 0 0) 25 rfl).sub (by simp) (by simp) (by simp))
      refine hK.out _ _ ⟨HE'.out.cell (b := w2.heap.size) (v := .slice a7 m7 c7) (by simp), HE'.out.cell (b := w2.heap.size + 1) (v := .slice a8 m8 c8) (by simp)⟩ (fun hS' => ?_)
      clear hS'
      refine wpAnyH_listed (listed := #[true, true, true, true, true, true, true, true, true, true, true, true, true, true, true, false, false, false, false, false]) (by kernel_rfl) ?_
      have hl0 := HE.out.lt (b := P0) (v := .slice none 0 0) (by simp)
      have hl2 := HE.out.lt (b := P2) (v := .slice none 0 0) (by simp)
      have hb7 := HE.out.lt (b := w2.heap.size) (v := .slice a7 m7 c7) (by simp)
      have hb8 := HE.out.lt (b := w2.heap.size + 1) (v := .slice a8 m8 c8) (by simp)
      have hsz := HE.out.below.size
      have HA' : Hid (([P0, W.heap.size, P2, w2.heap.size, w2.heap.size + 1] : List Nat).Nodup ∧ ∀ b ∈ ([P0, W.heap.size, P2, w2.heap.size, w2.heap.size + 1] : List Nat), w.heap.size ≤ b) := hide (by have := HA.out; simp at this ⊢; omega)
      clear hb7 hb8 hsz hl0 hl2
      try clear HE
      try clear HA
      generalize W.alloc (.cells #[.slice none 0 0] 25) = W' at HE' ⊢
      generalize W.heap.size = P1 at HE' HA' ⊢
      revert HE'; revert HA'; revert HM3; revert HM2; revert HM1; revert HM0; revert W'; revert M3; revert q3; revert r3; revert M2; revert q2; revert r2; revert M1; revert q1; revert r1; revert M0; revert q0; revert r0; revert P2; revert P1; revert P0
      exact k4_012.out
    refine AllReadyH.cons (o := { dst := some 12, op := Op.alloc 25, type := 0, pos := "law.go:23", after := #[], guard := none }) rfl (fun K hK => ?_) ?_
    · go_simp
      have HE' : Hid (Env w [(P0, .slice none 0 0), (P2, .slice none 0 0), (W.heap.size, .slice none 0 0), (w2.heap.size, .slice a7 m7 c7), (w2.heap.size + 1, .slice a8 m8 c8)] [(r0, q0, U0), (r1, q1, U1), (r2, q2, U2), (r3, q3, U3), (a8, c8, s1), (a7, c7, s0)] [(a0, c0, l0), (a1, c1, l1)] (W.alloc (.cells #[.slice none 0 0] 25))) := hide ((HE.out.box (.slice none 0 0) 25 rfl).sub (by simp) (by simp) (by simp))
      refine hK.out _ _ ⟨HE'.out.cell (b := w2.heap.size) (v := .slice a7 m7 c7) (by simp), HE'.out.cell (b := w2.heap.size + 1) (v := .slice a8 m8 c8) (by simp)⟩ (fun hS' => ?_)
      clear hS'
      refine wpAnyH_listed (listed := #[true, true, true, true, true, true, true, true, true, true, true, true, true, false, true, true, false, false, false, false]) (by kernel_rfl) ?_
      have hl0 := HE.out.lt (b := P0) (v := .slice none 0 0) (by simp)
      have hl2 := HE.out.lt (b := P2) (v := .slice none 0 0) (by simp)
      have hb7 := HE.out.lt (b := w2.heap.size) (v := .slice a7 m7 c7) (by simp)
      have hb8 := HE.out.lt (b := w2.heap.size + 1) (v := .slice a8 m8 c8) (by simp)
      have hsz := HE.out.below.size
      have HA' : Hid (([P0, P2, W.heap.size, w2.heap.size, w2.heap.size + 1] : List Nat).Nodup ∧ ∀ b ∈ ([P0, P2, W.heap.size, w2.heap.size, w2.heap.size + 1] : List Nat), w.heap.size ≤ b) := hide (by have := HA.out; simp at this ⊢; omega)
      clear hb7 hb8 hsz hl0 hl2
      try clear HE
      try clear HA
      generalize W.alloc (.cells #[.slice none 0 0] 25) = W' at HE' ⊢
      generalize W.heap.size = P3 at HE' HA' ⊢
      revert HE'; revert HA'; revert HM3; revert HM2; revert HM1; revert HM0; revert W'; revert M3; revert q3; revert r3; revert M2; revert q2; revert r2; revert M1; revert q1; revert r1; revert M0; revert q0; revert r0; revert P3; revert P2; revert P0
      exact k4_023.out
    exact AllReadyH.nil
  · intro k4_013 k4_023
    intro P0 P3 r0 q0 M0 r1 q1 M1 r2 q2 M2 r3 q3 M3 W HM0 HM1 HM2 HM3 HA HE
    refine wpAnyH_ready (rs := [13, 14]) (by kernel_rfl) (by simp) ?_
    refine AllReadyH.cons (o := { dst := some 10, op := Op.alloc 25, type := 0, pos := "law.go:23", after := #[], guard := none }) rfl (fun K hK => ?_) ?_
    · go_simp
      have HE' : Hid (Env w [(P0, .slice none 0 0), (W.heap.size, .slice none 0 0), (P3, .slice none 0 0), (w2.heap.size, .slice a7 m7 c7), (w2.heap.size + 1, .slice a8 m8 c8)] [(r0, q0, U0), (r1, q1, U1), (r2, q2, U2), (r3, q3, U3), (a8, c8, s1), (a7, c7, s0)] [(a0, c0, l0), (a1, c1, l1)] (W.alloc (.cells #[.slice none 0 0] 25))) := hide ((HE.out.box (.slice none 0 0) 25 rfl).sub (by simp) (by simp) (by simp))
      refine hK.out _ _ ⟨HE'.out.cell (b := w2.heap.size) (v := .slice a7 m7 c7) (by simp), HE'.out.cell (b := w2.heap.size + 1) (v := .slice a8 m8 c8) (by simp)⟩ (fun hS' => ?_)
      clear hS'
      refine wpAnyH_listed (listed := #[true, true, true, true, true, true, true, true, true, true, true, true, true, true, false, true, false, false, false, false]) (by kernel_rfl) ?_
      have hl0 := HE.out.lt (b := P0) (v := .slice none 0 0) (by simp)
      have hl3 := HE.out.lt (b := P3) (v := .slice none 0 0) (by simp)
      have hb7 := HE.out.lt (b := w2.heap.size) (v := .slice a7 m7 c7) (by simp)
      have hb8 := HE.out.lt (b := w2.heap.size + 1) (v := .slice a8 m8 c8) (by simp)
      have hsz := HE.out.below.size
      have HA' : Hid (([P0, W.heap.size, P3, w2.heap.size, w2.heap.size + 1] : List Nat).Nodup ∧ ∀ b ∈ ([P0, W.heap.size, P3, w2.heap.size, w2.heap.size + 1] : List Nat), w.heap.size ≤ b) := hide (by have := HA.out; simp at this ⊢; omega)
      clear hb7 hb8 hsz hl0 hl3
      try clear HE
      try clear HA
      generalize W.alloc (.cells #[.slice none 0 0] 25) = W' at HE' ⊢
      generalize W.heap.size = P1 at HE' HA' ⊢
      revert HE'; revert HA'; revert HM3; revert HM2; revert HM1; revert HM0; revert W'; revert M3; revert q3; revert r3; revert M2; revert q2; revert r2; revert M1; revert q1; revert r1; revert M0; revert q0; revert r0; revert P3; revert P1; revert P0
      exact k4_013.out
    refine AllReadyH.cons (o := { dst := some 11, op := Op.alloc 25, type := 0, pos := "law.go:23", after := #[], guard := none }) rfl (fun K hK => ?_) ?_
    · go_simp
      have HE' : Hid (Env w [(P0, .slice none 0 0), (W.heap.size, .slice none 0 0), (P3, .slice none 0 0), (w2.heap.size, .slice a7 m7 c7), (w2.heap.size + 1, .slice a8 m8 c8)] [(r0, q0, U0), (r1, q1, U1), (r2, q2, U2), (r3, q3, U3), (a8, c8, s1), (a7, c7, s0)] [(a0, c0, l0), (a1, c1, l1)] (W.alloc (.cells #[.slice none 0 0] 25))) := hide ((HE.out.box (.slice none 0 0) 25 rfl).sub (by simp) (by simp) (by simp))
      refine hK.out _ _ ⟨HE'.out.cell (b := w2.heap.size) (v := .slice a7 m7 c7) (by simp), HE'.out.cell (b := w2.heap.size + 1) (v := .slice a8 m8 c8) (by simp)⟩ (fun hS' => ?_)
      clear hS'
      refine wpAnyH_listed (listed := #[true, true, true, true, true, true, true, true, true, true, true, true, true, false, true, true, false, false, false, false]) (by kernel_rfl) ?_
      have hl0 := HE.out.lt (b := P0) (v := .slice none 0 0) (by simp)
      have hl3 := HE.out.lt (b := P3) (v := .slice none 0 0) (by simp)
      have hb7 := HE.out.lt (b := w2.heap.size) (v := .slice a7 m7 c7) (by simp)
      have hb8 := HE.out.lt (b := w2.heap.size + 1) (v := .slice a8 m8 c8) (by simp)
      have hsz := HE.out.below.size
      have HA' : Hid (([P0, W.heap.size, P3, w2.heap.size, w2.heap.size + 1] : List Nat).Nodup ∧ ∀ b ∈ ([P0, W.heap.size, P3, w2.heap.size, w2.heap.size + 1] : List Nat), w.heap.size ≤ b) := hide (by have := HA.out; simp at this ⊢; omega)
      clear hb7 hb8 hsz hl0 hl3
      try clear HE
      try clear HA
      generalize W.alloc (.cells #[.slice none 0 0] 25) = W' at HE' ⊢
      generalize W.heap.size = P2 at HE' HA' ⊢
      revert HE'; revert HA'; revert HM3; revert HM2; revert HM1; revert HM0; revert W'; revert M3; revert q3; revert r3; revert M2; revert q2; revert r2; revert M1; revert q1; revert r1; revert M0; revert q0; revert r0; revert P3; revert P2; revert P0
      exact k4_023.out
    exact AllReadyH.nil
  · intro k4_012 k4_123
    intro P1 P2 r0 q0 M0 r1 q1 M1 r2 q2 M2 r3 q3 M3 W HM0 HM1 HM2 HM3 HA HE
    refine wpAnyH_ready (rs := [12, 15]) (by kernel_rfl) (by simp) ?_
    refine AllReadyH.cons (o := { dst := some 9, op := Op.alloc 25, type := 0, pos := "law.go:23", after := #[], guard := none }) rfl (fun K hK => ?_) ?_
    · go_simp
      have HE' : Hid (Env w [(W.heap.size, .slice none 0 0), (P1, .slice none 0 0), (P2, .slice none 0 0), (w2.heap.size, .slice a7 m7 c7), (w2.heap.size + 1, .slice a8 m8 c8)] [(r0, q0, U0), (r1, q1, U1), (r2, q2, U2), (r3, q3, U3), (a8, c8, s1), (a7, c7, s0)] [(a0, c0, l0), (a1, c1, l1)] (W.alloc (.cells #[.slice none 0 0] 25))) := hide ((HE.out.box (.slice none 0 0) 25 rfl).sub (by simp) (by simp) (by simp))
      refine hK.out _ _ ⟨HE'.out.cell (b := w2.heap.size) (v := .slice a7 m7 c7) (by simp), HE'.out.cell (b := w2.heap.size + 1) (v := .slice a8 m8 c8) (by simp)⟩ (fun hS' => ?_)
      clear hS'
      refine wpAnyH_listed (listed := #[true, true, true, true, true, true, true, true, true, true, true, true, true, true, true, false, false, false, false, false]) (by kernel_rfl) ?_
      have hl1 := HE.out.lt (b := P1) (v := .slice none 0 0) (by simp)
      have hl2 := HE.out.lt (b := P2) (v := .slice none 0 0) (by simp)
      have hb7 := HE.out.lt (b := w2.heap.size) (v := .slice a7 m7 c7) (by simp)
      have hb8 := HE.out.lt (b := w2.heap.size + 1) (v := .slice a8 m8 c8) (by simp)
      have hsz := HE.out.below.size
      have HA' : Hid (([W.heap.size, P1, P2, w2.heap.size, w2.heap.size + 1] : List Nat).Nodup ∧ ∀ b ∈ ([W.heap.size, P1, P2, w2.heap.size, w2.heap.size + 1] : List Nat), w.heap.size ≤ b) := hide (by have := HA.out; simp at this ⊢; omega)
      clear hb7 hb8 hsz hl1 hl2
      try clear HE
      try clear HA
      generalize W.alloc (.cells #[.slice none 0 0] 25) = W' at HE' ⊢
      generalize W.heap.size = P0 at HE' HA' ⊢
      revert HE'; revert HA'; revert HM3; revert HM2; revert HM1; revert HM0; revert W'; revert M3; revert q3; revert r3; revert M2; revert q2; revert r2; revert M1; revert q1; revert r1; revert M0; revert q0; revert r0; revert P2; revert P1; revert P0
      exact k4_012.out
    refine AllReadyH.cons (o := { dst := some 12, op := Op.alloc 25, type := 0, pos := "law.go:23", after := #[], guard := none }) rfl (fun K hK => ?_) ?_
    · go_simp
      have HE' : Hid (Env w [(P1, .slice none 0 0), (P2, .slice none 0 0), (W.heap.size, .slice none 0 0), (w2.heap.size, .slice a7 m7 c7), (w2.heap.size + 1, .slice a8 m8 c8)] [(r0, q0, U0), (r1, q1, U1), (r2, q2, U2), (r3, q3, U3), (a8, c8, s1), (a7, c7, s0)] [(a0, c0, l0), (a1, c1, l1)] (W.alloc (.cells #[.slice none 0 0] 25))) := hide ((HE.out.box (.slice none 0 0) 25 rfl).sub (by simp) (by simp) (by simp))
      refine hK.out _ _ ⟨HE'.out.cell (b := w2.heap.size) (v := .slice a7 m7 c7) (by simp), HE'.out.cell (b := w2.heap.size + 1) (v := .slice a8 m8 c8) (by simp)⟩ (fun hS' => ?_)
      clear hS'
      refine wpAnyH_listed (listed := #[true, true, true, true, true, true, true, true, true, true, true, true, false, true, true, true, false, false, false, false]) (by kernel_rfl) ?_
      have hl1 := HE.out.lt (b := P1) (v := .slice none 0 0) (by simp)
      have hl2 := HE.out.lt (b := P2) (v := .slice none 0 0) (by simp)
      have hb7 := HE.out.lt (b := w2.heap.size) (v := .slice a7 m7 c7) (by simp)
      have hb8 := HE.out.lt (b := w2.heap.size + 1) (v := .slice a8 m8 c8) (by simp)
      have hsz := HE.out.below.size
      have HA' : Hid (([P1, P2, W.heap.size, w2.heap.size, w2.heap.size + 1] : List Nat).Nodup ∧ ∀ b ∈ ([P1, P2, W.heap.size, w2.heap.size, w2.heap.size + 1] : List Nat), w.heap.size ≤ b) := hide (by have := HA.out; simp at this ⊢; omega)
      clear hb7 hb8 hsz hl1 hl2
      try clear HE
      try clear HA
      generalize W.alloc (.cells #[.slice none 0 0] 25) = W' at HE' ⊢
      generalize W.heap.size = P3 at HE' HA' ⊢
      revert HE'; revert HA'; revert HM3; revert HM2; revert HM1; revert HM0; revert W'; revert M3; revert q3; revert r3; revert M2; revert q2; revert r2; revert M1; revert q1; revert r1; revert M0; revert q0; revert r0; revert P3; revert P2; revert P1
      exact k4_123.out
    exact AllReadyH.nil
  · intro k4_013 k4_123
    intro P1 P3 r0 q0 M0 r1 q1 M1 r2 q2 M2 r3 q3 M3 W HM0 HM1 HM2 HM3 HA HE
    refine wpAnyH_ready (rs := [12, 14]) (by kernel_rfl) (by simp) ?_
    refine AllReadyH.cons (o := { dst := some 9, op := Op.alloc 25, type := 0, pos := "law.go:23", after := #[], guard := none }) rfl (fun K hK => ?_) ?_
    · go_simp
      have HE' : Hid (Env w [(W.heap.size, .slice none 0 0), (P1, .slice none 0 0), (P3, .slice none 0 0), (w2.heap.size, .slice a7 m7 c7), (w2.heap.size + 1, .slice a8 m8 c8)] [(r0, q0, U0), (r1, q1, U1), (r2, q2, U2), (r3, q3, U3), (a8, c8, s1), (a7, c7, s0)] [(a0, c0, l0), (a1, c1, l1)] (W.alloc (.cells #[.slice none 0 0] 25))) := hide ((HE.out.box (.slice none 0 0) 25 rfl).sub (by simp) (by simp) (by simp))
      refine hK.out _ _ ⟨HE'.out.cell (b := w2.heap.size) (v := .slice a7 m7 c7) (by simp), HE'.out.cell (b := w2.heap.size + 1) (v := .slice a8 m8 c8) (by simp)⟩ (fun hS' => ?_)
      clear hS'
      refine wpAnyH_listed (listed := #[true, true, true, true, true, true, true, true, true, true, true, true, true, true, false, true, false, false, false, false]) (by kernel_rfl) ?_
      have hl1 := HE.out.lt (b := P1) (v := .slice none 0 0) (by simp)
      have hl3 := HE.out.lt (b := P3) (v := .slice none 0 0) (by simp)
      have hb7 := HE.out.lt (b := w2.heap.size) (v := .slice a7 m7 c7) (by simp)
      have hb8 := HE.out.lt (b := w2.heap.size + 1) (v := .slice a8 m8 c8) (by simp)
      have hsz := HE.out.below.size
      have HA' : Hid (([W.heap.size, P1, P3, w2.heap.size, w2.heap.size + 1] : List Nat).Nodup ∧ ∀ b ∈ ([W.heap.size, P1, P3, w2.heap.size, w2.heap.size + 1] : List Nat), w.heap.size ≤ b) := hide (by have := HA.out; simp at this ⊢; omega)
      clear hb7 hb8 hsz hl1 hl3
      try clear HE
      try clear HA
      generalize W.alloc (.cells #[.slice none 0 0] 25) = W' at HE' ⊢
      generalize W.heap.size = P0 at HE' HA' ⊢
      revert HE'; revert HA'; revert HM3; revert HM2; revert HM1; revert HM0; revert W'; revert M3; revert q3; revert r3; revert M2; revert q2; revert r2; revert M1; revert q1; revert r1; revert M0; revert q0; revert r0; revert P3; revert P1; revert P0
      exact k4_013.out
    refine AllReadyH.cons (o := { dst := some 11, op := Op.alloc 25, type := 0, pos := "law.go:23", after := #[], guard := none }) rfl (fun K hK => ?_) ?_
    · go_simp
      have HE' : Hid (Env w [(P1, .slice none 0 0), (W.heap.size, .slice none 0 0), (P3, .slice none 0 0), (w2.heap.size, .slice a7 m7 c7), (w2.heap.size + 1, .slice a8 m8 c8)] [(r0, q0, U0), (r1, q1, U1), (r2, q2, U2), (r3, q3, U3), (a8, c8, s1), (a7, c7, s0)] [(a0, c0, l0), (a1, c1, l1)] (W.alloc (.cells #[.slice none 0 0] 25))) := hide ((HE.out.box (.slice none 0 0) 25 rfl).sub (by simp) (by simp) (by simp))
      refine hK.out _ _ ⟨HE'.out.cell (b := w2.heap.size) (v := .slice a7 m7 c7) (by simp), HE'.out.cell (b := w2.heap.size + 1) (v := .slice a8 m8 c8) (by simp)⟩ (fun hS' => ?_)
      clear hS'
      refine wpAnyH_listed (listed := #[true, true, true, true, true, true, true, true, true, true, true, true, false, true, true, true, false, false, false, false]) (by kernel_rfl) ?_
      have hl1 := HE.out.lt (b := P1) (v := .slice none 0 0) (by simp)
      have hl3 := HE.out.lt (b := P3) (v := .slice none 0 0) (by simp)
      have hb7 := HE.out.lt (b := w2.heap.size) (v := .slice a7 m7 c7) (by simp)
      have hb8 := HE.out.lt (b := w2.heap.size + 1) (v := .slice a8 m8 c8) (by simp)
      have hsz := HE.out.below.size
      have HA' : Hid (([P1, W.heap.size, P3, w2.heap.size, w2.heap.size + 1] : List Nat).Nodup ∧ ∀ b ∈ ([P1, W.heap.size, P3, w2.heap.size, w2.heap.size + 1] : List Nat), w.heap.size ≤ b) := hide (by have := HA.out; simp at this ⊢; omega)
      clear hb7 hb8 hsz hl1 hl3
      try clear HE
      try clear HA
      generalize W.alloc (.cells #[.slice none 0 0] 25) = W' at HE' ⊢
      generalize W.heap.size = P2 at HE' HA' ⊢
      revert HE'; revert HA'; revert HM3; revert HM2; revert HM1; revert HM0; revert W'; revert M3; revert q3; revert r3; revert M2; revert q2; revert r2; revert M1; revert q1; revert r1; revert M0; revert q0; revert r0; revert P3; revert P2; revert P1
      exact k4_123.out
    exact AllReadyH.nil
  · intro k4_023 k4_123
    intro P2 P3 r0 q0 M0 r1 q1 M1 r2 q2 M2 r3 q3 M3 W HM0 HM1 HM2 HM3 HA HE
    refine wpAnyH_ready (rs := [12, 13]) (by kernel_rfl) (by simp) ?_
    refine AllReadyH.cons (o := { dst := some 9, op := Op.alloc 25, type := 0, pos := "law.go:23", after := #[], guard := none }) rfl (fun K hK => ?_) ?_
    · go_simp
      have HE' : Hid (Env w [(W.heap.size, .slice none 0 0), (P2, .slice none 0 0), (P3, .slice none 0 0), (w2.heap.size, .slice a7 m7 c7), (w2.heap.size + 1, .slice a8 m8 c8)] [(r0, q0, U0), (r1, q1, U1), (r2, q2, U2), (r3, q3, U3), (a8, c8, s1), (a7, c7, s0)] [(a0, c0, l0), (a1, c1, l1)] (W.alloc (.cells #[.slice none 0 0] 25))) := hide ((HE.out.box (.slice none 0 0) 25 rfl).sub (by simp) (by simp) (by simp))
      refine hK.out _ _ ⟨HE'.out.cell (b := w2.heap.size) (v := .slice a7 m7 c7) (by simp), HE'.out.cell (b := w2.heap.size + 1) (v := .slice a8 m8 c8) (by simp)⟩ (fun hS' => ?_)
      clear hS'
      refine wpAnyH_listed (listed := #[true, true, true, true, true, true, true, true, true, true, true, true, true, false, true, true, false, false, false, false]) (by kernel_rfl) ?_
      have hl2 := HE.out.lt (b := P2) (v := .slice none 0 0) (by simp)
      have hl3 := HE.out.lt (b := P3) (v := .slice none 0 0) (by simp)
      have hb7 := HE.out.lt (b := w2.heap.size) (v := .slice a7 m7 c7) (by simp)
      have hb8 := HE.out.lt (b := w2.heap.size + 1) (v := .slice a8 m8 c8) (by simp)
      have hsz := HE.out.below.size
      have HA' : Hid (([W.heap.size, P2, P3, w2.heap.size, w2.heap.size + 1] : List Nat).Nodup ∧ ∀ b ∈ ([W.heap.size, P2, P3, w2.heap.size, w2.heap.size + 1] : List Nat), w.heap.size ≤ b) := hide (by have := HA.out; simp at this ⊢; omega)
      clear hb7 hb8 hsz hl2 hl3
      try clear HE
      try clear HA
      generalize W.alloc (.cells #[.slice none 0 0] 25) = W' at HE' ⊢
      generalize W.heap.size = P0 at HE' HA' ⊢
      revert HE'; revert HA'; revert HM3; revert HM2; revert HM1; revert HM0; revert W'; revert M3; revert q3; revert r3; revert M2; revert q2; revert r2; revert M1; revert q1; revert r1; revert M0; revert q0; revert r0; revert P3; revert P2; revert P0
      exact k4_023.out
    refine AllReadyH.cons (o := { dst := some 10, op := Op.alloc 25, type := 0, pos := "law.go:23", after := #[], guard := none }) rfl (fun K hK => ?_) ?_
    · go_simp
      have HE' : Hid (Env w [(W.heap.size, .slice none 0 0), (P2, .slice none 0 0), (P3, .slice none 0 0), (w2.heap.size, .slice a7 m7 c7), (w2.heap.size + 1, .slice a8 m8 c8)] [(r0, q0, U0), (r1, q1, U1), (r2, q2, U2), (r3, q3, U3), (a8, c8, s1), (a7, c7, s0)] [(a0, c0, l0), (a1, c1, l1)] (W.alloc (.cells #[.slice none 0 0] 25))) := hide ((HE.out.box (.slice none 0 0) 25 rfl).sub (by simp) (by simp) (by simp))
      refine hK.out _ _ ⟨HE'.out.cell (b := w2.heap.size) (v := .slice a7 m7 c7) (by simp), HE'.out.cell (b := w2.heap.size + 1) (v := .slice a8 m8 c8) (by simp)⟩ (fun hS' => ?_)
      clear hS'
      refine wpAnyH_listed (listed := #[true, true, true, true, true, true, true, true, true, true, true, true, false, true, true, true, false, false, false, false]) (by kernel_rfl) ?_
      have hl2 := HE.out.lt (b := P2) (v := .slice none 0 0) (by simp)
      have hl3 := HE.out.lt (b := P3) (v := .slice none 0 0) (by simp)
      have hb7 := HE.out.lt (b := w2.heap.size) (v := .slice a7 m7 c7) (by simp)
      have hb8 := HE.out.lt (b := w2.heap.size + 1) (v := .slice a8 m8 c8) (by simp)
      have hsz := HE.out.below.size
      have HA' : Hid (([W.heap.size, P2, P3, w2.heap.size, w2.heap.size + 1] : List Nat).Nodup ∧ ∀ b ∈ ([W.heap.size, P2, P3, w2.heap.size, w2.heap.size + 1] : List Nat), w.heap.size ≤ b) := hide (by have := HA.out; simp at this ⊢; omega)
      clear hb7 hb8 hsz hl2 hl3
      try clear HE
      try clear HA
      generalize W.alloc (.cells #[.slice none 0 0] 25) = W' at HE' ⊢
      generalize W.heap.size = P1 at HE' HA' ⊢
      revert HE'; revert HA'; revert HM3; revert HM2; revert HM1; revert HM0; revert W'; revert M3; revert q3; revert r3; revert M2; revert q2; revert r2; revert M1; revert q1; revert r1; revert M0; revert q0; revert r0; revert P3; revert P2; revert P1
      exact k4_123.out
    exact AllReadyH.nil
  · intro k4_0123
    intro P0 P1 P2 P3 r0 q0 M0 r1 q1 M1 r2 q2 M2 W HM0 HM1 HM2 HA HE
    refine wpAnyH_ready (rs := [11]) (by kernel_rfl) (by simp) ?_
    refine AllReadyH.cons (o := { dst := some 37, op := Op.call { callee := Callee.value (Operand.func 13), args := #[Operand.tmp 35, Operand.tmp 36], argTypes := #[25, 22] }, type := 25, pos := "law.go:23", after := #[{ on := 9, ground := Ground.data }, { on := 10, ground := Ground.data }, { on := 8, ground := Ground.chain }], guard := none }) rfl (fun K hK => ?_) ?_
    · have CC := hide (withD (a2 := a7) (c2 := c7) (n2 := m7) (s := s0) (a := a1) (c := c1) (n := n1) (l := l1) HE (by simp) (by simp) hm7 HN1 HU3 HUL3)
      go_simp
      go_at_call 13
      (with_reducible refine (Hid.out CC).mono ?_)
      rintro e W' ⟨r3, q3, M3, rfl, HM3, -, HE0⟩
      try go_wp2_with fail
      have HE' : Hid (Env w [(P0, .slice none 0 0), (P1, .slice none 0 0), (P2, .slice none 0 0), (P3, .slice none 0 0), (w2.heap.size, .slice a7 m7 c7), (w2.heap.size + 1, .slice a8 m8 c8)] [(r0, q0, U0), (r1, q1, U1), (r2, q2, U2), (r3, q3, U3), (a8, c8, s1), (a7, c7, s0)] [(a0, c0, l0), (a1, c1, l1)] W') := hide (HE0.out.sub (by simp) (by simp) (by simp))
      refine hK.out _ _ ⟨HE'.out.cell (b := w2.heap.size) (v := .slice a7 m7 c7) (by simp), HE'.out.cell (b := w2.heap.size + 1) (v := .slice a8 m8 c8) (by simp)⟩ (fun hS' => ?_)
      clear hS'
      refine wpAnyH_listed (listed := #[true, true, true, true, true, true, true, true, true, true, true, true, true, true, true, true, false, false, false, false]) (by kernel_rfl) ?_
      have HA' := HA
      clear CC HE0
      try clear HE
      try clear HA
      revert HE'; revert HA'; revert HM3; revert HM2; revert HM1; revert HM0; revert W'; revert M3; revert q3; revert r3; revert M2; revert q2; revert r2; revert M1; revert q1; revert r1; revert M0; revert q0; revert r0; revert P3; revert P2; revert P1; revert P0
      exact k4_0123.out
    exact AllReadyH.nil
  · intro k4_0123
    intro P0 P1 P2 r0 q0 M0 r1 q1 M1 r2 q2 M2 r3 q3 M3 W HM0 HM1 HM2 HM3 HA HE
    refine wpAnyH_ready (rs := [15]) (by kernel_rfl) (by simp) ?_
    refine AllReadyH.cons (o := { dst := some 12, op := Op.alloc 25, type := 0, pos := "law.go:23", after := #[], guard := none }) rfl (fun K hK => ?_) ?_
    · go_simp
      have HE' : Hid (Env w [(P0, .slice none 0 0), (P1, .slice none 0 0), (P2, .slice none 0 0), (W.heap.size, .slice none 0 0), (w2.heap.size, .slice a7 m7 c7), (w2.heap.size + 1, .slice a8 m8 c8)] [(r0, q0, U0), (r1, q1, U1), (r2, q2, U2), (r3, q3, U3), (a8, c8, s1), (a7, c7, s0)] [(a0, c0, l0), (a1, c1, l1)] (W.alloc (.cells #[.slice none 0 0] 25))) := hide ((HE.out.box (.slice none 0 0) 25 rfl).sub (by simp) (by simp) (by simp))
      refine hK.out _ _ ⟨HE'.out.cell (b := w2.heap.size) (v := .slice a7 m7 c7) (by simp), HE'.out.cell (b := w2.heap.size + 1) (v := .slice a8 m8 c8) (by simp)⟩ (fun hS' => ?_)
      clear hS'
      refine wpAnyH_listed (listed := #[true, true, true, true, true, true, true, true, true, true, true, true, true, true, true, true, false, false, false, false]) (by kernel_rfl) ?_
      have hl0 := HE.out.lt (b := P0) (v := .slice none 0 0) (by simp)
      have hl1 := HE.out.lt (b := P1) (v := .slice none 0 0) (by simp)
      have hl2 := HE.out.lt (b := P2) (v := .slice none 0 0) (by simp)
      have hb7 := HE.out.lt (b := w2.heap.size) (v := .slice a7 m7 c7) (by simp)
      have hb8 := HE.out.lt (b := w2.heap.size + 1) (v := .slice a8 m8 c8) (by simp)
      have hsz := HE.out.below.size
      have HA' : Hid (([P0, P1, P2, W.heap.size, w2.heap.size, w2.heap.size + 1] : List Nat).Nodup ∧ ∀ b ∈ ([P0, P1, P2, W.heap.size, w2.heap.size, w2.heap.size + 1] : List Nat), w.heap.size ≤ b) := hide (by have := HA.out; simp at this ⊢; omega)
      clear hb7 hb8 hsz hl0 hl1 hl2
      try clear HE
      try clear HA
      generalize W.alloc (.cells #[.slice none 0 0] 25) = W' at HE' ⊢
      generalize W.heap.size = P3 at HE' HA' ⊢
      revert HE'; revert HA'; revert HM3; revert HM2; revert HM1; revert HM0; revert W'; revert M3; revert q3; revert r3; revert M2; revert q2; revert r2; revert M1; revert q1; revert r1; revert M0; revert q0; revert r0; revert P3; revert P2; revert P1; revert P0
      exact k4_0123.out
    exact AllReadyH.nil
  · intro k4_0123
    intro P0 P1 P3 r0 q0 M0 r1 q1 M1 r2 q2 M2 r3 q3 M3 W HM0 HM1 HM2 HM3 HA HE
    refine wpAnyH_ready (rs := [14]) (by kernel_rfl) (by simp) ?_
    refine AllReadyH.cons (o := { dst := some 11, op := Op.alloc 25, type := 0, pos := "law.go:23", after := #[], guard := none }) rfl (fun K hK => ?_) ?_
    · go_simp
      have HE' : Hid (Env w [(P0, .slice none 0 0), (P1, .slice none 0 0), (W.heap.size, .slice none 0 0), (P3, .slice none 0 0), (w2.heap.size, .slice a7 m7 c7), (w2.heap.size + 1, .slice a8 m8 c8)] [(r0, q0, U0), (r1, q1, U1), (r2, q2, U2), (r3, q3, U3), (a8, c8, s1), (a7, c7, s0)] [(a0, c0, l0), (a1, c1, l1)] (W.alloc (.cells #[.slice none 0 0] 25))) := hide ((HE.out.box (.slice none 0 0) 25 rfl).sub (by simp) (by simp) (by simp))
      refine hK.out _ _ ⟨HE'.out.cell (b := w2.heap.size) (v := .slice a7 m7 c7) (by simp), HE'.out.cell (b := w2.heap.size + 1) (v := .slice a8 m8 c8) (by simp)⟩ (fun hS' => ?_)
      clear hS'
      refine wpAnyH_listed (listed := #[true, true, true, true, true, true, true, true, true, true, true, true, true, true, true, true, false, false, false, false]) (by kernel_rfl) ?_
      have hl0 := HE.out.lt (b := P0) (v := .slice none 0 0) (by simp)
      have hl1 := HE.out.lt (b := P1) (v := .slice none 0 0) (by simp)
      have hl3 := HE.out.lt (b := P3) (v := .slice none 0 0) (by simp)
      have hb7 := HE.out.lt (b := w2.heap.size) (v := .slice a7 m7 c7) (by simp)
      have hb8 := HE.out.lt (b := w2.heap.size + 1) (v := .slice a8 m8 c8) (by simp)
      have hsz := HE.out.below.size
      have HA' : Hid (([P0, P1, W.heap.size, P3, w2.heap.size, w2.heap.size + 1] : List Nat).Nodup ∧ ∀ b ∈ ([P0, P1, W.heap.size, P3, w2.heap.size, w2.heap.size + 1] : List Nat), w.heap.size ≤ b) := hide (by have := HA.out; simp at this ⊢; omega)
      clear hb7 hb8 hsz hl0 hl1 hl3
      try clear HE
      try clear HA
      generalize W.alloc (.cells #[.slice none 0 0] 25) = W' at HE' ⊢
      generalize W.heap.size = P2 at HE' HA' ⊢
      revert HE'; revert HA'; revert HM3; revert HM2; revert HM1; revert HM0; revert W'; revert M3; revert q3; revert r3; revert M2; revert q2; revert r2; revert M1; revert q1; revert r1; revert M0; revert q0; revert r0; revert P3; revert P2; revert P1; revert P0
      exact k4_0123.out
    exact AllReadyH.nil
  · intro k4_0123
    intro P0 P2 P3 r0 q0 M0 r1 q1 M1 r2 q2 M2 r3 q3 M3 W HM0 HM1 HM2 HM3 HA HE
    refine wpAnyH_ready (rs := [13]) (by kernel_rfl) (by simp) ?_
    refine AllReadyH.cons (o := { dst := some 10, op := Op.alloc 25, type := 0, pos := "law.go:23", after := #[], guard := none }) rfl (fun K hK => ?_) ?_
    · go_simp
      have HE' : Hid (Env w [(P0, .slice none 0 0), (W.heap.size, .slice none 0 0), (P2, .slice none 0 0), (P3, .slice none 0 0), (w2.heap.size, .slice a7 m7 c7), (w2.heap.size + 1, .slice a8 m8 c8)] [(r0, q0, U0), (r1, q1, U1), (r2, q2, U2), (r3, q3, U3), (a8, c8, s1), (a7, c7, s0)] [(a0, c0, l0), (a1, c1, l1)] (W.alloc (.cells #[.slice none 0 0] 25))) := hide ((HE.out.box (.slice none 0 0) 25 rfl).sub (by simp) (by simp) (by simp))
      refine hK.out _ _ ⟨HE'.out.cell (b := w2.heap.size) (v := .slice a7 m7 c7) (by simp), HE'.out.cell (b := w2.heap.size + 1) (v := .slice a8 m8 c8) (by simp)⟩ (fun hS' => ?_)
      clear hS'
      refine wpAnyH_listed (listed := #[true, true, true, true, true, true, true, true, true, true, true, true, true, true, true, true, false, false, false, false]) (by kernel_rfl) ?_
      have hl0 := HE.out.lt (b := P0) (v := .slice none 0 0) (by simp)
      have hl2 := HE.out.lt (b := P2) (v := .slice none 0 0) (by simp)
      have hl3 := HE.out.lt (b := P3) (v := .slice none 0 0) (by simp)
      have hb7 := HE.out.lt (b := w2.heap.size) (v := .slice a7 m7 c7) (by simp)
      have hb8 := HE.out.lt (b := w2.heap.size + 1) (v := .slice a8 m8 c8) (by simp)
      have hsz := HE.out.below.size
      have HA' : Hid (([P0, W.heap.size, P2, P3, w2.heap.size, w2.heap.size + 1] : List Nat).Nodup ∧ ∀ b ∈ ([P0, W.heap.size, P2, P3, w2.heap.size, w2.heap.size + 1] : List Nat), w.heap.size ≤ b) := hide (by have := HA.out; simp at this ⊢; omega)
      clear hb7 hb8 hsz hl0 hl2 hl3
      try clear HE
      try clear HA
      generalize W.alloc (.cells #[.slice none 0 0] 25) = W' at HE' ⊢
      generalize W.heap.size = P1 at HE' HA' ⊢
      revert HE'; revert HA'; revert HM3; revert HM2; revert HM1; revert HM0; revert W'; revert M3; revert q3; revert r3; revert M2; revert q2; revert r2; revert M1; revert q1; revert r1; revert M0; revert q0; revert r0; revert P3; revert P2; revert P1; revert P0
      exact k4_0123.out
    exact AllReadyH.nil
  · intro k4_0123
    intro P1 P2 P3 r0 q0 M0 r1 q1 M1 r2 q2 M2 r3 q3 M3 W HM0 HM1 HM2 HM3 HA HE
    refine wpAnyH_ready (rs := [12]) (by kernel_rfl) (by simp) ?_
    refine AllReadyH.cons (o := { dst := some 9, op := Op.alloc 25, type := 0, pos := "law.go:23", after := #[], guard := none }) rfl (fun K hK => ?_) ?_
    · go_simp
      have HE' : Hid (Env w [(W.heap.size, .slice none 0 0), (P1, .slice none 0 0), (P2, .slice none 0 0), (P3, .slice none 0 0), (w2.heap.size, .slice a7 m7 c7), (w2.heap.size + 1, .slice a8 m8 c8)] [(r0, q0, U0), (r1, q1, U1), (r2, q2, U2), (r3, q3, U3), (a8, c8, s1), (a7, c7, s0)] [(a0, c0, l0), (a1, c1, l1)] (W.alloc (.cells #[.slice none 0 0] 25))) := hide ((HE.out.box (.slice none 0 0) 25 rfl).sub (by simp) (by simp) (by simp))
      refine hK.out _ _ ⟨HE'.out.cell (b := w2.heap.size) (v := .slice a7 m7 c7) (by simp), HE'.out.cell (b := w2.heap.size + 1) (v := .slice a8 m8 c8) (by simp)⟩ (fun hS' => ?_)
      clear hS'
      refine wpAnyH_listed (listed := #[true, true, true, true, true, true, true, true, true, true, true, true, true, true, true, true, false, false, false, false]) (by kernel_rfl) ?_
      have hl1 := HE.out.lt (b := P1) (v := .slice none 0 0) (by simp)
      have hl2 := HE.out.lt (b := P2) (v := .slice none 0 0) (by simp)
      have hl3 := HE.out.lt (b := P3) (v := .slice none 0 0) (by simp)
      have hb7 := HE.out.lt (b := w2.heap.size) (v := .slice a7 m7 c7) (by simp)
      have hb8 := HE.out.lt (b := w2.heap.size + 1) (v := .slice a8 m8 c8) (by simp)
      have hsz := HE.out.below.size
      have HA' : Hid (([W.heap.size, P1, P2, P3, w2.heap.size, w2.heap.size + 1] : List Nat).Nodup ∧ ∀ b ∈ ([W.heap.size, P1, P2, P3, w2.heap.size, w2.heap.size + 1] : List Nat), w.heap.size ≤ b) := hide (by have := HA.out; simp at this ⊢; omega)
      clear hb7 hb8 hsz hl1 hl2 hl3
      try clear HE
      try clear HA
      generalize W.alloc (.cells #[.slice none 0 0] 25) = W' at HE' ⊢
      generalize W.heap.size = P0 at HE' HA' ⊢
      revert HE'; revert HA'; revert HM3; revert HM2; revert HM1; revert HM0; revert W'; revert M3; revert q3; revert r3; revert M2; revert q2; revert r2; revert M1; revert q1; revert r1; revert M0; revert q0; revert r0; revert P3; revert P2; revert P1; revert P0
      exact k4_0123.out
    exact AllReadyH.nil
  · intro P0 P1 P2 P3 r0 q0 M0 r1 q1 M1 r2 q2 M2 r3 q3 M3 W HM0 HM1 HM2 HM3 HA HE
    have E0 := HE
    have kc := E0.out.cell (b := P0) (v := .slice none 0 0) (by simp)
    have kf := E0.out.frozen (b := P0) (v := .slice none 0 0) (by simp)
    have E1 : Hid (Env w [(P0, .slice r0 M0 q0), (P1, .slice none 0 0), (P2, .slice none 0 0), (P3, .slice none 0 0), (w2.heap.size, .slice a7 m7 c7), (w2.heap.size + 1, .slice a8 m8 c8)] [(r0, q0, U0), (r1, q1, U1), (r2, q2, U2), (r3, q3, U3), (a8, c8, s1), (a7, c7, s0)] [(a0, c0, l0), (a1, c1, l1)] (W.setCell ⟨P0, 0, none⟩ (.slice r0 M0 q0))) := by
      have ap := Env.apart E0.out P0 none 0 0 (by simp)
      have hA := HA.out
      simp at hA
      refine hide (E0.out.put P0 (.slice r0 M0 q0) (by omega) (v0 := .slice none 0 0) (by simp) ?_ (fun p hp => ⟨hp, ap.1 p hp⟩) (fun p hp => ⟨hp, ap.2 p hp⟩))
      intro p hp
      simp only [List.mem_cons, List.not_mem_nil, or_false] at hp
      rcases hp with rfl | rfl | rfl | rfl | rfl | rfl <;> first | exact Or.inl rfl | exact Or.inr ⟨by simp, by dsimp only; omega⟩
    refine wpAnyH_ready (rs := [16]) (by kernel_rfl) (by simp) ?_
    refine AllReadyH.cons rfl (fun K hK => ?_) AllReadyH.nil
    go_simp
    refine hK.out _ _ ⟨E1.out.cell (b := w2.heap.size) (v := .slice a7 m7 c7) (by simp), E1.out.cell (b := w2.heap.size + 1) (v := .slice a8 m8 c8) (by simp)⟩ (fun hS' => ?_)
    clear hS' kc kf
    generalize W.setCell ⟨P0, 0, none⟩ (.slice r0 M0 q0) = W1 at E1 ⊢
    have kc := E1.out.cell (b := P1) (v := .slice none 0 0) (by simp)
    have kf := E1.out.frozen (b := P1) (v := .slice none 0 0) (by simp)
    have E2 : Hid (Env w [(P0, .slice r0 M0 q0), (P1, .slice r1 M1 q1), (P2, .slice none 0 0), (P3, .slice none 0 0), (w2.heap.size, .slice a7 m7 c7), (w2.heap.size + 1, .slice a8 m8 c8)] [(r0, q0, U0), (r1, q1, U1), (r2, q2, U2), (r3, q3, U3), (a8, c8, s1), (a7, c7, s0)] [(a0, c0, l0), (a1, c1, l1)] (W1.setCell ⟨P1, 0, none⟩ (.slice r1 M1 q1))) := by
      have ap := Env.apart E1.out P1 none 0 0 (by simp)
      have hA := HA.out
      simp at hA
      refine hide (E1.out.put P1 (.slice r1 M1 q1) (by omega) (v0 := .slice none 0 0) (by simp) ?_ (fun p hp => ⟨hp, ap.1 p hp⟩) (fun p hp => ⟨hp, ap.2 p hp⟩))
      intro p hp
      simp only [List.mem_cons, List.not_mem_nil, or_false] at hp
      rcases hp with rfl | rfl | rfl | rfl | rfl | rfl <;> first | exact Or.inl rfl | exact Or.inr ⟨by simp, by dsimp only; omega⟩
    refine wpAnyH_ready (rs := [17]) (by kernel_rfl) (by simp) ?_
    refine AllReadyH.cons rfl (fun K hK => ?_) AllReadyH.nil
    go_simp
    refine hK.out _ _ ⟨E2.out.cell (b := w2.heap.size) (v := .slice a7 m7 c7) (by simp), E2.out.cell (b := w2.heap.size + 1) (v := .slice a8 m8 c8) (by simp)⟩ (fun hS' => ?_)
    clear hS' kc kf
    generalize W1.setCell ⟨P1, 0, none⟩ (.slice r1 M1 q1) = W2 at E2 ⊢
    have kc := E2.out.cell (b := P2) (v := .slice none 0 0) (by simp)
    have kf := E2.out.frozen (b := P2) (v := .slice none 0 0) (by simp)
    have E3 : Hid (Env w [(P0, .slice r0 M0 q0), (P1, .slice r1 M1 q1), (P2, .slice r2 M2 q2), (P3, .slice none 0 0), (w2.heap.size, .slice a7 m7 c7), (w2.heap.size + 1, .slice a8 m8 c8)] [(r0, q0, U0), (r1, q1, U1), (r2, q2, U2), (r3, q3, U3), (a8, c8, s1), (a7, c7, s0)] [(a0, c0, l0), (a1, c1, l1)] (W2.setCell ⟨P2, 0, none⟩ (.slice r2 M2 q2))) := by
      have ap := Env.apart E2.out P2 none 0 0 (by simp)
      have hA := HA.out
      simp at hA
      refine hide (E2.out.put P2 (.slice r2 M2 q2) (by omega) (v0 := .slice none 0 0) (by simp) ?_ (fun p hp => ⟨hp, ap.1 p hp⟩) (fun p hp => ⟨hp, ap.2 p hp⟩))
      intro p hp
      simp only [List.mem_cons, List.not_mem_nil, or_false] at hp
      rcases hp with rfl | rfl | rfl | rfl | rfl | rfl <;> first | exact Or.inl rfl | exact Or.inr ⟨by simp, by dsimp only; omega⟩
    refine wpAnyH_ready (rs := [18]) (by kernel_rfl) (by simp) ?_
    refine AllReadyH.cons rfl (fun K hK => ?_) AllReadyH.nil
    go_simp
    refine hK.out _ _ ⟨E3.out.cell (b := w2.heap.size) (v := .slice a7 m7 c7) (by simp), E3.out.cell (b := w2.heap.size + 1) (v := .slice a8 m8 c8) (by simp)⟩ (fun hS' => ?_)
    clear hS' kc kf
    generalize W2.setCell ⟨P2, 0, none⟩ (.slice r2 M2 q2) = W3 at E3 ⊢
    have kc := E3.out.cell (b := P3) (v := .slice none 0 0) (by simp)
    have kf := E3.out.frozen (b := P3) (v := .slice none 0 0) (by simp)
    have E4 : Hid (Env w [(P0, .slice r0 M0 q0), (P1, .slice r1 M1 q1), (P2, .slice r2 M2 q2), (P3, .slice r3 M3 q3), (w2.heap.size, .slice a7 m7 c7), (w2.heap.size + 1, .slice a8 m8 c8)] [(r0, q0, U0), (r1, q1, U1), (r2, q2, U2), (r3, q3, U3), (a8, c8, s1), (a7, c7, s0)] [(a0, c0, l0), (a1, c1, l1)] (W3.setCell ⟨P3, 0, none⟩ (.slice r3 M3 q3))) := by
      have ap := Env.apart E3.out P3 none 0 0 (by simp)
      have hA := HA.out
      simp at hA
      refine hide (E3.out.put P3 (.slice r3 M3 q3) (by omega) (v0 := .slice none 0 0) (by simp) ?_ (fun p hp => ⟨hp, ap.1 p hp⟩) (fun p hp => ⟨hp, ap.2 p hp⟩))
      intro p hp
      simp only [List.mem_cons, List.not_mem_nil, or_false] at hp
      rcases hp with rfl | rfl | rfl | rfl | rfl | rfl <;> first | exact Or.inl rfl | exact Or.inr ⟨by simp, by dsimp only; omega⟩
    refine wpAnyH_ready (rs := [19]) (by kernel_rfl) (by simp) ?_
    refine AllReadyH.cons rfl (fun K hK => ?_) AllReadyH.nil
    go_simp
    refine hK.out _ _ ⟨E4.out.cell (b := w2.heap.size) (v := .slice a7 m7 c7) (by simp), E4.out.cell (b := w2.heap.size + 1) (v := .slice a8 m8 c8) (by simp)⟩ (fun hS' => ?_)
    clear hS' kc kf
    generalize W3.setCell ⟨P3, 0, none⟩ (.slice r3 M3 q3) = W4 at E4 ⊢
    refine wpAnyH_done (by kernel_rfl) ?_ _
    clear HE E0 E1 E2 E3
    have HG0 : Hid (n0 ≤ 60) := hide (by omega)
    have HG1 : Hid (n1 ≤ 60) := hide (by omega)
    have HT0 : Hid (setL ltI l0 = s0) := hide HS0.out.symm
    have HT1 : Hid (setL ltI l1 = s1) := hide HS1.out.symm
    have EQ0 : Hid (pickL true true true l0 l1 = U0) := hide (rising_eq totI (rising_filter (rising_setL totI _) _) (by rw [← HU0.out]; exact rising_setL totI _) (fun z => by rw [← HU0.out, HS0.out, HS1.out]; simp only [pickL, pickP, List.mem_filter, mem_setL totI, List.mem_append]; by_cases q1 : z ∈ l0 <;> by_cases q2 : z ∈ l1 <;> simp [q1, q2]))
    have EQ1 : Hid (pickL false true false l0 l1 = U1) := hide (rising_eq totI (rising_filter (rising_setL totI _) _) (by rw [← HU1.out, HS0.out]; exact rising_filter (rising_setL totI _) _) (fun z => by rw [← HU1.out, HS0.out, HS1.out]; simp only [pickL, pickP, partL, List.mem_filter, mem_setL totI, List.mem_append]; by_cases q1 : z ∈ l0 <;> by_cases q2 : z ∈ l1 <;> simp [q1, q2]))
    have EQ2 : Hid (pickL true false false l0 l1 = U2) := hide (rising_eq totI (rising_filter (rising_setL totI _) _) (by rw [← HU2.out, HS0.out]; exact rising_filter (rising_setL totI _) _) (fun z => by rw [← HU2.out, HS0.out, HS1.out]; simp only [pickL, pickP, partL, List.mem_filter, mem_setL totI, List.mem_append]; by_cases q1 : z ∈ l0 <;> by_cases q2 : z ∈ l1 <;> simp [q1, q2]))
    have EQ3 : Hid (U3 = U0) := hide (by rw [← HU3.out, ← HU0.out]; exact setL_congr totI fun z => by rw [HS1.out]; simp [mem_setL totI])
    obtain ⟨r, hr⟩ : ∃ r, r = decide (x ∈ l0) := ⟨_, rfl⟩
    have HR2 := hide hr.symm
    have HR1 : Hid (decide (x ∈ s0) = r) := hide (by rw [hr, HS0.out]; simp [mem_setL totI])
    clear hr
    have k0 := E4.out.cell (b := P0) (v := .slice r0 M0 q0) (by simp)
    have k1 := E4.out.cell (b := P1) (v := .slice r1 M1 q1) (by simp)
    have k2 := E4.out.cell (b := P2) (v := .slice r2 M2 q2) (by simp)
    have k3 := E4.out.cell (b := P3) (v := .slice r3 M3 q3) (by simp)
    have D1 := hide (listD (a := r0) (c := q0) (n := M0) (s := U0) (hide E4.out.drew) (by simp) HM0)
    go_wp2
    go_region_held3 (fun w' => w'.cell? ⟨P0, 0, none⟩ = some (.slice r0 M0 q0) ∧ w'.cell? ⟨P1, 0, none⟩ = some (.slice r1 M1 q1) ∧ w'.cell? ⟨P2, 0, none⟩ = some (.slice r2 M2 q2) ∧ w'.cell? ⟨P3, 0, none⟩ = some (.slice r3 M3 q3)) (first | exact ⟨by assumption, by assumption, by assumption, by assumption⟩ | go_keep)
      (first
        | (go_at_call 15; (with_reducible refine (Hid.out D1).mono ?_); rintro e y1 ⟨b1, d1, rfl, G1⟩; have k0y1 := G1.out.cell (b := P0) (v := .slice r0 M0 q0) (by simp); have k1y1 := G1.out.cell (b := P1) (v := .slice r1 M1 q1) (by simp); have k2y1 := G1.out.cell (b := P2) (v := .slice r2 M2 q2) (by simp); have k3y1 := G1.out.cell (b := P3) (v := .slice r3 M3 q3) (by simp); have D2 := hide (pickA (a := a0) (c := c0) (n := n0) (la := l0) (a2 := a1) (c2 := c1) (n2 := n1) (lb := l1) (u := U0) (q := M0) G1 (by simp) (by simp) HN0 HN1 HG0 HG1 EQ0 HM0))
        | (go_at_call 16; (with_reducible refine (Hid.out D2).mono ?_); rintro e y2 ⟨b2, d2, rfl, G2⟩; have k0y2 := G2.out.cell (b := P0) (v := .slice r0 M0 q0) (by simp); have k1y2 := G2.out.cell (b := P1) (v := .slice r1 M1 q1) (by simp); have k2y2 := G2.out.cell (b := P2) (v := .slice r2 M2 q2) (by simp); have k3y2 := G2.out.cell (b := P3) (v := .slice r3 M3 q3) (by simp); have D3 := hide (sameD (a := b1) (c := d1) (n := M0) (l := U0) (a2 := b2) (c2 := d2) (n2 := M0) (k := U0) G2 (by simp) (by simp) HM0 HM0 rfl))
        | (go_at_call 14; (with_reducible refine (Hid.out D3).mono ?_); rintro e y3 ⟨rfl, G3⟩; have k0y3 := G3.out.cell (b := P0) (v := .slice r0 M0 q0) (by simp); have k1y3 := G3.out.cell (b := P1) (v := .slice r1 M1 q1) (by simp); have k2y3 := G3.out.cell (b := P2) (v := .slice r2 M2 q2) (by simp); have k3y3 := G3.out.cell (b := P3) (v := .slice r3 M3 q3) (by simp); have D4 := hide (listD (a := r1) (c := q1) (n := M1) (s := U1) G3 (by simp) HM1))
        | (go_at_call 15; (with_reducible refine (Hid.out D4).mono ?_); rintro e y4 ⟨b4, d4, rfl, G4⟩; have k0y4 := G4.out.cell (b := P0) (v := .slice r0 M0 q0) (by simp); have k1y4 := G4.out.cell (b := P1) (v := .slice r1 M1 q1) (by simp); have k2y4 := G4.out.cell (b := P2) (v := .slice r2 M2 q2) (by simp); have k3y4 := G4.out.cell (b := P3) (v := .slice r3 M3 q3) (by simp); have D5 := hide (pickB (a := a0) (c := c0) (n := n0) (la := l0) (a2 := a1) (c2 := c1) (n2 := n1) (lb := l1) (u := U1) (q := M1) G4 (by simp) (by simp) HN0 HN1 HG0 HG1 EQ1 HM1))
        | (go_at_call 16; (with_reducible refine (Hid.out D5).mono ?_); rintro e y5 ⟨b5, d5, rfl, G5⟩; have k0y5 := G5.out.cell (b := P0) (v := .slice r0 M0 q0) (by simp); have k1y5 := G5.out.cell (b := P1) (v := .slice r1 M1 q1) (by simp); have k2y5 := G5.out.cell (b := P2) (v := .slice r2 M2 q2) (by simp); have k3y5 := G5.out.cell (b := P3) (v := .slice r3 M3 q3) (by simp); have D6 := hide (sameD (a := b4) (c := d4) (n := M1) (l := U1) (a2 := b5) (c2 := d5) (n2 := M1) (k := U1) G5 (by simp) (by simp) HM1 HM1 rfl))
        | (go_at_call 14; (with_reducible refine (Hid.out D6).mono ?_); rintro e y6 ⟨rfl, G6⟩; have k0y6 := G6.out.cell (b := P0) (v := .slice r0 M0 q0) (by simp); have k1y6 := G6.out.cell (b := P1) (v := .slice r1 M1 q1) (by simp); have k2y6 := G6.out.cell (b := P2) (v := .slice r2 M2 q2) (by simp); have k3y6 := G6.out.cell (b := P3) (v := .slice r3 M3 q3) (by simp); have D7 := hide (listD (a := r2) (c := q2) (n := M2) (s := U2) G6 (by simp) HM2))
        | (go_at_call 15; (with_reducible refine (Hid.out D7).mono ?_); rintro e y7 ⟨b7, d7, rfl, G7⟩; have k0y7 := G7.out.cell (b := P0) (v := .slice r0 M0 q0) (by simp); have k1y7 := G7.out.cell (b := P1) (v := .slice r1 M1 q1) (by simp); have k2y7 := G7.out.cell (b := P2) (v := .slice r2 M2 q2) (by simp); have k3y7 := G7.out.cell (b := P3) (v := .slice r3 M3 q3) (by simp); have D8 := hide (pickO (a := a0) (c := c0) (n := n0) (la := l0) (a2 := a1) (c2 := c1) (n2 := n1) (lb := l1) (u := U2) (q := M2) G7 (by simp) (by simp) HN0 HN1 HG0 HG1 EQ2 HM2))
        | (go_at_call 16; (with_reducible refine (Hid.out D8).mono ?_); rintro e y8 ⟨b8, d8, rfl, G8⟩; have k0y8 := G8.out.cell (b := P0) (v := .slice r0 M0 q0) (by simp); have k1y8 := G8.out.cell (b := P1) (v := .slice r1 M1 q1) (by simp); have k2y8 := G8.out.cell (b := P2) (v := .slice r2 M2 q2) (by simp); have k3y8 := G8.out.cell (b := P3) (v := .slice r3 M3 q3) (by simp); have D9 := hide (sameD (a := b7) (c := d7) (n := M2) (l := U2) (a2 := b8) (c2 := d8) (n2 := M2) (k := U2) G8 (by simp) (by simp) HM2 HM2 rfl))
        | (go_at_call 14; (with_reducible refine (Hid.out D9).mono ?_); rintro e y9 ⟨rfl, G9⟩; have k0y9 := G9.out.cell (b := P0) (v := .slice r0 M0 q0) (by simp); have k1y9 := G9.out.cell (b := P1) (v := .slice r1 M1 q1) (by simp); have k2y9 := G9.out.cell (b := P2) (v := .slice r2 M2 q2) (by simp); have k3y9 := G9.out.cell (b := P3) (v := .slice r3 M3 q3) (by simp); have D10 := hide (listD (a := r3) (c := q3) (n := M3) (s := U3) G9 (by simp) HM3))
        | (go_at_call 15; (with_reducible refine (Hid.out D10).mono ?_); rintro e y10 ⟨b10, d10, rfl, G10⟩; have k0y10 := G10.out.cell (b := P0) (v := .slice r0 M0 q0) (by simp); have k1y10 := G10.out.cell (b := P1) (v := .slice r1 M1 q1) (by simp); have k2y10 := G10.out.cell (b := P2) (v := .slice r2 M2 q2) (by simp); have k3y10 := G10.out.cell (b := P3) (v := .slice r3 M3 q3) (by simp); have D11 := hide (listD (a := r0) (c := q0) (n := M0) (s := U0) G10 (by simp) HM0))
        | (go_at_call 15; (with_reducible refine (Hid.out D11).mono ?_); rintro e y11 ⟨b11, d11, rfl, G11⟩; have k0y11 := G11.out.cell (b := P0) (v := .slice r0 M0 q0) (by simp); have k1y11 := G11.out.cell (b := P1) (v := .slice r1 M1 q1) (by simp); have k2y11 := G11.out.cell (b := P2) (v := .slice r2 M2 q2) (by simp); have k3y11 := G11.out.cell (b := P3) (v := .slice r3 M3 q3) (by simp); have D12 := hide (sameD (a := b10) (c := d10) (n := M3) (l := U3) (a2 := b11) (c2 := d11) (n2 := M0) (k := U0) G11 (by simp) (by simp) HM3 HM0 EQ3))
        | (go_at_call 14; (with_reducible refine (Hid.out D12).mono ?_); rintro e y12 ⟨rfl, G12⟩; have k0y12 := G12.out.cell (b := P0) (v := .slice r0 M0 q0) (by simp); have k1y12 := G12.out.cell (b := P1) (v := .slice r1 M1 q1) (by simp); have k2y12 := G12.out.cell (b := P2) (v := .slice r2 M2 q2) (by simp); have k3y12 := G12.out.cell (b := P3) (v := .slice r3 M3 q3) (by simp); skip))
    have D13 := hide (listD (a := a7) (c := c7) (n := m7) (s := s0) G12 (by simp) hm7)
    have k7 := G12.out.cell (b := w2.heap.size) (v := .slice a7 m7 c7) (by simp)
    have k8 := G12.out.cell (b := w2.heap.size + 1) (v := .slice a8 m8 c8) (by simp)
    go_wp2_with (first
        | (go_at_call 15; (with_reducible refine (Hid.out D13).mono ?_); rintro e v1 ⟨b13, d13, rfl, G13⟩; have k7v1 := G13.out.cell (b := w2.heap.size) (v := .slice a7 m7 c7) (by simp); have k8v1 := G13.out.cell (b := w2.heap.size + 1) (v := .slice a8 m8 c8) (by simp); have D14 := hide (rofD (a := a0) (c := c0) (n := n0) (l := l0) (s := s0) (q := m7) G13 (by simp) HN0 HG0 HT0 hm7))
        | (go_at_call 17; (with_reducible refine (Hid.out D14).mono ?_); rintro e v2 ⟨b14, d14, rfl, G14⟩; have k7v2 := G14.out.cell (b := w2.heap.size) (v := .slice a7 m7 c7) (by simp); have k8v2 := G14.out.cell (b := w2.heap.size + 1) (v := .slice a8 m8 c8) (by simp); have D15 := hide (sameD (a := b13) (c := d13) (n := m7) (l := s0) (a2 := b14) (c2 := d14) (n2 := m7) (k := s0) G14 (by simp) (by simp) hm7 hm7 rfl))
        | (go_at_call 14; (with_reducible refine (Hid.out D15).mono ?_); rintro e v3 ⟨rfl, G15⟩; have k7v3 := G15.out.cell (b := w2.heap.size) (v := .slice a7 m7 c7) (by simp); have k8v3 := G15.out.cell (b := w2.heap.size + 1) (v := .slice a8 m8 c8) (by simp); have D16 := hide (listD (a := a8) (c := c8) (n := m8) (s := s1) G15 (by simp) hm8))
        | (go_at_call 15; (with_reducible refine (Hid.out D16).mono ?_); rintro e v4 ⟨b16, d16, rfl, G16⟩; have k7v4 := G16.out.cell (b := w2.heap.size) (v := .slice a7 m7 c7) (by simp); have k8v4 := G16.out.cell (b := w2.heap.size + 1) (v := .slice a8 m8 c8) (by simp); have D17 := hide (rofD (a := a1) (c := c1) (n := n1) (l := l1) (s := s1) (q := m8) G16 (by simp) HN1 HG1 HT1 hm8))
        | (go_at_call 17; (with_reducible refine (Hid.out D17).mono ?_); rintro e v5 ⟨b17, d17, rfl, G17⟩; have k7v5 := G17.out.cell (b := w2.heap.size) (v := .slice a7 m7 c7) (by simp); have k8v5 := G17.out.cell (b := w2.heap.size + 1) (v := .slice a8 m8 c8) (by simp); have D18 := hide (sameD (a := b16) (c := d16) (n := m8) (l := s1) (a2 := b17) (c2 := d17) (n2 := m8) (k := s1) G17 (by simp) (by simp) hm8 hm8 rfl))
        | (go_at_call 14; (with_reducible refine (Hid.out D18).mono ?_); rintro e v6 ⟨rfl, G18⟩; have k7v6 := G18.out.cell (b := w2.heap.size) (v := .slice a7 m7 c7) (by simp); have k8v6 := G18.out.cell (b := w2.heap.size + 1) (v := .slice a8 m8 c8) (by simp); have D19 := hide (lenD (a := a7) (c := c7) (n := m7) (s := s0) G18 (by simp) hm7))
        | (go_at_call 18; (with_reducible refine (Hid.out D19).mono ?_); rintro e v7 ⟨rfl, G19⟩; have k7v7 := G19.out.cell (b := w2.heap.size) (v := .slice a7 m7 c7) (by simp); have k8v7 := G19.out.cell (b := w2.heap.size + 1) (v := .slice a8 m8 c8) (by simp); have D20 := hide (rofD (a := a0) (c := c0) (n := n0) (l := l0) (s := s0) (q := m7) G19 (by simp) HN0 HG0 HT0 hm7))
        | (go_at_call 17; (with_reducible refine (Hid.out D20).mono ?_); rintro e v8 ⟨b20, d20, rfl, G20⟩; have k7v8 := G20.out.cell (b := w2.heap.size) (v := .slice a7 m7 c7) (by simp); have k8v8 := G20.out.cell (b := w2.heap.size + 1) (v := .slice a8 m8 c8) (by simp); have D21 := hide (hasD (a := a7) (c := c7) (n := m7) (s := s0) (x := x) (r := r) G20 (by simp) hm7 HR1))
        | (go_at_call 19; (with_reducible refine (Hid.out D21).mono ?_); rintro e v9 ⟨rfl, G21⟩; have k7v9 := G21.out.cell (b := w2.heap.size) (v := .slice a7 m7 c7) (by simp); have k8v9 := G21.out.cell (b := w2.heap.size + 1) (v := .slice a8 m8 c8) (by simp); have D22 := hide (rhasD (a := a0) (c := c0) (n := n0) (l := l0) (x := x) (r := r) G21 (by simp) HN0 HR2))
        | (go_at_call 20; (with_reducible refine (Hid.out D22).mono ?_); rintro e v10 ⟨rfl, hv10⟩; replace hv10 := hv10.symm; subst hv10)
        | (go_at_call 8; (with_reducible refine (works5_any _).mono ?_); rintro e v11 ⟨rfl, hb11⟩; have G23 := hide (G21.out.keep hb11); have k7v11 := G23.out.cell (b := w2.heap.size) (v := .slice a7 m7 c7) (by simp); have k8v11 := G23.out.cell (b := w2.heap.size + 1) (v := .slice a8 m8 c8) (by simp)))
    go_ret
    exact ⟨rfl, G23.out.below⟩
end Go.Proofs.Ytghdafgpdhbohaa.Walk
