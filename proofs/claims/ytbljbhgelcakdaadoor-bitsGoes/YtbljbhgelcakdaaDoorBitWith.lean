/- The document's With: of two sets what the one, or both, or the one alone have. -/
import Derived.Test.YtbljbhgelcakdaaDoorBitRef
import Derived.Deep.DeepMust
namespace Go.Proofs.YtbljbhgelcakdaaDoor.Bit
open Go.RowKit Go.Proofs.YtbljbhgelcakdaaDoor.Dig Go.Proofs.YtbljbhgelcakdaaDoor.Mem
set_option linter.unusedVariables false
set_option linter.unusedSimpArgs false

/-- The first k of a row made so. -/
def withN (a b : List Bool) (how : Int) (k : Nat) : List Bool := (List.range a.length).map fun j => if j < k then withF how (a.getD j false) (hasB b j) else a.getD j false
theorem withN_length (a b : List Bool) (how : Int) (k : Nat) : (withN a b how k).length = a.length := by simp [withN]
theorem withN_getD (a b : List Bool) (how : Int) (k j : Nat) (hj : j < a.length) : (withN a b how k).getD j false = if j < k then withF how (a.getD j false) (hasB b j) else a.getD j false := by
  simp [withN, List.getD_eq_getElem?_getD, hj]
theorem withN_zero (a b : List Bool) (how : Int) : withN a b how 0 = a := by
  refine ext_getD (withN_length a b how 0) (fun j hj => ?_)
  rw [withN_length] at hj
  rw [withN_getD a b how 0 j hj, if_neg (by omega)]
theorem withN_all (a b : List Bool) (how : Int) : withN a b how a.length = withB a b how := by
  refine ext_getD (by rw [withN_length, withB_length]) (fun j hj => ?_)
  rw [withN_length] at hj
  rw [withN_getD a b how _ j hj, if_pos hj, withB_getD a b how j hj]
theorem withN_at (a b : List Bool) (how : Int) (k : Nat) (hk : k < a.length) : (withN a b how k).getD k false = a.getD k false := by
  rw [withN_getD a b how k k hk, if_neg (by omega)]
theorem withN_set (a b : List Bool) (how : Int) (k : Nat) (hk : k < a.length) {x : Bool} (hx : withF how (a.getD k false) (hasB b k) = x) : (withN a b how k).set k x = withN a b how (k + 1) := by
  refine ext_getD (by rw [List.length_set, withN_length, withN_length]) (fun j hj => ?_)
  rw [List.length_set, withN_length] at hj
  rw [withN_getD a b how (k + 1) j hj]
  by_cases e : j = k
  · subst e
    rw [if_pos (by omega), hx, List.getD_eq_getElem?_getD, List.getElem?_set_self (by rw [withN_length]; exact hj)]
    rfl
  · have e2 : ((withN a b how k).set k x).getD j false = (withN a b how k).getD j false := by
      rw [List.getD_eq_getElem?_getD, List.getD_eq_getElem?_getD, List.getElem?_set_ne (fun q => e q.symm)]
    rw [e2, withN_getD a b how k j hj]
    by_cases h1 : j < k
    · rw [if_pos h1, if_pos (by omega)]
    · rw [if_neg h1, if_neg (by omega)]
theorem withN_same (a b : List Bool) (how : Int) (h0 : how ≠ 0) (h1 : how ≠ 1) (h2 : how ≠ 2) (k : Nat) : withN a b how k = a := by
  refine ext_getD (withN_length a b how k) (fun j hj => ?_)
  rw [withN_length] at hj
  rw [withN_getD a b how k j hj]
  simp [withF, h0, h1, h2]
def WithR (w : World) (a b : List Bool) (how : Int) (n : Nat) (av iv : Value) (wr : World) : Prop :=
  ∃ k : Nat, k ≤ n ∧ iv = .int .i64 (k : Int) ∧ Hid (OwnB w.heap.size wr av (withN a b how k)) ∧ Hid (Below w.heap.size w wr)
set_option maxHeartbeats 2000000 in
set_option maxRecDepth 20000 in
theorem rwith_any (a b : Option Addr) (c d : Nat) (la lb : List Bool) (how : Int) (w : World) (ha : RowB w a c la) (hb : RowB w b d lb) (hla : la.length ≤ 100000) :
    Calls Tryd.prog 31 #[.slice a la.length c, .slice b lb.length d, .int .i64 how] w fun e w' => (∃ a c, e = .returned (.slice a la.length c) ∧ RowB w' a c (withB la lb how) ∧ Fresh w.heap.size a) ∧ Below w.heap.size w w' := by
  have HA := hide ha
  have HB := hide hb
  have hle := hb.le
  have HO1 : Hid (OwnB w.heap.size (w.alloc (.cells #[] 4)) (.slice (some ⟨w.heap.size, 0, none⟩) 0 0) []) := OwnB.empty rfl (Nat.le_refl _)
  have HBA : Hid (Below w.heap.size w (w.alloc (.cells #[] 4))) := (Below.refl _ _).alloc (Nat.le_refl _) _
  obtain ⟨n, hn⟩ : ∃ n, n = la.length := ⟨_, rfl⟩
  obtain ⟨m, hm⟩ : ∃ m, m = lb.length := ⟨_, rfl⟩
  have HN := hide hn
  have HM := hide hm
  rw [← hn] at hla ⊢
  rw [← hm] at hle ⊢
  clear ha hb hn hm
  go_enter Tryd.func31, Tryd.ntmps31
  go_wp2_with (at_builtin; (refine app_bools (w0 := w) rfl _ _ rfl w.heap.size (.slice (some ⟨w.heap.size, 0, none⟩) 0 0) [] rfl HO1.out a c n la rfl HN.out (HA.out.keep HBA.out) (by have := HN.out; simp; omega) (by simp) HBA.out ?_); intro v1 w1 hown1 hb1 hs1; have HO2 : Hid (OwnB w.heap.size w1 v1 la) := hown1; have HB1 := hide hb1; obtain ⟨a3, c3, hv3⟩ := own_form hown1; rw [List.nil_append, ← HN.out] at hv3; subst hv3; clear hown1 hb1 hs1)
  go_loopw [8] (fun iv wr => WithR w la lb how n (.slice a3 n c3) iv wr) (fun iv _ => n - (intOf iv).toNat)
  case atStart => exact ⟨0, by omega, rfl, by rw [withN_zero]; exact HO2.out, HB1.out⟩
  case round =>
    obtain ⟨k, hk, rfl, hown, hbel⟩ := hrel
    obtain ⟨W, hW⟩ : ∃ W, W = wr := ⟨_, rfl⟩
    subst hW
    by_cases hlt : k < n
    · by_cases h0 : how = 0
      · subst h0
        obtain ⟨g, rfl, hbg, hglt, hcell, hfz, -, hput⟩ := OwnB.put hown.out (k := k) (by rw [withN_length, ← HN.out]; exact hlt)
        rw [withN_at la lb _ k (by rw [← HN.out]; exact hlt)] at hcell
        have HHAS : Hid (∀ k : Int, Calls Tryd.prog 18 #[.slice b m d, .int .i64 k] W fun e w' => e = .returned (.bool (hasB lb k)) ∧ w' = W) := fun k => by
          have := rhas_any b d lb k W (HB.out.keep (hbel.out.mono (Nat.le_refl _)))
          rw [← HM.out] at this
          exact this
        obtain ⟨x, hx⟩ : ∃ x, x = la.getD k false := ⟨_, rfl⟩
        obtain ⟨y, hy⟩ : ∃ y, y = hasB lb (k : Int) := ⟨_, rfl⟩
        have HX : Hid (la.getD k false = x) := hx.symm
        have HY : Hid (hasB lb (k : Int) = y) := hy.symm
        rw [← hx] at hcell
        clear hx hy
        cases x with
        | true =>
          have HP := hide (hput true)
          have HB2 := hide (hbel.out.setCell (p := ⟨g, k, none⟩) hbg (.bool true))
          clear hput
          go_wp2_with (go_at_call 18; go_must ((with_reducible refine (HHAS.out _).mono ?_); rw [HY.out]; rintro e w8 ⟨rfl, hw8⟩; replace hw8 := hw8.symm; subst hw8))
          go_roundw
          case rel => exact ⟨k + 1, by omega, by simp, by have := HP.out; rw [withN_set la lb _ k (by rw [← HN.out]; exact hlt) (by rw [HX.out, HY.out]; rfl)] at this; exact this, HB2.out⟩
          case measure => simp [intOf]; omega
        | false =>
          have HP := hide (hput y)
          have HB2 := hide (hbel.out.setCell (p := ⟨g, k, none⟩) hbg (.bool y))
          clear hput
          go_wp2_with (go_at_call 18; go_must ((with_reducible refine (HHAS.out _).mono ?_); rw [HY.out]; rintro e w8 ⟨rfl, hw8⟩; replace hw8 := hw8.symm; subst hw8))
          go_roundw
          case rel => exact ⟨k + 1, by omega, by simp, by have := HP.out; rw [withN_set la lb _ k (by rw [← HN.out]; exact hlt) (by rw [HX.out, HY.out]; rfl)] at this; exact this, HB2.out⟩
          case measure => simp [intOf]; omega
      · by_cases h1 : how = 1
        · subst h1
          obtain ⟨g, rfl, hbg, hglt, hcell, hfz, -, hput⟩ := OwnB.put hown.out (k := k) (by rw [withN_length, ← HN.out]; exact hlt)
          rw [withN_at la lb _ k (by rw [← HN.out]; exact hlt)] at hcell
          have HHAS : Hid (∀ k : Int, Calls Tryd.prog 18 #[.slice b m d, .int .i64 k] W fun e w' => e = .returned (.bool (hasB lb k)) ∧ w' = W) := fun k => by
            have := rhas_any b d lb k W (HB.out.keep (hbel.out.mono (Nat.le_refl _)))
            rw [← HM.out] at this
            exact this
          obtain ⟨x, hx⟩ : ∃ x, x = la.getD k false := ⟨_, rfl⟩
          obtain ⟨y, hy⟩ : ∃ y, y = hasB lb (k : Int) := ⟨_, rfl⟩
          have HX : Hid (la.getD k false = x) := hx.symm
          have HY : Hid (hasB lb (k : Int) = y) := hy.symm
          rw [← hx] at hcell
          clear hx hy
          cases x with
          | true =>
            have HP := hide (hput y)
            have HB2 := hide (hbel.out.setCell (p := ⟨g, k, none⟩) hbg (.bool y))
            clear hput
            go_wp2_with (go_at_call 18; go_must ((with_reducible refine (HHAS.out _).mono ?_); rw [HY.out]; rintro e w8 ⟨rfl, hw8⟩; replace hw8 := hw8.symm; subst hw8))
            go_roundw
            case rel => exact ⟨k + 1, by omega, by simp, by have := HP.out; rw [withN_set la lb _ k (by rw [← HN.out]; exact hlt) (by rw [HX.out, HY.out]; rfl)] at this; exact this, HB2.out⟩
            case measure => simp [intOf]; omega
          | false =>
            have HP := hide (hput false)
            have HB2 := hide (hbel.out.setCell (p := ⟨g, k, none⟩) hbg (.bool false))
            clear hput
            go_wp2_with (go_at_call 18; go_must ((with_reducible refine (HHAS.out _).mono ?_); rw [HY.out]; rintro e w8 ⟨rfl, hw8⟩; replace hw8 := hw8.symm; subst hw8))
            go_roundw
            case rel => exact ⟨k + 1, by omega, by simp, by have := HP.out; rw [withN_set la lb _ k (by rw [← HN.out]; exact hlt) (by rw [HX.out, HY.out]; rfl)] at this; exact this, HB2.out⟩
            case measure => simp [intOf]; omega
        · by_cases h2 : how = 2
          · subst h2
            obtain ⟨g, rfl, hbg, hglt, hcell, hfz, -, hput⟩ := OwnB.put hown.out (k := k) (by rw [withN_length, ← HN.out]; exact hlt)
            rw [withN_at la lb _ k (by rw [← HN.out]; exact hlt)] at hcell
            have HHAS : Hid (∀ k : Int, Calls Tryd.prog 18 #[.slice b m d, .int .i64 k] W fun e w' => e = .returned (.bool (hasB lb k)) ∧ w' = W) := fun k => by
              have := rhas_any b d lb k W (HB.out.keep (hbel.out.mono (Nat.le_refl _)))
              rw [← HM.out] at this
              exact this
            obtain ⟨x, hx⟩ : ∃ x, x = la.getD k false := ⟨_, rfl⟩
            obtain ⟨y, hy⟩ : ∃ y, y = hasB lb (k : Int) := ⟨_, rfl⟩
            have HX : Hid (la.getD k false = x) := hx.symm
            have HY : Hid (hasB lb (k : Int) = y) := hy.symm
            rw [← hx] at hcell
            clear hx hy
            cases x with
            | true =>
              have HP := hide (hput (!y))
              have HB2 := hide (hbel.out.setCell (p := ⟨g, k, none⟩) hbg (.bool (!y)))
              clear hput
              go_wp2_with (go_at_call 18; go_must ((with_reducible refine (HHAS.out _).mono ?_); rw [HY.out]; rintro e w8 ⟨rfl, hw8⟩; replace hw8 := hw8.symm; subst hw8))
              go_roundw
              case rel => exact ⟨k + 1, by omega, by simp, by have := HP.out; rw [withN_set la lb _ k (by rw [← HN.out]; exact hlt) (by rw [HX.out, HY.out]; rfl)] at this; exact this, HB2.out⟩
              case measure => simp [intOf]; omega
            | false =>
              have HP := hide (hput false)
              have HB2 := hide (hbel.out.setCell (p := ⟨g, k, none⟩) hbg (.bool false))
              clear hput
              go_wp2_with (go_at_call 18; go_must ((with_reducible refine (HHAS.out _).mono ?_); rw [HY.out]; rintro e w8 ⟨rfl, hw8⟩; replace hw8 := hw8.symm; subst hw8))
              go_roundw
              case rel => exact ⟨k + 1, by omega, by simp, by have := HP.out; rw [withN_set la lb _ k (by rw [← HN.out]; exact hlt) (by rw [HX.out, HY.out]; rfl)] at this; exact this, HB2.out⟩
              case measure => simp [intOf]; omega
          · have g0 : (how == 0) = false := by simpa using h0
            have g1 : (how == 1) = false := by simpa using h1
            have g2 : (how == 2) = false := by simpa using h2
            have HNS := hide (withN_same la lb how h0 h1 h2)
            clear h0 h1 h2
            go_wp2
            go_roundw
            case rel => exact ⟨k + 1, by omega, by simp, by have := hown.out; rw [HNS.out] at this ⊢; exact this, hbel.out⟩
            case measure => simp [intOf]; omega
    · obtain rfl : n = k := by omega
      have HR : Hid ((∃ a c, Ending.returned (.slice a3 n c3) = .returned (.slice a n c) ∧ RowB W a c (withB la lb how) ∧ Fresh w.heap.size a) ∧ Below w.heap.size w W) := by
        have ho := hown.out
        rw [HN.out, withN_all] at ho
        have hL : (withB la lb how).length = n := by rw [withB_length, HN.out]
        obtain ⟨a4, c4, hv, hr, hfr⟩ := ho.row (by rw [hL]; omega)
        injection hv with e1 e2 e3
        subst e1 e3
        exact ⟨⟨_, _, rfl, hr, hfr⟩, hbel.out⟩
      have hnn : ¬ (n : Int) < n := by omega
      go_wp2
      go_ret
      exact HR.out
end Go.Proofs.YtbljbhgelcakdaaDoor.Bit
