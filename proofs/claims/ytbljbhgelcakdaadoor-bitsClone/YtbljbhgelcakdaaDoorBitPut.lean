/- Numbers are put in, and taken out. -/
import Derived.Test.YtbljbhgelcakdaaDoorBitOr
import Derived.Test.YtbljbhgelcakdaaDoorBitEnv
import Derived.BigRegion
namespace Go.Proofs.YtbljbhgelcakdaaDoor.Bit
open Go.RowKit Go.Proofs.YtbljbhgelcakdaaDoor.Dig Go.Proofs.YtbljbhgelcakdaaDoor.Mem
set_option linter.unusedVariables false
set_option linter.unusedSimpArgs false

theorem pow_lt {k : Nat} (hk : k < 64) : 2 ^ k < 18446744073709551616 := by
  have := Nat.pow_lt_pow_right (a := 2) (by decide) hk
  omega
theorem wrap_pow {k : Nat} (hk : k < 64) : IntKind.u64.wrap (2 ^ k) = ((2 ^ k : Nat) : Int) := by
  have h := pow_lt hk
  have e : ((2 : Int) ^ k) = ((2 ^ k : Nat) : Int) := by simp
  rw [e]
  generalize 2 ^ k = x at *
  rw [IntKind.wrap_u64]
  omega
theorem hasB_bits {n : Nat} {ws : List Nat} (ht : Tight n ws) (k : Nat) : hasB (bitsW n ws) (k : Int) = (ws.getD (k / 64) 0).testBit (k % 64) := by
  rw [hasB_nat]
  by_cases hk : k < n
  · rw [bitsW_getD hk]
  · rw [ht k (by omega), List.getD_eq_getElem?_getD, List.getElem?_eq_none (by rw [bitsW_length]; omega)]
    rfl
theorem hasB_neg (m : List Bool) {k : Int} (hk : k < 0) : hasB m k = false := by
  unfold hasB
  rw [decide_eq_false (by omega)]
  rfl
theorem shr_one {x j : Nat} : (x / 2 ^ j) &&& 1 = if x.testBit j then 1 else 0 := by
  rw [Nat.and_one_is_mod, ← Nat.shiftRight_eq_div_pow]
  have : (x >>> j) % 2 = if x.testBit j then 1 else 0 := by
    simp only [Nat.testBit, Nat.one_and_eq_mod_two, bne_iff_ne, ne_eq]
    rcases Nat.mod_two_eq_zero_or_one (x >>> j) with h | h <;> simp [h]
  exact this
set_option maxHeartbeats 1000000 in
theorem has_s {w : World} {p : Value} {F : Nat → Prop} {n c : Nat} {ws : List Nat} (h : SetI w p F n c ws) (k : Int) (hk : (Lit.int .i64 k).wf = true) :
    Calls Tryd.prog 17 #[p, .int .i64 k] w fun e w' => e = .returned (.bool (hasB (bitsW n ws) k)) ∧ w' = w := by
  obtain ⟨f1, f2, f3, f4, f5, f6, ⟨q, rfl⟩, f7⟩ := h.facts
  by_cases h0 : k < 0
  · rw [hasB_neg _ h0]
    clear h
    go_enter Tryd.func17, Tryd.ntmps17
    go_wp2
    go_ret
    exact ⟨rfl, rfl⟩
  · obtain ⟨K, rfl⟩ : ∃ K : Nat, k = (K : Int) := ⟨k.toNat, by omega⟩
    obtain ⟨f, hf⟩ : ∃ f, f = K / 64 := ⟨_, rfl⟩
    obtain ⟨j, hj⟩ : ∃ j, j = K % 64 := ⟨_, rfl⟩
    have hKf : (K : Int) / 64 = (f : Int) := by omega
    have hKj : (K : Int) % 64 = (j : Int) := by omega
    have HB := hide (hasB_bits f6 K)
    rw [← hf, ← hj] at HB
    have hlt := f5 f
    have hkb : K ≤ 9223372036854775807 := by
      simp only [Lit.wf, Bool.and_eq_true, decide_eq_true_eq] at hk
      have := hk.2
      have e : IntKind.i64.max = 9223372036854775807 := rfl
      omega
    have HWD := hide (word_s h f (by omega))
    obtain ⟨x, hx⟩ : ∃ x, x = ws.getD f 0 := ⟨_, rfl⟩
    rw [← hx] at HB HWD hlt
    have HA := hide (bits_and64 (x / 2 ^ j) 1 (Nat.lt_of_le_of_lt (Nat.div_le_self _ _) hlt) (by decide))
    rw [shr_one] at HA
    have HA2 : Hid (bits BinOp.and IntKind.u64 ((x : Int) / 2 ^ j) 1 = if x.testBit j = true then 1 else 0) := hide (by
      have e : ((x / 2 ^ j : Nat) : Int) = (x : Int) / 2 ^ j := by simp
      have := HA.out
      rw [e] at this
      rw [show (1 : Int) = ((1 : Nat) : Int) from rfl, this]
      split <;> rfl)
    clear HA
    clear hx
    clear h hf hj f5 f6 f7
    go_enter Tryd.func17, Tryd.ntmps17
    go_wp2_with (go_at_call 35; go_must ((with_reducible refine (Hid.out HWD).mono ?_); rintro e w9 ⟨rfl, rfl⟩))
    go_ret
    refine ⟨?_, rfl⟩
    rw [HB.out]
    show Ending.returned (.bool (bits BinOp.and IntKind.u64 ((x : Int) / 2 ^ j) 1 == 1)) = _
    rw [HA2.out]
    cases x.testBit j <;> rfl
theorem setB_take {m : List Bool} {l : List Int} {so : Bool} {j : Nat} (hj : j < l.length) : setB m (l.take (j + 1)) so = putB so (setB m (l.take j) so) (l.getD j 0) := by
  rw [List.take_add_one, List.getElem?_eq_getElem hj]
  have : l.getD j 0 = l[j] := by rw [List.getD_eq_getElem?_getD, List.getElem?_eq_getElem hj]; rfl
  rw [this]
  exact setB_snoc m (l.take j) l[j] so
theorem putB_over {m : List Bool} {x : Int} {so : Bool} (h : ¬ (0 ≤ x ∧ x < (m.length : Int))) : putB so m x = m := by unfold putB; rw [if_neg h]
/-- Between two numbers. -/
def PutR (w : World) (p : Value) (F : Nat → Prop) (n c : Nat) (m : List Bool) (l : List Int) (so : Bool) (iv : Value) (wr : World) : Prop :=
  ∃ j ws', j ≤ l.length ∧ iv = .int .i64 (j : Int) ∧ Hid (SetI wr p F n c ws') ∧ Hid (bitsW n ws' = setB m (l.take j) so) ∧ Hid (Only F w wr)
set_option maxHeartbeats 4000000 in
theorem put_s {w : World} {p : Value} {F : Nat → Prop} {n c : Nat} {ws : List Nat} (h : SetI w p F n c ws) (a : Option Addr) (ca : Nat) (l : List Int) (hr : RowI w a ca l) (hl : l.length ≤ 1000) (hs : 0 < l.length → ∀ x, a = some x → ¬ F x.block) :
    Calls Tryd.prog 21 #[p, .slice a l.length ca] w fun e w' => e = .returned (.tuple #[]) ∧ ∃ ws', SetI w' p F n c ws' ∧ bitsW n ws' = setB (bitsW n ws) l true ∧ Only F w w' := by
  obtain ⟨f1, f2, f3, f4, f5, f6, ⟨q, rfl⟩, f7⟩ := h.facts
  obtain ⟨L, hL⟩ : ∃ L, L = l.length := ⟨_, rfl⟩
  obtain ⟨m, hm⟩ : ∃ m, m = bitsW n ws := ⟨_, rfl⟩
  have hml : m.length = n := by rw [hm, bitsW_length]
  have R0 : Hid (PutR w (.pointer q) F n c m l true (.int .i64 0) w) := ⟨0, ws, by omega, rfl, h, hide (by rw [← hm]; rfl), Only.refl _ _⟩
  have HR := hide hr
  have HS := hide hs
  have KL := hide hL
  rw [← hm]
  rw [← hL] at hl ⊢
  clear h f1 f5 f6 f7 hr hs hL hm f4
  go_enter Tryd.func21, Tryd.ntmps21
  go_wp2
  go_loopw [8] (fun iv wr => PutR w (.pointer q) F n c m l true iv wr) (fun iv _ => L - (intOf iv).toNat)
  case atStart => exact R0.out
  case round =>
    obtain ⟨j, ws', hj, rfl, hS, hB, hO⟩ := hrel
    clear R0
    by_cases hlt : j < L
    · obtain ⟨b, off, rfl, hc⟩ := (HR.out.only hO.out HS.out).at (i := j) (by rw [← KL.out]; exact hlt)
      obtain ⟨k, hk⟩ : ∃ k, k = l.getD j 0 := ⟨_, rfl⟩
      have HP : Hid (setB m (l.take (j + 1)) true = putB true (setB m (l.take j) true) k) := hide (by rw [hk]; exact setB_take (by rw [← KL.out]; exact hlt))
      have HSL : (setB m (l.take j) true).length = n := by rw [setB_length, hml]
      rw [← hk] at hc
      clear hk
      by_cases h0 : 0 ≤ k
      · by_cases hkn : k < n
        · obtain ⟨K, rfl⟩ : ∃ K : Nat, k = (K : Int) := ⟨k.toNat, by omega⟩
          rcases hS.out with ⟨_, e, _⟩ | ⟨b2, g, e, hW, rfl⟩
          · omega
          cases e
          obtain ⟨f, hf⟩ : ∃ f, f = K / 64 := ⟨_, rfl⟩
          obtain ⟨t, ht⟩ : ∃ t, t = K % 64 := ⟨_, rfl⟩
          have hKf : (K : Int) / 64 = (f : Int) := by omega
          have hKt : (K : Int) % 64 = (t : Int) := by omega
          have ht64 : t < 64 := by omega
          have hcnt := hW.cnt
          have hfc : f < c := by omega
          have h1 := hW.cells.2
          have hwd := hW.word hfc
          have hfr := hW.row.frozen f
          have hxl := hW.lt f hfc
          have hlen := hW.len
          obtain ⟨x, hx⟩ : ∃ x, x = ws'.getD f 0 := ⟨_, rfl⟩
          rw [← hx] at hwd hxl
          have HPW := wrap_pow ht64
          have HOR := bits_or64 x (2 ^ t) hxl (pow_lt ht64)
          obtain ⟨y, hy⟩ : ∃ y, y = 2 ^ t := ⟨_, rfl⟩
          obtain ⟨z, hz⟩ : ∃ z, z = x ||| y := ⟨_, rfl⟩
          rw [← hy] at HPW HOR
          rw [← hz] at HOR
          have hzl : z < 18446744073709551616 := by
            have := Nat.or_lt_two_pow (n := 64) (x := x) (y := 2 ^ t) (by omega) (by have := pow_lt ht64; omega)
            rw [hz, hy]; omega
          have hbit : ∀ i, z.testBit i = if i = t then true else x.testBit i := by rw [hz, hy]; exact or_bit x t
          have HSW : Hid (bitsW n (ws'.set f z) = putB true (setB m (l.take j) true) (K : Int)) := hide (by
            rw [← hB.out]
            unfold putB
            rw [if_pos (by rw [bitsW_length]; omega), hf]
            exact bitsW_set (x := x) (b := true) (by omega) (by omega) (by rw [← hf]; exact hx.symm) (fun i hi => by rw [← ht]; exact hbit i))
          have HTI : Hid (Tight n (ws'.set f z)) := hide (by
            rw [hf]
            exact Tight.set (x := x) (b := true) hW.tight (by omega) (by omega) (by rw [← hf]; exact hx.symm) (fun i hi => by rw [← ht]; exact hbit i))
          have HRM := hide (room_s hS.out)
          have HW := hide hW
          clear hf ht hx hy hz hbit hW hS hcnt
          go_wp2_with (go_at_call 12; go_must ((with_reducible refine (Hid.out HRM).mono ?_); rintro e w9 ⟨rfl, rfl⟩))
          go_region
          go_wp2
          have hO2 : Only (fun k => k = b2 ∨ k = g) w (w9.setCell ⟨g, f, none⟩ (.int .u64 (z : Int))).drew := (hO.out.setCell (p := ⟨g, f, none⟩) (.inl (.inr rfl)) _).drew
          exact ⟨⟨j + 1, ws'.set f z, by rw [← KL.out]; omega, by simp, hide (.inr ⟨b2, g, rfl, (HW.out.set hzl HTI.out).drew, rfl⟩), hide (by rw [HP.out]; exact HSW.out), hO2⟩, by simp [intOf]; omega⟩
        · have HSE : Hid (putB true (setB m (l.take j) true) k = setB m (l.take j) true) := hide (putB_over (by rw [HSL]; omega))
          have HRM := hide (room_s hS.out)
          go_wp2_with (go_at_call 12; go_must ((with_reducible refine (Hid.out HRM).mono ?_); rintro e w9 ⟨rfl, rfl⟩))
          exact ⟨⟨j + 1, ws', by rw [← KL.out]; omega, by simp, hS, hide (by rw [HP.out, HSE.out]; exact hB.out), hO⟩, by simp [intOf]; omega⟩
      · have HSE : Hid (putB true (setB m (l.take j) true) k = setB m (l.take j) true) := hide (putB_over (by omega))
        have h0' : k < 0 := by omega
        go_wp2
        exact ⟨⟨j + 1, ws', by rw [← KL.out]; omega, by simp, hS, hide (by rw [HP.out, HSE.out]; exact hB.out), hO⟩, by simp [intOf]; omega⟩
    · obtain rfl : j = L := by have := KL.out; omega
      go_wp2
      go_end0
      exact ⟨rfl, ws', hS.out, by rw [hB.out, KL.out, List.take_length], hO.out⟩
theorem putB_idle {m : List Bool} {k : Int} (h : hasB m k = false) : putB false m k = m := by
  by_cases q : 0 ≤ k ∧ k < (m.length : Int)
  · obtain ⟨K, rfl⟩ : ∃ K : Nat, k = (K : Int) := ⟨k.toNat, by omega⟩
    rw [hasB_nat] at h
    unfold putB
    rw [if_pos q, Int.toNat_natCast]
    refine ext_getD (by simp) (fun i hi => ?_)
    rw [List.length_set] at hi
    rw [List.getD_eq_getElem?_getD, List.getElem?_set]
    by_cases e : K = i
    · subst e; rw [if_pos rfl, if_pos hi, h]; rfl
    · rw [if_neg e, ← List.getD_eq_getElem?_getD]
  · exact putB_over q
set_option maxHeartbeats 4000000 in
theorem drop_s {w : World} {p : Value} {F : Nat → Prop} {n c : Nat} {ws : List Nat} (h : SetI w p F n c ws) (a : Option Addr) (ca : Nat) (l : List Int) (hr : RowI w a ca l) (hl : l.length ≤ 1000) (hs : 0 < l.length → ∀ x, a = some x → ¬ F x.block) :
    Calls Tryd.prog 24 #[p, .slice a l.length ca] w fun e w' => e = .returned (.tuple #[]) ∧ ∃ ws', SetI w' p F n c ws' ∧ bitsW n ws' = setB (bitsW n ws) l false ∧ Only F w w' := by
  obtain ⟨f1, f2, f3, f4, f5, f6, ⟨q, rfl⟩, f7⟩ := h.facts
  obtain ⟨L, hL⟩ : ∃ L, L = l.length := ⟨_, rfl⟩
  obtain ⟨m, hm⟩ : ∃ m, m = bitsW n ws := ⟨_, rfl⟩
  have hml : m.length = n := by rw [hm, bitsW_length]
  have R0 : Hid (PutR w (.pointer q) F n c m l false (.int .i64 0) w) := ⟨0, ws, by omega, rfl, h, hide (by rw [← hm]; rfl), Only.refl _ _⟩
  have HR := hide hr
  have HS := hide hs
  have KL := hide hL
  rw [← hm]
  rw [← hL] at hl ⊢
  clear h f1 f5 f6 f7 hr hs hL hm f4
  go_enter Tryd.func24, Tryd.ntmps24
  go_wp2
  go_loopw [8] (fun iv wr => PutR w (.pointer q) F n c m l false iv wr) (fun iv _ => L - (intOf iv).toNat)
  case atStart => exact R0.out
  case round =>
    obtain ⟨j, ws', hj, rfl, hS, hB, hO⟩ := hrel
    clear R0
    by_cases hlt : j < L
    · obtain ⟨b, off, rfl, hc⟩ := (HR.out.only hO.out HS.out).at (i := j) (by rw [← KL.out]; exact hlt)
      obtain ⟨k, hk⟩ : ∃ k, k = l.getD j 0 := ⟨_, rfl⟩
      have HP : Hid (setB m (l.take (j + 1)) false = putB false (setB m (l.take j) false) k) := hide (by rw [hk]; exact setB_take (by rw [← KL.out]; exact hlt))
      have HSL : (setB m (l.take j) false).length = n := by rw [setB_length, hml]
      have hwf : (Lit.int .i64 k).wf = true := by rw [hk]; exact HR.out.wf _ (by rw [List.getD_eq_getElem?_getD, List.getElem?_eq_getElem (by rw [← KL.out]; exact hlt)]; exact List.getElem_mem _)
      rw [← hk] at hc
      have HHS := hide (has_s hS.out k hwf)
      rw [hB.out] at HHS
      clear hk hwf
      by_cases hh : hasB (setB m (l.take j) false) k = true
      · have hh2 := hh
        unfold hasB at hh2
        rw [Bool.and_eq_true, decide_eq_true_eq, HSL] at hh2
        rw [hh] at HHS
        obtain ⟨K, rfl⟩ : ∃ K : Nat, k = (K : Int) := ⟨k.toNat, by omega⟩
        have hkn : (K : Int) < n := hh2.1.2
        clear hh hh2
        rcases hS.out with ⟨_, e, _⟩ | ⟨b2, g, e, hW, rfl⟩
        · omega
        cases e
        obtain ⟨f, hf⟩ : ∃ f, f = K / 64 := ⟨_, rfl⟩
        obtain ⟨t, ht⟩ : ∃ t, t = K % 64 := ⟨_, rfl⟩
        have hKf : (K : Int) / 64 = (f : Int) := by omega
        have hKt : (K : Int) % 64 = (t : Int) := by omega
        have ht64 : t < 64 := by omega
        have hcnt := hW.cnt
        have hfc : f < c := by omega
        have h1 := hW.cells.2
        have hwd := hW.word hfc
        have hfr := hW.row.frozen f
        have hxl := hW.lt f hfc
        have hlen := hW.len
        obtain ⟨x, hx⟩ : ∃ x, x = ws'.getD f 0 := ⟨_, rfl⟩
        rw [← hx] at hwd hxl
        have HPW := wrap_pow ht64
        have HOR := bits_andn (x := x) (y := 2 ^ t) hxl (pow_lt ht64)
        obtain ⟨y, hy⟩ : ∃ y, y = 2 ^ t := ⟨_, rfl⟩
        obtain ⟨z, hz⟩ : ∃ z, z = andn x y := ⟨_, rfl⟩
        rw [← hy] at HPW HOR
        rw [← hz] at HOR
        have hzl : z < 18446744073709551616 := by rw [hz]; exact andn_lt hxl
        have hbit : ∀ i, z.testBit i = if i = t then false else x.testBit i := fun i => by
          rw [hz, hy, andn_bit hxl (pow_lt ht64), Nat.testBit_two_pow]
          by_cases e : i = t
          · subst e; simp
          · simp [e, Ne.symm e]
        have HSW : Hid (bitsW n (ws'.set f z) = putB false (setB m (l.take j) false) (K : Int)) := hide (by
          rw [← hB.out]
          unfold putB
          rw [if_pos (by rw [bitsW_length]; omega), hf]
          exact bitsW_set (x := x) (b := false) (by omega) (by omega) (by rw [← hf]; exact hx.symm) (fun i hi => by rw [← ht]; exact hbit i))
        have HTI : Hid (Tight n (ws'.set f z)) := hide (by
          rw [hf]
          exact Tight.set (x := x) (b := false) hW.tight (by omega) (by omega) (by rw [← hf]; exact hx.symm) (fun i hi => by rw [← ht]; exact hbit i))
        have HW := hide hW
        clear hf ht hx hy hz hbit hW hS hcnt
        go_wp2_with (go_at_call 17; go_must ((with_reducible refine (Hid.out HHS).mono ?_); rintro e w9 ⟨rfl, rfl⟩))
        go_region
        go_wp2
        have hO2 : Only (fun k => k = b2 ∨ k = g) w (w9.setCell ⟨g, f, none⟩ (.int .u64 (z : Int))).drew := (hO.out.setCell (p := ⟨g, f, none⟩) (.inl (.inr rfl)) _).drew
        exact ⟨⟨j + 1, ws'.set f z, by rw [← KL.out]; omega, by simp, hide (.inr ⟨b2, g, rfl, (HW.out.set hzl HTI.out).drew, rfl⟩), hide (by rw [HP.out]; exact HSW.out), hO2⟩, by simp [intOf]; omega⟩
      · have hh : hasB (setB m (l.take j) false) k = false := by simpa using hh
        have HSE : Hid (putB false (setB m (l.take j) false) k = setB m (l.take j) false) := hide (putB_idle hh)
        rw [hh] at HHS
        clear hh
        go_wp2_with (go_at_call 17; go_must ((with_reducible refine (Hid.out HHS).mono ?_); rintro e w9 ⟨rfl, rfl⟩))
        exact ⟨⟨j + 1, ws', by rw [← KL.out]; omega, by simp, hS, hide (by rw [HP.out, HSE.out]; exact hB.out), hO⟩, by simp [intOf]; omega⟩
    · obtain rfl : j = L := by have := KL.out; omega
      go_wp2
      go_end0
      exact ⟨rfl, ws', hS.out, by rw [hB.out, KL.out, List.take_length], hO.out⟩
end Go.Proofs.YtbljbhgelcakdaaDoor.Bit
