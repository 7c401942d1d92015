/- Contracts of the program's and the document's ways to read a number: each answers what the plain function tells, and leaves the world alone. -/
import Derived.Test.YtigmgkcojifbcaaRows
import Derived.Test.YtigmgkcojifbcaaDigPlain
import Derived.WalkKit
import Derived.Handy
namespace Go.Proofs.Ytigmgkcojifbcaa.Dig
open Go.RowKit
set_option linter.unusedVariables false
set_option linter.unusedSimpArgs false

/-- What is read of a row of numbers of some kind: its cells. -/
def Rd (k : IntKind) (w : World) (a : Option Addr) (len : Nat) (z : Nat → Int) : Prop :=
  len ≤ 1000000000000 ∧ ∀ i, i < len → ∃ b off, a = some ⟨b, off, none⟩ ∧ w.cell? ⟨b, off + i, none⟩ = some (.int k (z i)) ∧ (Lit.int k (z i)).wf = true

theorem digit_yes (x : Int) (w : World) (h : 48 ≤ x ∧ x ≤ 57) :
    Calls Try.prog 83 #[.int .u8 x] w fun e w' => e = .returned (.tuple #[.int .i64 (x - 48), .bool true]) ∧ w' = w := by
  obtain ⟨h1, h2⟩ := h
  go_enter Try.func83, Try.ntmps83
  go_wp2
  go_ret2
  exact ⟨rfl, rfl⟩
theorem digit_no (x : Int) (w : World) (h : ¬ (48 ≤ x ∧ x ≤ 57)) (h0 : 0 ≤ x) (h1 : x ≤ 255) :
    Calls Try.prog 83 #[.int .u8 x] w fun e w' => e = .returned (.tuple #[.int .i64 0, .bool false]) ∧ w' = w := by
  rcases (show x < 48 ∨ 57 < x from by omega) with h | h
  all_goals
    go_enter Try.func83, Try.ntmps83
    go_wp2
    go_ret2
    exact ⟨rfl, rfl⟩
theorem rdigit_any (x : Int) (w : World) :
    Calls Try.prog 66 #[.int .u8 x] w fun e w' => e = .returned (.bool (dgt x)) ∧ w' = w := by
  by_cases h1 : 48 ≤ x
  · by_cases h2 : x ≤ 57
    · have : dgt x = true := dgt_iff.2 ⟨h1, h2⟩
      go_enter Try.func66, Try.ntmps66
      go_wp2
      go_ret
      exact ⟨by simp [*], rfl⟩
    · have : dgt x = false := dgt_no.2 (by omega)
      go_enter Try.func66, Try.ntmps66
      go_wp2
      go_ret
      exact ⟨by simp [*], rfl⟩
  · have : dgt x = false := dgt_no.2 (by omega)
    go_enter Try.func66, Try.ntmps66
    go_wp2
    go_ret
    exact ⟨by simp [*], rfl⟩

theorem ret3 {k1 k2 : IntKind} {n n' t t' : Int} {b b' : Bool} (r : Int × Int × Bool) (h : r = (n', t', b')) (h1 : n = n') (h2 : t = t') (h3 : b = b') :
    Ending.returned (.tuple #[.int k1 n, .int k2 t, .bool b]) = .returned (.tuple #[.int k1 r.1, .int k2 r.2.1, .bool r.2.2]) := by subst h h1 h2 h3; rfl
theorem Rd.le {k : IntKind} {w : World} {a : Option Addr} {len : Nat} {z : Nat → Int} (h : Rd k w a len z) : len ≤ 1000000000000 := h.1
theorem Rd.u8 {w : World} {a : Option Addr} {len : Nat} {z : Nat → Int} (h : Rd .u8 w a len z) {i : Nat} (hi : i < len) :
    ∃ b off, a = some ⟨b, off, none⟩ ∧ w.cell? ⟨b, off + i, none⟩ = some (.int .u8 (z i)) ∧ 0 ≤ z i ∧ z i ≤ 255 := by
  obtain ⟨b, off, h1, h2, h3⟩ := h.2 i hi
  have := bounds_u8 h3
  exact ⟨b, off, h1, h2, by omega, by omega⟩

def PRel (z : Nat → Int) (len a0 : Nat) (n t : Value) : Prop :=
  ∃ m : Nat, a0 + m ≤ len ∧ t = .int .i64 ((a0 : Int) + m) ∧ n = .int .i64 (val z a0 m) ∧ (∀ j, j < m → dgt (z (a0 + j)) = true) ∧ (m = 0 ∨ okm z a0 m = true) ∧ Hid (parse z len (a0 : Int) = scan z len a0 (len - a0 - m) m)

set_option maxHeartbeats 800000 in
theorem parse_inside (a : Option Addr) (len cap : Nat) (z : Nat → Int) (a0 : Nat) (w : World) (h : Rd .u8 w a len z) (hat : a0 ≤ len) :
    Calls Try.prog 81 #[.slice a len cap, .int .i64 (a0 : Int)] w fun e w' => e = .returned (.tuple #[.int .i64 (parse z len (a0 : Int)).1, .int .i64 (parse z len (a0 : Int)).2.1, .bool (parse z len (a0 : Int)).2.2]) ∧ w' = w := by
  have hlen := h.le
  have hat' : ¬ len < a0 := by omega
  have hat2 : ¬ (a0 : Int) < 0 := by omega
  have hp := parse_in (z := z) hat
  have HP : Hid (parse z len (a0 : Int) = scan z len a0 (len - a0 - 0) 0) := hp
  clear hp
  go_enter Try.func81, Try.ntmps81
  go_wp2
  go_loop [7, 8] (fun n t => PRel z len a0 n t)
    (fun _ t => len - (intOf t).toNat)
  case atStart => exact ⟨0, by omega, by go_num, rfl, by omega, .inl rfl, HP⟩
  case round =>
    obtain ⟨m, hm, rfl, rfl, hdg, hok, hps⟩ := hrel
    have hv := ok_bd hdg hok
    have HD : Hid (∀ j, j < m → dgt (z (a0 + j)) = true) := hdg
    have HO : Hid (m = 0 ∨ okm z a0 m = true) := hok
    clear hdg hok
    by_cases hlt : a0 + m < len
    · obtain ⟨b, off, rfl, hcell, hz0, hz1⟩ := h.u8 hlt
      by_cases hd : dgt (z (a0 + m)) = true
      · have hdi := dgt_iff.1 hd
        have hs := ok_step z a0 m (by intro j hj; by_cases e : j = m; · rw [e]; exact hd
                                      · exact HD.out j (by omega)) HO.out
        have HS : Hid (okm z a0 (m + 1) = true ↔ ¬ ((0 < m ∧ val z a0 m = 0) ∨ (2147483647 - (z (a0 + m) - 48)) / 10 < val z a0 m)) := hs
        obtain ⟨hd1, hd2⟩ := hdi
        have HDD : Hid (dgt (z (a0 + m)) = true) := hd
        clear hs hd
        by_cases hok : okm z a0 (m + 1) = true
        · have hn := HS.out.1 hok
          have hn1 : ¬ (2147483647 - (z (a0 + m) - 48)) / 10 < val z a0 m := fun g => hn (.inr g)
          have hn2 : 0 < m → (val z a0 m == 0) = false := fun g => by
            have : val z a0 m ≠ 0 := fun q => hn (.inl ⟨g, q⟩)
            simpa using this
          have HOK : Hid (okm z a0 (m + 1) = true) := hok
          clear hn hok
          by_cases hm0 : 0 < m
          all_goals
            have hn2' := hn2
            clear hn2
            go_wp2_with (go_at_call 83; refine (digit_yes _ _ ⟨hd1, hd2⟩).mono ?_; rintro e w' ⟨rfl, rfl⟩)
            go_round
            case rel =>
              have R : PRel z len a0 (.int .i64 (10 * val z a0 m + (z (a0 + m) - 48))) (.int .i64 ((a0 : Int) + m + 1)) := by
                refine ⟨m + 1, by omega, by go_num, rfl, ?_, .inr HOK.out, hps.out.trans (scan_hit hlt HDD.out HOK.out)⟩
                intro j hj
                by_cases e : j = m
                · rw [e]; exact HDD.out
                · exact HD.out j (by omega)
              exact R
            case measure => simp [intOf]; omega
        · have hn : (0 < m ∧ val z a0 m = 0) ∨ (2147483647 - (z (a0 + m) - 48)) / 10 < val z a0 m := by
            by_cases g : (0 < m ∧ val z a0 m = 0) ∨ (2147483647 - (z (a0 + m) - 48)) / 10 < val z a0 m
            · exact g
            · exact absurd (HS.out.2 g) hok
          have HR : Hid (parse z len (a0 : Int) = (0, ((a0 + m : Nat) : Int), false)) := hps.out.trans (scan_bad hlt HDD.out hok)
          clear hok
          have hn' : (0 < m ∧ (val z a0 m == 0) = true) ∨ ((0 < m → (val z a0 m == 0) = false) ∧ (2147483647 - (z (a0 + m) - 48)) / 10 < val z a0 m) := by
            by_cases g : 0 < m ∧ val z a0 m = 0
            · exact .inl ⟨g.1, by simpa using g.2⟩
            · refine .inr ⟨fun q => ?_, ?_⟩
              · have : val z a0 m ≠ 0 := fun r => g ⟨q, r⟩
                simpa using this
              · rcases hn with hn | hn
                · exact absurd hn g
                · exact hn
          clear hn
          rcases hn' with ⟨hm0, hv0⟩ | ⟨hv0, hbig⟩
          · go_wp2_with (go_at_call 83; refine (digit_yes _ _ ⟨hd1, hd2⟩).mono ?_; rintro e w' ⟨rfl, rfl⟩)
            go_ret3
            exact ⟨ret3 _ HR.out rfl (by omega) rfl, rfl⟩
          · by_cases hm0 : 0 < m
            all_goals
              go_wp2_with (go_at_call 83; refine (digit_yes _ _ ⟨hd1, hd2⟩).mono ?_; rintro e w' ⟨rfl, rfl⟩)
              go_ret3
              exact ⟨ret3 _ HR.out rfl (by omega) rfl, rfl⟩
      · have hdi : ¬ (48 ≤ z (a0 + m) ∧ z (a0 + m) ≤ 57) := fun g => hd (dgt_iff.2 g)
        have hse := scan_end (z := z) (len := len) (a := a0) (m := m) (by simp [hd])
        have HR : Hid (parse z len (a0 : Int) = if m = 0 then (0, (a0 : Int), false) else (val z a0 m, ((a0 + m : Nat) : Int), true)) := hps.out.trans hse
        clear hse hd
        go_wp2_with (go_at_call 83; refine (digit_no _ _ hdi hz0 hz1).mono ?_; rintro e w' ⟨rfl, rfl⟩)
        · have hm0 : m = 0 := by have g : ((a0 : Int) + m == a0) = true := by assumption
                                 simp at g; omega
          go_ret3
          exact ⟨ret3 _ (HR.out.trans (if_pos hm0)) rfl rfl rfl, rfl⟩
        · have hm0 : ¬ m = 0 := by have g : ((a0 : Int) + m == a0) = false := by assumption
                                   simp at g; omega
          go_ret3
          exact ⟨ret3 _ (HR.out.trans (if_neg hm0)) rfl (by omega) rfl, rfl⟩
    · have hse := scan_end (z := z) (len := len) (a := a0) (m := m) (by omega)
      have HR : Hid (parse z len (a0 : Int) = if m = 0 then (0, (a0 : Int), false) else (val z a0 m, ((a0 + m : Nat) : Int), true)) := hps.out.trans hse
      clear hse
      go_wp2
      · have hm0 : m = 0 := by have g : ((a0 : Int) + m == a0) = true := by assumption
                               simp at g; omega
        go_ret3
        exact ⟨ret3 _ (HR.out.trans (if_pos hm0)) rfl rfl rfl, rfl⟩
      · have hm0 : ¬ m = 0 := by have g : ((a0 : Int) + m == a0) = false := by assumption
                                 simp at g; omega
        go_ret3
        exact ⟨ret3 _ (HR.out.trans (if_neg hm0)) rfl (by omega) rfl, rfl⟩

theorem parse_outside (a : Option Addr) (len cap : Nat) (z : Nat → Int) (at_ : Int) (w : World) (hat : at_ < 0 ∨ (len : Int) < at_) :
    Calls Try.prog 81 #[.slice a len cap, .int .i64 at_] w fun e w' => e = .returned (.tuple #[.int .i64 (parse z len at_).1, .int .i64 (parse z len at_).2.1, .bool (parse z len at_).2.2]) ∧ w' = w := by
  rw [parse_out hat]
  by_cases h0 : at_ < 0
  · go_enter Try.func81, Try.ntmps81
    go_wp2
    go_ret3
    exact ⟨rfl, rfl⟩
  · have h1 : (len : Int) < at_ := by omega
    clear hat
    go_enter Try.func81, Try.ntmps81
    go_wp2
    go_ret3
    exact ⟨rfl, rfl⟩
/-- The program's Parse, at whatever place. -/
theorem parse_any (a : Option Addr) (len cap : Nat) (z : Nat → Int) (at_ : Int) (w : World) (h : Rd .u8 w a len z) :
    Calls Try.prog 81 #[.slice a len cap, .int .i64 at_] w fun e w' => e = .returned (.tuple #[.int .i64 (parse z len at_).1, .int .i64 (parse z len at_).2.1, .bool (parse z len at_).2.2]) ∧ w' = w := by
  by_cases hat : at_ < 0 ∨ (len : Int) < at_
  · exact parse_outside a len cap z at_ w hat
  · obtain ⟨a0, rfl⟩ : ∃ a0 : Nat, at_ = a0 := ⟨at_.toNat, by omega⟩
    exact parse_inside a len cap z a0 w h (by omega)

theorem val_ten {z : Nat → Int} {s k : Nat} (hd : ∀ j, j < k → dgt (z (s + j)) = true) (hk : k ≤ 10) : 0 ≤ val z s k ∧ val z s k ≤ 10000000000 := by
  have h := val_bd z s k hd
  have := pow_le_of hk
  have e : (10 : Int) ^ 10 = 10000000000 := by decide
  omega
theorem ret1 {k : IntKind} {n n' : Int} (h : n = n') : Ending.returned (.int k n) = .returned (.int k n') := by rw [h]
/-- What the document's Value tells of a row of digits. -/
def valS (z : Nat → Int) (s len : Nat) : Int := if okm z s len = true then val z s len else -1
set_option maxHeartbeats 800000 in
theorem value_digits (a : Option Addr) (len cap : Nat) (z : Nat → Int) (s : Nat) (w : World) (h : Rd .u8 w a len (fun i => z (s + i))) (hd : ∀ j, j < len → dgt (z (s + j)) = true) :
    Calls Try.prog 67 #[.slice a len cap] w fun e w' => e = .returned (.int .i64 (valS z s len)) ∧ w' = w := by
  have hlen := h.le
  have HD : Hid (∀ j, j < len → dgt (z (s + j)) = true) := hd
  clear hd
  by_cases h0 : len = 0
  · subst h0
    go_enter Try.func67, Try.ntmps67
    go_wp2
    go_ret
    exact ⟨ret1 (by simp [valS, okm]), rfl⟩
  have g0 : ((len : Int) == 0) = false := by simp; omega
  by_cases h10 : 10 < len
  · have g10 : (10 : Int) < len := by omega
    go_enter Try.func67, Try.ntmps67
    go_wp2
    go_ret
    exact ⟨ret1 (by have : ¬ len ≤ 10 := by omega
                    simp [valS, okm, this]), rfl⟩
  have g10 : ¬ (10 : Int) < len := by omega
  have hz := h.u8 (show 0 < len by omega)
  obtain ⟨b, off, rfl, hcell, hz0, hz1⟩ := hz
  simp only [Nat.add_zero] at hcell hz0 hz1
  by_cases hlead : 1 < len ∧ z s = 48
  · have g1 : (1 : Int) < len := by omega
    have g2 := hlead.2
    have g3 : (z s == 48) = true := by simp [g2]
    have HL : Hid (1 < len ∧ z s = 48) := hlead
    clear hlead g2
    go_enter Try.func67, Try.ntmps67
    go_wp2
    go_ret
    exact ⟨ret1 (by have := HL.out; simp [valS, okm, this]), rfl⟩
  have HL : Hid (¬ (1 < len ∧ z s = 48)) := hlead
  have gl : (1 : Int) < len → (z s == 48) = false := by intro q; simp; intro r; exact hlead ⟨by omega, r⟩
  clear hlead
  by_cases g1 : (1 : Int) < len
  all_goals
    have gl' := gl
    clear gl
    go_enter Try.func67, Try.ntmps67
    go_wp2
    go_loop [3, 4] (fun n i => ∃ k : Nat, k ≤ len ∧ i = .int .i64 k ∧ n = .int .i64 (val z s k)) (fun _ i => len - (intOf i).toNat)
    case atStart => exact ⟨0, Nat.zero_le _, rfl, rfl⟩
    case round =>
      obtain ⟨k, hk, rfl, rfl⟩ := hrel
      have hv := val_ten (z := z) (s := s) (k := k) (fun j hj => HD.out j (by omega)) (by omega)
      by_cases hlt : k < len
      · obtain ⟨b', off', hb, hck, hk0, hk1⟩ := h.u8 hlt
        simp only [Option.some.injEq, Addr.mk.injEq] at hb
        obtain ⟨rfl, rfl, _⟩ := hb
        have hdk : dgt (z (s + k)) = true := HD.out k hlt
        have hdi := dgt_iff.1 hdk
        obtain ⟨hd1, hd2⟩ := hdi
        go_wp2_with (go_at_call 66; refine (rdigit_any _ _).mono ?_; rintro e w' ⟨rfl, rfl⟩)
        go_round
        case rel => exact ⟨k + 1, by omega, by go_num, by first | rfl | (simp only [val]; go_num)⟩
        case measure => simp [intOf]; omega
      · have hkl : Hid (k = len) := (by omega : k = len)
        by_cases hbig : 2147483647 < val z s k
        · go_wp2
          go_ret
          exact ⟨ret1 (by have : ¬ val z s len ≤ 2147483647 := by rw [← hkl.out]; omega
                          simp [valS, okm, this]), rfl⟩
        · go_wp2
          go_ret
          refine ⟨ret1 ?_, rfl⟩
          rw [valS, if_pos, hkl.out]
          exact okm_iff.2 ⟨by omega, by omega, HL.out, by rw [← hkl.out]; omega⟩

theorem Rd.sub {w : World} {b off len : Nat} {z : Nat → Int} {k : IntKind} (h : Rd k w (some ⟨b, off, none⟩) len z) (s l : Nat) (hl : s + l ≤ len) : Rd k w (some ⟨b, off + s, none⟩) l (fun i => z (s + i)) := by
  refine ⟨by have := h.1; omega, fun i hi => ?_⟩
  obtain ⟨b', off', e, hc, hw⟩ := h.2 (s + i) (by omega)
  simp only [Option.some.injEq, Addr.mk.injEq] at e
  obtain ⟨rfl, rfl, _⟩ := e
  exact ⟨b, off + s, rfl, by rw [Nat.add_assoc]; exact hc, hw⟩
theorem valS_neg {z : Nat → Int} {s l : Nat} (h : ¬ okm z s l = true) : valS z s l < 0 := by rw [valS, if_neg h]; omega
theorem valS_pos {z : Nat → Int} {s l : Nat} (h : okm z s l = true) : valS z s l = val z s l := by rw [valS, if_pos h]
def EndRel (z : Nat → Int) (len a0 : Nat) (t : Value) : Prop := ∃ m : Nat, a0 + m ≤ len ∧ t = .int .i64 ((a0 : Int) + m) ∧ (∀ j, j < m → dgt (z (a0 + j)) = true)
def KRel (z : Nat → Int) (len a0 e : Nat) (t : Value) : Prop := ∃ m : Nat, m ≤ e ∧ t = .int .i64 ((a0 : Int) + m + 1) ∧ (m = 0 ∨ okm z a0 m = true) ∧ Hid (parse z len (a0 : Int) = scan z len a0 (len - a0 - m) m)

set_option maxHeartbeats 1600000 in
theorem rparse_inside (b off len cap : Nat) (z : Nat → Int) (a0 : Nat) (w : World) (h : Rd .u8 w (some ⟨b, off, none⟩) len z) (hcap : len ≤ cap) (hat : a0 < len) :
    Calls Try.prog 48 #[.slice (some ⟨b, off, none⟩) len cap, .int .i64 (a0 : Int)] w fun e w' => e = .returned (.tuple #[.int .i64 (parse z len (a0 : Int)).1, .int .i64 (parse z len (a0 : Int)).2.1, .bool (parse z len (a0 : Int)).2.2]) ∧ w' = w := by
  have hlen := h.le
  have hat' : ¬ len < a0 := by omega
  have hat2 : ¬ (a0 : Int) < 0 := by omega
  have hca : ¬ cap = a0 := by omega
  have HP : Hid (parse z len (a0 : Int) = scan z len a0 (len - a0 - 0) 0) := parse_in (by omega)
  go_enter Try.func48, Try.ntmps48
  go_wp2
  go_loop [7] (fun t => EndRel z len a0 t) (fun t => len - (intOf t).toNat)
  case atStart => exact ⟨0, by omega, by go_num, by omega⟩
  case round =>
    obtain ⟨m, hm, rfl, hdg⟩ := hrel
    have HD : Hid (∀ j, j < m → dgt (z (a0 + j)) = true) := hdg
    clear hdg
    by_cases hgo : a0 + m < len ∧ dgt (z (a0 + m)) = true
    · obtain ⟨hlt, hd⟩ := hgo
      obtain ⟨b', off', hb, hck, hk0, hk1⟩ := h.u8 hlt
      simp only [Option.some.injEq, Addr.mk.injEq] at hb
      obtain ⟨rfl, rfl, _⟩ := hb
      go_wp2_with (go_at_call 66; refine (rdigit_any _ _).mono ?_; rintro e w' ⟨rfl, rfl⟩)
      go_round
      case rel =>
        refine ⟨m + 1, by omega, by go_num, ?_⟩
        intro j hj
        by_cases e : j = m
        · rw [e]; exact hd
        · exact HD.out j (by omega)
      case measure => simp [intOf]; omega
    · have HG : Hid (¬ (a0 + m < len ∧ dgt (z (a0 + m)) = true)) := hgo
      have hgo' : (a0 + m < len ∧ dgt (z (a0 + m)) = false) ∨ ¬ a0 + m < len := by
        by_cases q : a0 + m < len
        · exact .inl ⟨q, by simpa [q] using hgo⟩
        · exact .inr q
      clear hgo
      have hcell : a0 + m < len → w.cell? ⟨b, off + (a0 + m), none⟩ = some (.int .u8 (z (a0 + m))) := by
        intro hlt
        obtain ⟨b', off', hb, hck, hk0, hk1⟩ := h.u8 hlt
        simp only [Option.some.injEq, Addr.mk.injEq] at hb
        obtain ⟨rfl, rfl, _⟩ := hb
        exact hck
      rcases hgo' with ⟨hlt, hd⟩ | hlt
      all_goals
        go_wp2_with (go_at_call 66; refine (rdigit_any _ _).mono ?_; rintro e w' ⟨rfl, rfl⟩)
        go_loop [8] (fun t => KRel z len a0 m t) (fun t => len + 2 - (intOf t).toNat)
        case atStart => exact ⟨0, by omega, by go_num, .inl rfl, HP⟩
        case round =>
          obtain ⟨q, hq, rfl, hok, hps⟩ := hrel
          have HO : Hid (q = 0 ∨ okm z a0 q = true) := hok
          clear hok
          by_cases hqm : q < m
          · by_cases hok' : okm z a0 (q + 1) = true
            · have hv : ¬ valS z a0 (a0 + q + 1 - a0) < 0 := by
                rw [show a0 + q + 1 - a0 = q + 1 by omega, valS_pos hok']
                have := (val_bd z a0 (q + 1) (fun j hj => HD.out j (by omega))).1
                omega
              have HK : Hid (okm z a0 (q + 1) = true) := hok'
              clear hok'
              go_wp2_with (go_at_call 67; refine (value_digits _ _ _ z a0 _ (h.sub a0 _ (by omega)) (fun j hj => HD.out j (by omega))).mono ?_; rintro e w' ⟨rfl, rfl⟩)
              go_round
              case rel => exact ⟨q + 1, by omega, by go_num, .inr HK.out, hps.out.trans (scan_hit (by omega) (HD.out q (by omega)) HK.out)⟩
              case measure => simp [intOf]; omega
            · have hv : valS z a0 (a0 + q + 1 - a0) < 0 := by
                rw [show a0 + q + 1 - a0 = q + 1 by omega]
                exact valS_neg hok'
              have HR : Hid (parse z len (a0 : Int) = (0, ((a0 + q : Nat) : Int), false)) := hps.out.trans (scan_bad (by omega) (HD.out q (by omega)) hok')
              clear hok'
              go_wp2_with (go_at_call 67; refine (value_digits _ _ _ z a0 _ (h.sub a0 _ (by omega)) (fun j hj => HD.out j (by omega))).mono ?_; rintro e w' ⟨rfl, rfl⟩)
              go_ret3
              exact ⟨ret3 _ HR.out rfl (by omega) rfl, rfl⟩
          · have hqe : Hid (q = m) := (by omega : q = m)
            have HR : Hid (parse z len (a0 : Int) = if m = 0 then (0, (a0 : Int), false) else (val z a0 m, ((a0 + m : Nat) : Int), true)) :=
              hps.out.trans (by rw [hqe.out]; exact scan_end HG.out)
            by_cases hm0 : m = 0
            · have g1 : ((a0 : Int) + m == a0) = true := by simp [hm0]
              have HM : Hid (m = 0) := hm0
              clear hm0
              go_wp2
              go_ret3
              exact ⟨ret3 _ (HR.out.trans (if_pos HM.out)) rfl rfl rfl, rfl⟩
            · have g1 : ((a0 : Int) + m == a0) = false := by simp; omega
              have hv : Hid (valS z a0 m = val z a0 m) := by
                exact valS_pos (by rcases HO.out with g | g
                                   · exact absurd (hqe.out.symm.trans g) hm0
                                   · rw [← hqe.out]; exact g)
              have HM : Hid (¬ m = 0) := hm0
              clear hm0
              go_wp2_with (go_at_call 67; refine (value_digits _ _ _ z a0 _ (h.sub a0 _ (by omega)) (fun j hj => HD.out j (by omega))).mono ?_; rintro e w' ⟨rfl, rfl⟩)
              go_ret3
              refine ⟨ret3 _ (HR.out.trans (if_neg HM.out)) ?_ ?_ rfl, rfl⟩
              · exact hv.out
              · omega

theorem rparse_end (a : Option Addr) (len cap : Nat) (z : Nat → Int) (w : World) (hlen : len ≤ 1000000000000) :
    Calls Try.prog 48 #[.slice a len cap, .int .i64 (len : Int)] w fun e w' => e = .returned (.tuple #[.int .i64 (parse z len (len : Int)).1, .int .i64 (parse z len (len : Int)).2.1, .bool (parse z len (len : Int)).2.2]) ∧ w' = w := by
  have hat2 : ¬ (len : Int) < 0 := by omega
  have HP : Hid (parse z len (len : Int) = (0, (len : Int), false)) := by
    refine (parse_in (Nat.le_refl _)).trans ?_
    rw [scan_end (by omega)]; rfl
  go_enter Try.func48, Try.ntmps48
  go_wp2
  go_loop [7] (fun t => t = .int .i64 (len : Int)) (fun t => 0)
  case atStart => rfl
  case round =>
    subst hrel
    go_wp2
    go_loop [8] (fun t => t = .int .i64 ((len : Int) + 1)) (fun t => 0)
    case atStart => rfl
    case round =>
      subst hrel
      go_wp2
      go_ret3
      exact ⟨ret3 _ HP.out rfl rfl rfl, rfl⟩
theorem rparse_outside (a : Option Addr) (len cap : Nat) (z : Nat → Int) (at_ : Int) (w : World) (hat : at_ < 0 ∨ (len : Int) < at_) :
    Calls Try.prog 48 #[.slice a len cap, .int .i64 at_] w fun e w' => e = .returned (.tuple #[.int .i64 (parse z len at_).1, .int .i64 (parse z len at_).2.1, .bool (parse z len at_).2.2]) ∧ w' = w := by
  rw [parse_out hat]
  by_cases h0 : at_ < 0
  · go_enter Try.func48, Try.ntmps48
    go_wp2
    go_ret3
    exact ⟨rfl, rfl⟩
  · have h1 : (len : Int) < at_ := by omega
    clear hat
    go_enter Try.func48, Try.ntmps48
    go_wp2
    go_ret3
    exact ⟨rfl, rfl⟩
/-- The document's Parse, at whatever place: it tells what the program's does. -/
theorem rparse_any (a : Option Addr) (len cap : Nat) (z : Nat → Int) (at_ : Int) (w : World) (h : Rd .u8 w a len z) (hcap : len ≤ cap) :
    Calls Try.prog 48 #[.slice a len cap, .int .i64 at_] w fun e w' => e = .returned (.tuple #[.int .i64 (parse z len at_).1, .int .i64 (parse z len at_).2.1, .bool (parse z len at_).2.2]) ∧ w' = w := by
  by_cases hat : at_ < 0 ∨ (len : Int) < at_
  · exact rparse_outside a len cap z at_ w hat
  · obtain ⟨a0, rfl⟩ : ∃ a0 : Nat, at_ = a0 := ⟨at_.toNat, by omega⟩
    by_cases h0 : a0 < len
    · obtain ⟨b, off, rfl, _⟩ := h.u8 h0
      exact rparse_inside b off len cap z a0 w h hcap h0
    · obtain rfl : a0 = len := by omega
      exact rparse_end a a0 cap z w h.le
end Go.Proofs.Ytigmgkcojifbcaa.Dig
