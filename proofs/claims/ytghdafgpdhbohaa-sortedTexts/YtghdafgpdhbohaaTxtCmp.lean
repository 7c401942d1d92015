/- How lists of texts stand: the program's Compare and Same. -/
import Derived.Test.YtghdafgpdhbohaaSetCmp
import Derived.Test.YtghdafgpdhbohaaTxtRow
namespace Go.Proofs.Ytghdafgpdhbohaa.SetsT
open Go.RowKit Go.Proofs.Ytghdafgpdhbohaa.Sets Go.Proofs.Ytghdafgpdhbohaa.Dig Go.Proofs.Ytghdafgpdhbohaa.Mem
set_option linter.unusedVariables false
set_option linter.unusedSimpArgs false

def cmpT (x y : List UInt8) : Int := if ltS x y then -1 else if ltS y x then 1 else 0
theorem isnan_any (x : ByteArray) (w : World) : Calls Try.prog 74 #[.string x] w fun e w' => e = .returned (.bool false) ∧ w' = w := by
  go_enter Try.func74, Try.ntmps74
  go_wp2
  go_ret
  exact ⟨by simp, rfl⟩
set_option maxHeartbeats 1000000 in
theorem less_any (x y : List UInt8) (w : World) : Calls Try.prog 52 #[.string ⟨x.toArray⟩, .string ⟨y.toArray⟩] w fun e w' => e = .returned (.bool (ltS x y)) ∧ w' = w := by
  go_enter Try.func52, Try.ntmps52
  go_wp2_with (go_at_call 74; refine (isnan_any _ _).mono ?_; rintro e w' ⟨rfl, rfl⟩)
  go_ret
  exact ⟨by rw [bytes_less]; rfl, rfl⟩
set_option maxHeartbeats 1000000 in
theorem ccmp_any (x y : List UInt8) (w : World) : Calls Try.prog 53 #[.string ⟨x.toArray⟩, .string ⟨y.toArray⟩] w fun e w' => e = .returned (.int .i64 (cmpT x y)) ∧ w' = w := by
  have b1 := bytes_less x y
  have b2 := bytes_less y x
  obtain ⟨r, hr⟩ : ∃ r, r = cmpT x y := ⟨_, rfl⟩
  rw [← hr]
  unfold cmpT at hr
  cases h1 : ltS x y
  · cases h2 : ltS y x
    · rw [h1] at b1
      rw [h2] at b2
      have HR : Hid (r = 0) := by show _ = _; rw [hr, h1, h2]; rfl
      clear hr h1 h2
      go_enter Try.func53, Try.ntmps53
      go_wp2_with (go_at_call 74; refine (isnan_any _ _).mono ?_; rintro e w' ⟨rfl, rfl⟩)
      go_ret
      rw [HR.out]
      exact ⟨rfl, rfl⟩
    · rw [h1] at b1
      rw [h2] at b2
      have HR : Hid (r = 1) := by show _ = _; rw [hr, h1, h2]; rfl
      clear hr h1 h2
      go_enter Try.func53, Try.ntmps53
      go_wp2_with (go_at_call 74; refine (isnan_any _ _).mono ?_; rintro e w' ⟨rfl, rfl⟩)
      go_ret
      rw [HR.out]
      exact ⟨rfl, rfl⟩
  · rw [h1] at b1
    have HR : Hid (r = -1) := by show _ = _; rw [hr, h1]; rfl
    clear hr h1 b2
    go_enter Try.func53, Try.ntmps53
    go_wp2_with (go_at_call 74; refine (isnan_any _ _).mono ?_; rintro e w' ⟨rfl, rfl⟩)
    go_ret
    rw [HR.out]
    exact ⟨rfl, rfl⟩
theorem cmpT_lt {x y : List UInt8} (h : ltS x y = true) : cmpT x y = -1 := by simp [cmpT, h]
theorem cmpT_gt {x y : List UInt8} (h : ltS y x = true) : cmpT x y = 1 := by simp [cmpT, h, totS.asym h]
theorem cmpT_eq {x y : List UInt8} (h : x = y) : cmpT x y = 0 := by subst h; simp [cmpT, totS.irr]
theorem lexT_cons (x y : List UInt8) (a b : List (List UInt8)) : lexL ltS (x :: a) (y :: b) = if cmpT x y = 0 then lexL ltS a b else cmpT x y := by
  rw [lexL]
  generalize lexL ltS a b = r
  unfold cmpT
  cases h1 : ltS x y
  · cases h2 : ltS y x <;> simp
  · simp
theorem lexT_step {a b : List (List UInt8)} {i : Nat} (ha : i < a.length) (hb : i < b.length) :
    lexL ltS (a.drop i) (b.drop i) = if cmpT (a.getD i []) (b.getD i []) = 0 then lexL ltS (a.drop (i + 1)) (b.drop (i + 1)) else cmpT (a.getD i []) (b.getD i []) := by
  rw [drop_at ha, drop_at hb, lexT_cons]
theorem lexT_end {a b : List (List UInt8)} {i : Nat} (ha : a.length ≤ i) : lexL ltS (a.drop i) (b.drop i) = 0 := by
  rw [List.drop_eq_nil_of_le ha]; simp [lexL]
def LRel2 (a b : List (List UInt8)) (i : Value) : Prop := ∃ k : Nat, k ≤ a.length ∧ i = .int .i64 (k : Int) ∧ Hid (lexL ltS (a.drop k) (b.drop k) = lexL ltS a b)
set_option maxHeartbeats 1000000 in
theorem lcmp_any (x y : Option Addr) (c d : Nat) (a b : List (List UInt8)) (w : World) (ha : RowT w x c a) (hb : RowT w y d b) (hl : a.length = b.length) :
    Calls Try.prog 54 #[.slice x a.length c, .slice y b.length d] w fun e w' => e = .returned (.int .i64 (lexL ltS a b)) ∧ w' = w := by
  have hlen := ha.le
  have HL : Hid (a.length = b.length) := hl
  obtain ⟨n, hn⟩ : ∃ n, n = a.length := ⟨_, rfl⟩
  have hnb : b.length = n := by rw [hn, hl]
  rw [← hn, hnb]
  have R0 : Hid (LRel2 a b (.int .i64 0)) := ⟨0, by omega, rfl, by show _ = _; simp⟩
  have HN : Hid (n = a.length) := hn
  rw [← hn] at hlen
  clear hl hn hnb
  go_enter Try.func54, Try.ntmps54
  go_wp2
  go_loopw [11] (fun i wr => LRel2 a b i ∧ wr = w) (fun i _ => n - (intOf i).toNat)
  case atStart => exact ⟨R0.out, rfl⟩
  case round =>
    obtain ⟨⟨k, hk, rfl, hx⟩, rfl⟩ := hrel
    rw [← HN.out] at hk
    by_cases hlt : k < n
    · have h1 : k < a.length := by rw [← HN.out]; exact hlt
      have h2 : k < b.length := by rw [← HL.out]; exact h1
      obtain ⟨b1, o1, rfl, hc1⟩ := ha.at h1
      obtain ⟨b2, o2, rfl, hc2⟩ := hb.at h2
      obtain ⟨p, hp⟩ : ∃ p, p = a.getD k [] := ⟨_, rfl⟩
      obtain ⟨q, hq⟩ : ∃ q, q = b.getD k [] := ⟨_, rfl⟩
      have ST : Hid (lexL ltS (a.drop k) (b.drop k) = if cmpT p q = 0 then lexL ltS (a.drop (k + 1)) (b.drop (k + 1)) else cmpT p q) := by rw [hp, hq]; exact lexT_step h1 h2
      rw [← hp] at hc1
      rw [← hq] at hc2
      clear hp hq h1 h2 ha hb
      obtain ⟨r, hr⟩ : ∃ r, Hid (cmpT p q = r) := ⟨_, rfl⟩
      by_cases h0 : r = 0
      · have g0 : (r != 0) = false := by simp [h0]
        go_wp2_with (go_at_call 53; refine (ccmp_any p q _).mono ?_; rw [hr.out]; rintro e w9 ⟨rfl, rfl⟩)
        go_roundw
        case rel => exact ⟨⟨k + 1, by rw [← HN.out]; omega, by go_num, by have := ST.out; rw [hr.out, if_pos h0] at this; exact this.symm.trans hx.out⟩, trivial⟩
        case measure => simp [intOf]; omega
      · have g0 : (r != 0) = true := by simp [h0]
        go_wp2_with (go_at_call 53; refine (ccmp_any p q _).mono ?_; rw [hr.out]; rintro e w9 ⟨rfl, rfl⟩)
        go_ret
        refine ⟨?_, rfl⟩
        rw [← hx.out, ST.out, hr.out, if_neg h0]
        rfl
    · have HE : Hid (lexL ltS a b = 0) := by rw [← hx.out]; exact lexT_end (by rw [← HN.out]; omega)
      have hge : ¬ (k : Int) < (n : Int) := by omega
      go_wp2
      go_ret
      rw [HE.out]
      exact ⟨rfl, rfl⟩

/-- The program's Compare of two lists, whatever they are. -/
theorem cmp_any (x y : Option Addr) (c d : Nat) (a b : List (List UInt8)) (w : World) (ha : RowT w x c a) (hb : RowT w y d b) :
    Calls Try.prog 43 #[.slice x a.length c, .slice y b.length d] w fun e w' => e = .returned (.int .i64 (cmpL ltS a b)) ∧ w' = w := by
  have l1 := ha.le
  have l2 := hb.le
  by_cases hl : a.length = b.length
  · have HC : Hid (cmpL ltS a b = lexL ltS a b) := by show _ = _; unfold cmpL; rw [if_neg (by omega), if_neg (by omega)]
    have HX : Hid (Calls Try.prog 54 #[.slice x a.length c, .slice y b.length d] w fun e w' => e = .returned (.int .i64 (lexL ltS a b)) ∧ w' = w) := lcmp_any x y c d a b w ha hb hl
    obtain ⟨n, hn⟩ : ∃ n, n = a.length := ⟨_, rfl⟩
    rw [← hl, ← hn] at HX ⊢
    have g0 : ((n : Int) != n) = false := by simp
    clear hl hn ha hb l1 l2
    go_enter Try.func43, Try.ntmps43
    go_wp2_with (go_at_call 54; refine HX.out.mono ?_; rintro e w9 ⟨rfl, rfl⟩)
    go_ret
    rw [HC.out]
    exact ⟨rfl, rfl⟩
  · have HC : Hid (cmpL ltS a b = cmpI (a.length : Int) (b.length : Int)) := by
      show _ = _
      unfold cmpL cmpI
      by_cases h1 : a.length < b.length
      · rw [if_pos h1, if_pos (by omega)]
      · rw [if_neg h1, if_pos (by omega), if_neg (by omega), if_pos (by omega)]
    obtain ⟨n, hn⟩ : ∃ n, n = a.length := ⟨_, rfl⟩
    obtain ⟨m, hm⟩ : ∃ m, m = b.length := ⟨_, rfl⟩
    rw [← hn, ← hm] at hl HC ⊢
    have g0 : ((n : Int) != m) = true := by simp; omega
    clear hn hm ha hb l1 l2 hl
    go_enter Try.func43, Try.ntmps43
    go_wp2_with (go_at_call 34; refine (Sets.ccmp_any _ _ _).mono ?_; rintro e w9 ⟨rfl, rfl⟩)
    go_ret
    rw [HC.out]
    exact ⟨rfl, rfl⟩
/-- The program's Same. -/
theorem psame_any (x y : Option Addr) (c d : Nat) (a b : List (List UInt8)) (w : World) (ha : RowT w x c a) (hb : RowT w y d b) :
    Calls Try.prog 27 #[.slice x a.length c, .slice y b.length d] w fun e w' => e = .returned (.bool (cmpL ltS a b == 0)) ∧ w' = w := by
  have HX : Hid (Calls Try.prog 43 #[.slice x a.length c, .slice y b.length d] w fun e w' => e = .returned (.int .i64 (cmpL ltS a b)) ∧ w' = w) := cmp_any x y c d a b w ha hb
  obtain ⟨r, hr⟩ : ∃ r, r = cmpL ltS a b := ⟨_, rfl⟩
  obtain ⟨n, hn⟩ : ∃ n, n = a.length := ⟨_, rfl⟩
  obtain ⟨m, hm⟩ : ∃ m, m = b.length := ⟨_, rfl⟩
  rw [← hr, ← hn, ← hm] at HX ⊢
  clear hr hn hm ha hb
  go_enter Try.func27, Try.ntmps27
  go_wp2_with (go_at_call 43; refine HX.out.mono ?_; rintro e w9 ⟨rfl, rfl⟩)
  go_ret
  exact ⟨rfl, rfl⟩
theorem psame_yes (x y : Option Addr) (c d : Nat) (a b : List (List UInt8)) (w : World) (ha : RowT w x c a) (hb : RowT w y d b) (h : a = b) :
    Calls Try.prog 27 #[.slice x a.length c, .slice y b.length d] w fun e w' => e = .returned (.bool true) ∧ w' = w := by
  have := psame_any x y c d a b w ha hb
  rw [h, cmpL_self totS] at this
  rw [h]
  exact this
end Go.Proofs.Ytghdafgpdhbohaa.SetsT
