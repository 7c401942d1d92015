/- A cursor and its bytes together: how its calls go from one state to the next. -/
import Derived.Test.YtigmgkcojifbcaaCurGo
namespace Go.Proofs.Ytigmgkcojifbcaa.Cur
open Go.RowKit Go.Proofs.Ytigmgkcojifbcaa.Dig Go.Proofs.Ytigmgkcojifbcaa.Mem
set_option linter.unusedVariables false
set_option linter.unusedSimpArgs false

/-- A cursor in block b over bytes that lie elsewhere. -/
structure Live (w : World) (b : Nat) (a : Option Addr) (len cap : Nat) (z : Nat → Int) (s : St) : Prop where
  cur : Cur w b a len cap s
  rd : Rd .u8 w a len z
  ne : 0 < len → ∀ x, a = some x → x.block ≠ b
  cap : len ≤ cap
  at_ : s.at_ ≤ len
theorem Live.step {w w' : World} {b : Nat} {a : Option Addr} {len cap : Nat} {z : Nat → Int} {s s' : St} (h : Live w b a len cap z s) (ho : Only (fun k => k = b) w w') (hc : Cur w' b a len cap s') (hat : s'.at_ ≤ len) : Live w' b a len cap z s' :=
  ⟨hc, h.rd.only' ho h.ne, h.ne, h.cap, hat⟩
theorem Live.other {w w' : World} {b : Nat} {a : Option Addr} {len cap : Nat} {z : Nat → Int} {s : St} (h : Live w b a len cap z s) {S : Nat → Prop} (ho : Only S w w') (hb : ¬ S b) (ha : 0 < len → ∀ x, a = some x → ¬ S x.block) : Live w' b a len cap z s :=
  ⟨Is.keep h.cur ho hb, h.rd.only' ho ha, h.ne, h.cap, h.at_⟩
theorem Live.drewN {w : World} {b : Nat} {a : Option Addr} {len cap : Nat} {z : Nat → Int} {s : St} (h : Live w b a len cap z s) (n : Nat) : Live (w.drewN n) b a len cap z s :=
  h.other (S := fun _ => False) ((Only.refl _ _).drewN n) (fun q => q) (fun _ _ _ q => q)
theorem Live.keep {w w' : World} {b : Nat} {a : Option Addr} {len cap : Nat} {z : Nat → Int} {s : St} (h : Live w b a len cap z s) (ho : Below w.heap.size w w') : Live w' b a len cap z s :=
  h.step (Only.of_below ho) (Is.below h.cur ho) h.at_
theorem failS_at (s : St) (e x : Int) : (failS s e x).at_ = s.at_ := by unfold failS; split <;> rfl
theorem byteS_at {z : Nat → Int} {len : Nat} {s : St} {x : Int} (h : s.at_ ≤ len) : (byteS z len s x).at_ ≤ len := by
  unfold byteS
  split
  · split
    · rename_i q; exact q.1
    · rw [failS_at]; exact h
  · exact h
theorem numS_at {z : Nat → Int} {len : Nat} {s : St} (h : s.at_ ≤ len) : (numS z len s).1.at_ ≤ len := by
  unfold numS
  split
  · rcases parse_two z len s.at_ h with ⟨n, t, h1, h2, _, _, hp⟩ | ⟨t, h1, h2, hp⟩
    · rw [hp]; simpa using h2
    · rw [hp]; simpa [failS_at] using h
  · exact h
theorem listS_at {z : Nat → Int} {len : Nat} {s : St} (h : s.at_ ≤ len) : (listS z len s).1.at_ ≤ len := by
  unfold listS
  split
  · rcases lst_two z len s.at_ h with ⟨l, t, h1, h2, hp⟩ | ⟨t, h2, hp⟩
    · rw [hp]; simpa using h2
    · rw [hp]; simpa [failS_at] using h
  · exact h

theorem new_live (w : World) (b : Nat) (a : Option Addr) (len cap : Nat) (z : Nat → Int) (hb : b = w.heap.size) (hr : Rd .u8 w a len z) (hc : len ≤ cap) :
    Calls Try.prog 43 #[.slice a len cap] w fun e w' => e = .returned (.pointer (some ⟨b, 0, none⟩)) ∧ Only (fun _ => False) w w' ∧ Live w' b a len cap z ⟨0, 0, 0⟩ := by
  subst hb
  refine (new_any w a len cap).mono fun e w' ⟨h1, h2, h3⟩ => ⟨h1, h2, h3, hr.only h2 (fun _ _ q => q), fun hl x hx => ?_, hc, Nat.zero_le _⟩
  have := hr.lt hl x hx
  omega
theorem byte_live (b : Nat) (a : Option Addr) (len cap : Nat) (s : St) (z : Nat → Int) (x : Int) (w : World) (h : Live w b a len cap z s) :
    Calls Try.prog 70 #[.pointer (some ⟨b, 0, none⟩), .int .u8 x] w fun e w' => e = .returned (.tuple #[]) ∧ Only (fun k => k = b) w w' ∧ Live w' b a len cap z (byteS z len s x) :=
  (byte_any b a len cap s z x w h.cur h.rd).mono fun e w' ⟨h1, h2, h3⟩ => ⟨h1, h2, h.step h2 h3 (byteS_at h.at_)⟩
theorem num_live (b : Nat) (a : Option Addr) (len cap : Nat) (s : St) (z : Nat → Int) (w : World) (h : Live w b a len cap z s) :
    Calls Try.prog 73 #[.pointer (some ⟨b, 0, none⟩)] w fun e w' => e = .returned (.int .i64 (numS z len s).2) ∧ Only (fun k => k = b) w w' ∧ Live w' b a len cap z (numS z len s).1 :=
  (num_any b a len cap s z w h.cur h.rd h.at_).mono fun e w' ⟨h1, h2, h3⟩ => ⟨h1, h2, h.step h2 h3 (numS_at h.at_)⟩
theorem list_live (b : Nat) (a : Option Addr) (len cap : Nat) (s : St) (z : Nat → Int) (w : World) (h : Live w b a len cap z s) :
    Calls Try.prog 75 #[.pointer (some ⟨b, 0, none⟩)] w fun e w' => ∃ a' c, e = .returned (.slice a' (listS z len s).2.length c) ∧ Only (fun k => k = b) w w' ∧ Live w' b a len cap z (listS z len s).1 ∧
      Rd .i64 w' a' (listS z len s).2.length (fun i => (listS z len s).2.getD i 0) ∧ (listS z len s).2.length ≤ c ∧ (∀ x, a' = some x → x.block ≠ b) :=
  (list_any b a len cap s z w h.cur h.rd h.at_).mono fun e w' ⟨a', c, h1, h2, h3, h4⟩ => ⟨a', c, h1, h2, h.step h2 h3 (listS_at h.at_), h4⟩
theorem fail_live (b : Nat) (a : Option Addr) (len cap : Nat) (s : St) (z : Nat → Int) (e0 x0 : Int) (w : World) (h : Live w b a len cap z s) :
    Calls Try.prog 61 #[.pointer (some ⟨b, 0, none⟩), .int .i64 e0, .int .i64 x0] w fun e w' => e = .returned (.tuple #[]) ∧ Only (fun k => k = b) w w' ∧ Live w' b a len cap z (failS s e0 x0) :=
  (fail_any b a len cap s e0 x0 w h.cur).mono fun e w' ⟨h1, h2, h3⟩ => ⟨h1, h2, h.step h2 h3 (by rw [failS_at]; exact h.at_)⟩

/-- The document's Same of any two rows. -/
theorem same_some (a b : Option Addr) (n m c d : Nat) (x y : Nat → Int) (w : World) (ha : Rd .i64 w a n x) (hb : Rd .i64 w b m y) :
    Calls Try.prog 51 #[.slice a n c, .slice b m d] w fun e w' => ∃ r, e = .returned (.bool r) ∧ Below w.heap.size w w' ∧ ((n = m ∧ ∀ i, i < n → x i = y i) → r = true) := by
  have hn := ha.le
  have hm := hb.le
  by_cases hnm : n = m
  · subst hnm
    have g0 : ((n : Int) != n) = false := by simp
    go_enter Try.func51, Try.ntmps51
    go_wp2
    go_loopw [5] (fun i wr => ∃ k : Nat, k ≤ n ∧ i = .int .i64 (k : Int) ∧ Below w.heap.size w wr) (fun i _ => n - (intOf i).toNat)
    case atStart => exact ⟨0, by omega, rfl, Below.refl _ _⟩
    case round =>
      obtain ⟨k, hk, rfl, hbel⟩ := hrel
      by_cases hlt : k < n
      · obtain ⟨b1, o1, rfl, hc1, hw1⟩ := (ha.keep hbel).2 k hlt
        obtain ⟨b2, o2, rfl, hc2, hw2⟩ := (hb.keep hbel).2 k hlt
        by_cases he : x k = y k
        · have g1 : (x k != y k) = false := by simp [he]
          clear he
          go_wp2
          go_region
          all_goals
            go_wp2
            go_roundw
            case rel => exact ⟨k + 1, by omega, by go_num, by first | exact hbel | exact hbel.drew | (repeat (first | exact hbel | apply Below.drew))⟩
            case measure => simp [intOf]; omega
        · have g1 : (x k != y k) = true := by simpa using he
          have HE : Hid (¬ x k = y k) := he
          clear he
          go_wp2
          go_region
          all_goals
            go_wp2
            go_ret
            exact ⟨false, rfl, by (repeat (first | exact hbel | apply Below.drew)), fun q => absurd (q.2 k hlt) HE.out⟩
      · go_wp2
        go_ret
        exact ⟨true, rfl, hbel, fun _ => rfl⟩
  · have g0 : ((n : Int) != m) = true := by simp; omega
    have HNM : Hid (¬ n = m) := hnm
    clear hnm
    go_enter Try.func51, Try.ntmps51
    go_wp2
    go_ret
    exact ⟨false, rfl, Below.refl _ _, fun q => absurd q.1 HNM.out⟩
end Go.Proofs.Ytigmgkcojifbcaa.Cur
