/- Contracts of the cursor's calls that go on: Byte, Number and List. -/
import Derived.Test.YtigmgkcojifbcaaCur
namespace Go.Proofs.Ytigmgkcojifbcaa.Cur
open Go.RowKit Go.Proofs.Ytigmgkcojifbcaa.Dig Go.Proofs.Ytigmgkcojifbcaa.Mem
set_option linter.unusedVariables false
set_option linter.unusedSimpArgs false

theorem lscan_two (z : Nat → Int) (len : Nat) : ∀ f a l, a ≤ len → (∃ (m : List Int) (t : Nat), a ≤ t ∧ t ≤ len ∧ lscan z len f a l = (m, (t : Int), true)) ∨ (∃ t : Nat, t ≤ len ∧ lscan z len f a l = ([], (t : Int), false))
  | 0, a, l, h => .inl ⟨l, a, Nat.le_refl _, h, rfl⟩
  | f + 1, a, l, h => by
    by_cases g : a < len ∧ z a = 32
    · rcases parse_two z len (a + 1) (by omega) with ⟨n, t, h1, h2, _, _, hp⟩ | ⟨t, h1, h2, hp⟩
      · have hp' : parse z len ((a : Int) + 1) = (n, (t : Int), true) := hp
        rw [lscan, if_pos g, hp']
        rcases lscan_two z len f t (l ++ [n]) h2 with ⟨m, u, g1, g2, g3⟩ | ⟨u, g2, g3⟩
        · exact .inl ⟨m, u, by omega, g2, by simpa using g3⟩
        · exact .inr ⟨u, g2, by simpa using g3⟩
      · have hp' : parse z len ((a : Int) + 1) = (0, (t : Int), false) := hp
        rw [lscan, if_pos g, hp']
        exact .inr ⟨t, h2, by simp⟩
    · exact .inl ⟨l, a, Nat.le_refl _, h, by rw [lscan, if_neg g]⟩
theorem lst_two (z : Nat → Int) (len a : Nat) (h : a ≤ len) : (∃ (m : List Int) (t : Nat), a ≤ t ∧ t ≤ len ∧ lst z len (a : Int) = (m, (t : Int), true)) ∨ (∃ t : Nat, t ≤ len ∧ lst z len (a : Int) = ([], (t : Int), false)) := by
  rw [lst_in h]
  exact lscan_two z len _ _ _ h

theorem wrap_one {len n : Nat} (hl : len ≤ 1000000000000) (h : n < len) : IntKind.i64.wrap ((n : Int) + 1) = ((n + 1 : Nat) : Int) := by rw [IntKind.wrap_i64]; omega
/-- Byte. -/
def byteS (z : Nat → Int) (len : Nat) (s : St) (c : Int) : St := if s.e = 0 then (if s.at_ < len ∧ z s.at_ = c then ⟨s.at_ + 1, s.e, s.x⟩ else failS s 4 s.at_) else s
theorem byte_any (b : Nat) (a : Option Addr) (len cap : Nat) (s : St) (z : Nat → Int) (x : Int) (w : World) (h : Cur w b a len cap s) (hr : Rd .u8 w a len z) :
    Calls Try.prog 70 #[.pointer (some ⟨b, 0, none⟩), .int .u8 x] w fun e w' => e = .returned (.tuple #[]) ∧ Only (fun k => k = b) w w' ∧ Cur w' b a len cap (byteS z len s x) := by
  have hlen := hr.le
  have H : Hid (Cur w b a len cap s) := h
  have HR : Hid (Rd .u8 w a len z) := hr
  have c1 := h.cell 1 rfl
  have f1 := h.frozen 1
  clear h hr
  by_cases he : s.e = 0
  · by_cases hlt : s.at_ < len
    · by_cases hz : z s.at_ = x
      · have hs : Hid (byteS z len s x = ⟨s.at_ + 1, s.e, s.x⟩) := by show _ = _; rw [byteS, if_pos he, if_pos ⟨hlt, hz⟩]
        have hz' : (z s.at_ != x) = false := by simp [hz]
        have hp : peekS z len s.at_ = (z s.at_, true) := peekS_in hlt
        have HZ : Hid (z s.at_ = x) := hz
        clear hz
        go_enter Try.func70, Try.ntmps70
        go_wp2_with (first | (go_at_call 58; refine (goesOn_yes b a len cap s _ H.out he).mono ?_; rintro e w' ⟨rfl, hw⟩; replace hw := hw.symm; subst hw) | (go_at_call 59; refine (next_any b a len cap s z _ H.out HR.out).mono ?_; rw [hp]; rintro e w' ⟨rfl, n, rfl⟩))
        go_region_with (go_at_call 78; refine (goTo_any b _ _ _ (H.out.drewN _).drew _ rfl).mono ?_; rintro e w' ⟨rfl, rfl⟩)
        all_goals
          go_simp
          go_wp2
          first | go_end0 | refine bodyPost_ret (results_none rfl _ _ _) rfl ?_
          refine ⟨rfl, (((Only.refl _ _).drewN _).drew).put 1 _, ?_⟩
          rw [hs.out]
          exact ((H.out.drewN _).drew.set 1 _).eq (by rw [wrap_one hlen (by omega)]; rfl)
      · have hs : Hid (byteS z len s x = failS s 4 s.at_) := by show _ = _; rw [byteS, if_pos he, if_neg (by intro g; exact hz g.2)]
        have hz' : (z s.at_ != x) = true := by simp [hz]
        have hp : peekS z len s.at_ = (z s.at_, true) := peekS_in hlt
        clear hz
        go_enter Try.func70, Try.ntmps70
        go_wp2_with (first | (go_at_call 58; refine (goesOn_yes b a len cap s _ H.out he).mono ?_; rintro e w' ⟨rfl, hw⟩; replace hw := hw.symm; subst hw) | (go_at_call 59; refine (next_any b a len cap s z _ H.out HR.out).mono ?_; rw [hp]; rintro e w' ⟨rfl, n, rfl⟩) | (go_at_call 61; refine (fail_any b a len cap s 4 s.at_ _ (H.out.drewN _)).mono ?_; rintro e w' ⟨rfl, ho, hc⟩))
        refine bodyPost_ret (results_none rfl _ _ _) rfl ?_
        exact ⟨rfl, ((Only.refl _ _).drewN _).trans ho, by rw [hs.out]; exact hc⟩
    · have hs : Hid (byteS z len s x = failS s 4 s.at_) := by show _ = _; rw [byteS, if_pos he, if_neg (by intro g; exact hlt g.1)]
      have hp : peekS z len s.at_ = (0, false) := peekS_out hlt
      go_enter Try.func70, Try.ntmps70
      go_wp2_with (first | (go_at_call 58; refine (goesOn_yes b a len cap s _ H.out he).mono ?_; rintro e w' ⟨rfl, hw⟩; replace hw := hw.symm; subst hw) | (go_at_call 59; refine (next_any b a len cap s z _ H.out HR.out).mono ?_; rw [hp]; rintro e w' ⟨rfl, n, rfl⟩) | (go_at_call 61; refine (fail_any b a len cap s 4 s.at_ _ (H.out.drewN _)).mono ?_; rintro e w' ⟨rfl, ho, hc⟩))
      refine bodyPost_ret (results_none rfl _ _ _) rfl ?_
      exact ⟨rfl, ((Only.refl _ _).drewN _).trans ho, by rw [hs.out]; exact hc⟩
  · have hs : Hid (byteS z len s x = s) := by show _ = _; rw [byteS, if_neg he]
    go_enter Try.func70, Try.ntmps70
    go_wp2_with (go_at_call 58; refine (goesOn_no b a len cap s _ H.out he).mono ?_; rintro e w' ⟨rfl, hw⟩; replace hw := hw.symm; subst hw)
    refine bodyPost_ret (results_none rfl _ _ _) rfl ?_
    exact ⟨rfl, Only.refl _ _, by rw [hs.out]; exact H.out⟩

/-- Number. -/
def numS (z : Nat → Int) (len : Nat) (s : St) : St × Int :=
  if s.e = 0 then (if (parse z len (s.at_ : Int)).2.2 = true then (⟨(parse z len (s.at_ : Int)).2.1.toNat, s.e, s.x⟩, (parse z len (s.at_ : Int)).1) else (failS s 4 (parse z len (s.at_ : Int)).2.1, 0)) else (s, 0)
theorem num_any (b : Nat) (a : Option Addr) (len cap : Nat) (s : St) (z : Nat → Int) (w : World) (h : Cur w b a len cap s) (hr : Rd .u8 w a len z) (hat : s.at_ ≤ len) :
    Calls Try.prog 73 #[.pointer (some ⟨b, 0, none⟩)] w fun e w' => e = .returned (.int .i64 (numS z len s).2) ∧ Only (fun k => k = b) w w' ∧ Cur w' b a len cap (numS z len s).1 := by
  have H : Hid (Cur w b a len cap s) := h
  have HR : Hid (Rd .u8 w a len z) := hr
  clear h hr
  by_cases he : s.e = 0
  · rcases parse_two z len s.at_ hat with ⟨n, t, h1, h2, hn0, hn1, hp⟩ | ⟨t, h1, h2, hp⟩
    · have hs : Hid (numS z len s = (⟨t, s.e, s.x⟩, n)) := by show _ = _; rw [numS, if_pos he, hp]; simp
      have HP : Hid (parse z len (s.at_ : Int) = (n, (t : Int), true)) := hp
      clear hp hn0 hn1
      go_enter Try.func73, Try.ntmps73
      go_wp2_with (first | (go_at_call 58; refine (goesOn_yes b a len cap s _ H.out he).mono ?_; rintro e w' ⟨rfl, hw⟩; replace hw := hw.symm; subst hw) | (go_at_call 79; refine (number_any b a len cap s z _ H.out HR.out n t true HP).mono ?_; rintro e w' ⟨rfl, n, rfl⟩) | (go_at_call 78; refine (goTo_any b _ _ _ (H.out.drewN _) _ rfl).mono ?_; rintro e w' ⟨rfl, rfl⟩))
      go_ret
      rw [hs.out]
      exact ⟨rfl, ((Only.refl _ _).drewN _).put 1 _, (H.out.drewN _).set 1 _⟩
    · have hs : Hid (numS z len s = (failS s 4 t, 0)) := by show _ = _; rw [numS, if_pos he, hp]; simp
      have HP : Hid (parse z len (s.at_ : Int) = (0, (t : Int), false)) := hp
      clear hp
      go_enter Try.func73, Try.ntmps73
      go_wp2_with (first | (go_at_call 58; refine (goesOn_yes b a len cap s _ H.out he).mono ?_; rintro e w' ⟨rfl, hw⟩; replace hw := hw.symm; subst hw) | (go_at_call 79; refine (number_any b a len cap s z _ H.out HR.out 0 t false HP).mono ?_; rintro e w' ⟨rfl, n, rfl⟩) | (go_at_call 61; refine (fail_any b a len cap s 4 t _ (H.out.drewN _)).mono ?_; rintro e w' ⟨rfl, ho, hc⟩))
      go_ret
      rw [hs.out]
      exact ⟨rfl, ((Only.refl _ _).drewN _).trans ho, hc⟩
  · have hs : Hid (numS z len s = (s, 0)) := by show _ = _; rw [numS, if_neg he]
    go_enter Try.func73, Try.ntmps73
    go_wp2_with (go_at_call 58; refine (goesOn_no b a len cap s _ H.out he).mono ?_; rintro e w' ⟨rfl, hw⟩; replace hw := hw.symm; subst hw)
    go_ret
    rw [hs.out]
    exact ⟨rfl, Only.refl _ _, H.out⟩

/-- List. -/
def listS (z : Nat → Int) (len : Nat) (s : St) : St × List Int :=
  if s.e = 0 then (if (lst z len (s.at_ : Int)).2.2 = true then (⟨(lst z len (s.at_ : Int)).2.1.toNat, s.e, s.x⟩, (lst z len (s.at_ : Int)).1) else (failS s 4 (lst z len (s.at_ : Int)).2.1, [])) else (s, [])
theorem Rd.zero (w : World) (z : Nat → Int) : Rd .i64 w none 0 z := ⟨by omega, fun i hi => by omega⟩
theorem list_any (b : Nat) (a : Option Addr) (len cap : Nat) (s : St) (z : Nat → Int) (w : World) (h : Cur w b a len cap s) (hr : Rd .u8 w a len z) (hat : s.at_ ≤ len) :
    Calls Try.prog 75 #[.pointer (some ⟨b, 0, none⟩)] w fun e w' => ∃ a' c, e = .returned (.slice a' (listS z len s).2.length c) ∧ Only (fun k => k = b) w w' ∧ Cur w' b a len cap (listS z len s).1 ∧ Rd .i64 w' a' (listS z len s).2.length (fun i => (listS z len s).2.getD i 0) ∧ (listS z len s).2.length ≤ c ∧ (∀ x, a' = some x → x.block ≠ b) := by
  have H : Hid (Cur w b a len cap s) := h
  have HR : Hid (Rd .u8 w a len z) := hr
  clear h hr
  by_cases he : s.e = 0
  · rcases lst_two z len s.at_ hat with ⟨l, t, h1, h2, hp⟩ | ⟨t, h2, hp⟩
    · have hs : Hid (listS z len s = (⟨t, s.e, s.x⟩, l)) := by show _ = _; rw [listS, if_pos he, hp]; simp
      have HP : Hid (lst z len (s.at_ : Int) = (l, (t : Int), true)) := hp
      clear hp
      go_enter Try.func75, Try.ntmps75
      go_wp2_with (first | (go_at_call 58; refine (goesOn_yes b a len cap s _ H.out he).mono ?_; rintro e w' ⟨rfl, hw⟩; replace hw := hw.symm; subst hw) | (go_at_call 80; refine (numbers_any b a len cap s z _ H.out HR.out l t true HP).mono ?_; rintro e w' ⟨a', c, rfl, hb, hr', hc, hx⟩) | (go_at_call 78; refine (goTo_any b _ _ _ (H.out.below hb) _ rfl).mono ?_; rintro e w' ⟨rfl, rfl⟩))
      go_ret
      rw [hs.out]
      have hlb : b < w.heap.size := H.out.lt
      have hne : ∀ x, a' = some x → x.block ≠ b := fun x hx' q => by have := hx x hx'; omega
      have hp : Only (fun k => k = b) w' (w'.setCell ⟨b, 1, none⟩ (.int .i64 (t : Int))) := (Only.refl _ _).put 1 _
      exact ⟨a', c, rfl, (Only.of_below hb).trans hp, (H.out.below hb).set 1 _, hr'.only hp hne, hc, hne⟩
    · have hs : Hid (listS z len s = (failS s 4 t, [])) := by show _ = _; rw [listS, if_pos he, hp]; simp
      have HP : Hid (lst z len (s.at_ : Int) = ([], (t : Int), false)) := hp
      clear hp
      go_enter Try.func75, Try.ntmps75
      go_wp2_with (first | (go_at_call 58; refine (goesOn_yes b a len cap s _ H.out he).mono ?_; rintro e w' ⟨rfl, hw⟩; replace hw := hw.symm; subst hw) | (go_at_call 80; refine (numbers_any b a len cap s z _ H.out HR.out [] t false HP).mono ?_; rintro e w' ⟨a', c, rfl, hb, hr', hc, hx⟩) | (go_at_call 61; refine (fail_any b a len cap s 4 t _ (H.out.below hb)).mono ?_; rintro e w' ⟨rfl, ho, hc⟩))
      go_ret
      rw [hs.out]
      exact ⟨none, 0, rfl, (Only.of_below hb).trans ho, hc, Rd.zero _ _, by simp, by simp⟩
  · have hs : Hid (listS z len s = (s, [])) := by show _ = _; rw [listS, if_neg he]
    go_enter Try.func75, Try.ntmps75
    go_wp2_with (go_at_call 58; refine (goesOn_no b a len cap s _ H.out he).mono ?_; rintro e w' ⟨rfl, hw⟩; replace hw := hw.symm; subst hw)
    go_ret
    rw [hs.out]
    exact ⟨none, 0, rfl, Only.refl _ _, H.out, Rd.zero _ _, by simp, by simp⟩
end Go.Proofs.Ytigmgkcojifbcaa.Cur
