/- Joined out of the texts Cur, CurGo, CurLive, HistDo, HistName, in that order. -/
import Derived.Test.YtigmgkcojifbcaaAll2
import Derived.Deep.QuietTactic
import Derived.BigQuiet
import Derived.Deep.RegionWith
import Derived.Outline
import Derived.Test.YtigmgkcojifbcaaAll4
import Derived.Test.YtigmgkcojifbcaaAll5
import Derived.Deep.RegionHeld3
import Derived.Deep.DrawnRows
import Derived.Deep.DeepCutAuto
/- Contracts of a cursor's calls: each does to the cursor's block what the plain function tells, and turns no other block that was there. -/
namespace Go.Proofs.Ytigmgkcojifbcaa.Cur
open Go.RowKit Go.Proofs.Ytigmgkcojifbcaa.Dig Go.Proofs.Ytigmgkcojifbcaa.Mem
set_option linter.unusedVariables false
set_option linter.unusedSimpArgs false

/-- Where a cursor is: its place, its error, and the error's place. -/
structure St where
  at_ : Nat
  e : Int
  x : Int

/-- A cursor that New made lies in block b. -/
def Cur (w : World) (b : Nat) (a : Option Addr) (len cap : Nat) (s : St) : Prop := Is w b #[.slice a len cap, .int .i64 (s.at_ : Int), .bool true, .int .i64 s.e, .int .i64 s.x]

theorem isMade_any (b : Nat) (cs : Array Value) (m : Bool) (w : World) (h : Is w b cs) (hm : cs[2]? = some (.bool m)) :
    Calls Try.prog 46 #[.pointer (some ⟨b, 0, none⟩)] w fun e w' => e = .returned (.bool m) ∧ w' = w := by
  have c2 := h.cell 2 hm
  clear h hm
  go_enter Try.func46, Try.ntmps46
  go_wp2
  go_ret
  exact ⟨rfl, rfl⟩
theorem isMade_nil (w : World) :
    Calls Try.prog 46 #[.pointer none] w fun e w' => e = .returned (.bool false) ∧ w' = w := by
  go_enter Try.func46, Try.ntmps46
  go_wp2
  go_ret
  exact ⟨rfl, rfl⟩
theorem goesOn_nil (w : World) :
    Calls Try.prog 58 #[.pointer none] w fun e w' => e = .returned (.bool false) ∧ w' = w := by
  go_enter Try.func58, Try.ntmps58
  go_wp2_with (go_at_call 46; refine (isMade_nil _).mono ?_; rintro e w' ⟨rfl, hw⟩; replace hw := hw.symm; subst hw)
  go_ret
  exact ⟨rfl, rfl⟩
theorem goesOn_not (b : Nat) (cs : Array Value) (w : World) (h : Is w b cs) (hm : cs[2]? = some (.bool false)) :
    Calls Try.prog 58 #[.pointer (some ⟨b, 0, none⟩)] w fun e w' => e = .returned (.bool false) ∧ w' = w := by
  have H : Hid (Is w b cs ∧ cs[2]? = some (.bool false)) := ⟨h, hm⟩
  clear h hm
  go_enter Try.func58, Try.ntmps58
  go_wp2_with (go_at_call 46; refine (isMade_any b cs false _ H.out.1 H.out.2).mono ?_; rintro e w' ⟨rfl, hw⟩; replace hw := hw.symm; subst hw)
  go_ret
  exact ⟨rfl, rfl⟩
theorem goesOn_any (b : Nat) (cs : Array Value) (e0 : Int) (w : World) (h : Is w b cs) (hm : cs[2]? = some (.bool true)) (he : cs[3]? = some (.int .i64 e0)) :
    Calls Try.prog 58 #[.pointer (some ⟨b, 0, none⟩)] w fun e w' => e = .returned (.bool (e0 == 0)) ∧ w' = w := by
  have H : Hid (Is w b cs ∧ cs[2]? = some (.bool true)) := ⟨h, hm⟩
  have c3 := h.cell 3 he
  clear h hm he
  go_enter Try.func58, Try.ntmps58
  go_wp2_with (go_at_call 46; refine (isMade_any b cs true _ H.out.1 H.out.2).mono ?_; rintro e w' ⟨rfl, hw⟩; replace hw := hw.symm; subst hw)
  go_ret
  exact ⟨rfl, rfl⟩
theorem goesOn_yes (b : Nat) (a : Option Addr) (len cap : Nat) (s : St) (w : World) (h : Cur w b a len cap s) (he : s.e = 0) :
    Calls Try.prog 58 #[.pointer (some ⟨b, 0, none⟩)] w fun e w' => e = .returned (.bool true) ∧ w' = w := by
  have := goesOn_any b _ s.e w h rfl rfl
  simpa [he] using this
theorem goesOn_no (b : Nat) (a : Option Addr) (len cap : Nat) (s : St) (w : World) (h : Cur w b a len cap s) (he : s.e ≠ 0) :
    Calls Try.prog 58 #[.pointer (some ⟨b, 0, none⟩)] w fun e w' => e = .returned (.bool false) ∧ w' = w := by
  have := goesOn_any b _ s.e w h rfl rfl
  rw [show (s.e == 0) = false by simp [he]] at this
  exact this

theorem new_any (w : World) (a : Option Addr) (len cap : Nat) :
    Calls Try.prog 43 #[.slice a len cap] w fun e w' => e = .returned (.pointer (some ⟨w.heap.size, 0, none⟩)) ∧ Only (fun _ => False) w w' ∧ Cur w' w.heap.size a len cap ⟨0, 0, 0⟩ := by
  go_enter Try.func43, Try.ntmps43
  go_wp2
  go_ret
  exact ⟨rfl, (Only.refl _ _).alloc _, Is.made _ _ _ rfl⟩

theorem at_any (b : Nat) (a : Option Addr) (len cap : Nat) (s : St) (w : World) (h : Cur w b a len cap s) :
    Calls Try.prog 62 #[.pointer (some ⟨b, 0, none⟩)] w fun e w' => e = .returned (.int .i64 (s.at_ : Int)) ∧ w' = w := by
  have H : Hid (Cur w b a len cap s) := h
  have c1 := h.cell 1 rfl
  clear h
  go_enter Try.func62, Try.ntmps62
  go_wp2_with (go_at_call 46; refine (isMade_any b _ true _ H.out rfl).mono ?_; rintro e w' ⟨rfl, hw⟩; replace hw := hw.symm; subst hw)
  go_ret
  exact ⟨rfl, rfl⟩
theorem err_any (b : Nat) (a : Option Addr) (len cap : Nat) (s : St) (w : World) (h : Cur w b a len cap s) :
    Calls Try.prog 32 #[.pointer (some ⟨b, 0, none⟩)] w fun e w' => e = .returned (.tuple #[.int .i64 s.e, .int .i64 s.x]) ∧ ∃ n, w' = w.drewN n := by
  have H : Hid (Cur w b a len cap s) := h
  have c3 := h.cell 3 rfl
  have c4 := h.cell 4 rfl
  clear h
  go_enter Try.func32, Try.ntmps32
  go_wp2_with (go_at_call 46; refine (isMade_any b _ true _ H.out rfl).mono ?_; rintro e w' ⟨rfl, hw⟩; replace hw := hw.symm; subst hw)
  go_quiet (fail)
  go_wp2
  go_ret2
  exact ⟨rfl, _, rfl⟩
theorem goTo_any (b : Nat) (cs : Array Value) (n : Int) (w : World) (h : Is w b cs) (v : Value) (hv : cs[1]? = some v) :
    Calls Try.prog 78 #[.pointer (some ⟨b, 0, none⟩), .int .i64 n] w fun e w' => e = .returned (.tuple #[]) ∧ w' = w.setCell ⟨b, 1, none⟩ (.int .i64 n) := by
  have c1 := h.cell 1 hv
  have f1 := h.frozen 1
  clear h
  go_enter Try.func78, Try.ntmps78
  go_wp2
  go_end0
  exact ⟨rfl, rfl⟩
/-- What stands at a place. -/
def peekS (z : Nat → Int) (len at_ : Nat) : Int × Bool := if at_ < len then (z at_, true) else (0, false)
theorem peekS_in {z : Nat → Int} {len at_ : Nat} (h : at_ < len) : peekS z len at_ = (z at_, true) := if_pos h
theorem peekS_out {z : Nat → Int} {len at_ : Nat} (h : ¬ at_ < len) : peekS z len at_ = (0, false) := if_neg h
theorem next_any (b : Nat) (a : Option Addr) (len cap : Nat) (s : St) (z : Nat → Int) (w : World) (h : Cur w b a len cap s) (hr : Rd .u8 w a len z) :
    Calls Try.prog 59 #[.pointer (some ⟨b, 0, none⟩)] w fun e w' => e = .returned (.tuple #[.int .u8 (peekS z len s.at_).1, .bool (peekS z len s.at_).2]) ∧ ∃ n, w' = w.drewN n := by
  have hlen := hr.le
  have c0 := h.cell 0 rfl
  have c1 := h.cell 1 rfl
  clear h
  obtain ⟨k, e, x⟩ := s
  simp only at c1 ⊢
  by_cases hlt : k < len
  · have hlt' : ¬ len ≤ k := by omega
    have hlt2 : (k : Int) < (len : Int) := by omega
    have hk0 : 0 ≤ (k : Int) := by omega
    obtain ⟨ab, off, rfl, hc, _, _⟩ := hr.u8 hlt
    rw [peekS_in hlt]
    clear hr
    go_enter Try.func59, Try.ntmps59
    go_wp2
    go_quiet (fail)
    go_wp2
    go_quiet (fail)
    go_wp2
    go_ret2
    exact ⟨rfl, _, World.drewN_drewN _ _ _⟩
  · rw [peekS_out hlt]
    have hlt' : len ≤ k := by omega
    clear hr
    go_enter Try.func59, Try.ntmps59
    go_wp2
    go_quiet (fail)
    go_wp2
    go_ret2
    exact ⟨rfl, _, rfl⟩
theorem number_any (b : Nat) (a : Option Addr) (len cap : Nat) (s : St) (z : Nat → Int) (w : World) (h : Cur w b a len cap s) (hr : Rd .u8 w a len z) (n t : Int) (is : Bool) (hp : Hid (parse z len (s.at_ : Int) = (n, t, is))) :
    Calls Try.prog 79 #[.pointer (some ⟨b, 0, none⟩)] w fun e w' => e = .returned (.tuple #[.int .i64 n, .int .i64 t, .bool is]) ∧ ∃ m, w' = w.drewN m := by
  have c0 := h.cell 0 rfl
  have c1 := h.cell 1 rfl
  have HR : ∀ m, Calls Try.prog 81 #[.slice a len cap, .int .i64 (s.at_ : Int)] (w.drewN m) fun e w' => e = .returned (.tuple #[.int .i64 n, .int .i64 t, .bool is]) ∧ w' = w.drewN m :=
    fun m => parse_eq a len cap z _ _ (hr.only ((Only.refl (fun _ => False) w).drewN m) (fun _ _ q => q)) hp
  have HH : Hid (∀ m, Calls Try.prog 81 #[.slice a len cap, .int .i64 (s.at_ : Int)] (w.drewN m) fun e w' => e = .returned (.tuple #[.int .i64 n, .int .i64 t, .bool is]) ∧ w' = w.drewN m) := HR
  clear h hr HR
  obtain ⟨k, e, x⟩ := s
  simp only at c1 HH
  go_enter Try.func79, Try.ntmps79
  go_wp2
  go_quiet ((go_at_call 81; exact Calls.quiet_of_same (HH.out _)))
  go_wp2
  go_ret3
  exact ⟨rfl, _, rfl⟩
/-- The program's List, its answer named, in memory of its own. -/
theorem dlist_new (a : Option Addr) (len cap : Nat) (z : Nat → Int) (at_ : Int) (w : World) (h : Rd .u8 w a len z) {l : List Int} {t : Int} {b : Bool} (hr : Hid (lst z len at_ = (l, t, b))) :
    Calls Try.prog 82 #[.slice a len cap, .int .i64 at_] w fun e w' => ∃ a' c, e = .returned (.tuple #[.slice a' l.length c, .int .i64 t, .bool b]) ∧ Below w.heap.size w w' ∧ Rd .i64 w' a' l.length (fun i => l.getD i 0) ∧ l.length ≤ c ∧ ∀ x, a' = some x → w.heap.size ≤ x.block := by
  refine (Dig.list_any a len cap z at_ w h).mono ?_
  rw [hr.out]
  rintro e w' ⟨v, rfl, hown, hb, hl, hll⟩
  have hlt := World.ownsRow.lt hown
  obtain ⟨a', c, rfl, h1, h2⟩ := Rd.own hown hll (fun n hn => by have := hl n hn; exact wf_of_i64 this.1 this.2)
  refine ⟨a', c, rfl, hb, h2, h1, ?_⟩
  rintro x rfl
  exact (hlt x.block rfl).1
theorem numbers_any (b : Nat) (a : Option Addr) (len cap : Nat) (s : St) (z : Nat → Int) (w : World) (h : Cur w b a len cap s) (hr : Rd .u8 w a len z) (l : List Int) (t : Int) (is : Bool) (hp : Hid (lst z len (s.at_ : Int) = (l, t, is))) :
    Calls Try.prog 80 #[.pointer (some ⟨b, 0, none⟩)] w fun e w' => ∃ a' c, e = .returned (.tuple #[.slice a' l.length c, .int .i64 t, .bool is]) ∧ Below w.heap.size w w' ∧ Rd .i64 w' a' l.length (fun i => l.getD i 0) ∧ l.length ≤ c ∧ ∀ x, a' = some x → w.heap.size ≤ x.block := by
  have c0 := h.cell 0 rfl
  have c1 := h.cell 1 rfl
  have HH : Hid (Calls Try.prog 82 #[.slice a len cap, .int .i64 (s.at_ : Int)] w.drew fun e w' => ∃ a' c, e = .returned (.tuple #[.slice a' l.length c, .int .i64 t, .bool is]) ∧ Below w.heap.size w w' ∧ Rd .i64 w' a' l.length (fun i => l.getD i 0) ∧ l.length ≤ c ∧ ∀ x, a' = some x → w.heap.size ≤ x.block) := by
    have ho : Below w.heap.size w w.drew := (Below.refl _ _).drew
    refine (dlist_new a len cap z _ w.drew (hr.keep ho) hp).mono ?_
    rintro e w' ⟨a', c, rfl, hb, hr', hc, hx⟩
    exact ⟨a', c, rfl, ho.trans hb, hr', hc, hx⟩
  clear h hr
  obtain ⟨k, e, x⟩ := s
  simp only at c1 HH
  go_enter Try.func80, Try.ntmps80
  go_wp2
  go_region_with (go_at_call 82; refine HH.out.mono ?_; rintro e w' ⟨a', c, rfl, hb, hr', hc, hx⟩)
  all_goals
    go_simp
    go_wp2
    go_ret3
    exact ⟨_, _, rfl, hb, hr', hc, hx⟩

/-- Peek, of one that may go on. -/
theorem peek_any (b : Nat) (a : Option Addr) (len cap : Nat) (s : St) (z : Nat → Int) (w : World) (h : Cur w b a len cap s) (hr : Rd .u8 w a len z) (he : s.e = 0) :
    Calls Try.prog 44 #[.pointer (some ⟨b, 0, none⟩)] w fun e w' => e = .returned (.tuple #[.int .u8 (peekS z len s.at_).1, .bool (peekS z len s.at_).2]) ∧ ∃ n, w' = w.drewN n := by
  have H : Hid (Cur w b a len cap s ∧ s.e = 0) := ⟨h, he⟩
  clear h he
  go_enter Try.func44, Try.ntmps44
  go_wp2_with (first | (go_at_call 58; refine (goesOn_yes b a len cap s _ H.out.1 H.out.2).mono ?_; rintro e w' ⟨rfl, hw⟩; replace hw := hw.symm; subst hw) | (go_at_call 59; refine (next_any b a len cap s z _ H.out.1 hr).mono ?_; rintro e w' ⟨rfl, n, rfl⟩))
  go_ret2
  exact ⟨rfl, _, rfl⟩
theorem peek_no (b : Nat) (a : Option Addr) (len cap : Nat) (s : St) (w : World) (h : Cur w b a len cap s) (he : s.e ≠ 0) :
    Calls Try.prog 44 #[.pointer (some ⟨b, 0, none⟩)] w fun e w' => e = .returned (.tuple #[.int .u8 0, .bool false]) ∧ w' = w := by
  have H : Hid (Cur w b a len cap s ∧ s.e ≠ 0) := ⟨h, he⟩
  clear h he
  go_enter Try.func44, Try.ntmps44
  go_wp2_with (go_at_call 58; refine (goesOn_no b a len cap s _ H.out.1 H.out.2).mono ?_; rintro e w' ⟨rfl, hw⟩; replace hw := hw.symm; subst hw)
  go_ret2
  exact ⟨rfl, rfl⟩

/-- Fail. -/
def failS (s : St) (e x : Int) : St := if s.e = 0 ∧ e ≠ 0 then ⟨s.at_, e, x⟩ else s
theorem fail_any (b : Nat) (a : Option Addr) (len cap : Nat) (s : St) (e0 x0 : Int) (w : World) (h : Cur w b a len cap s) :
    Calls Try.prog 61 #[.pointer (some ⟨b, 0, none⟩), .int .i64 e0, .int .i64 x0] w fun e w' => e = .returned (.tuple #[]) ∧ Only (fun k => k = b) w w' ∧ Cur w' b a len cap (failS s e0 x0) := by
  have H : Hid (Cur w b a len cap s) := h
  by_cases he : s.e = 0
  · by_cases h0 : e0 = 0
    · have hs : Hid (failS s e0 x0 = s) := if_neg (by simp [h0])
      subst h0
      clear h
      go_enter Try.func61, Try.ntmps61
      go_wp2_with (go_at_call 58; refine (goesOn_yes b a len cap s _ H.out he).mono ?_; rintro e w' ⟨rfl, hw⟩; replace hw := hw.symm; subst hw)
      refine bodyPost_ret (results_none rfl _ _ _) rfl ?_
      exact ⟨rfl, Only.refl _ _, by rw [hs.out]; exact H.out⟩
    · have hs : Hid (failS s e0 x0 = ⟨s.at_, e0, x0⟩) := if_pos ⟨he, h0⟩
      have g0 : (e0 == 0) = false := by simpa using h0
      have c3 := h.cell 3 rfl
      have c4 := h.cell 4 rfl
      have f3 := h.frozen 3
      have f4 := h.frozen 4
      have P : Hid (Only (fun k => k = b) w ((w.setCell ⟨b, 3, none⟩ (.int .i64 e0)).setCell ⟨b, 4, none⟩ (.int .i64 x0)) ∧ Cur ((w.setCell ⟨b, 3, none⟩ (.int .i64 e0)).setCell ⟨b, 4, none⟩ (.int .i64 x0)) b a len cap (failS s e0 x0)) := by
        rw [hs.out]
        exact ⟨((Only.refl _ _).put 3 _).put 4 _, (h.set 3 _).set 4 _⟩
      clear h h0
      go_enter Try.func61, Try.ntmps61
      go_wp2_with (go_at_call 58; refine (goesOn_yes b a len cap s _ H.out he).mono ?_; rintro e w' ⟨rfl, hw⟩; replace hw := hw.symm; subst hw)
      go_end0
      exact ⟨rfl, P.out⟩
  · have hs : Hid (failS s e0 x0 = s) := if_neg (by simp [he])
    clear h
    go_enter Try.func61, Try.ntmps61
    go_wp2_with (go_at_call 58; refine (goesOn_no b a len cap s _ H.out he).mono ?_; rintro e w' ⟨rfl, hw⟩; replace hw := hw.symm; subst hw)
    refine bodyPost_ret (results_none rfl _ _ _) rfl ?_
    exact ⟨rfl, Only.refl _ _, by rw [hs.out]; exact H.out⟩
end Go.Proofs.Ytigmgkcojifbcaa.Cur

/- Contracts of the cursor's calls that go on: Byte, Number and List. -/
namespace Go.Proofs.Ytigmgkcojifbcaa.Cur
open Go.RowKit Go.Proofs.Ytigmgkcojifbcaa.Dig Go.Proofs.Ytigmgkcojifbcaa.Mem
set_option linter.unusedVariables false
set_option linter.unusedSimpArgs false

theorem lscan_two (z : Nat → Int) (len : Nat) : ∀ f a l, a ≤ len → (∃ (m : List Int) (t : Nat), a ≤ t ∧ t ≤ len ∧ lscan z len f a l = (m, (t : Int), true)) ∨ (∃ t : Nat, t ≤ len ∧ lscan z len f a l = ([], (t : Int), false))
  | 0, a, l, h => .inl ⟨l, a, Nat.le_refl _, h, rfl⟩
  | f + 1, a, l, h => by
    by_cases g : a < len ∧ z a = 32
    · rcases parse_two z len (a + 1) (by omega) with ⟨n, t, h1, h2, _, _, hp⟩ | ⟨t, h1, h2, hp⟩
      · have hp' : parse z len ((a : Int) + 1) = (n, (t : Int), true) := hp
        rw [lscan, if_pos g, hp']
        rcases lscan_two z len f t (l ++ [n]) h2 with ⟨m, u, g1, g2, g3⟩ | ⟨u, g2, g3⟩
        · exact .inl ⟨m, u, by omega, g2, by simpa using g3⟩
        · exact .inr ⟨u, g2, by simpa using g3⟩
      · have hp' : parse z len ((a : Int) + 1) = (0, (t : Int), false) := hp
        rw [lscan, if_pos g, hp']
        exact .inr ⟨t, h2, by simp⟩
    · exact .inl ⟨l, a, Nat.le_refl _, h, by rw [lscan, if_neg g]⟩
theorem lst_two (z : Nat → Int) (len a : Nat) (h : a ≤ len) : (∃ (m : List Int) (t : Nat), a ≤ t ∧ t ≤ len ∧ lst z len (a : Int) = (m, (t : Int), true)) ∨ (∃ t : Nat, t ≤ len ∧ lst z len (a : Int) = ([], (t : Int), false)) := by
  rw [lst_in h]
  exact lscan_two z len _ _ _ h

theorem wrap_one {len n : Nat} (hl : len ≤ 1000000000000) (h : n < len) : IntKind.i64.wrap ((n : Int) + 1) = ((n + 1 : Nat) : Int) := by rw [IntKind.wrap_i64]; omega
/-- Byte. -/
def byteS (z : Nat → Int) (len : Nat) (s : St) (c : Int) : St := if s.e = 0 then (if s.at_ < len ∧ z s.at_ = c then ⟨s.at_ + 1, s.e, s.x⟩ else failS s 4 s.at_) else s
theorem byte_any (b : Nat) (a : Option Addr) (len cap : Nat) (s : St) (z : Nat → Int) (x : Int) (w : World) (h : Cur w b a len cap s) (hr : Rd .u8 w a len z) :
    Calls Try.prog 70 #[.pointer (some ⟨b, 0, none⟩), .int .u8 x] w fun e w' => e = .returned (.tuple #[]) ∧ Only (fun k => k = b) w w' ∧ Cur w' b a len cap (byteS z len s x) := by
  have hlen := hr.le
  have H : Hid (Cur w b a len cap s) := h
  have HR : Hid (Rd .u8 w a len z) := hr
  have c1 := h.cell 1 rfl
  have f1 := h.frozen 1
  clear h hr
  by_cases he : s.e = 0
  · by_cases hlt : s.at_ < len
    · by_cases hz : z s.at_ = x
      · have hs : Hid (byteS z len s x = ⟨s.at_ + 1, s.e, s.x⟩) := by show _ = _; rw [byteS, if_pos he, if_pos ⟨hlt, hz⟩]
        have hz' : (z s.at_ != x) = false := by simp [hz]
        have hp : peekS z len s.at_ = (z s.at_, true) := peekS_in hlt
        have HZ : Hid (z s.at_ = x) := hz
        clear hz
        go_enter Try.func70, Try.ntmps70
        go_wp2_with (first | (go_at_call 58; refine (goesOn_yes b a len cap s _ H.out he).mono ?_; rintro e w' ⟨rfl, hw⟩; replace hw := hw.symm; subst hw) | (go_at_call 59; refine (next_any b a len cap s z _ H.out HR.out).mono ?_; rw [hp]; rintro e w' ⟨rfl, n, rfl⟩))
        go_region_with (go_at_call 78; refine (goTo_any b _ _ _ (H.out.drewN _).drew _ rfl).mono ?_; rintro e w' ⟨rfl, rfl⟩)
        all_goals
          go_simp
          go_wp2
          first | go_end0 | refine bodyPost_ret (results_none rfl _ _ _) rfl ?_
          refine ⟨rfl, (((Only.refl _ _).drewN _).drew).put 1 _, ?_⟩
          rw [hs.out]
          exact ((H.out.drewN _).drew.set 1 _).eq (by rw [wrap_one hlen (by omega)]; rfl)
      · have hs : Hid (byteS z len s x = failS s 4 s.at_) := by show _ = _; rw [byteS, if_pos he, if_neg (by intro g; exact hz g.2)]
        have hz' : (z s.at_ != x) = true := by simp [hz]
        have hp : peekS z len s.at_ = (z s.at_, true) := peekS_in hlt
        clear hz
        go_enter Try.func70, Try.ntmps70
        go_wp2_with (first | (go_at_call 58; refine (goesOn_yes b a len cap s _ H.out he).mono ?_; rintro e w' ⟨rfl, hw⟩; replace hw := hw.symm; subst hw) | (go_at_call 59; refine (next_any b a len cap s z _ H.out HR.out).mono ?_; rw [hp]; rintro e w' ⟨rfl, n, rfl⟩) | (go_at_call 61; refine (fail_any b a len cap s 4 s.at_ _ (H.out.drewN _)).mono ?_; rintro e w' ⟨rfl, ho, hc⟩))
        refine bodyPost_ret (results_none rfl _ _ _) rfl ?_
        exact ⟨rfl, ((Only.refl _ _).drewN _).trans ho, by rw [hs.out]; exact hc⟩
    · have hs : Hid (byteS z len s x = failS s 4 s.at_) := by show _ = _; rw [byteS, if_pos he, if_neg (by intro g; exact hlt g.1)]
      have hp : peekS z len s.at_ = (0, false) := peekS_out hlt
      go_enter Try.func70, Try.ntmps70
      go_wp2_with (first | (go_at_call 58; refine (goesOn_yes b a len cap s _ H.out he).mono ?_; rintro e w' ⟨rfl, hw⟩; replace hw := hw.symm; subst hw) | (go_at_call 59; refine (next_any b a len cap s z _ H.out HR.out).mono ?_; rw [hp]; rintro e w' ⟨rfl, n, rfl⟩) | (go_at_call 61; refine (fail_any b a len cap s 4 s.at_ _ (H.out.drewN _)).mono ?_; rintro e w' ⟨rfl, ho, hc⟩))
      refine bodyPost_ret (results_none rfl _ _ _) rfl ?_
      exact ⟨rfl, ((Only.refl _ _).drewN _).trans ho, by rw [hs.out]; exact hc⟩
  · have hs : Hid (byteS z len s x = s) := by show _ = _; rw [byteS, if_neg he]
    go_enter Try.func70, Try.ntmps70
    go_wp2_with (go_at_call 58; refine (goesOn_no b a len cap s _ H.out he).mono ?_; rintro e w' ⟨rfl, hw⟩; replace hw := hw.symm; subst hw)
    refine bodyPost_ret (results_none rfl _ _ _) rfl ?_
    exact ⟨rfl, Only.refl _ _, by rw [hs.out]; exact H.out⟩

/-- Number. -/
def numS (z : Nat → Int) (len : Nat) (s : St) : St × Int :=
  if s.e = 0 then (if (parse z len (s.at_ : Int)).2.2 = true then (⟨(parse z len (s.at_ : Int)).2.1.toNat, s.e, s.x⟩, (parse z len (s.at_ : Int)).1) else (failS s 4 (parse z len (s.at_ : Int)).2.1, 0)) else (s, 0)
theorem num_any (b : Nat) (a : Option Addr) (len cap : Nat) (s : St) (z : Nat → Int) (w : World) (h : Cur w b a len cap s) (hr : Rd .u8 w a len z) (hat : s.at_ ≤ len) :
    Calls Try.prog 73 #[.pointer (some ⟨b, 0, none⟩)] w fun e w' => e = .returned (.int .i64 (numS z len s).2) ∧ Only (fun k => k = b) w w' ∧ Cur w' b a len cap (numS z len s).1 := by
  have H : Hid (Cur w b a len cap s) := h
  have HR : Hid (Rd .u8 w a len z) := hr
  clear h hr
  by_cases he : s.e = 0
  · rcases parse_two z len s.at_ hat with ⟨n, t, h1, h2, hn0, hn1, hp⟩ | ⟨t, h1, h2, hp⟩
    · have hs : Hid (numS z len s = (⟨t, s.e, s.x⟩, n)) := by show _ = _; rw [numS, if_pos he, hp]; simp
      have HP : Hid (parse z len (s.at_ : Int) = (n, (t : Int), true)) := hp
      clear hp hn0 hn1
      go_enter Try.func73, Try.ntmps73
      go_wp2_with (first | (go_at_call 58; refine (goesOn_yes b a len cap s _ H.out he).mono ?_; rintro e w' ⟨rfl, hw⟩; replace hw := hw.symm; subst hw) | (go_at_call 79; refine (number_any b a len cap s z _ H.out HR.out n t true HP).mono ?_; rintro e w' ⟨rfl, n, rfl⟩) | (go_at_call 78; refine (goTo_any b _ _ _ (H.out.drewN _) _ rfl).mono ?_; rintro e w' ⟨rfl, rfl⟩))
      go_ret
      rw [hs.out]
      exact ⟨rfl, ((Only.refl _ _).drewN _).put 1 _, (H.out.drewN _).set 1 _⟩
    · have hs : Hid (numS z len s = (failS s 4 t, 0)) := by show _ = _; rw [numS, if_pos he, hp]; simp
      have HP : Hid (parse z len (s.at_ : Int) = (0, (t : Int), false)) := hp
      clear hp
      go_enter Try.func73, Try.ntmps73
      go_wp2_with (first | (go_at_call 58; refine (goesOn_yes b a len cap s _ H.out he).mono ?_; rintro e w' ⟨rfl, hw⟩; replace hw := hw.symm; subst hw) | (go_at_call 79; refine (number_any b a len cap s z _ H.out HR.out 0 t false HP).mono ?_; rintro e w' ⟨rfl, n, rfl⟩) | (go_at_call 61; refine (fail_any b a len cap s 4 t _ (H.out.drewN _)).mono ?_; rintro e w' ⟨rfl, ho, hc⟩))
      go_ret
      rw [hs.out]
      exact ⟨rfl, ((Only.refl _ _).drewN _).trans ho, hc⟩
  · have hs : Hid (numS z len s = (s, 0)) := by show _ = _; rw [numS, if_neg he]
    go_enter Try.func73, Try.ntmps73
    go_wp2_with (go_at_call 58; refine (goesOn_no b a len cap s _ H.out he).mono ?_; rintro e w' ⟨rfl, hw⟩; replace hw := hw.symm; subst hw)
    go_ret
    rw [hs.out]
    exact ⟨rfl, Only.refl _ _, H.out⟩

/-- List. -/
def listS (z : Nat → Int) (len : Nat) (s : St) : St × List Int :=
  if s.e = 0 then (if (lst z len (s.at_ : Int)).2.2 = true then (⟨(lst z len (s.at_ : Int)).2.1.toNat, s.e, s.x⟩, (lst z len (s.at_ : Int)).1) else (failS s 4 (lst z len (s.at_ : Int)).2.1, [])) else (s, [])
theorem Rd.zero (w : World) (z : Nat → Int) : Rd .i64 w none 0 z := ⟨by omega, fun i hi => by omega⟩
theorem list_any (b : Nat) (a : Option Addr) (len cap : Nat) (s : St) (z : Nat → Int) (w : World) (h : Cur w b a len cap s) (hr : Rd .u8 w a len z) (hat : s.at_ ≤ len) :
    Calls Try.prog 75 #[.pointer (some ⟨b, 0, none⟩)] w fun e w' => ∃ a' c, e = .returned (.slice a' (listS z len s).2.length c) ∧ Only (fun k => k = b) w w' ∧ Cur w' b a len cap (listS z len s).1 ∧ Rd .i64 w' a' (listS z len s).2.length (fun i => (listS z len s).2.getD i 0) ∧ (listS z len s).2.length ≤ c ∧ (∀ x, a' = some x → x.block ≠ b) := by
  have H : Hid (Cur w b a len cap s) := h
  have HR : Hid (Rd .u8 w a len z) := hr
  clear h hr
  by_cases he : s.e = 0
  · rcases lst_two z len s.at_ hat with ⟨l, t, h1, h2, hp⟩ | ⟨t, h2, hp⟩
    · have hs : Hid (listS z len s = (⟨t, s.e, s.x⟩, l)) := by show _ = _; rw [listS, if_pos he, hp]; simp
      have HP : Hid (lst z len (s.at_ : Int) = (l, (t : Int), true)) := hp
      clear hp
      go_enter Try.func75, Try.ntmps75
      go_wp2_with (first | (go_at_call 58; refine (goesOn_yes b a len cap s _ H.out he).mono ?_; rintro e w' ⟨rfl, hw⟩; replace hw := hw.symm; subst hw) | (go_at_call 80; refine (numbers_any b a len cap s z _ H.out HR.out l t true HP).mono ?_; rintro e w' ⟨a', c, rfl, hb, hr', hc, hx⟩) | (go_at_call 78; refine (goTo_any b _ _ _ (H.out.below hb) _ rfl).mono ?_; rintro e w' ⟨rfl, rfl⟩))
      go_ret
      rw [hs.out]
      have hlb : b < w.heap.size := H.out.lt
      have hne : ∀ x, a' = some x → x.block ≠ b := fun x hx' q => by have := hx x hx'; omega
      have hp : Only (fun k => k = b) w' (w'.setCell ⟨b, 1, none⟩ (.int .i64 (t : Int))) := (Only.refl _ _).put 1 _
      exact ⟨a', c, rfl, (Only.of_below hb).trans hp, (H.out.below hb).set 1 _, hr'.only hp hne, hc, hne⟩
    · have hs : Hid (listS z len s = (failS s 4 t, [])) := by show _ = _; rw [listS, if_pos he, hp]; simp
      have HP : Hid (lst z len (s.at_ : Int) = ([], (t : Int), false)) := hp
      clear hp
      go_enter Try.func75, Try.ntmps75
      go_wp2_with (first | (go_at_call 58; refine (goesOn_yes b a len cap s _ H.out he).mono ?_; rintro e w' ⟨rfl, hw⟩; replace hw := hw.symm; subst hw) | (go_at_call 80; refine (numbers_any b a len cap s z _ H.out HR.out [] t false HP).mono ?_; rintro e w' ⟨a', c, rfl, hb, hr', hc, hx⟩) | (go_at_call 61; refine (fail_any b a len cap s 4 t _ (H.out.below hb)).mono ?_; rintro e w' ⟨rfl, ho, hc⟩))
      go_ret
      rw [hs.out]
      exact ⟨none, 0, rfl, (Only.of_below hb).trans ho, hc, Rd.zero _ _, by simp, by simp⟩
  · have hs : Hid (listS z len s = (s, [])) := by show _ = _; rw [listS, if_neg he]
    go_enter Try.func75, Try.ntmps75
    go_wp2_with (go_at_call 58; refine (goesOn_no b a len cap s _ H.out he).mono ?_; rintro e w' ⟨rfl, hw⟩; replace hw := hw.symm; subst hw)
    go_ret
    rw [hs.out]
    exact ⟨none, 0, rfl, Only.refl _ _, H.out, Rd.zero _ _, by simp, by simp⟩
end Go.Proofs.Ytigmgkcojifbcaa.Cur

/- A cursor and its bytes together: how its calls go from one state to the next. -/
namespace Go.Proofs.Ytigmgkcojifbcaa.Cur
open Go.RowKit Go.Proofs.Ytigmgkcojifbcaa.Dig Go.Proofs.Ytigmgkcojifbcaa.Mem
set_option linter.unusedVariables false
set_option linter.unusedSimpArgs false

/-- A cursor in block b over bytes that lie elsewhere. -/
structure Live (w : World) (b : Nat) (a : Option Addr) (len cap : Nat) (z : Nat → Int) (s : St) : Prop where
  cur : Cur w b a len cap s
  rd : Rd .u8 w a len z
  ne : 0 < len → ∀ x, a = some x → x.block ≠ b
  cap : len ≤ cap
  at_ : s.at_ ≤ len
theorem Live.step {w w' : World} {b : Nat} {a : Option Addr} {len cap : Nat} {z : Nat → Int} {s s' : St} (h : Live w b a len cap z s) (ho : Only (fun k => k = b) w w') (hc : Cur w' b a len cap s') (hat : s'.at_ ≤ len) : Live w' b a len cap z s' :=
  ⟨hc, h.rd.only' ho h.ne, h.ne, h.cap, hat⟩
theorem Live.other {w w' : World} {b : Nat} {a : Option Addr} {len cap : Nat} {z : Nat → Int} {s : St} (h : Live w b a len cap z s) {S : Nat → Prop} (ho : Only S w w') (hb : ¬ S b) (ha : 0 < len → ∀ x, a = some x → ¬ S x.block) : Live w' b a len cap z s :=
  ⟨Is.keep h.cur ho hb, h.rd.only' ho ha, h.ne, h.cap, h.at_⟩
theorem Live.drewN {w : World} {b : Nat} {a : Option Addr} {len cap : Nat} {z : Nat → Int} {s : St} (h : Live w b a len cap z s) (n : Nat) : Live (w.drewN n) b a len cap z s :=
  h.other (S := fun _ => False) ((Only.refl _ _).drewN n) (fun q => q) (fun _ _ _ q => q)
theorem Live.keep {w w' : World} {b : Nat} {a : Option Addr} {len cap : Nat} {z : Nat → Int} {s : St} (h : Live w b a len cap z s) (ho : Below w.heap.size w w') : Live w' b a len cap z s :=
  h.step (Only.of_below ho) (Is.below h.cur ho) h.at_
theorem failS_at (s : St) (e x : Int) : (failS s e x).at_ = s.at_ := by unfold failS; split <;> rfl
theorem byteS_at {z : Nat → Int} {len : Nat} {s : St} {x : Int} (h : s.at_ ≤ len) : (byteS z len s x).at_ ≤ len := by
  unfold byteS
  split
  · split
    · rename_i q; exact q.1
    · rw [failS_at]; exact h
  · exact h
theorem numS_at {z : Nat → Int} {len : Nat} {s : St} (h : s.at_ ≤ len) : (numS z len s).1.at_ ≤ len := by
  unfold numS
  split
  · rcases parse_two z len s.at_ h with ⟨n, t, h1, h2, _, _, hp⟩ | ⟨t, h1, h2, hp⟩
    · rw [hp]; simpa using h2
    · rw [hp]; simpa [failS_at] using h
  · exact h
theorem listS_at {z : Nat → Int} {len : Nat} {s : St} (h : s.at_ ≤ len) : (listS z len s).1.at_ ≤ len := by
  unfold listS
  split
  · rcases lst_two z len s.at_ h with ⟨l, t, h1, h2, hp⟩ | ⟨t, h2, hp⟩
    · rw [hp]; simpa using h2
    · rw [hp]; simpa [failS_at] using h
  · exact h

theorem new_live (w : World) (b : Nat) (a : Option Addr) (len cap : Nat) (z : Nat → Int) (hb : b = w.heap.size) (hr : Rd .u8 w a len z) (hc : len ≤ cap) :
    Calls Try.prog 43 #[.slice a len cap] w fun e w' => e = .returned (.pointer (some ⟨b, 0, none⟩)) ∧ Only (fun _ => False) w w' ∧ Live w' b a len cap z ⟨0, 0, 0⟩ := by
  subst hb
  refine (new_any w a len cap).mono fun e w' ⟨h1, h2, h3⟩ => ⟨h1, h2, h3, hr.only h2 (fun _ _ q => q), fun hl x hx => ?_, hc, Nat.zero_le _⟩
  have := hr.lt hl x hx
  omega
theorem byte_live (b : Nat) (a : Option Addr) (len cap : Nat) (s : St) (z : Nat → Int) (x : Int) (w : World) (h : Live w b a len cap z s) :
    Calls Try.prog 70 #[.pointer (some ⟨b, 0, none⟩), .int .u8 x] w fun e w' => e = .returned (.tuple #[]) ∧ Only (fun k => k = b) w w' ∧ Live w' b a len cap z (byteS z len s x) :=
  (byte_any b a len cap s z x w h.cur h.rd).mono fun e w' ⟨h1, h2, h3⟩ => ⟨h1, h2, h.step h2 h3 (byteS_at h.at_)⟩
theorem num_live (b : Nat) (a : Option Addr) (len cap : Nat) (s : St) (z : Nat → Int) (w : World) (h : Live w b a len cap z s) :
    Calls Try.prog 73 #[.pointer (some ⟨b, 0, none⟩)] w fun e w' => e = .returned (.int .i64 (numS z len s).2) ∧ Only (fun k => k = b) w w' ∧ Live w' b a len cap z (numS z len s).1 :=
  (num_any b a len cap s z w h.cur h.rd h.at_).mono fun e w' ⟨h1, h2, h3⟩ => ⟨h1, h2, h.step h2 h3 (numS_at h.at_)⟩
theorem list_live (b : Nat) (a : Option Addr) (len cap : Nat) (s : St) (z : Nat → Int) (w : World) (h : Live w b a len cap z s) :
    Calls Try.prog 75 #[.pointer (some ⟨b, 0, none⟩)] w fun e w' => ∃ a' c, e = .returned (.slice a' (listS z len s).2.length c) ∧ Only (fun k => k = b) w w' ∧ Live w' b a len cap z (listS z len s).1 ∧
      Rd .i64 w' a' (listS z len s).2.length (fun i => (listS z len s).2.getD i 0) ∧ (listS z len s).2.length ≤ c ∧ (∀ x, a' = some x → x.block ≠ b) :=
  (list_any b a len cap s z w h.cur h.rd h.at_).mono fun e w' ⟨a', c, h1, h2, h3, h4⟩ => ⟨a', c, h1, h2, h.step h2 h3 (listS_at h.at_), h4⟩
theorem fail_live (b : Nat) (a : Option Addr) (len cap : Nat) (s : St) (z : Nat → Int) (e0 x0 : Int) (w : World) (h : Live w b a len cap z s) :
    Calls Try.prog 61 #[.pointer (some ⟨b, 0, none⟩), .int .i64 e0, .int .i64 x0] w fun e w' => e = .returned (.tuple #[]) ∧ Only (fun k => k = b) w w' ∧ Live w' b a len cap z (failS s e0 x0) :=
  (fail_any b a len cap s e0 x0 w h.cur).mono fun e w' ⟨h1, h2, h3⟩ => ⟨h1, h2, h.step h2 h3 (by rw [failS_at]; exact h.at_)⟩

/-- The document's Same of any two rows. -/
theorem same_some (a b : Option Addr) (n m c d : Nat) (x y : Nat → Int) (w : World) (ha : Rd .i64 w a n x) (hb : Rd .i64 w b m y) :
    Calls Try.prog 51 #[.slice a n c, .slice b m d] w fun e w' => ∃ r, e = .returned (.bool r) ∧ Below w.heap.size w w' ∧ ((n = m ∧ ∀ i, i < n → x i = y i) → r = true) := by
  have hn := ha.le
  have hm := hb.le
  by_cases hnm : n = m
  · subst hnm
    have g0 : ((n : Int) != n) = false := by simp
    go_enter Try.func51, Try.ntmps51
    go_wp2
    go_loopw [5] (fun i wr => ∃ k : Nat, k ≤ n ∧ i = .int .i64 (k : Int) ∧ Below w.heap.size w wr) (fun i _ => n - (intOf i).toNat)
    case atStart => exact ⟨0, by omega, rfl, Below.refl _ _⟩
    case round =>
      obtain ⟨k, hk, rfl, hbel⟩ := hrel
      by_cases hlt : k < n
      · obtain ⟨b1, o1, rfl, hc1, hw1⟩ := (ha.keep hbel).2 k hlt
        obtain ⟨b2, o2, rfl, hc2, hw2⟩ := (hb.keep hbel).2 k hlt
        by_cases he : x k = y k
        · have g1 : (x k != y k) = false := by simp [he]
          clear he
          go_wp2
          go_region
          all_goals
            go_wp2
            go_roundw
            case rel => exact ⟨k + 1, by omega, by go_num, by first | exact hbel | exact hbel.drew | (repeat (first | exact hbel | apply Below.drew))⟩
            case measure => simp [intOf]; omega
        · have g1 : (x k != y k) = true := by simpa using he
          have HE : Hid (¬ x k = y k) := he
          clear he
          go_wp2
          go_region
          all_goals
            go_wp2
            go_ret
            exact ⟨false, rfl, by (repeat (first | exact hbel | apply Below.drew)), fun q => absurd (q.2 k hlt) HE.out⟩
      · go_wp2
        go_ret
        exact ⟨true, rfl, hbel, fun _ => rfl⟩
  · have g0 : ((n : Int) != m) = true := by simp; omega
    have HNM : Hid (¬ n = m) := hnm
    clear hnm
    go_enter Try.func51, Try.ntmps51
    go_wp2
    go_ret
    exact ⟨false, rfl, Below.refl _ _, fun q => absurd q.1 HNM.out⟩
end Go.Proofs.Ytigmgkcojifbcaa.Cur

/- What a reader that goes by a cursor does with a line, as a plain function; and that it is the document's line. -/
namespace Go.Proofs.Ytigmgkcojifbcaa.Hist
open Go.RowKit Go.Proofs.Ytigmgkcojifbcaa.Dig Go.Proofs.Ytigmgkcojifbcaa.Mem Go.Proofs.Ytigmgkcojifbcaa.Cur
set_option linter.unusedVariables false
set_option linter.unusedSimpArgs false

section
variable (z : Nat → Int) (len : Nat)
def peekP (s : St) : Int × Bool := if s.e = 0 then peekS z len s.at_ else (0, false)
/-- A blank, and a number that no transaction has. -/
def pKey (e : Int) (N : Int → Bool) (s : St) : St × Int :=
  let s1 := byteS z len s 32
  let r := numS z len s1
  (if N r.2 = true then failS r.1 e s1.at_ else r.1, r.2)
def pName (s : St) (ts : List TxnM) : St × Int := pKey z len 5 (twinB ts) s
def pAborted (s : St) : St × Bool := if (peekP z len s).1 = 97 then (byteS z len s 97, true) else (byteS z len s 99, false)
def pTxn (s : St) (ts : List TxnM) : St × List TxnM :=
  if 1024 ≤ ts.length then (failS s 3 s.at_, ts) else
  let n := pName z len (byteS z len s 116) ts
  let a := pAborted z len (byteS z len n.1 32)
  (byteS z len a.1 10, ts ++ [⟨n.2, a.2, []⟩])
def pValue (s : St) (ts : List TxnM) (k : Int) : St × Int := pKey z len 6 (appB ts k) s
def pApp (s : St) (ts : List TxnM) : St × OpM :=
  let k := numS z len (byteS z len (byteS z len s 97) 32)
  let v := pValue z len k.1 ts k.2
  (byteS z len v.1 10, ⟨false, k.2, v.2, []⟩)
def pAppP (V : Int → Int → Bool) (s : St) : St × OpM :=
  let k := numS z len (byteS z len (byteS z len s 97) 32)
  let v := pKey z len 6 (V k.2) k.1
  (byteS z len v.1 10, ⟨false, k.2, v.2, []⟩)
theorem pApp_eq (s : St) (ts : List TxnM) : pApp z len s ts = pAppP z len (appB ts) s := rfl
def pRead (s : St) : St × OpM :=
  let k := numS z len (byteS z len (byteS z len s 114) 32)
  let l := listS z len k.1
  (byteS z len l.1 10, ⟨true, k.2, 0, l.2⟩)
def pLine (most : Int) (x : Int) (s : St) (ts : List TxnM) : St × List TxnM :=
  if x = 116 then pTxn z len s ts else
  if (¬ x = 97 ∧ ¬ x = 114) ∨ ts.length = 0 then (failS s 4 s.at_, ts) else
  if most ≤ (opsN ts : Int) then (failS s 3 s.at_, ts) else
  if x = 97 then ((pApp z len s ts).1, addOp ts (pApp z len s ts).2) else ((pRead z len s).1, addOp ts (pRead z len s).2)
end

section
variable {z : Nat → Int} {len : Nat}
theorem byteS_err {s : St} (h : s.e ≠ 0) (x : Int) : byteS z len s x = s := by unfold byteS; rw [if_neg h]
theorem numS_err {s : St} (h : s.e ≠ 0) : numS z len s = (s, 0) := by unfold numS; rw [if_neg h]
theorem listS_err {s : St} (h : s.e ≠ 0) : listS z len s = (s, []) := by unfold listS; rw [if_neg h]
theorem failS_err {s : St} (h : s.e ≠ 0) (e x : Int) : failS s e x = s := by unfold failS; rw [if_neg (fun q => h q.1)]
theorem ite_err {s : St} (h : s.e ≠ 0) (c : Prop) [Decidable c] (e x : Int) : (if c then failS s e x else s) = s := by split; exact failS_err h e x; rfl
theorem failS_now (i : Nat) {e : Int} (x : Int) (h : e ≠ 0) : failS ⟨i, 0, 0⟩ e x = ⟨i, e, x⟩ := by unfold failS; rw [if_pos ⟨rfl, h⟩]
theorem byteS_yes {i : Nat} {x : Int} (h : isB z len i x = true) : byteS z len ⟨i, 0, 0⟩ x = ⟨i + 1, 0, 0⟩ := by
  have := isB_iff.1 h
  unfold byteS; rw [if_pos rfl, if_pos this]
theorem byteS_not {i : Nat} {x : Int} (h : isB z len i x = false) : byteS z len ⟨i, 0, 0⟩ x = ⟨i, 4, i⟩ := by
  have := isB_no.1 h
  unfold byteS; rw [if_pos rfl, if_neg this, failS_now _ _ (by decide)]
theorem numS_yes {i t : Nat} {n : Int} (h : parse z len (i : Int) = (n, (t : Int), true)) : numS z len ⟨i, 0, 0⟩ = (⟨t, 0, 0⟩, n) := by
  unfold numS; rw [if_pos rfl, h]; simp
theorem numS_not {i t : Nat} (h : parse z len (i : Int) = (0, (t : Int), false)) : numS z len ⟨i, 0, 0⟩ = (⟨i, 4, t⟩, 0) := by
  unfold numS; rw [if_pos rfl, h]; simp [failS]
theorem listS_yes {i t : Nat} {l : List Int} (h : lst z len (i : Int) = (l, (t : Int), true)) : listS z len ⟨i, 0, 0⟩ = (⟨t, 0, 0⟩, l) := by
  unfold listS; rw [if_pos rfl, h]; simp
theorem listS_not {i t : Nat} {l : List Int} (h : lst z len (i : Int) = (l, (t : Int), false)) : listS z len ⟨i, 0, 0⟩ = (⟨i, 4, t⟩, []) := by
  unfold listS; rw [if_pos rfl, h]; simp [failS]
theorem pAborted_err {s : St} (h : s.e ≠ 0) : pAborted z len s = (s, false) := by
  unfold pAborted peekP; rw [if_neg h]; simp [byteS_err h]
theorem pName_err {s : St} (h : s.e ≠ 0) (ts : List TxnM) : (pName z len s ts).1 = s := by
  unfold pName pKey; simp only [byteS_err h, numS_err h]; exact ite_err h _ _ _
theorem pValue_err {s : St} (h : s.e ≠ 0) (ts : List TxnM) (k : Int) : (pValue z len s ts k).1 = s := by
  unfold pValue pKey; simp only [byteS_err h, numS_err h]; exact ite_err h _ _ _

/-- What a line leaves in a reader: no error, and the line's history; or the line's error. -/
def Meets (r : St × List TxnM) (l : LineR) : Prop := (l.e = 0 → r = (⟨l.nx, 0, 0⟩, l.ts)) ∧ (l.e ≠ 0 → r.1.e = l.e ∧ r.1.x = l.wh)
theorem Meets.bad {s : St} {us ts : List TxnM} {n : Nat} {e x : Int} (he : e ≠ 0) (h : s.e = e ∧ s.x = x) : Meets (s, us) ⟨ts, n, e, x⟩ := ⟨fun q => absurd q he, fun _ => h⟩
theorem Meets.ok {us : List TxnM} {n : Nat} : Meets (⟨n, 0, 0⟩, us) ⟨us, n, 0, 0⟩ := ⟨fun _ => rfl, fun q => absurd rfl q⟩

theorem txnT_meets (ts : List TxnM) (n : Int) (tz : Nat) : Meets (byteS z len (pAborted z len (byteS z len ⟨tz, 0, 0⟩ 32)).1 10, ts ++ [⟨n, (pAborted z len (byteS z len ⟨tz, 0, 0⟩ 32)).2, []⟩]) (txnT z len ts n tz) := by
  unfold txnT
  by_cases h1 : isB z len tz 32 = false
  · rw [if_pos h1, byteS_not h1, pAborted_err (by simp), byteS_err (by simp)]
    exact Meets.bad (by decide) ⟨rfl, rfl⟩
  · have h1' : isB z len tz 32 = true := by simpa using h1
    rw [if_neg h1, byteS_yes h1']
    by_cases ha : isB z len (tz + 1) 97 = true
    · have hi := isB_iff.1 ha
      have hp : pAborted z len ⟨tz + 1, 0, 0⟩ = (⟨tz + 2, 0, 0⟩, true) := by
        unfold pAborted peekP
        simp only [if_true]
        rw [peekS_in hi.1, if_pos hi.2, byteS_yes ha]
      rw [if_neg (by simp [ha]), hp]
      by_cases h3 : isB z len (tz + 2) 10 = false
      · rw [if_pos h3]; simp only [byteS_not h3]
        exact Meets.bad (by decide) ⟨rfl, rfl⟩
      · rw [if_neg h3]; simp only [byteS_yes (show isB z len (tz + 2) 10 = true by simpa using h3)]
        rw [show (z (tz + 1) == 97) = true by simp [hi.2]]
        exact Meets.ok
    · have ha' : isB z len (tz + 1) 97 = false := by simpa using ha
      have hno := isB_no.1 ha'
      have hp0 : (peekP z len ⟨tz + 1, 0, 0⟩).1 ≠ 97 := by
        unfold peekP
        simp only [if_true]
        by_cases hl : tz + 1 < len
        · rw [peekS_in hl]; intro q; exact hno ⟨hl, q⟩
        · rw [peekS_out hl]; decide
      have hp : pAborted z len ⟨tz + 1, 0, 0⟩ = (byteS z len ⟨tz + 1, 0, 0⟩ 99, false) := by unfold pAborted; rw [if_neg hp0]
      rw [hp]
      by_cases hc : isB z len (tz + 1) 99 = false
      · rw [if_pos ⟨ha', hc⟩]
        simp only [byteS_not hc]
        rw [byteS_err (by simp)]
        exact Meets.bad (by decide) ⟨rfl, rfl⟩
      · have hc' : isB z len (tz + 1) 99 = true := by simpa using hc
        rw [if_neg (fun q => hc q.2)]
        simp only [byteS_yes hc']
        by_cases h3 : isB z len (tz + 2) 10 = false
        · rw [if_pos h3]; simp only [byteS_not h3]
          exact Meets.bad (by decide) ⟨rfl, rfl⟩
        · rw [if_neg h3]; simp only [byteS_yes (show isB z len (tz + 2) 10 = true by simpa using h3)]
          rw [show (z (tz + 1) == 97) = false by rw [(isB_iff.1 hc').2]; decide]
          exact Meets.ok
theorem rest_err {s : St} (h : s.e ≠ 0) : byteS z len (pAborted z len (byteS z len s 32)).1 10 = s := by rw [byteS_err h, pAborted_err h]; exact byteS_err h 10
theorem txn_meets {ts : List TxnM} {i : Nat} (hi : i < len) (hz : z i = 116) : Meets (pTxn z len ⟨i, 0, 0⟩ ts) (txnS z len ts i) := by
  unfold pTxn txnS
  by_cases h0 : 1024 ≤ ts.length
  · rw [if_pos h0, if_pos h0, failS_now _ _ (by decide)]
    exact Meets.bad (by decide) ⟨rfl, rfl⟩
  rw [if_neg h0, if_neg h0]
  simp only [byteS_yes (isB_iff.2 ⟨hi, hz⟩)]
  by_cases h1 : isB z len (i + 1) 32 = false
  · have hb := byteS_not h1
    have hn : (pName z len ⟨i + 1, 0, 0⟩ ts).1 = ⟨i + 1, 4, ((i + 1 : Nat) : Int)⟩ := by unfold pName pKey; simp only [hb, numS_err (s := ⟨i + 1, 4, ((i + 1 : Nat) : Int)⟩) (by simp)]; exact ite_err (by simp) _ _ _
    rw [if_pos h1, hn, rest_err (by simp)]
    exact Meets.bad (by decide) ⟨rfl, rfl⟩
  have hb := byteS_yes (show isB z len (i + 1) 32 = true by simpa using h1)
  have b1 := isB_iff.1 (show isB z len (i + 1) 32 = true by simpa using h1)
  rw [if_neg h1]
  rcases parse_two z len (i + 2) (by omega) with ⟨n, t, g1, g2, _, _, hp⟩ | ⟨t, g1, g2, hp⟩
  · have hs := numS_yes hp
    rw [hp]
    simp only [Int.toNat_natCast]
    rw [if_neg (by simp)]
    by_cases ha : twinB ts n = true
    · have hn : pName z len ⟨i + 1, 0, 0⟩ ts = (⟨t, 5, ((i + 2 : Nat) : Int)⟩, n) := by unfold pName pKey; simp only [hb, hs, if_pos ha]; rw [failS_now _ _ (by decide)]
      rw [if_pos ha, hn]
      simp only
      rw [rest_err (by simp)]
      exact Meets.bad (by decide) ⟨rfl, rfl⟩
    · have hn : pName z len ⟨i + 1, 0, 0⟩ ts = (⟨t, 0, 0⟩, n) := by unfold pName pKey; simp only [hb, hs, if_neg ha]
      rw [if_neg ha, hn]
      exact txnT_meets ts n t
  · have hs := numS_not hp
    rw [hp, if_pos rfl]
    have hn : (pName z len ⟨i + 1, 0, 0⟩ ts).1 = ⟨i + 2, 4, (t : Int)⟩ := by unfold pName pKey; simp only [hb, hs]; exact ite_err (by simp) _ _ _
    rw [hn, rest_err (by simp)]
    exact Meets.bad (by decide) ⟨rfl, rfl⟩
theorem endL_meets (ts : List TxnM) (o : OpM) (tz : Nat) : Meets (byteS z len ⟨tz, 0, 0⟩ 10, addOp ts o) (endL z len ts o tz) := by
  unfold endL
  by_cases h : isB z len tz 10 = false
  · rw [if_pos h, byteS_not h]
    exact Meets.bad (by decide) ⟨rfl, rfl⟩
  · rw [if_neg h, byteS_yes (show isB z len tz 10 = true by simpa using h)]
    exact Meets.ok
theorem app_meets {ts : List TxnM} {i : Nat} {most : Int} (hi : i < len) (hz : z i = 97) (h0 : ¬ ts.length = 0) (hm : ¬ most ≤ (opsN ts : Int)) : Meets ((pApp z len ⟨i, 0, 0⟩ ts).1, addOp ts (pApp z len ⟨i, 0, 0⟩ ts).2) (opS z len most ts i) := by
  unfold pApp opS
  rw [if_neg h0, if_neg hm]
  simp only [byteS_yes (isB_iff.2 ⟨hi, hz⟩)]
  by_cases h1 : isB z len (i + 1) 32 = false
  · have hb := byteS_not h1
    rw [if_pos h1, hb, numS_err (by simp)]
    simp only
    rw [pValue_err (by simp), byteS_err (by simp)]
    exact Meets.bad (by decide) ⟨rfl, rfl⟩
  have b1 := isB_iff.1 (show isB z len (i + 1) 32 = true by simpa using h1)
  rw [if_neg h1, byteS_yes (show isB z len (i + 1) 32 = true by simpa using h1)]
  rcases parse_two z len (i + 2) (by omega) with ⟨k, t, g1, g2, _, _, hp⟩ | ⟨t, g1, g2, hp⟩
  · have hs := numS_yes hp
    rw [hp, hs]
    simp only [Int.toNat_natCast]
    rw [if_neg (by simp), if_neg (by rw [hz]; decide)]
    unfold appT
    by_cases h2 : isB z len t 32 = false
    · have hv : (pValue z len ⟨t, 0, 0⟩ ts k).1 = ⟨t, 4, (t : Int)⟩ := by unfold pValue pKey; simp only [byteS_not h2, numS_err (s := ⟨t, 4, (t : Int)⟩) (by simp)]; exact ite_err (by simp) _ _ _
      rw [if_pos h2, hv, byteS_err (by simp)]
      exact Meets.bad (by decide) ⟨rfl, rfl⟩
    have h2' : isB z len t 32 = true := by simpa using h2
    have b2 := isB_iff.1 h2'
    rw [if_neg h2]
    rcases parse_two z len (t + 1) (by omega) with ⟨v, u, q1, q2, _, _, hq⟩ | ⟨u, q1, q2, hq⟩
    · have hv := numS_yes hq
      rw [hq]
      simp only [Int.toNat_natCast]
      rw [if_neg (by simp)]
      by_cases ha : appB ts k v = true
      · have hn : pValue z len ⟨t, 0, 0⟩ ts k = (⟨u, 6, ((t + 1 : Nat) : Int)⟩, v) := by unfold pValue pKey; simp only [byteS_yes h2', hv, if_pos ha]; rw [failS_now _ _ (by decide)]
        rw [if_pos ha, hn]
        simp only
        rw [byteS_err (by simp)]
        exact Meets.bad (by decide) ⟨rfl, rfl⟩
      · have hn : pValue z len ⟨t, 0, 0⟩ ts k = (⟨u, 0, 0⟩, v) := by unfold pValue pKey; simp only [byteS_yes h2', hv, if_neg ha]
        rw [if_neg ha, hn]
        exact endL_meets ts _ u
    · have hv := numS_not hq
      have hn : (pValue z len ⟨t, 0, 0⟩ ts k).1 = ⟨t + 1, 4, (u : Int)⟩ := by unfold pValue pKey; simp only [byteS_yes h2', hv]; exact ite_err (by simp) _ _ _
      rw [hq, if_pos rfl, hn, byteS_err (by simp)]
      exact Meets.bad (by decide) ⟨rfl, rfl⟩
  · have hs := numS_not hp
    rw [hp, hs, if_pos rfl]
    simp only
    rw [pValue_err (by simp), byteS_err (by simp)]
    exact Meets.bad (by decide) ⟨rfl, rfl⟩
theorem read_meets {ts : List TxnM} {i : Nat} {most : Int} (hi : i < len) (hz : z i = 114) (h0 : ¬ ts.length = 0) (hm : ¬ most ≤ (opsN ts : Int)) : Meets ((pRead z len ⟨i, 0, 0⟩).1, addOp ts (pRead z len ⟨i, 0, 0⟩).2) (opS z len most ts i) := by
  unfold pRead opS
  rw [if_neg h0, if_neg hm]
  simp only [byteS_yes (isB_iff.2 ⟨hi, hz⟩)]
  by_cases h1 : isB z len (i + 1) 32 = false
  · have hb := byteS_not h1
    rw [if_pos h1, hb, numS_err (by simp)]
    simp only
    rw [listS_err (by simp)]
    simp only
    rw [byteS_err (by simp)]
    exact Meets.bad (by decide) ⟨rfl, rfl⟩
  have b1 := isB_iff.1 (show isB z len (i + 1) 32 = true by simpa using h1)
  rw [if_neg h1, byteS_yes (show isB z len (i + 1) 32 = true by simpa using h1)]
  rcases parse_two z len (i + 2) (by omega) with ⟨k, t, g1, g2, _, _, hp⟩ | ⟨t, g1, g2, hp⟩
  · have hs := numS_yes hp
    rw [hp, hs]
    simp only [Int.toNat_natCast]
    rw [if_neg (by simp), if_pos hz]
    unfold readT
    obtain ⟨m, u, ok, q1, q2, hl⟩ := lst_ge (z := z) g2
    cases ok with
    | false =>
      rw [hl, listS_not hl, if_pos rfl]
      simp only
      rw [byteS_err (by simp)]
      exact Meets.bad (by decide) ⟨rfl, rfl⟩
    | true =>
      rw [hl, listS_yes hl, if_neg (by simp)]
      simp only [Int.toNat_natCast]
      exact endL_meets ts _ u
  · have hs := numS_not hp
    rw [hp, hs, if_pos rfl]
    simp only
    rw [listS_err (by simp)]
    simp only
    rw [byteS_err (by simp)]
    exact Meets.bad (by decide) ⟨rfl, rfl⟩
theorem line_meets {ts : List TxnM} {i : Nat} {most : Int} (hi : i < len) : Meets (pLine z len most (z i) ⟨i, 0, 0⟩ ts) (lineS z len most ts i) := by
  unfold pLine lineS
  by_cases h1 : z i = 116
  · rw [if_pos h1, if_pos h1]; exact txn_meets hi h1
  rw [if_neg h1, if_neg h1]
  by_cases h2 : z i = 97 ∨ z i = 114
  · rw [if_pos h2]
    by_cases h0 : ts.length = 0
    · rw [if_pos (Or.inr h0), failS_now _ _ (by decide)]
      unfold opS
      rw [if_pos h0]
      exact Meets.bad (by decide) ⟨rfl, rfl⟩
    rw [if_neg (by rintro (q | q); exact h2.elim q.1 q.2; exact h0 q)]
    by_cases hm : most ≤ (opsN ts : Int)
    · rw [if_pos hm, failS_now _ _ (by decide)]
      unfold opS
      rw [if_neg h0, if_pos hm]
      exact Meets.bad (by decide) ⟨rfl, rfl⟩
    rw [if_neg hm]
    by_cases h3 : z i = 97
    · rw [if_pos h3]; exact app_meets hi h3 h0 hm
    · rw [if_neg h3]; exact read_meets hi (h2.resolve_left h3) h0 hm
  · rw [if_neg h2, if_pos (Or.inl ⟨fun q => h2 (.inl q), fun q => h2 (.inr q)⟩), failS_now _ _ (by decide)]
    exact Meets.bad (by decide) ⟨rfl, rfl⟩
end
end Go.Proofs.Ytigmgkcojifbcaa.Hist

/- The reader's name: a blank, and a number that no transaction has. -/
namespace Go.Proofs.Ytigmgkcojifbcaa.Hist
open Go.RowKit Go.Proofs.Ytigmgkcojifbcaa.Dig Go.Proofs.Ytigmgkcojifbcaa.Mem Go.Proofs.Ytigmgkcojifbcaa.Cur Go.Proofs.Ytigmgkcojifbcaa.Keys
set_option linter.unusedVariables false
set_option linter.unusedSimpArgs false

/-- A reader lies in block rb. -/
def Rdr (w : World) (rb cb : Nat) (most ops : Int) (nb vb : Nat) (tv : Value) : Prop := Is w rb #[.pointer (some ⟨cb, 0, none⟩), .int .i64 most, .int .i64 ops, .map (some nb), .map (some vb), tv]
theorem Rdr.six {w : World} {rb cb : Nat} {most ops : Int} {nb vb : Nat} {tv : Value} (h : Rdr w rb cb most ops nb vb tv) :
    w.cell? ⟨rb, 0, none⟩ = some (.pointer (some ⟨cb, 0, none⟩)) ∧ w.cell? ⟨rb, 1, none⟩ = some (.int .i64 most) ∧ w.cell? ⟨rb, 2, none⟩ = some (.int .i64 ops) ∧ w.cell? ⟨rb, 3, none⟩ = some (.map (some nb)) ∧
    w.cell? ⟨rb, 4, none⟩ = some (.map (some vb)) ∧ w.cell? ⟨rb, 5, none⟩ = some tv :=
  ⟨h.cell 0 rfl, h.cell 1 rfl, h.cell 2 rfl, h.cell 3 rfl, h.cell 4 rfl, h.cell 5 rfl⟩
theorem Rdr.keep {w w' : World} {rb cb : Nat} {most ops : Int} {nb vb : Nat} {tv : Value} (h : Rdr w rb cb most ops nb vb tv) {S : Nat → Prop} (ho : Only S w w') (hs : ¬ S rb) : Rdr w' rb cb most ops nb vb tv := Is.keep h ho hs
theorem numS_wf {z : Nat → Int} {len : Nat} {s : St} (h : s.at_ ≤ len) : (Lit.int .i64 (numS z len s).2).wf = true := by
  unfold numS
  split
  · rcases parse_two z len s.at_ h with ⟨n, t, h1, h2, h3, h4, hp⟩ | ⟨t, h1, h2, hp⟩
    · rw [hp]; exact wf_of_i64 h3 h4
    · rw [hp]; rfl
  · rfl
theorem name_mid {w3 w5 : World} {rb cb nb vb n : Nat} {most ops m : Int} {tv : Value} {P : Int → Bool} (hr : Rdr w3 rb cb most ops nb vb tv) (hn : Names w3 nb n P) (hcb : cb < w3.heap.size)
    (ho : Only (fun k => k = cb) ((w3.alloc (.cells #[.int .i64 m] 129)).alloc (.cells #[] 83)).drew w5) (h1 : rb ≠ cb) (h3 : cb ≠ nb) :
    Rdr w5 rb cb most ops nb vb tv ∧ Names w5.drew nb n P ∧ Is w5 w3.heap.size #[.int .i64 m] ∧ Only (fun k => k = cb) w3 w5 := by
  have hB : Below w3.heap.size w3 ((w3.alloc (.cells #[.int .i64 m] 129)).alloc (.cells #[] 83)).drew := (((Below.refl _ _).alloc (Nat.le_refl _) _).alloc (by simp) _).drew
  have hO : Only (fun k => k = cb) w3 w5 := (Only.of_below hB).trans ho
  exact ⟨hr.keep hO h1, SetAt.keep hn (hO.drew) (Ne.symm h3), (((Is.made w3 _ _ rfl).alloc _).drew).keep ho (by omega), hO⟩
theorem name_end {w w1 w3 w5 w6 : World} {cb nb : Nat} (h1 : Only (fun k => k = cb) w w1) (h2 : Only (fun k => k = cb) w1 w3) (h3 : Only (fun k => k = cb) w3 w5) (h4 : Only (fun k => k = nb) w5.drew w6) : Only (fun k => k = cb ∨ k = nb) w w6 := by
  have q := ((h1.trans h2).trans h3).drew
  exact (q.mono fun _ r => .inl r).trans (h4.mono fun _ r => .inr r)
set_option maxHeartbeats 1000000 in
theorem name_any (rb cb nb vb : Nat) (most ops : Int) (tv : Value) (a : Option Addr) (len cap : Nat) (z : Nat → Int) (s : St) (n : Nat) (P : Int → Bool) (w : World)
    (hr : Rdr w rb cb most ops nb vb tv) (hl : Live w cb a len cap z s) (hn : Names w nb n P) (h1 : rb ≠ cb) (h2 : rb ≠ nb) (h3 : cb ≠ nb) (ha : 0 < len → ∀ x, a = some x → x.block ≠ nb) (hm : n < 1000000) :
    Calls Try.prog 71 #[.pointer (some ⟨rb, 0, none⟩)] w fun e w' => e = .returned (.int .i64 (pKey z len 5 P s).2) ∧ Only (fun k => k = cb ∨ k = nb) w w' ∧ Live w' cb a len cap z (pKey z len 5 P s).1 ∧ Names w' nb (n + 1) (fun y => P y || (pKey z len 5 P s).2 == y) := by
  obtain ⟨c0, -, -, c3, -, -⟩ := hr.six
  obtain ⟨s1, hs1⟩ : ∃ s1, byteS z len s 32 = s1 := ⟨_, rfl⟩
  obtain ⟨⟨s2, m⟩, hs2⟩ : ∃ r, numS z len s1 = r := ⟨_, rfl⟩
  have hat1 : s1.at_ ≤ len := by rw [← hs1]; exact byteS_at hl.at_
  have hwf : (Lit.int .i64 m).wf = true := by have := numS_wf (z := z) hat1; rwa [hs2] at this
  have HR : Hid (Rdr w rb cb most ops nb vb tv) := hr
  have HL : Hid (Live w cb a len cap z s) := hl
  have HN : Hid (Names w nb n P) := hn
  have HA : Hid (0 < len → ∀ x, a = some x → x.block ≠ nb) := ha
  clear hr hl hn ha
  by_cases hp : P m = true
  · have HS : Hid (pKey z len 5 P s = (failS s2 5 s1.at_, m)) := by show _ = _; unfold pKey; simp only [hs1, hs2, if_pos hp]
    have HP : Hid (P m = true) := hp
    replace hs1 := hide hs1
    replace hs2 := hide hs2
    clear hp
    go_enter Try.func71, Try.ntmps71
    go_wp2_with (first | (go_at_call 70; (with_reducible refine (byte_live cb a len cap s z 32 _ HL.out).mono ?_); rw [hs1.out]; rintro e w1 ⟨rfl, ho1, hl1⟩; have HL1 := hide hl1; have HO1 := hide ho1; have HR1 := hide (HR.out.keep ho1 h1); obtain ⟨c0, -, -, c3, -, -⟩ := HR1.out.six; clear hl1 ho1) | (go_at_call 62; (with_reducible refine (at_any cb a len cap s1 _ HL1.out.cur).mono ?_); rintro e w2 ⟨rfl, hw⟩; replace hw := hw.symm; subst hw) | (go_at_call 73; (with_reducible refine (num_live cb a len cap s1 z _ HL1.out).mono ?_); rw [hs2.out]; rintro e w3 ⟨rfl, ho2, hl2⟩; have HL2 := hide hl2; have HO2 := hide ho2; have HR2 := hide (HR1.out.keep ho2 h1); obtain ⟨c0, -, -, c3, -, -⟩ := HR2.out.six; have HN2 := hide ((HN.out.keep HO1.out (Ne.symm h3)).keep ho2 (Ne.symm h3)); clear hl2 ho2))
    have ho3 : Below w3.heap.size w3 (w3.alloc (.cells #[.int .i64 m] 129)).drew := ((Below.refl _ _).alloc (Nat.le_refl _) _).drew
    have ho4 : Below w3.heap.size w3 ((w3.alloc (.cells #[.int .i64 m] 129)).alloc (.cells #[] 83)).drew := (((Below.refl _ _).alloc (Nat.le_refl _) _).alloc (by simp) _).drew
    have L1 := SetAt.look (T := 69) (SetAt.keep HN2.out (Only.of_below (S := fun _ => False) ho3) (fun q => q)) nameIs Try.underlying69 (x := m) hwf
    have L2 := SetAt.look (T := 69) (SetAt.keep HN2.out (Only.of_below (S := fun _ => False) ho4) (fun q => q)) nameIs Try.underlying69 (x := m) hwf
    rw [HP.out] at L1 L2
    unfold nameV at L1 L2
    have hrl : rb < w3.heap.size := HR2.out.lt
    clear ho3 ho4
    go_region
    all_goals
      clear L1 L2
      go_simp
      go_wp2_with (go_at_call 61; (with_reducible refine (fail_live cb a len cap s2 z 5 s1.at_ _ (HL2.out.keep (((Below.refl _ _).alloc (Nat.le_refl _) _).alloc (by simp) _).drew)).mono ?_); rintro e w5 ⟨rfl, ho5, hl5⟩)
      obtain ⟨K1, K2, K3, K4⟩ := name_mid HR2.out HN2.out HL2.out.cur.lt ho5 h1 h3
      obtain ⟨w6, hput, hn6, ho6⟩ := Names.store (w := w5.drew) K2 hwf hm
      have k3 := K1.cell 3 rfl
      have k0 := K3.cell 0 rfl
      have hz := K3.lt
      have q0 := Is.cell (K3.drew.keep ho6 (fun (q : w3.heap.size = nb) => by have := SetAt.lt HN2.out; omega)) 0 rfl
      have HF := hide (name_end HO1.out HO2.out K4 ho6)
      have HL6 := hide ((hl5.drewN 1).other (S := fun k => k = nb) ho6 h3 HA.out)
      have HN6 := hide hn6
      clear K1 K2 K3 K4 ho5 hl5 hn6 ho6
      go_region
      all_goals
        clear hput
        go_simp
        go_wp2
        go_ret
        exact ⟨by rw [HS.out]; rfl, HF.out, by rw [HS.out]; exact HL6.out, by rw [HS.out]; exact HN6.out⟩
  · have HS : Hid (pKey z len 5 P s = (s2, m)) := by show _ = _; unfold pKey; simp only [hs1, hs2, if_neg hp]
    have HP : Hid (P m = false) := by show _ = _; simpa using hp
    replace hs1 := hide hs1
    replace hs2 := hide hs2
    clear hp
    go_enter Try.func71, Try.ntmps71
    go_wp2_with (first | (go_at_call 70; (with_reducible refine (byte_live cb a len cap s z 32 _ HL.out).mono ?_); rw [hs1.out]; rintro e w1 ⟨rfl, ho1, hl1⟩; have HL1 := hide hl1; have HO1 := hide ho1; have HR1 := hide (HR.out.keep ho1 h1); obtain ⟨c0, -, -, c3, -, -⟩ := HR1.out.six; clear hl1 ho1) | (go_at_call 62; (with_reducible refine (at_any cb a len cap s1 _ HL1.out.cur).mono ?_); rintro e w2 ⟨rfl, hw⟩; replace hw := hw.symm; subst hw) | (go_at_call 73; (with_reducible refine (num_live cb a len cap s1 z _ HL1.out).mono ?_); rw [hs2.out]; rintro e w3 ⟨rfl, ho2, hl2⟩; have HL2 := hide hl2; have HO2 := hide ho2; have HR2 := hide (HR1.out.keep ho2 h1); obtain ⟨c0, -, -, c3, -, -⟩ := HR2.out.six; have HN2 := hide ((HN.out.keep HO1.out (Ne.symm h3)).keep ho2 (Ne.symm h3)); clear hl2 ho2))
    have ho3 : Below w3.heap.size w3 (w3.alloc (.cells #[.int .i64 m] 129)).drew := ((Below.refl _ _).alloc (Nat.le_refl _) _).drew
    have ho4 : Below w3.heap.size w3 ((w3.alloc (.cells #[.int .i64 m] 129)).alloc (.cells #[] 83)).drew := (((Below.refl _ _).alloc (Nat.le_refl _) _).alloc (by simp) _).drew
    have L1 := SetAt.look (T := 69) (SetAt.keep HN2.out (Only.of_below (S := fun _ => False) ho3) (fun q => q)) nameIs Try.underlying69 (x := m) hwf
    have L2 := SetAt.look (T := 69) (SetAt.keep HN2.out (Only.of_below (S := fun _ => False) ho4) (fun q => q)) nameIs Try.underlying69 (x := m) hwf
    rw [HP.out] at L1 L2
    unfold nameV at L1 L2
    have hrl : rb < w3.heap.size := HR2.out.lt
    clear ho3 ho4
    go_region
    all_goals
      clear L1 L2
      go_simp
      go_wp2_with fail
      obtain ⟨K1, K2, K3, K4⟩ := name_mid (m := m) HR2.out HN2.out HL2.out.cur.lt (Only.refl _ _) h1 h3
      have hl5 := HL2.out.keep ((((Below.refl _ _).alloc (Nat.le_refl _) (.cells #[.int .i64 m] 129)).alloc (by simp) (.cells #[] 83)).drew)
      obtain ⟨w6, hput, hn6, ho6⟩ := Names.store K2 hwf hm
      have k3 := K1.cell 3 rfl
      have k0 := K3.cell 0 rfl
      have hz := K3.lt
      have q0 := Is.cell (K3.drew.keep ho6 (fun (q : w3.heap.size = nb) => by have := SetAt.lt HN2.out; omega)) 0 rfl
      have HF := hide (name_end HO1.out HO2.out K4 ho6)
      have HL6 := hide ((hl5.drewN 1).other (S := fun k => k = nb) ho6 h3 HA.out)
      have HN6 := hide hn6
      clear K1 K2 K3 K4 hl5 hn6 ho6
      go_region
      all_goals
        clear hput
        go_simp
        go_wp2
        go_ret
        exact ⟨by rw [HS.out]; rfl, HF.out, by rw [HS.out]; exact HL6.out, by rw [HS.out]; exact HN6.out⟩
end Go.Proofs.Ytigmgkcojifbcaa.Hist
