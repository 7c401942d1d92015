/- Contracts of a cursor's calls: each does to the cursor's block what the plain function tells, and turns no other block that was there. -/
import Derived.Test.YtigmgkcojifbcaaMem
import Derived.Deep.QuietTactic
import Derived.BigQuiet
import Derived.Deep.RegionWith
import Derived.Outline
namespace Go.Proofs.Ytigmgkcojifbcaa.Cur
open Go.RowKit Go.Proofs.Ytigmgkcojifbcaa.Dig Go.Proofs.Ytigmgkcojifbcaa.Mem
set_option linter.unusedVariables false
set_option linter.unusedSimpArgs false

/-- Where a cursor is: its place, its error, and the error's place. -/
structure St where
  at_ : Nat
  e : Int
  x : Int

/-- A cursor that New made lies in block b. -/
def Cur (w : World) (b : Nat) (a : Option Addr) (len cap : Nat) (s : St) : Prop := Is w b #[.slice a len cap, .int .i64 (s.at_ : Int), .bool true, .int .i64 s.e, .int .i64 s.x]

theorem isMade_any (b : Nat) (cs : Array Value) (m : Bool) (w : World) (h : Is w b cs) (hm : cs[2]? = some (.bool m)) :
    Calls Try.prog 46 #[.pointer (some ⟨b, 0, none⟩)] w fun e w' => e = .returned (.bool m) ∧ w' = w := by
  have c2 := h.cell 2 hm
  clear h hm
  go_enter Try.func46, Try.ntmps46
  go_wp2
  go_ret
  exact ⟨rfl, rfl⟩
theorem isMade_nil (w : World) :
    Calls Try.prog 46 #[.pointer none] w fun e w' => e = .returned (.bool false) ∧ w' = w := by
  go_enter Try.func46, Try.ntmps46
  go_wp2
  go_ret
  exact ⟨rfl, rfl⟩
theorem goesOn_nil (w : World) :
    Calls Try.prog 58 #[.pointer none] w fun e w' => e = .returned (.bool false) ∧ w' = w := by
  go_enter Try.func58, Try.ntmps58
  go_wp2_with (go_at_call 46; refine (isMade_nil _).mono ?_; rintro e w' ⟨rfl, hw⟩; replace hw := hw.symm; subst hw)
  go_ret
  exact ⟨rfl, rfl⟩
theorem goesOn_not (b : Nat) (cs : Array Value) (w : World) (h : Is w b cs) (hm : cs[2]? = some (.bool false)) :
    Calls Try.prog 58 #[.pointer (some ⟨b, 0, none⟩)] w fun e w' => e = .returned (.bool false) ∧ w' = w := by
  have H : Hid (Is w b cs ∧ cs[2]? = some (.bool false)) := ⟨h, hm⟩
  clear h hm
  go_enter Try.func58, Try.ntmps58
  go_wp2_with (go_at_call 46; refine (isMade_any b cs false _ H.out.1 H.out.2).mono ?_; rintro e w' ⟨rfl, hw⟩; replace hw := hw.symm; subst hw)
  go_ret
  exact ⟨rfl, rfl⟩
theorem goesOn_any (b : Nat) (cs : Array Value) (e0 : Int) (w : World) (h : Is w b cs) (hm : cs[2]? = some (.bool true)) (he : cs[3]? = some (.int .i64 e0)) :
    Calls Try.prog 58 #[.pointer (some ⟨b, 0, none⟩)] w fun e w' => e = .returned (.bool (e0 == 0)) ∧ w' = w := by
  have H : Hid (Is w b cs ∧ cs[2]? = some (.bool true)) := ⟨h, hm⟩
  have c3 := h.cell 3 he
  clear h hm he
  go_enter Try.func58, Try.ntmps58
  go_wp2_with (go_at_call 46; refine (isMade_any b cs true _ H.out.1 H.out.2).mono ?_; rintro e w' ⟨rfl, hw⟩; replace hw := hw.symm; subst hw)
  go_ret
  exact ⟨rfl, rfl⟩
theorem goesOn_yes (b : Nat) (a : Option Addr) (len cap : Nat) (s : St) (w : World) (h : Cur w b a len cap s) (he : s.e = 0) :
    Calls Try.prog 58 #[.pointer (some ⟨b, 0, none⟩)] w fun e w' => e = .returned (.bool true) ∧ w' = w := by
  have := goesOn_any b _ s.e w h rfl rfl
  simpa [he] using this
theorem goesOn_no (b : Nat) (a : Option Addr) (len cap : Nat) (s : St) (w : World) (h : Cur w b a len cap s) (he : s.e ≠ 0) :
    Calls Try.prog 58 #[.pointer (some ⟨b, 0, none⟩)] w fun e w' => e = .returned (.bool false) ∧ w' = w := by
  have := goesOn_any b _ s.e w h rfl rfl
  rw [show (s.e == 0) = false by simp [he]] at this
  exact this

theorem new_any (w : World) (a : Option Addr) (len cap : Nat) :
    Calls Try.prog 43 #[.slice a len cap] w fun e w' => e = .returned (.pointer (some ⟨w.heap.size, 0, none⟩)) ∧ Only (fun _ => False) w w' ∧ Cur w' w.heap.size a len cap ⟨0, 0, 0⟩ := by
  go_enter Try.func43, Try.ntmps43
  go_wp2
  go_ret
  exact ⟨rfl, (Only.refl _ _).alloc _, Is.made _ _ _ rfl⟩

theorem at_any (b : Nat) (a : Option Addr) (len cap : Nat) (s : St) (w : World) (h : Cur w b a len cap s) :
    Calls Try.prog 62 #[.pointer (some ⟨b, 0, none⟩)] w fun e w' => e = .returned (.int .i64 (s.at_ : Int)) ∧ w' = w := by
  have H : Hid (Cur w b a len cap s) := h
  have c1 := h.cell 1 rfl
  clear h
  go_enter Try.func62, Try.ntmps62
  go_wp2_with (go_at_call 46; refine (isMade_any b _ true _ H.out rfl).mono ?_; rintro e w' ⟨rfl, hw⟩; replace hw := hw.symm; subst hw)
  go_ret
  exact ⟨rfl, rfl⟩
theorem err_any (b : Nat) (a : Option Addr) (len cap : Nat) (s : St) (w : World) (h : Cur w b a len cap s) :
    Calls Try.prog 32 #[.pointer (some ⟨b, 0, none⟩)] w fun e w' => e = .returned (.tuple #[.int .i64 s.e, .int .i64 s.x]) ∧ ∃ n, w' = w.drewN n := by
  have H : Hid (Cur w b a len cap s) := h
  have c3 := h.cell 3 rfl
  have c4 := h.cell 4 rfl
  clear h
  go_enter Try.func32, Try.ntmps32
  go_wp2_with (go_at_call 46; refine (isMade_any b _ true _ H.out rfl).mono ?_; rintro e w' ⟨rfl, hw⟩; replace hw := hw.symm; subst hw)
  go_quiet (fail)
  go_wp2
  go_ret2
  exact ⟨rfl, _, rfl⟩
theorem goTo_any (b : Nat) (cs : Array Value) (n : Int) (w : World) (h : Is w b cs) (v : Value) (hv : cs[1]? = some v) :
    Calls Try.prog 78 #[.pointer (some ⟨b, 0, none⟩), .int .i64 n] w fun e w' => e = .returned (.tuple #[]) ∧ w' = w.setCell ⟨b, 1, none⟩ (.int .i64 n) := by
  have c1 := h.cell 1 hv
  have f1 := h.frozen 1
  clear h
  go_enter Try.func78, Try.ntmps78
  go_wp2
  go_end0
  exact ⟨rfl, rfl⟩
/-- What stands at a place. -/
def peekS (z : Nat → Int) (len at_ : Nat) : Int × Bool := if at_ < len then (z at_, true) else (0, false)
theorem peekS_in {z : Nat → Int} {len at_ : Nat} (h : at_ < len) : peekS z len at_ = (z at_, true) := if_pos h
theorem peekS_out {z : Nat → Int} {len at_ : Nat} (h : ¬ at_ < len) : peekS z len at_ = (0, false) := if_neg h
theorem next_any (b : Nat) (a : Option Addr) (len cap : Nat) (s : St) (z : Nat → Int) (w : World) (h : Cur w b a len cap s) (hr : Rd .u8 w a len z) :
    Calls Try.prog 59 #[.pointer (some ⟨b, 0, none⟩)] w fun e w' => e = .returned (.tuple #[.int .u8 (peekS z len s.at_).1, .bool (peekS z len s.at_).2]) ∧ ∃ n, w' = w.drewN n := by
  have hlen := hr.le
  have c0 := h.cell 0 rfl
  have c1 := h.cell 1 rfl
  clear h
  obtain ⟨k, e, x⟩ := s
  simp only at c1 ⊢
  by_cases hlt : k < len
  · have hlt' : ¬ len ≤ k := by omega
    have hlt2 : (k : Int) < (len : Int) := by omega
    have hk0 : 0 ≤ (k : Int) := by omega
    obtain ⟨ab, off, rfl, hc, _, _⟩ := hr.u8 hlt
    rw [peekS_in hlt]
    clear hr
    go_enter Try.func59, Try.ntmps59
    go_wp2
    go_quiet (fail)
    go_wp2
    go_quiet (fail)
    go_wp2
    go_ret2
    exact ⟨rfl, _, World.drewN_drewN _ _ _⟩
  · rw [peekS_out hlt]
    have hlt' : len ≤ k := by omega
    clear hr
    go_enter Try.func59, Try.ntmps59
    go_wp2
    go_quiet (fail)
    go_wp2
    go_ret2
    exact ⟨rfl, _, rfl⟩
theorem number_any (b : Nat) (a : Option Addr) (len cap : Nat) (s : St) (z : Nat → Int) (w : World) (h : Cur w b a len cap s) (hr : Rd .u8 w a len z) (n t : Int) (is : Bool) (hp : Hid (parse z len (s.at_ : Int) = (n, t, is))) :
    Calls Try.prog 79 #[.pointer (some ⟨b, 0, none⟩)] w fun e w' => e = .returned (.tuple #[.int .i64 n, .int .i64 t, .bool is]) ∧ ∃ m, w' = w.drewN m := by
  have c0 := h.cell 0 rfl
  have c1 := h.cell 1 rfl
  have HR : ∀ m, Calls Try.prog 81 #[.slice a len cap, .int .i64 (s.at_ : Int)] (w.drewN m) fun e w' => e = .returned (.tuple #[.int .i64 n, .int .i64 t, .bool is]) ∧ w' = w.drewN m :=
    fun m => parse_eq a len cap z _ _ (hr.only ((Only.refl (fun _ => False) w).drewN m) (fun _ _ q => q)) hp
  have HH : Hid (∀ m, Calls Try.prog 81 #[.slice a len cap, .int .i64 (s.at_ : Int)] (w.drewN m) fun e w' => e = .returned (.tuple #[.int .i64 n, .int .i64 t, .bool is]) ∧ w' = w.drewN m) := HR
  clear h hr HR
  obtain ⟨k, e, x⟩ := s
  simp only at c1 HH
  go_enter Try.func79, Try.ntmps79
  go_wp2
  go_quiet ((go_at_call 81; exact Calls.quiet_of_same (HH.out _)))
  go_wp2
  go_ret3
  exact ⟨rfl, _, rfl⟩
/-- The program's List, its answer named, in memory of its own. -/
theorem dlist_new (a : Option Addr) (len cap : Nat) (z : Nat → Int) (at_ : Int) (w : World) (h : Rd .u8 w a len z) {l : List Int} {t : Int} {b : Bool} (hr : Hid (lst z len at_ = (l, t, b))) :
    Calls Try.prog 82 #[.slice a len cap, .int .i64 at_] w fun e w' => ∃ a' c, e = .returned (.tuple #[.slice a' l.length c, .int .i64 t, .bool b]) ∧ Below w.heap.size w w' ∧ Rd .i64 w' a' l.length (fun i => l.getD i 0) ∧ l.length ≤ c ∧ ∀ x, a' = some x → w.heap.size ≤ x.block := by
  refine (Dig.list_any a len cap z at_ w h).mono ?_
  rw [hr.out]
  rintro e w' ⟨v, rfl, hown, hb, hl, hll⟩
  have hlt := World.ownsRow.lt hown
  obtain ⟨a', c, rfl, h1, h2⟩ := Rd.own hown hll (fun n hn => by have := hl n hn; exact wf_of_i64 this.1 this.2)
  refine ⟨a', c, rfl, hb, h2, h1, ?_⟩
  rintro x rfl
  exact (hlt x.block rfl).1
theorem numbers_any (b : Nat) (a : Option Addr) (len cap : Nat) (s : St) (z : Nat → Int) (w : World) (h : Cur w b a len cap s) (hr : Rd .u8 w a len z) (l : List Int) (t : Int) (is : Bool) (hp : Hid (lst z len (s.at_ : Int) = (l, t, is))) :
    Calls Try.prog 80 #[.pointer (some ⟨b, 0, none⟩)] w fun e w' => ∃ a' c, e = .returned (.tuple #[.slice a' l.length c, .int .i64 t, .bool is]) ∧ Below w.heap.size w w' ∧ Rd .i64 w' a' l.length (fun i => l.getD i 0) ∧ l.length ≤ c ∧ ∀ x, a' = some x → w.heap.size ≤ x.block := by
  have c0 := h.cell 0 rfl
  have c1 := h.cell 1 rfl
  have HH : Hid (Calls Try.prog 82 #[.slice a len cap, .int .i64 (s.at_ : Int)] w.drew fun e w' => ∃ a' c, e = .returned (.tuple #[.slice a' l.length c, .int .i64 t, .bool is]) ∧ Below w.heap.size w w' ∧ Rd .i64 w' a' l.length (fun i => l.getD i 0) ∧ l.length ≤ c ∧ ∀ x, a' = some x → w.heap.size ≤ x.block) := by
    have ho : Below w.heap.size w w.drew := (Below.refl _ _).drew
    refine (dlist_new a len cap z _ w.drew (hr.keep ho) hp).mono ?_
    rintro e w' ⟨a', c, rfl, hb, hr', hc, hx⟩
    exact ⟨a', c, rfl, ho.trans hb, hr', hc, hx⟩
  clear h hr
  obtain ⟨k, e, x⟩ := s
  simp only at c1 HH
  go_enter Try.func80, Try.ntmps80
  go_wp2
  go_region_with (go_at_call 82; refine HH.out.mono ?_; rintro e w' ⟨a', c, rfl, hb, hr', hc, hx⟩)
  all_goals
    go_simp
    go_wp2
    go_ret3
    exact ⟨_, _, rfl, hb, hr', hc, hx⟩

/-- Peek, of one that may go on. -/
theorem peek_any (b : Nat) (a : Option Addr) (len cap : Nat) (s : St) (z : Nat → Int) (w : World) (h : Cur w b a len cap s) (hr : Rd .u8 w a len z) (he : s.e = 0) :
    Calls Try.prog 44 #[.pointer (some ⟨b, 0, none⟩)] w fun e w' => e = .returned (.tuple #[.int .u8 (peekS z len s.at_).1, .bool (peekS z len s.at_).2]) ∧ ∃ n, w' = w.drewN n := by
  have H : Hid (Cur w b a len cap s ∧ s.e = 0) := ⟨h, he⟩
  clear h he
  go_enter Try.func44, Try.ntmps44
  go_wp2_with (first | (go_at_call 58; refine (goesOn_yes b a len cap s _ H.out.1 H.out.2).mono ?_; rintro e w' ⟨rfl, hw⟩; replace hw := hw.symm; subst hw) | (go_at_call 59; refine (next_any b a len cap s z _ H.out.1 hr).mono ?_; rintro e w' ⟨rfl, n, rfl⟩))
  go_ret2
  exact ⟨rfl, _, rfl⟩
theorem peek_no (b : Nat) (a : Option Addr) (len cap : Nat) (s : St) (w : World) (h : Cur w b a len cap s) (he : s.e ≠ 0) :
    Calls Try.prog 44 #[.pointer (some ⟨b, 0, none⟩)] w fun e w' => e = .returned (.tuple #[.int .u8 0, .bool false]) ∧ w' = w := by
  have H : Hid (Cur w b a len cap s ∧ s.e ≠ 0) := ⟨h, he⟩
  clear h he
  go_enter Try.func44, Try.ntmps44
  go_wp2_with (go_at_call 58; refine (goesOn_no b a len cap s _ H.out.1 H.out.2).mono ?_; rintro e w' ⟨rfl, hw⟩; replace hw := hw.symm; subst hw)
  go_ret2
  exact ⟨rfl, rfl⟩

/-- Fail. -/
def failS (s : St) (e x : Int) : St := if s.e = 0 ∧ e ≠ 0 then ⟨s.at_, e, x⟩ else s
theorem fail_any (b : Nat) (a : Option Addr) (len cap : Nat) (s : St) (e0 x0 : Int) (w : World) (h : Cur w b a len cap s) :
    Calls Try.prog 61 #[.pointer (some ⟨b, 0, none⟩), .int .i64 e0, .int .i64 x0] w fun e w' => e = .returned (.tuple #[]) ∧ Only (fun k => k = b) w w' ∧ Cur w' b a len cap (failS s e0 x0) := by
  have H : Hid (Cur w b a len cap s) := h
  by_cases he : s.e = 0
  · by_cases h0 : e0 = 0
    · have hs : Hid (failS s e0 x0 = s) := if_neg (by simp [h0])
      subst h0
      clear h
      go_enter Try.func61, Try.ntmps61
      go_wp2_with (go_at_call 58; refine (goesOn_yes b a len cap s _ H.out he).mono ?_; rintro e w' ⟨rfl, hw⟩; replace hw := hw.symm; subst hw)
      refine bodyPost_ret (results_none rfl _ _ _) rfl ?_
      exact ⟨rfl, Only.refl _ _, by rw [hs.out]; exact H.out⟩
    · have hs : Hid (failS s e0 x0 = ⟨s.at_, e0, x0⟩) := if_pos ⟨he, h0⟩
      have g0 : (e0 == 0) = false := by simpa using h0
      have c3 := h.cell 3 rfl
      have c4 := h.cell 4 rfl
      have f3 := h.frozen 3
      have f4 := h.frozen 4
      have P : Hid (Only (fun k => k = b) w ((w.setCell ⟨b, 3, none⟩ (.int .i64 e0)).setCell ⟨b, 4, none⟩ (.int .i64 x0)) ∧ Cur ((w.setCell ⟨b, 3, none⟩ (.int .i64 e0)).setCell ⟨b, 4, none⟩ (.int .i64 x0)) b a len cap (failS s e0 x0)) := by
        rw [hs.out]
        exact ⟨((Only.refl _ _).put 3 _).put 4 _, (h.set 3 _).set 4 _⟩
      clear h h0
      go_enter Try.func61, Try.ntmps61
      go_wp2_with (go_at_call 58; refine (goesOn_yes b a len cap s _ H.out he).mono ?_; rintro e w' ⟨rfl, hw⟩; replace hw := hw.symm; subst hw)
      go_end0
      exact ⟨rfl, P.out⟩
  · have hs : Hid (failS s e0 x0 = s) := if_neg (by simp [he])
    clear h
    go_enter Try.func61, Try.ntmps61
    go_wp2_with (go_at_call 58; refine (goesOn_no b a len cap s _ H.out he).mono ?_; rintro e w' ⟨rfl, hw⟩; replace hw := hw.symm; subst hw)
    refine bodyPost_ret (results_none rfl _ _ _) rfl ?_
    exact ⟨rfl, Only.refl _ _, by rw [hs.out]; exact H.out⟩
end Go.Proofs.Ytigmgkcojifbcaa.Cur
