/- The cursor's List once more: what it answers is a row of the call's own. -/
import Derived.Test.YtigmgkcojifbcaaCurLive
import Derived.Test.YtigmgkcojifbcaaHistMem
import Derived.Deep.RegionWith
namespace Go.Proofs.Ytigmgkcojifbcaa.Cur
open Go.RowKit Go.Proofs.Ytigmgkcojifbcaa.Dig Go.Proofs.Ytigmgkcojifbcaa.Mem
set_option linter.unusedVariables false
set_option linter.unusedSimpArgs false

theorem ints_of_own {w : World} {base : Nat} {v : Value} {l : List Int} (h : w.ownsRow base 3 1 v l.length (l.map (Value.int .i64))) (hw : ∀ n ∈ l, (Lit.int .i64 n).wf = true) : IntsAt (fun b => base ≤ b) w v l := by
  have e : ∀ l : List Int, (l.map fun n => [Value.int .i64 n]).flatten = l.map (Value.int .i64) := by
    intro l
    induction l with
    | nil => rfl
    | cons x l ih => simp [ih]
  have hc : OwnC 3 1 base w v (l.map fun n => [Value.int .i64 n]) := ⟨by rw [e, List.length_map]; exact h, by simp⟩
  exact ⟨hc.row.mono (fun b q => q.1), hw⟩
theorem dlist_ints (a : Option Addr) (len cap : Nat) (z : Nat → Int) (at_ : Int) (w : World) (h : Rd .u8 w a len z) {l : List Int} {t : Int} {b : Bool} (hr : Hid (lst z len at_ = (l, t, b))) :
    Calls Try.prog 82 #[.slice a len cap, .int .i64 at_] w fun e w' => ∃ v, e = .returned (.tuple #[v, .int .i64 t, .bool b]) ∧ Below w.heap.size w w' ∧ IntsAt (fun b => w.heap.size ≤ b) w' v l := by
  refine (Dig.list_any a len cap z at_ w h).mono ?_
  rw [hr.out]
  rintro e w' ⟨v, rfl, hown, hb, hl, hll⟩
  exact ⟨v, rfl, hb, ints_of_own hown (fun n hn => wf_of_i64 (hl n hn).1 (hl n hn).2)⟩
theorem rlist_ints (a : Option Addr) (len cap : Nat) (z : Nat → Int) (at_ : Int) (w : World) (h : Rd .u8 w a len z) (hcap : len ≤ cap) {l : List Int} {t : Int} {b : Bool} (hr : Hid (lst z len at_ = (l, t, b))) :
    Calls Try.prog 50 #[.slice a len cap, .int .i64 at_] w fun e w' => ∃ v, e = .returned (.tuple #[v, .int .i64 t, .bool b]) ∧ Below w.heap.size w w' ∧ IntsAt (fun b => w.heap.size ≤ b) w' v l := by
  refine (Dig.rlist_any a len cap z at_ w h hcap).mono ?_
  rw [hr.out]
  rintro e w' ⟨v, rfl, hown, hb, hl, hll⟩
  exact ⟨v, rfl, hb, ints_of_own hown (fun n hn => wf_of_i64 (hl n hn).1 (hl n hn).2)⟩
theorem numbers_ints (b : Nat) (a : Option Addr) (len cap : Nat) (s : St) (z : Nat → Int) (w : World) (h : Cur w b a len cap s) (hr : Rd .u8 w a len z) (l : List Int) (t : Int) (is : Bool) (hp : Hid (lst z len (s.at_ : Int) = (l, t, is))) :
    Calls Try.prog 80 #[.pointer (some ⟨b, 0, none⟩)] w fun e w' => ∃ v, e = .returned (.tuple #[v, .int .i64 t, .bool is]) ∧ Below w.heap.size w w' ∧ IntsAt (fun b => w.heap.size ≤ b) w' v l := by
  have c0 := h.cell 0 rfl
  have c1 := h.cell 1 rfl
  have HH : Hid (Calls Try.prog 82 #[.slice a len cap, .int .i64 (s.at_ : Int)] w.drew fun e w' => ∃ v, e = .returned (.tuple #[v, .int .i64 t, .bool is]) ∧ Below w.heap.size w w' ∧ IntsAt (fun b => w.heap.size ≤ b) w' v l) := by
    have ho : Below w.heap.size w w.drew := (Below.refl _ _).drew
    refine (dlist_ints a len cap z _ w.drew (hr.keep ho) hp).mono ?_
    rintro e w' ⟨v, rfl, hb, hr'⟩
    exact ⟨v, rfl, ho.trans hb, hr'⟩
  clear h hr
  obtain ⟨k, e, x⟩ := s
  simp only at c1 HH
  go_enter Try.func80, Try.ntmps80
  go_wp2
  go_region_with (go_at_call 82; refine HH.out.mono ?_; rintro e w' ⟨v, rfl, hb, hr'⟩)
  all_goals
    go_simp
    go_wp2
    go_ret3
    exact ⟨_, rfl, hb, hr'⟩
theorem list_ints (b : Nat) (a : Option Addr) (len cap : Nat) (s : St) (z : Nat → Int) (w : World) (hl : Live w b a len cap z s) :
    Calls Try.prog 75 #[.pointer (some ⟨b, 0, none⟩)] w fun e w' => ∃ v, e = .returned v ∧ Only (fun k => k = b) w w' ∧ Live w' b a len cap z (listS z len s).1 ∧ IntsAt (fun b => w.heap.size ≤ b) w' v (listS z len s).2 := by
  have H : Hid (Cur w b a len cap s) := hl.cur
  have HR : Hid (Rd .u8 w a len z) := hl.rd
  have HL : Hid (Live w b a len cap z s) := hl
  have hat := hl.at_
  have hlb : b < w.heap.size := hl.cur.lt
  clear hl
  by_cases he : s.e = 0
  · rcases lst_two z len s.at_ hat with ⟨l, t, h1, h2, hp⟩ | ⟨t, h2, hp⟩
    · have hs : Hid (listS z len s = (⟨t, s.e, s.x⟩, l)) := by show _ = _; rw [listS, if_pos he, hp]; simp
      have HP : Hid (lst z len (s.at_ : Int) = (l, (t : Int), true)) := hp
      clear hp
      go_enter Try.func75, Try.ntmps75
      go_wp2_with (first | (go_at_call 58; refine (goesOn_yes b a len cap s _ H.out he).mono ?_; rintro e w' ⟨rfl, hw⟩; replace hw := hw.symm; subst hw) | (go_at_call 80; refine (numbers_ints b a len cap s z _ H.out HR.out l t true HP).mono ?_; rintro e w' ⟨v, rfl, hb, hx⟩) | (go_at_call 78; refine (goTo_any b _ _ _ (H.out.below hb) _ rfl).mono ?_; rintro e w' ⟨rfl, rfl⟩))
      go_ret
      rw [hs.out]
      have hp : Only (fun k => k = b) w' (w'.setCell ⟨b, 1, none⟩ (.int .i64 (t : Int))) := (Only.refl _ _).put 1 _
      exact ⟨v, rfl, (Only.of_below hb).trans hp, HL.out.step ((Only.of_below hb).trans hp) ((H.out.below hb).set 1 _) h2, hx.only hp (fun k q => by omega)⟩
    · have hs : Hid (listS z len s = (failS s 4 t, [])) := by show _ = _; rw [listS, if_pos he, hp]; simp
      have HP : Hid (lst z len (s.at_ : Int) = ([], (t : Int), false)) := hp
      clear hp
      go_enter Try.func75, Try.ntmps75
      go_wp2_with (first | (go_at_call 58; refine (goesOn_yes b a len cap s _ H.out he).mono ?_; rintro e w' ⟨rfl, hw⟩; replace hw := hw.symm; subst hw) | (go_at_call 80; refine (numbers_ints b a len cap s z _ H.out HR.out [] t false HP).mono ?_; rintro e w' ⟨v, rfl, hb, hx⟩) | (go_at_call 61; refine (fail_live b a len cap s z 4 t _ (HL.out.keep hb)).mono ?_; rintro e w' ⟨rfl, ho, hc⟩))
      go_ret
      rw [hs.out]
      exact ⟨_, rfl, (Only.of_below hb).trans ho, hc, IntsAt.nil⟩
  · have hs : Hid (listS z len s = (s, [])) := by show _ = _; rw [listS, if_neg he]
    go_enter Try.func75, Try.ntmps75
    go_wp2_with (go_at_call 58; refine (goesOn_no b a len cap s _ H.out he).mono ?_; rintro e w' ⟨rfl, hw⟩; replace hw := hw.symm; subst hw)
    go_ret
    rw [hs.out]
    exact ⟨_, rfl, Only.refl _ _, HL.out, IntsAt.nil⟩
end Go.Proofs.Ytigmgkcojifbcaa.Cur
