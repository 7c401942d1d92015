/- Contracts of the document's cursor: each answers what the plain function tells, and turns nothing that was there. -/
import Derived.Test.YtogfmaanmifdgaaCurGo
namespace Go.Proofs.Ytogfmaanmifdgaa.Cur
open Go.RowKit Go.Proofs.Ytogfmaanmifdgaa.Dig Go.Proofs.Ytogfmaanmifdgaa.Mem
set_option linter.unusedVariables false
set_option linter.unusedSimpArgs false

theorem rpeek_any (a : Option Addr) (len cap : Nat) (s : St) (z : Nat → Int) (w : World) (hr : Rd .u8 w a len z) (he : s.e = 0) :
    Calls Try.prog 24 #[.agg #[.slice a len cap, .int .i64 (s.at_ : Int), .int .i64 s.e, .int .i64 s.x]] w fun e w' => e = .returned (.tuple #[.int .u8 (peekS z len s.at_).1, .bool (peekS z len s.at_).2]) ∧ Below w.heap.size w w' := by
  have hlen := hr.le
  obtain ⟨k, e, x⟩ := s
  simp only at he ⊢
  subst he
  by_cases hlt : k < len
  · have hlt' : ¬ len ≤ k := by omega
    have hlt2 : (k : Int) < (len : Int) := by omega
    have hk0 : 0 ≤ (k : Int) := by omega
    obtain ⟨ab, off, rfl, hc, _, _⟩ := hr.u8 hlt
    have hab := lt_of_cell hc
    simp only at hab
    rw [peekS_in hlt]
    clear hr
    go_enter Try.func24, Try.ntmps24
    go_wp2
    go_ret2
    exact ⟨rfl, (Below.refl _ _).alloc (Nat.le_refl _) _⟩
  · rw [peekS_out hlt]
    have hlt' : len ≤ k := by omega
    clear hr
    go_enter Try.func24, Try.ntmps24
    go_wp2
    go_ret2
    exact ⟨rfl, (Below.refl _ _).alloc (Nat.le_refl _) _⟩
theorem rpeek_no (a : Option Addr) (len cap : Nat) (s : St) (w : World) (he : s.e ≠ 0) :
    Calls Try.prog 24 #[.agg #[.slice a len cap, .int .i64 (s.at_ : Int), .int .i64 s.e, .int .i64 s.x]] w fun e w' => e = .returned (.tuple #[.int .u8 0, .bool false]) ∧ Below w.heap.size w w' := by
  have g : (s.e != 0) = true := by simpa using he
  clear he
  go_enter Try.func24, Try.ntmps24
  go_wp2
  go_ret2
  exact ⟨rfl, (Below.refl _ _).alloc (Nat.le_refl _) _⟩
theorem rfail_any (e0 x0 : Int) (a : Option Addr) (len cap : Nat) (s : St) (w : World) :
    Calls Try.prog 23 #[.agg #[.slice a len cap, .int .i64 (s.at_ : Int), .int .i64 s.e, .int .i64 s.x], .int .i64 e0, .int .i64 x0] w fun e w' =>
      e = .returned (.agg #[.slice a len cap, .int .i64 ((failS s e0 x0).at_ : Int), .int .i64 (failS s e0 x0).e, .int .i64 (failS s e0 x0).x]) ∧ Below w.heap.size w w' := by
  by_cases he : s.e = 0
  · by_cases h0 : e0 = 0
    · have hs : failS s e0 x0 = s := if_neg (by simp [h0])
      rw [hs]
      have g : (s.e == 0) = true := by simpa using he
      have g0 : (e0 != 0) = false := by simpa using h0
      clear he h0 hs
      go_enter Try.func23, Try.ntmps23
      go_wp2
      exact bodyPost_ret (v := .agg #[.slice a len cap, .int .i64 (s.at_ : Int), .int .i64 s.e, .int .i64 s.x]) (by simp [results, Try.results23, go_sem]) rfl ⟨rfl, ((Below.refl _ _).alloc (Nat.le_refl _) _).alloc (by simp) _⟩
    · have hs : failS s e0 x0 = ⟨s.at_, e0, x0⟩ := if_pos ⟨he, h0⟩
      rw [hs]
      have g : (s.e == 0) = true := by simpa using he
      have g0 : (e0 != 0) = true := by simpa using h0
      clear he h0 hs
      go_enter Try.func23, Try.ntmps23
      go_wp2
      exact bodyPost_ret (v := .agg #[.slice a len cap, .int .i64 (s.at_ : Int), .int .i64 e0, .int .i64 x0]) (by simp [results, Try.results23, go_sem]) rfl ⟨rfl, ((Below.refl _ _).alloc (Nat.le_refl _) _).alloc (by simp) _⟩
  · have hs : failS s e0 x0 = s := if_neg (by simp [he])
    rw [hs]
    have g : (s.e == 0) = false := by simpa using he
    clear he hs
    go_enter Try.func23, Try.ntmps23
    go_wp2
    exact bodyPost_ret (v := .agg #[.slice a len cap, .int .i64 (s.at_ : Int), .int .i64 s.e, .int .i64 s.x]) (by simp [results, Try.results23, go_sem]) rfl ⟨rfl, ((Below.refl _ _).alloc (Nat.le_refl _) _).alloc (by simp) _⟩
set_option maxHeartbeats 1000000 in
theorem rbyte_any (a : Option Addr) (len cap : Nat) (s : St) (z : Nat → Int) (x : Int) (w : World) (hr : Rd .u8 w a len z) :
    Calls Try.prog 19 #[.agg #[.slice a len cap, .int .i64 (s.at_ : Int), .int .i64 s.e, .int .i64 s.x], .int .u8 x] w fun e w' =>
      e = .returned (.agg #[.slice a len cap, .int .i64 ((byteS z len s x).at_ : Int), .int .i64 (byteS z len s x).e, .int .i64 (byteS z len s x).x]) ∧ Below w.heap.size w w' := by
  have hlen := hr.le
  have HR : Hid (Rd .u8 w a len z) := hr
  clear hr
  by_cases he : s.e = 0
  · by_cases hlt : s.at_ < len
    · by_cases hz : z s.at_ = x
      · have hs : byteS z len s x = ⟨s.at_ + 1, s.e, s.x⟩ := by rw [byteS, if_pos he, if_pos ⟨hlt, hz⟩]
        rw [hs]
        have hz' : (x != z s.at_) = false := by simp [hz]
        have hp : peekS z len s.at_ = (z s.at_, true) := peekS_in hlt
        have HE : Hid (s.e = 0) := he
        clear hz hs he
        go_enter Try.func19, Try.ntmps19
        go_wp2_with (go_at_call 24; refine (rpeek_any a len cap s z _ (HR.out.keep (((Below.refl _ _).alloc (Nat.le_refl _) _).alloc (by simp) _)) HE.out).mono ?_; rw [hp]; rintro e w' ⟨rfl, hb⟩; obtain ⟨i1, i2, hB, hsz⟩ := two_boxes hb; obtain ⟨⟨c0, c1, c2, c3⟩, f0, f1, f2, f3⟩ := i1.four; obtain ⟨⟨d0, d1, d2, d3⟩, g0, g1, g2, g3⟩ := i2.four; clear hb i1 i2)
        exact bodyPost_ret (v := .agg #[.slice a len cap, .int .i64 ((s.at_ : Int) + 1), .int .i64 s.e, .int .i64 s.x]) (by simp [results, Try.results19, go_sem, *]) rfl ⟨by simp, by repeat (first | with_reducible exact hB | refine Below.setCell ?_ (by simp) _)⟩
      · have hs : byteS z len s x = ⟨s.at_, 4, s.at_⟩ := by rw [byteS, if_pos he, if_neg (by intro g; exact hz g.2), failS, if_pos ⟨he, by decide⟩]
        have hfs : failS s 4 (s.at_ : Int) = ⟨s.at_, 4, s.at_⟩ := by rw [failS, if_pos ⟨he, by decide⟩]
        rw [hs]
        have hz' : (x != z s.at_) = true := by simp; exact fun g => hz g.symm
        have hp : peekS z len s.at_ = (z s.at_, true) := peekS_in hlt
        have HE : Hid (s.e = 0) := he
        clear hz hs he
        go_enter Try.func19, Try.ntmps19
        go_wp2_with (first | (go_at_call 24; refine (rpeek_any a len cap s z _ (HR.out.keep (((Below.refl _ _).alloc (Nat.le_refl _) _).alloc (by simp) _)) HE.out).mono ?_; rw [hp]; rintro e w' ⟨rfl, hb⟩; obtain ⟨i1, i2, hB, hsz⟩ := two_boxes hb; obtain ⟨⟨c0, c1, c2, c3⟩, f0, f1, f2, f3⟩ := i1.four; have I2 : Hid (Is w' (w.heap.size + 1) _) := i2; clear hb i1 i2) | (go_at_call 23; refine (rfail_any 4 _ a len cap s _).mono ?_; rw [hfs]; rintro e w2 ⟨rfl, hb2⟩; have hB2 := hB.trans (hb2.mono (by omega)); have hsz2 := hb2.size; have j2 := I2.out.below hb2; obtain ⟨⟨d0, d1, d2, d3⟩, g0, g1, g2, g3⟩ := j2.four; clear hb2 j2 hB c0 c1 c2 c3 f0 f1 f2 f3))
        exact bodyPost_ret (v := .agg #[.slice a len cap, .int .i64 (s.at_ : Int), .int .i64 4, .int .i64 (s.at_ : Int)]) (by simp [results, Try.results19, go_sem, *]) rfl ⟨rfl, by repeat (first | with_reducible exact hB2 | refine Below.setCell ?_ (by simp) _)⟩
    · have hs : byteS z len s x = ⟨s.at_, 4, s.at_⟩ := by rw [byteS, if_pos he, if_neg (by intro g; exact hlt g.1), failS, if_pos ⟨he, by decide⟩]
      have hfs : failS s 4 (s.at_ : Int) = ⟨s.at_, 4, s.at_⟩ := by rw [failS, if_pos ⟨he, by decide⟩]
      rw [hs]
      have hp : peekS z len s.at_ = (0, false) := peekS_out hlt
      have HE : Hid (s.e = 0) := he
      clear hs he
      go_enter Try.func19, Try.ntmps19
      go_wp2_with (first | (go_at_call 24; refine (rpeek_any a len cap s z _ (HR.out.keep (((Below.refl _ _).alloc (Nat.le_refl _) _).alloc (by simp) _)) HE.out).mono ?_; rw [hp]; rintro e w' ⟨rfl, hb⟩; obtain ⟨i1, i2, hB, hsz⟩ := two_boxes hb; obtain ⟨⟨c0, c1, c2, c3⟩, f0, f1, f2, f3⟩ := i1.four; have I2 : Hid (Is w' (w.heap.size + 1) _) := i2; clear hb i1 i2) | (go_at_call 23; refine (rfail_any 4 _ a len cap s _).mono ?_; rw [hfs]; rintro e w2 ⟨rfl, hb2⟩; have hB2 := hB.trans (hb2.mono (by omega)); have hsz2 := hb2.size; have j2 := I2.out.below hb2; obtain ⟨⟨d0, d1, d2, d3⟩, g0, g1, g2, g3⟩ := j2.four; clear hb2 j2 hB c0 c1 c2 c3 f0 f1 f2 f3))
      exact bodyPost_ret (v := .agg #[.slice a len cap, .int .i64 (s.at_ : Int), .int .i64 4, .int .i64 (s.at_ : Int)]) (by simp [results, Try.results19, go_sem, *]) rfl ⟨rfl, by repeat (first | with_reducible exact hB2 | refine Below.setCell ?_ (by simp) _)⟩
  · have hs : byteS z len s x = s := by rw [byteS, if_neg he]
    have hfs : failS s 4 (s.at_ : Int) = s := by rw [failS, if_neg (by intro g; exact he g.1)]
    rw [hs]
    have HE : Hid (s.e ≠ 0) := he
    clear hs he
    go_enter Try.func19, Try.ntmps19
    go_wp2_with (first | (go_at_call 24; refine (rpeek_no a len cap s _ HE.out).mono ?_; rintro e w' ⟨rfl, hb⟩; obtain ⟨i1, i2, hB, hsz⟩ := two_boxes hb; obtain ⟨⟨c0, c1, c2, c3⟩, f0, f1, f2, f3⟩ := i1.four; have I2 : Hid (Is w' (w.heap.size + 1) _) := i2; clear hb i1 i2) | (go_at_call 23; refine (rfail_any 4 _ a len cap s _).mono ?_; rw [hfs]; rintro e w2 ⟨rfl, hb2⟩; have hB2 := hB.trans (hb2.mono (by omega)); have hsz2 := hb2.size; have j2 := I2.out.below hb2; obtain ⟨⟨d0, d1, d2, d3⟩, g0, g1, g2, g3⟩ := j2.four; clear hb2 j2 hB c0 c1 c2 c3 f0 f1 f2 f3))
    exact bodyPost_ret (v := .agg #[.slice a len cap, .int .i64 (s.at_ : Int), .int .i64 s.e, .int .i64 s.x]) (by simp [results, Try.results19, go_sem, *]) rfl ⟨rfl, by repeat (first | with_reducible exact hB2 | refine Below.setCell ?_ (by simp) _)⟩
set_option maxHeartbeats 1000000 in
theorem rnum_any (a : Option Addr) (len cap : Nat) (s : St) (z : Nat → Int) (w : World) (hr : Rd .u8 w a len z) (hcap : len ≤ cap) (hat : s.at_ ≤ len) :
    Calls Try.prog 20 #[.agg #[.slice a len cap, .int .i64 (s.at_ : Int), .int .i64 s.e, .int .i64 s.x]] w fun e w' =>
      e = .returned (.tuple #[.agg #[.slice a len cap, .int .i64 ((numS z len s).1.at_ : Int), .int .i64 (numS z len s).1.e, .int .i64 (numS z len s).1.x], .int .i64 (numS z len s).2]) ∧ Below w.heap.size w w' := by
  have HR : Hid (Rd .u8 w a len z) := hr
  clear hr
  by_cases he : s.e = 0
  · have g : (s.e != 0) = false := by simpa using he
    rcases parse_two z len s.at_ hat with ⟨n, t, h1, h2, hn0, hn1, hp⟩ | ⟨t, h1, h2, hp⟩
    · have hs : numS z len s = (⟨t, s.e, s.x⟩, n) := by rw [numS, if_pos he, hp]; simp
      rw [hs]
      have HP : Hid (parse z len (s.at_ : Int) = (n, (t : Int), true)) := hp
      clear hp hn0 hn1 hs he
      go_enter Try.func20, Try.ntmps20
      go_wp2_with (go_at_call 31; refine (rparse_eq a len cap z _ _ (HR.out.keep (((Below.refl _ _).alloc (Nat.le_refl _) _).alloc (by simp) _)) hcap HP).mono ?_; rintro e w' ⟨rfl, hw⟩; replace hw := hw.symm; subst hw)
      exact bodyPost_ret (v := .tuple #[.agg #[.slice a len cap, .int .i64 (t : Int), .int .i64 s.e, .int .i64 s.x], .int .i64 n]) (by simp [results, Try.results20, go_sem, *]) rfl ⟨rfl, ((Below.refl _ _).alloc (Nat.le_refl _) _).alloc (by simp) _⟩
    · have hs : numS z len s = (⟨s.at_, 4, t⟩, 0) := by rw [numS, if_pos he, hp]; simp [failS, he]
      have hfs : failS s 4 (t : Int) = ⟨s.at_, 4, t⟩ := by rw [failS, if_pos ⟨he, by decide⟩]
      rw [hs]
      have HP : Hid (parse z len (s.at_ : Int) = (0, (t : Int), false)) := hp
      clear hp hs he
      go_enter Try.func20, Try.ntmps20
      go_wp2_with (first | (go_at_call 31; refine (rparse_eq a len cap z _ _ (HR.out.keep (((Below.refl _ _).alloc (Nat.le_refl _) _).alloc (by simp) _)) hcap HP).mono ?_; rintro e w' ⟨rfl, hw⟩; replace hw := hw.symm; subst hw) | (go_at_call 23; refine (rfail_any 4 _ a len cap s _).mono ?_; rw [hfs]; rintro e w2 ⟨rfl, hb2⟩; obtain ⟨i1, i2, hB, hsz⟩ := two_boxes hb2; obtain ⟨⟨d0, d1, d2, d3⟩, g0, g1, g2, g3⟩ := i2.four; clear hb2 i1 i2))
      exact bodyPost_ret (v := .tuple #[.agg #[.slice a len cap, .int .i64 (s.at_ : Int), .int .i64 4, .int .i64 (t : Int)], .int .i64 0]) (by simp [results, Try.results20, go_sem, *]) rfl ⟨rfl, by repeat (first | with_reducible exact hB | refine Below.setCell ?_ (by simp) _)⟩
  · have g : (s.e != 0) = true := by simpa using he
    have hs : numS z len s = (s, 0) := by rw [numS, if_neg he]
    rw [hs]
    clear he hs
    go_enter Try.func20, Try.ntmps20
    go_wp2
    exact bodyPost_ret (v := .tuple #[.agg #[.slice a len cap, .int .i64 (s.at_ : Int), .int .i64 s.e, .int .i64 s.x], .int .i64 0]) (by simp [results, Try.results20, go_sem, *]) rfl ⟨rfl, ((Below.refl _ _).alloc (Nat.le_refl _) _).alloc (by simp) _⟩

/-- The document's List, its answer named, in memory of its own. -/
theorem rlist_new (a : Option Addr) (len cap : Nat) (z : Nat → Int) (at_ : Int) (w : World) (h : Rd .u8 w a len z) (hcap : len ≤ cap) {l : List Int} {t : Int} {b : Bool} (hr : Hid (lst z len at_ = (l, t, b))) :
    Calls Try.prog 32 #[.slice a len cap, .int .i64 at_] w fun e w' => ∃ a' c, e = .returned (.tuple #[.slice a' l.length c, .int .i64 t, .bool b]) ∧ Below w.heap.size w w' ∧ Rd .i64 w' a' l.length (fun i => l.getD i 0) ∧ l.length ≤ c ∧ ∀ x, a' = some x → w.heap.size ≤ x.block := by
  refine (Dig.rlist_any a len cap z at_ w h hcap).mono ?_
  rw [hr.out]
  rintro e w' ⟨v, rfl, hown, hb, hl, hll⟩
  have hlt := World.ownsRow.lt hown
  obtain ⟨a', c, rfl, h1, h2⟩ := Rd.own hown hll (fun n hn => by have := hl n hn; exact wf_of_i64 this.1 this.2)
  refine ⟨a', c, rfl, hb, h2, h1, ?_⟩
  rintro x rfl
  exact (hlt x.block rfl).1
set_option maxHeartbeats 1000000 in
theorem rclist_any (a : Option Addr) (len cap : Nat) (s : St) (z : Nat → Int) (w : World) (hr : Rd .u8 w a len z) (hcap : len ≤ cap) (hat : s.at_ ≤ len) :
    Calls Try.prog 21 #[.agg #[.slice a len cap, .int .i64 (s.at_ : Int), .int .i64 s.e, .int .i64 s.x]] w fun e w' =>
      ∃ a' c, e = .returned (.tuple #[.agg #[.slice a len cap, .int .i64 ((listS z len s).1.at_ : Int), .int .i64 (listS z len s).1.e, .int .i64 (listS z len s).1.x], .slice a' (listS z len s).2.length c]) ∧ Below w.heap.size w w' ∧
        Rd .i64 w' a' (listS z len s).2.length (fun i => (listS z len s).2.getD i 0) := by
  have HR : Hid (Rd .u8 w a len z) := hr
  clear hr
  by_cases he : s.e = 0
  · have g : (s.e != 0) = false := by simpa using he
    rcases lst_two z len s.at_ hat with ⟨l, t, h1, h2, hp⟩ | ⟨t, h2, hp⟩
    · have hs : listS z len s = (⟨t, s.e, s.x⟩, l) := by rw [listS, if_pos he, hp]; simp
      rw [hs]
      have HP : Hid (lst z len (s.at_ : Int) = (l, (t : Int), true)) := hp
      clear hp hs he
      go_enter Try.func21, Try.ntmps21
      go_wp2_with (go_at_call 32; refine (rlist_new a len cap z _ _ (HR.out.keep (((Below.refl _ _).alloc (Nat.le_refl _) _).alloc (by simp) _)) hcap HP).mono ?_; rintro e w1 ⟨a', c, rfl, hb, hrd, hc, hx⟩; simp at hx; have HX : Hid (Rd .i64 w1 a' l.length (fun i => l.getD i 0) ∧ ∀ x, a' = some x → w.heap.size + 1 + 1 ≤ x.block) := ⟨hrd, hx⟩; obtain ⟨i1, i2, hB, hsz⟩ := two_boxes hb; obtain ⟨⟨c0, c1, c2, c3⟩, f0, f1, f2, f3⟩ := i1.four; obtain ⟨⟨d0, d1, d2, d3⟩, g0, g1, g2, g3⟩ := i2.four; clear hb i1 i2 hrd hx hc)
      have hne : ∀ n, n ≤ w.heap.size + 1 → ∀ x, a' = some x → x.block ≠ n := fun n hn x hx q => by have := HX.out.2 x hx; omega
      exact bodyPost_ret (v := .tuple #[.agg #[.slice a len cap, .int .i64 (t : Int), .int .i64 s.e, .int .i64 s.x], .slice a' l.length c]) (by simp [results, Try.results21, go_sem, *]) rfl ⟨a', c, rfl, by repeat (first | with_reducible exact hB | refine Below.setCell ?_ (by simp) _), by repeat (first | with_reducible exact HX.out.1 | refine Dig.Rd.put ?_ (hne _ (by simp)) _)⟩
    · have hs : listS z len s = (⟨s.at_, 4, t⟩, []) := by rw [listS, if_pos he, hp]; simp [failS, he]
      have hfs : failS s 4 (t : Int) = ⟨s.at_, 4, t⟩ := by rw [failS, if_pos ⟨he, by decide⟩]
      rw [hs]
      have HP : Hid (lst z len (s.at_ : Int) = ([], (t : Int), false)) := hp
      clear hp hs he
      go_enter Try.func21, Try.ntmps21
      go_wp2_with (first | (go_at_call 32; refine (rlist_new a len cap z _ _ (HR.out.keep (((Below.refl _ _).alloc (Nat.le_refl _) _).alloc (by simp) _)) hcap HP).mono ?_; rintro e w1 ⟨a', c, rfl, hb, hrd, hc, hx⟩; obtain ⟨i1, i2, hB, hsz⟩ := two_boxes hb; obtain ⟨⟨c0, c1, c2, c3⟩, f0, f1, f2, f3⟩ := i1.four; have I2 : Hid (Is w1 (w.heap.size + 1) _) := i2; clear hb i1 i2 hrd hx hc) | (go_at_call 23; refine (rfail_any 4 _ a len cap s _).mono ?_; rw [hfs]; rintro e w2 ⟨rfl, hb2⟩; have hB2 := hB.trans (hb2.mono (by omega)); have hsz2 := hb2.size; have j2 := I2.out.below hb2; obtain ⟨⟨d0, d1, d2, d3⟩, g0, g1, g2, g3⟩ := j2.four; clear hb2 j2 hB c0 c1 c2 c3 f0 f1 f2 f3))
      exact bodyPost_ret (v := .tuple #[.agg #[.slice a len cap, .int .i64 (s.at_ : Int), .int .i64 4, .int .i64 (t : Int)], .slice none 0 0]) (by simp [results, Try.results21, go_sem, *]) rfl ⟨none, 0, rfl, by repeat (first | with_reducible exact hB2 | refine Below.setCell ?_ (by simp) _), Rd.zero _ _⟩
  · have g : (s.e != 0) = true := by simpa using he
    have hs : listS z len s = (s, []) := by rw [listS, if_neg he]
    rw [hs]
    clear he hs
    go_enter Try.func21, Try.ntmps21
    go_wp2
    exact bodyPost_ret (v := .tuple #[.agg #[.slice a len cap, .int .i64 (s.at_ : Int), .int .i64 s.e, .int .i64 s.x], .slice none 0 0]) (by simp [results, Try.results21, go_sem, *]) rfl ⟨none, 0, rfl, ((Below.refl _ _).alloc (Nat.le_refl _) _).alloc (by simp) _, Rd.zero _ _⟩
end Go.Proofs.Ytogfmaanmifdgaa.Cur
