/- Joined out of the texts HistValue, HistList, HistRd, HistAll, HistTxn, in that order. -/
import Derived.Test.YtigmgkcojifbcaaAll12
import Derived.Test.YtigmgkcojifbcaaAll4
import Derived.Deep.RegionWith
import Derived.Deep.AppendLies
import Derived.Deep.RegionLaw
/- The reader's valueOf: a blank, and a value that the key did not get. -/
namespace Go.Proofs.Ytigmgkcojifbcaa.Hist
open Go.RowKit Go.Proofs.Ytigmgkcojifbcaa.Dig Go.Proofs.Ytigmgkcojifbcaa.Mem Go.Proofs.Ytigmgkcojifbcaa.Cur Go.Proofs.Ytigmgkcojifbcaa.Keys
set_option linter.unusedVariables false
set_option linter.unusedSimpArgs false

theorem value_mid {w3 w5 : World} {rb cb nb vb n : Nat} {most ops k m : Int} {tv : Value} {P : Int × Int → Bool} (hr : Rdr w3 rb cb most ops vb nb tv) (hn : Vals w3 nb n P) (hcb : cb < w3.heap.size)
    (ho : Only (fun k => k = cb) ((w3.alloc (.cells #[.int .i64 k, .int .i64 m] 132)).alloc (.cells #[] 83)).drew w5) (h1 : rb ≠ cb) (h3 : cb ≠ nb) :
    Rdr w5 rb cb most ops vb nb tv ∧ Vals w5.drew nb n P ∧ Is w5 w3.heap.size #[.int .i64 k, .int .i64 m] ∧ Only (fun k => k = cb) w3 w5 := by
  have hB : Below w3.heap.size w3 ((w3.alloc (.cells #[.int .i64 k, .int .i64 m] 132)).alloc (.cells #[] 83)).drew := (((Below.refl _ _).alloc (Nat.le_refl _) _).alloc (by simp) _).drew
  have hO : Only (fun k => k = cb) w3 w5 := (Only.of_below hB).trans ho
  exact ⟨hr.keep hO h1, SetAt.keep hn (hO.drew) (Ne.symm h3), (((Is.made w3 _ _ rfl).alloc _).drew).keep ho (by omega), hO⟩
theorem value_end {w w1 w3 w5 w6 : World} {cb nb : Nat} (h1 : Only (fun k => k = cb) w w1) (h2 : Only (fun k => k = cb) w1 w3) (h3 : Only (fun k => k = cb) w3 w5) (h4 : Only (fun k => k = nb) w5.drew w6) : Only (fun k => k = cb ∨ k = nb) w w6 := by
  have q := ((h1.trans h2).trans h3).drew
  exact (q.mono fun _ r => .inl r).trans (h4.mono fun _ r => .inr r)
set_option maxHeartbeats 1000000 in
theorem value_any (rb cb vb nb : Nat) (most ops : Int) (tv : Value) (a : Option Addr) (len cap : Nat) (z : Nat → Int) (s : St) (n : Nat) (P : Int × Int → Bool) (k : Int) (hkf : (Lit.int .i64 k).wf = true) (w : World)
    (hr : Rdr w rb cb most ops vb nb tv) (hl : Live w cb a len cap z s) (hn : Vals w nb n P) (h1 : rb ≠ cb) (h2 : rb ≠ nb) (h3 : cb ≠ nb) (ha : 0 < len → ∀ x, a = some x → x.block ≠ nb) (hm : n < 1000000) :
    Calls Try.prog 74 #[.pointer (some ⟨rb, 0, none⟩), .int .i64 k] w fun e w' => e = .returned (.int .i64 (pKey z len 6 (fun y => P (k, y)) s).2) ∧ Only (fun k => k = cb ∨ k = nb) w w' ∧ Live w' cb a len cap z (pKey z len 6 (fun y => P (k, y)) s).1 ∧ Vals w' nb (n + 1) (fun p => P p || (k == p.1 && (pKey z len 6 (fun y => P (k, y)) s).2 == p.2)) := by
  obtain ⟨c0, -, -, -, c3, -⟩ := hr.six
  obtain ⟨s1, hs1⟩ : ∃ s1, byteS z len s 32 = s1 := ⟨_, rfl⟩
  obtain ⟨⟨s2, m⟩, hs2⟩ : ∃ r, numS z len s1 = r := ⟨_, rfl⟩
  have hat1 : s1.at_ ≤ len := by rw [← hs1]; exact byteS_at hl.at_
  have hwf : (Lit.int .i64 m).wf = true := by have := numS_wf (z := z) hat1; rwa [hs2] at this
  have HR : Hid (Rdr w rb cb most ops vb nb tv) := hr
  have HL : Hid (Live w cb a len cap z s) := hl
  have HN : Hid (Vals w nb n P) := hn
  have HA : Hid (0 < len → ∀ x, a = some x → x.block ≠ nb) := ha
  clear hr hl hn ha
  by_cases hp : P (k, m) = true
  · have HS : Hid (pKey z len 6 (fun y => P (k, y)) s = (failS s2 6 s1.at_, m)) := by show _ = _; unfold pKey; simp only [hs1, hs2, if_pos hp]
    have HP : Hid (P (k, m) = true) := hp
    replace hs1 := hide hs1
    replace hs2 := hide hs2
    clear hp
    go_enter Try.func74, Try.ntmps74
    go_wp2_with (first | (go_at_call 70; (with_reducible refine (byte_live cb a len cap s z 32 _ HL.out).mono ?_); rw [hs1.out]; rintro e w1 ⟨rfl, ho1, hl1⟩; have HL1 := hide hl1; have HO1 := hide ho1; have HR1 := hide (HR.out.keep ho1 h1); obtain ⟨c0, -, -, -, c3, -⟩ := HR1.out.six; clear hl1 ho1) | (go_at_call 62; (with_reducible refine (at_any cb a len cap s1 _ HL1.out.cur).mono ?_); rintro e w2 ⟨rfl, hw⟩; replace hw := hw.symm; subst hw) | (go_at_call 73; (with_reducible refine (num_live cb a len cap s1 z _ HL1.out).mono ?_); rw [hs2.out]; rintro e w3 ⟨rfl, ho2, hl2⟩; have HL2 := hide hl2; have HO2 := hide ho2; have HR2 := hide (HR1.out.keep ho2 h1); obtain ⟨c0, -, -, -, c3, -⟩ := HR2.out.six; have HN2 := hide ((HN.out.keep HO1.out (Ne.symm h3)).keep ho2 (Ne.symm h3)); clear hl2 ho2))
    have ho3 : Below w3.heap.size w3 (w3.alloc (.cells #[.int .i64 k, .int .i64 m] 132)).drew := ((Below.refl _ _).alloc (Nat.le_refl _) _).drew
    have ho4 : Below w3.heap.size w3 ((w3.alloc (.cells #[.int .i64 k, .int .i64 m] 132)).alloc (.cells #[] 83)).drew := (((Below.refl _ _).alloc (Nat.le_refl _) _).alloc (by simp) _).drew
    have L1 := SetAt.look (T := 70) (SetAt.keep HN2.out (Only.of_below (S := fun _ => False) ho3) (fun q => q)) appIs Try.underlying70 (x := (k, m)) ⟨hkf, hwf⟩
    have L2 := SetAt.look (T := 70) (SetAt.keep HN2.out (Only.of_below (S := fun _ => False) ho4) (fun q => q)) appIs Try.underlying70 (x := (k, m)) ⟨hkf, hwf⟩
    rw [HP.out] at L1 L2
    unfold appV at L1 L2
    have hrl : rb < w3.heap.size := HR2.out.lt
    clear ho3 ho4
    go_region
    all_goals
      clear L1 L2
      go_simp
      go_wp2_with (go_at_call 61; (with_reducible refine (fail_live cb a len cap s2 z 6 s1.at_ _ (HL2.out.keep (((Below.refl _ _).alloc (Nat.le_refl _) _).alloc (by simp) _).drew)).mono ?_); rintro e w5 ⟨rfl, ho5, hl5⟩)
      obtain ⟨K1, K2, K3, K4⟩ := value_mid HR2.out HN2.out HL2.out.cur.lt ho5 h1 h3
      obtain ⟨w6, hput, hn6, ho6⟩ := Vals.store (w := w5.drew) K2 hkf hwf hm
      have k3 := K1.cell 4 rfl
      have k0 := K3.cell 0 rfl
      have k1 := K3.cell 1 rfl
      have hz := K3.lt
      have q0 := Is.cell (K3.drew.keep ho6 (fun (q : w3.heap.size = nb) => by have := SetAt.lt HN2.out; omega)) 1 rfl
      have HF := hide (value_end HO1.out HO2.out K4 ho6)
      have HL6 := hide ((hl5.drewN 1).other (S := fun k => k = nb) ho6 h3 HA.out)
      have HN6 := hide hn6
      clear K1 K2 K3 K4 ho5 hl5 hn6 ho6
      go_region
      all_goals
        clear hput
        go_simp
        go_wp2
        go_ret
        exact ⟨by rw [HS.out]; rfl, HF.out, by rw [HS.out]; exact HL6.out, by rw [HS.out]; exact HN6.out⟩
  · have HS : Hid (pKey z len 6 (fun y => P (k, y)) s = (s2, m)) := by show _ = _; unfold pKey; simp only [hs1, hs2, if_neg hp]
    have HP : Hid (P (k, m) = false) := by show _ = _; simpa using hp
    replace hs1 := hide hs1
    replace hs2 := hide hs2
    clear hp
    go_enter Try.func74, Try.ntmps74
    go_wp2_with (first | (go_at_call 70; (with_reducible refine (byte_live cb a len cap s z 32 _ HL.out).mono ?_); rw [hs1.out]; rintro e w1 ⟨rfl, ho1, hl1⟩; have HL1 := hide hl1; have HO1 := hide ho1; have HR1 := hide (HR.out.keep ho1 h1); obtain ⟨c0, -, -, -, c3, -⟩ := HR1.out.six; clear hl1 ho1) | (go_at_call 62; (with_reducible refine (at_any cb a len cap s1 _ HL1.out.cur).mono ?_); rintro e w2 ⟨rfl, hw⟩; replace hw := hw.symm; subst hw) | (go_at_call 73; (with_reducible refine (num_live cb a len cap s1 z _ HL1.out).mono ?_); rw [hs2.out]; rintro e w3 ⟨rfl, ho2, hl2⟩; have HL2 := hide hl2; have HO2 := hide ho2; have HR2 := hide (HR1.out.keep ho2 h1); obtain ⟨c0, -, -, -, c3, -⟩ := HR2.out.six; have HN2 := hide ((HN.out.keep HO1.out (Ne.symm h3)).keep ho2 (Ne.symm h3)); clear hl2 ho2))
    have ho3 : Below w3.heap.size w3 (w3.alloc (.cells #[.int .i64 k, .int .i64 m] 132)).drew := ((Below.refl _ _).alloc (Nat.le_refl _) _).drew
    have ho4 : Below w3.heap.size w3 ((w3.alloc (.cells #[.int .i64 k, .int .i64 m] 132)).alloc (.cells #[] 83)).drew := (((Below.refl _ _).alloc (Nat.le_refl _) _).alloc (by simp) _).drew
    have L1 := SetAt.look (T := 70) (SetAt.keep HN2.out (Only.of_below (S := fun _ => False) ho3) (fun q => q)) appIs Try.underlying70 (x := (k, m)) ⟨hkf, hwf⟩
    have L2 := SetAt.look (T := 70) (SetAt.keep HN2.out (Only.of_below (S := fun _ => False) ho4) (fun q => q)) appIs Try.underlying70 (x := (k, m)) ⟨hkf, hwf⟩
    rw [HP.out] at L1 L2
    unfold appV at L1 L2
    have hrl : rb < w3.heap.size := HR2.out.lt
    clear ho3 ho4
    go_region
    all_goals
      clear L1 L2
      go_simp
      go_wp2_with fail
      obtain ⟨K1, K2, K3, K4⟩ := value_mid (k := k) (m := m) HR2.out HN2.out HL2.out.cur.lt (Only.refl _ _) h1 h3
      have hl5 := HL2.out.keep ((((Below.refl _ _).alloc (Nat.le_refl _) (.cells #[.int .i64 k, .int .i64 m] 132)).alloc (by simp) (.cells #[] 83)).drew)
      obtain ⟨w6, hput, hn6, ho6⟩ := Vals.store K2 hkf hwf hm
      have k3 := K1.cell 4 rfl
      have k0 := K3.cell 0 rfl
      have k1 := K3.cell 1 rfl
      have hz := K3.lt
      have q0 := Is.cell (K3.drew.keep ho6 (fun (q : w3.heap.size = nb) => by have := SetAt.lt HN2.out; omega)) 1 rfl
      have HF := hide (value_end HO1.out HO2.out K4 ho6)
      have HL6 := hide ((hl5.drewN 1).other (S := fun k => k = nb) ho6 h3 HA.out)
      have HN6 := hide hn6
      clear K1 K2 K3 K4 hl5 hn6 ho6
      go_region
      all_goals
        clear hput
        go_simp
        go_wp2
        go_ret
        exact ⟨by rw [HS.out]; rfl, HF.out, by rw [HS.out]; exact HL6.out, by rw [HS.out]; exact HN6.out⟩
end Go.Proofs.Ytigmgkcojifbcaa.Hist

/- The cursor's List once more: what it answers is a row of the call's own. -/
namespace Go.Proofs.Ytigmgkcojifbcaa.Cur
open Go.RowKit Go.Proofs.Ytigmgkcojifbcaa.Dig Go.Proofs.Ytigmgkcojifbcaa.Mem
set_option linter.unusedVariables false
set_option linter.unusedSimpArgs false

theorem ints_of_own {w : World} {base : Nat} {v : Value} {l : List Int} (h : w.ownsRow base 3 1 v l.length (l.map (Value.int .i64))) (hw : ∀ n ∈ l, (Lit.int .i64 n).wf = true) : IntsAt (fun b => base ≤ b) w v l := by
  have e : ∀ l : List Int, (l.map fun n => [Value.int .i64 n]).flatten = l.map (Value.int .i64) := by
    intro l
    induction l with
    | nil => rfl
    | cons x l ih => simp [ih]
  have hc : OwnC 3 1 base w v (l.map fun n => [Value.int .i64 n]) := ⟨by rw [e, List.length_map]; exact h, by simp⟩
  exact ⟨hc.row.mono (fun b q => q.1), hw⟩
theorem dlist_ints (a : Option Addr) (len cap : Nat) (z : Nat → Int) (at_ : Int) (w : World) (h : Rd .u8 w a len z) {l : List Int} {t : Int} {b : Bool} (hr : Hid (lst z len at_ = (l, t, b))) :
    Calls Try.prog 82 #[.slice a len cap, .int .i64 at_] w fun e w' => ∃ v, e = .returned (.tuple #[v, .int .i64 t, .bool b]) ∧ Below w.heap.size w w' ∧ IntsAt (fun b => w.heap.size ≤ b) w' v l := by
  refine (Dig.list_any a len cap z at_ w h).mono ?_
  rw [hr.out]
  rintro e w' ⟨v, rfl, hown, hb, hl, hll⟩
  exact ⟨v, rfl, hb, ints_of_own hown (fun n hn => wf_of_i64 (hl n hn).1 (hl n hn).2)⟩
theorem rlist_ints (a : Option Addr) (len cap : Nat) (z : Nat → Int) (at_ : Int) (w : World) (h : Rd .u8 w a len z) (hcap : len ≤ cap) {l : List Int} {t : Int} {b : Bool} (hr : Hid (lst z len at_ = (l, t, b))) :
    Calls Try.prog 50 #[.slice a len cap, .int .i64 at_] w fun e w' => ∃ v, e = .returned (.tuple #[v, .int .i64 t, .bool b]) ∧ Below w.heap.size w w' ∧ IntsAt (fun b => w.heap.size ≤ b) w' v l := by
  refine (Dig.rlist_any a len cap z at_ w h hcap).mono ?_
  rw [hr.out]
  rintro e w' ⟨v, rfl, hown, hb, hl, hll⟩
  exact ⟨v, rfl, hb, ints_of_own hown (fun n hn => wf_of_i64 (hl n hn).1 (hl n hn).2)⟩
theorem numbers_ints (b : Nat) (a : Option Addr) (len cap : Nat) (s : St) (z : Nat → Int) (w : World) (h : Cur w b a len cap s) (hr : Rd .u8 w a len z) (l : List Int) (t : Int) (is : Bool) (hp : Hid (lst z len (s.at_ : Int) = (l, t, is))) :
    Calls Try.prog 80 #[.pointer (some ⟨b, 0, none⟩)] w fun e w' => ∃ v, e = .returned (.tuple #[v, .int .i64 t, .bool is]) ∧ Below w.heap.size w w' ∧ IntsAt (fun b => w.heap.size ≤ b) w' v l := by
  have c0 := h.cell 0 rfl
  have c1 := h.cell 1 rfl
  have HH : Hid (Calls Try.prog 82 #[.slice a len cap, .int .i64 (s.at_ : Int)] w.drew fun e w' => ∃ v, e = .returned (.tuple #[v, .int .i64 t, .bool is]) ∧ Below w.heap.size w w' ∧ IntsAt (fun b => w.heap.size ≤ b) w' v l) := by
    have ho : Below w.heap.size w w.drew := (Below.refl _ _).drew
    refine (dlist_ints a len cap z _ w.drew (hr.keep ho) hp).mono ?_
    rintro e w' ⟨v, rfl, hb, hr'⟩
    exact ⟨v, rfl, ho.trans hb, hr'⟩
  clear h hr
  obtain ⟨k, e, x⟩ := s
  simp only at c1 HH
  go_enter Try.func80, Try.ntmps80
  go_wp2
  go_region_with (go_at_call 82; refine HH.out.mono ?_; rintro e w' ⟨v, rfl, hb, hr'⟩)
  all_goals
    go_simp
    go_wp2
    go_ret3
    exact ⟨_, rfl, hb, hr'⟩
theorem list_ints (b : Nat) (a : Option Addr) (len cap : Nat) (s : St) (z : Nat → Int) (w : World) (hl : Live w b a len cap z s) :
    Calls Try.prog 75 #[.pointer (some ⟨b, 0, none⟩)] w fun e w' => ∃ v, e = .returned v ∧ Only (fun k => k = b) w w' ∧ Live w' b a len cap z (listS z len s).1 ∧ IntsAt (fun b => w.heap.size ≤ b) w' v (listS z len s).2 := by
  have H : Hid (Cur w b a len cap s) := hl.cur
  have HR : Hid (Rd .u8 w a len z) := hl.rd
  have HL : Hid (Live w b a len cap z s) := hl
  have hat := hl.at_
  have hlb : b < w.heap.size := hl.cur.lt
  clear hl
  by_cases he : s.e = 0
  · rcases lst_two z len s.at_ hat with ⟨l, t, h1, h2, hp⟩ | ⟨t, h2, hp⟩
    · have hs : Hid (listS z len s = (⟨t, s.e, s.x⟩, l)) := by show _ = _; rw [listS, if_pos he, hp]; simp
      have HP : Hid (lst z len (s.at_ : Int) = (l, (t : Int), true)) := hp
      clear hp
      go_enter Try.func75, Try.ntmps75
      go_wp2_with (first | (go_at_call 58; refine (goesOn_yes b a len cap s _ H.out he).mono ?_; rintro e w' ⟨rfl, hw⟩; replace hw := hw.symm; subst hw) | (go_at_call 80; refine (numbers_ints b a len cap s z _ H.out HR.out l t true HP).mono ?_; rintro e w' ⟨v, rfl, hb, hx⟩) | (go_at_call 78; refine (goTo_any b _ _ _ (H.out.below hb) _ rfl).mono ?_; rintro e w' ⟨rfl, rfl⟩))
      go_ret
      rw [hs.out]
      have hp : Only (fun k => k = b) w' (w'.setCell ⟨b, 1, none⟩ (.int .i64 (t : Int))) := (Only.refl _ _).put 1 _
      exact ⟨v, rfl, (Only.of_below hb).trans hp, HL.out.step ((Only.of_below hb).trans hp) ((H.out.below hb).set 1 _) h2, hx.only hp (fun k q => by omega)⟩
    · have hs : Hid (listS z len s = (failS s 4 t, [])) := by show _ = _; rw [listS, if_pos he, hp]; simp
      have HP : Hid (lst z len (s.at_ : Int) = ([], (t : Int), false)) := hp
      clear hp
      go_enter Try.func75, Try.ntmps75
      go_wp2_with (first | (go_at_call 58; refine (goesOn_yes b a len cap s _ H.out he).mono ?_; rintro e w' ⟨rfl, hw⟩; replace hw := hw.symm; subst hw) | (go_at_call 80; refine (numbers_ints b a len cap s z _ H.out HR.out [] t false HP).mono ?_; rintro e w' ⟨v, rfl, hb, hx⟩) | (go_at_call 61; refine (fail_live b a len cap s z 4 t _ (HL.out.keep hb)).mono ?_; rintro e w' ⟨rfl, ho, hc⟩))
      go_ret
      rw [hs.out]
      exact ⟨_, rfl, (Only.of_below hb).trans ho, hc, IntsAt.nil⟩
  · have hs : Hid (listS z len s = (s, [])) := by show _ = _; rw [listS, if_neg he]
    go_enter Try.func75, Try.ntmps75
    go_wp2_with (go_at_call 58; refine (goesOn_no b a len cap s _ H.out he).mono ?_; rintro e w' ⟨rfl, hw⟩; replace hw := hw.symm; subst hw)
    go_ret
    rw [hs.out]
    exact ⟨_, rfl, Only.refl _ _, HL.out, IntsAt.nil⟩
end Go.Proofs.Ytigmgkcojifbcaa.Cur

/- The reader's aborted, appendOp and readOp. -/
namespace Go.Proofs.Ytigmgkcojifbcaa.Hist
open Go.RowKit Go.Proofs.Ytigmgkcojifbcaa.Dig Go.Proofs.Ytigmgkcojifbcaa.Mem Go.Proofs.Ytigmgkcojifbcaa.Cur Go.Proofs.Ytigmgkcojifbcaa.Keys
set_option linter.unusedVariables false
set_option linter.unusedSimpArgs false
attribute [local go_sem ↓] Go.wp_at_zero Go.wp_at_succ

theorem peek_live (b : Nat) (a : Option Addr) (len cap : Nat) (s : St) (z : Nat → Int) (w : World) (h : Live w b a len cap z s) :
    Calls Try.prog 44 #[.pointer (some ⟨b, 0, none⟩)] w fun e w' => e = .returned (.tuple #[.int .u8 (peekP z len s).1, .bool (peekP z len s).2]) ∧ Below w.heap.size w w' ∧ Live w' b a len cap z s := by
  unfold peekP
  by_cases he : s.e = 0
  · rw [if_pos he]
    refine (peek_any b a len cap s z w h.cur h.rd he).mono ?_
    rintro e w' ⟨rfl, n, rfl⟩
    exact ⟨rfl, (Below.refl _ _).drewN n, h.drewN n⟩
  · rw [if_neg he]
    refine (peek_no b a len cap s w h.cur he).mono ?_
    rintro e w' ⟨rfl, rfl⟩
    exact ⟨rfl, Below.refl _ _, h⟩
theorem aborted_any (rb cb nb vb : Nat) (most ops : Int) (tv : Value) (a : Option Addr) (len cap : Nat) (z : Nat → Int) (s : St) (w : World)
    (hr : Rdr w rb cb most ops nb vb tv) (hl : Live w cb a len cap z s) (h1 : rb ≠ cb) :
    Calls Try.prog 72 #[.pointer (some ⟨rb, 0, none⟩)] w fun e w' => e = .returned (.bool (pAborted z len s).2) ∧ Only (fun k => k = cb) w w' ∧ Live w' cb a len cap z (pAborted z len s).1 := by
  obtain ⟨c0, -, -, -, -, -⟩ := hr.six
  obtain ⟨⟨x, q⟩, hx⟩ : ∃ p, peekP z len s = p := ⟨_, rfl⟩
  have HX : Hid (peekP z len s = (x, q)) := hx
  have HR : Hid (Rdr w rb cb most ops nb vb tv) := hr
  have HL : Hid (Live w cb a len cap z s) := hl
  clear hr hl
  by_cases hp : x = 97
  · have HS : Hid (pAborted z len s = (byteS z len s 97, true)) := by show _ = _; unfold pAborted; rw [hx, if_pos hp]
    subst hp
    clear hx
    go_enter Try.func72, Try.ntmps72
    go_wp2_with (first | (go_at_call 44; (with_reducible refine (peek_live cb a len cap s z _ HL.out).mono ?_); rw [HX.out]; rintro e w1 ⟨rfl, hb1, hl1⟩; have HL1 := hide hl1; have HO1 := hide hb1; have HR1 := hide (HR.out.keep (Only.of_below (S := fun _ => False) hb1) (fun q => q)); obtain ⟨c0, -, -, -, -, -⟩ := HR1.out.six; clear hl1 hb1) | (go_at_call 70; (with_reducible refine (byte_live cb a len cap s z 97 _ HL1.out).mono ?_); rintro e w2 ⟨rfl, ho2, hl2⟩))
    go_ret
    rw [HS.out]
    exact ⟨rfl, (Only.of_below HO1.out).trans ho2, hl2⟩
  · have HS : Hid (pAborted z len s = (byteS z len s 99, false)) := by show _ = _; unfold pAborted; rw [hx, if_neg hp]
    have hp' : (x == 97) = false := by simpa using hp
    clear hx hp
    go_enter Try.func72, Try.ntmps72
    go_wp2_with (first | (go_at_call 44; (with_reducible refine (peek_live cb a len cap s z _ HL.out).mono ?_); rw [HX.out]; rintro e w1 ⟨rfl, hb1, hl1⟩; have HL1 := hide hl1; have HO1 := hide hb1; have HR1 := hide (HR.out.keep (Only.of_below (S := fun _ => False) hb1) (fun q => q)); obtain ⟨c0, -, -, -, -, -⟩ := HR1.out.six; clear hl1 hb1) | (go_at_call 70; (with_reducible refine (byte_live cb a len cap s z 99 _ HL1.out).mono ?_); rintro e w2 ⟨rfl, ho2, hl2⟩))
    go_ret
    rw [HS.out]
    exact ⟨rfl, (Only.of_below HO1.out).trans ho2, hl2⟩

/-- What stays while the cursor goes on: the reader, and a block of the call's own. -/
theorem stays {w w' : World} {S : Nat → Prop} {rb cb nb vb ob : Nat} {most ops : Int} {tv : Value} {cs : Array Value} (hr : Rdr w rb cb most ops nb vb tv) (hi : Is w ob cs) (ho : Only S w w') (h1 : ¬ S rb) (h2 : ¬ S ob) : Hid (Rdr w' rb cb most ops nb vb tv) ∧ Hid (Is w' ob cs) :=
  ⟨hr.keep ho h1, hi.keep ho h2⟩
theorem put_four {w : World} {b : Nat} {u0 u1 u2 u3 : Value} (h : Is w b #[u0, u1, u2, u3]) (v0 v1 v2 v3 : Value) :
    Only (fun k => k = b) w ((((w.setCell ⟨b, 0, none⟩ v0).setCell ⟨b, 1, none⟩ v1).setCell ⟨b, 2, none⟩ v2).setCell ⟨b, 3, none⟩ v3) ∧
    Is ((((w.setCell ⟨b, 0, none⟩ v0).setCell ⟨b, 1, none⟩ v1).setCell ⟨b, 2, none⟩ v2).setCell ⟨b, 3, none⟩ v3) b #[v0, v1, v2, v3] :=
  ⟨((((Only.refl _ _).put 0 _).put 1 _).put 2 _).put 3 _, (((h.set 0 _).set 1 _).set 2 _).set 3 _⟩
set_option maxHeartbeats 1000000 in
theorem appendOp_any (rb cb nb vb : Nat) (most ops : Int) (tv : Value) (a : Option Addr) (len cap : Nat) (z : Nat → Int) (s : St) (n : Nat) (P : Int × Int → Bool) (w : World)
    (hr : Rdr w rb cb most ops nb vb tv) (hl : Live w cb a len cap z s) (hn : Vals w vb n P) (h1 : rb ≠ cb) (h2 : rb ≠ vb) (h3 : cb ≠ vb) (ha : 0 < len → ∀ x, a = some x → x.block ≠ vb) (hm : n < 1000000) :
    Calls Try.prog 64 #[.pointer (some ⟨rb, 0, none⟩)] w fun e w' => ∃ k v, pAppP z len (fun k y => P (k, y)) s = ((pAppP z len (fun k y => P (k, y)) s).1, ⟨false, k, v, []⟩) ∧ e = .returned (.agg #[.bool false, .int .i64 k, .int .i64 v, .slice none 0 0]) ∧ (Lit.int .i64 k).wf = true ∧ (Lit.int .i64 v).wf = true ∧
      Only (fun k => k = cb ∨ k = vb) w w' ∧ Live w' cb a len cap z (pAppP z len (fun k y => P (k, y)) s).1 ∧ Vals w' vb (n + 1) (fun p => P p || (k == p.1 && v == p.2)) := by
  obtain ⟨c0, -, -, -, -, -⟩ := hr.six
  have hrl : rb < w.heap.size := Is.lt hr
  have hcl : cb < w.heap.size := hl.cur.lt
  have hvl : vb < w.heap.size := SetAt.lt hn
  obtain ⟨s1, hs1⟩ : ∃ s1, byteS z len s 97 = s1 := ⟨_, rfl⟩
  obtain ⟨s2, hs2⟩ : ∃ s2, byteS z len s1 32 = s2 := ⟨_, rfl⟩
  obtain ⟨⟨s3, k⟩, hs3⟩ : ∃ r, numS z len s2 = r := ⟨_, rfl⟩
  obtain ⟨⟨s4, v⟩, hs4⟩ : ∃ r, pKey z len 6 (fun y => P (k, y)) s3 = r := ⟨_, rfl⟩
  have hat2 : s2.at_ ≤ len := by rw [← hs2]; exact byteS_at (by rw [← hs1]; exact byteS_at hl.at_)
  have hat3 : s3.at_ ≤ len := by have := numS_at (z := z) hat2; rwa [hs3] at this
  have hkf : (Lit.int .i64 k).wf = true := by have := numS_wf (z := z) hat2; rwa [hs3] at this
  have hvf : (Lit.int .i64 v).wf = true := by
    have e : v = (numS z len (byteS z len s3 32)).2 := by have := congrArg Prod.snd hs4; simpa [pKey] using this.symm
    rw [e]
    exact numS_wf (byteS_at hat3)
  have HS : Hid (pAppP z len (fun k y => P (k, y)) s = (byteS z len s4 10, ⟨false, k, v, []⟩)) := by show _ = _; unfold pAppP; simp only [hs1, hs2, hs3, hs4]
  have HR : Hid (Rdr w rb cb most ops nb vb tv) := hr
  have HL : Hid (Live w cb a len cap z s) := hl
  have HN : Hid (Vals w vb n P) := hn
  have HA : Hid (0 < len → ∀ x, a = some x → x.block ≠ vb) := ha
  replace hs1 := hide hs1
  replace hs2 := hide hs2
  replace hs3 := hide hs3
  replace hs4 := hide hs4
  have HB : Hid (Below w.heap.size w (w.alloc (.cells #[.bool false, .int .i64 0, .int .i64 0, .slice none 0 0] 45))) := (Below.refl _ _).alloc (Nat.le_refl _) _
  have HI : Hid (Is (w.alloc (.cells #[.bool false, .int .i64 0, .int .i64 0, .slice none 0 0] 45)) w.heap.size #[.bool false, .int .i64 0, .int .i64 0, .slice none 0 0]) := Is.made _ _ _ rfl
  clear hr hl hn ha hat2 hat3
  go_enter Try.func64, Try.ntmps64
  go_wp2_with (first | (go_at_call 70; (with_reducible refine (byte_live cb a len cap s z 97 _ (HL.out.keep HB.out)).mono ?_); rw [hs1.out]; rintro e w1 ⟨rfl, ho1, hl1⟩; have HL1 := hide hl1; have HO1 := hide ((Only.of_below HB.out).trans ho1); obtain ⟨HR1, HI1⟩ := stays (HR.out.keep (Only.of_below (S := fun _ => False) HB.out) (fun q => q)) HI.out ho1 h1 (fun (q : w.heap.size = cb) => by omega); obtain ⟨c0, -, -, -, -, -⟩ := HR1.out.six; clear hl1 ho1) | (go_at_call 70; (with_reducible refine (byte_live cb a len cap s1 z 32 _ HL1.out).mono ?_); rw [hs2.out]; rintro e w2 ⟨rfl, ho2, hl2⟩; have HL2 := hide hl2; have HO2 := hide (HO1.out.trans ho2); obtain ⟨HR2, HI2⟩ := stays HR1.out HI1.out ho2 h1 (fun (q : w.heap.size = cb) => by omega); obtain ⟨c0, -, -, -, -, -⟩ := HR2.out.six; clear hl2 ho2) | (go_at_call 73; (with_reducible refine (num_live cb a len cap s2 z _ HL2.out).mono ?_); rw [hs3.out]; rintro e w3 ⟨rfl, ho3, hl3⟩; have HL3 := hide hl3; have HO3 := hide (HO2.out.trans ho3); obtain ⟨HR3, HI3⟩ := stays HR2.out HI2.out ho3 h1 (fun (q : w.heap.size = cb) => by omega); have HN3 : Hid (Vals w3 vb n P) := SetAt.keep HN.out HO3.out (Ne.symm h3); obtain ⟨c0, -, -, -, -, -⟩ := HR3.out.six; clear hl3 ho3) | (go_at_call 74; (with_reducible refine (value_any rb cb nb vb most ops tv a len cap z s3 n P k hkf _ HR3.out HL3.out HN3.out h1 h2 h3 HA.out hm).mono ?_); rw [hs4.out]; rintro e w4 ⟨rfl, ho4, hl4, hn4⟩; have HL4 := hide hl4; have HN4 := hide hn4; have HO4 := hide ((HO3.out.mono (S' := fun k => k = cb ∨ k = vb) (fun _ q => .inl q)).trans ho4); obtain ⟨HR4, HI4⟩ := stays HR3.out HI3.out ho4 (fun q => q.elim h1 h2) (fun (q : w.heap.size = cb ∨ w.heap.size = vb) => by omega); obtain ⟨c0, -, -, -, -, -⟩ := HR4.out.six; have hz4 : w.heap.size < w4.heap.size := HI4.out.lt; have HB4 := hide ((Below.refl w4.heap.size w4).alloc (Nat.le_refl _) (.cells #[.bool false, .int .i64 k, .int .i64 v, .slice none 0 0] 45)); have hr4 : rb < w4.heap.size := (by omega); clear hl4 ho4 hn4) | (go_at_call 70; (with_reducible refine (byte_live cb a len cap s4 z 10 _ (HL4.out.keep HB4.out)).mono ?_); rintro e w5 ⟨rfl, ho5, hl5⟩; have HL5 := hide hl5; have HN5 := hide (SetAt.keep (SetAt.keep HN4.out (Only.of_below (S := fun _ => False) HB4.out) (fun q => q)) ho5 (Ne.symm h3)); have HO5 := hide (HO4.out.trans ((Only.of_below HB4.out).trans (ho5.mono fun _ q => .inl q))); have HI5 := hide ((HI4.out.keep (Only.of_below (S := fun _ => False) HB4.out) (fun q => q)).keep ho5 (fun (q : w.heap.size = cb) => by omega)); have HJ5 := hide ((Is.made w4 #[.bool false, .int .i64 k, .int .i64 v, .slice none 0 0] 45 rfl).keep ho5 (fun (q : w4.heap.size = cb) => by omega)); obtain ⟨⟨d0, d1, d2, d3⟩, f0, f1, f2, f3⟩ := HI5.out.four; obtain ⟨⟨e0, e1, e2, e3⟩, -, -, -, -⟩ := HJ5.out.four; clear hl5 ho5))
  obtain ⟨hO, hY⟩ := put_four HI5.out (.bool false) (.int .i64 k) (.int .i64 v) (.slice none 0 0)
  obtain ⟨⟨y0, y1, y2, y3⟩, -, -, -, -⟩ := hY.four
  have hlx : ∀ (_ : 0 < len) x, a = some x → ¬ x.block = w.heap.size := fun h0 x hx q => by have := HL.out.rd.lt h0 x hx; omega
  refine bodyPost_ret (v := .agg #[.bool false, .int .i64 k, .int .i64 v, .slice none 0 0]) (by simp [results, Try.results64, go_sem, y0, y1, y2, y3]) rfl ⟨k, v, by rw [HS.out], rfl, hkf, hvf, ?_, ?_, ?_⟩
  · exact HO5.out.trans' hO (fun i q => .inr (by omega))
  · rw [HS.out]
    exact HL5.out.other hO (by omega) hlx
  · exact SetAt.keep HN5.out hO (by omega)
end Go.Proofs.Ytigmgkcojifbcaa.Hist

/- A reader with all that it keeps, and what an append to its rows leaves of it. -/
namespace Go.Proofs.Ytigmgkcojifbcaa.Hist
open Go.RowKit Go.Proofs.Ytigmgkcojifbcaa.Dig Go.Proofs.Ytigmgkcojifbcaa.Mem Go.Proofs.Ytigmgkcojifbcaa.Cur Go.Proofs.Ytigmgkcojifbcaa.Keys
set_option linter.unusedVariables false
set_option linter.unusedSimpArgs false

/-- The blocks from B on that are none of a reader's four objects. -/
def Gb (B rb cb nb vb : Nat) (b : Nat) : Prop := B ≤ b ∧ b ≠ rb ∧ b ≠ cb ∧ b ≠ nb ∧ b ≠ vb
/-- Where a reader's objects lie. -/
structure Lay (B rb cb nb vb : Nat) (a : Option Addr) (len : Nat) : Prop where
  rc : rb ≠ cb
  rn : rb ≠ nb
  rv : rb ≠ vb
  cn : cb ≠ nb
  cv : cb ≠ vb
  nv : nb ≠ vb
  r : B ≤ rb
  c : B ≤ cb
  n : B ≤ nb
  v : B ≤ vb
  a : 0 < len → ∀ x, a = some x → x.block < B
theorem Lay.an {B rb cb nb vb : Nat} {a : Option Addr} {len : Nat} (h : Lay B rb cb nb vb a len) : 0 < len → ∀ x, a = some x → x.block ≠ nb := fun h0 x hx q => by have := h.a h0 x hx; have := h.n; omega
theorem Lay.av {B rb cb nb vb : Nat} {a : Option Addr} {len : Nat} (h : Lay B rb cb nb vb a len) : 0 < len → ∀ x, a = some x → x.block ≠ vb := fun h0 x hx q => by have := h.a h0 x hx; have := h.v; omega
/-- .. but for the values that were met. -/
structure RCore (w : World) (B rb cb nb vb : Nat) (most : Int) (a : Option Addr) (len cap : Nat) (z : Nat → Int) (s : St) (ts : List TxnM) (tv : Value) (cs : List (List Value)) : Prop where
  rdr : Rdr w rb cb most (opsN ts : Int) nb vb tv
  live : Live w cb a len cap z s
  names : Names w nb ts.length (twinB ts)
  own : HistOwn (Gb B rb cb nb vb) B w tv ts cs
  lay : Lay B rb cb nb vb a len
  few : ts.length ≤ 1024 ∧ opsN ts ≤ 5000
def RAll (w : World) (B rb cb nb vb : Nat) (most : Int) (a : Option Addr) (len cap : Nat) (z : Nat → Int) (s : St) (ts : List TxnM) (tv : Value) (cs : List (List Value)) : Prop :=
  RCore w B rb cb nb vb most a len cap z s ts tv cs ∧ Vals w vb (opsN ts) (fun p => appB ts p.1 p.2)

section
variable {w w' w1 w5 : World} {B rb cb nb vb : Nat} {most : Int} {a : Option Addr} {len cap : Nat} {z : Nat → Int} {s s' : St} {ts : List TxnM} {tv : Value} {cs : List (List Value)}
theorem RCore.hi (h : RCore w B rb cb nb vb most a len cap z s ts tv cs) : B ≤ w.heap.size ∧ rb < w.heap.size ∧ cb < w.heap.size ∧ nb < w.heap.size :=
  ⟨by have := Is.lt h.rdr; have := h.lay.r; omega, Is.lt h.rdr, h.live.cur.lt, SetAt.lt h.names⟩
/-- Only the cursor has gone on. -/
theorem RCore.went (h : RCore w B rb cb nb vb most a len cap z s ts tv cs) (ho : Only (fun k => k = cb) w w') (hl : Live w' cb a len cap z s') : RCore w' B rb cb nb vb most a len cap z s' ts tv cs :=
  ⟨h.rdr.keep ho h.lay.rc, hl, SetAt.keep h.names ho (Ne.symm h.lay.cn), h.own.keep ho (fun b q => q.2.2.1), h.lay, h.few⟩
theorem RAll.went (h : RAll w B rb cb nb vb most a len cap z s ts tv cs) (ho : Only (fun k => k = cb) w w') (hl : Live w' cb a len cap z s') : RAll w' B rb cb nb vb most a len cap z s' ts tv cs :=
  ⟨h.1.went ho hl, SetAt.keep h.2 ho (Ne.symm h.1.lay.cv)⟩
theorem own_snoc {e : TypeId} {n base : Nat} {v v' : Value} {c : List Value} (h : OwnC e n base w v cs) (hc : c.length = n) (h' : w1.ownsRow base e n v' (cs.length + 1) (cs.flatten ++ c)) : OwnC e n base w1 v' (cs ++ [c]) :=
  ⟨by rw [List.length_append, List.flatten_append]; simpa using h', fun d hd => (List.mem_append.1 hd).elim (h.2 d) (fun q => by simp at q; subst q; exact hc)⟩
theorem grown_only {row : Option Nat} (h : w.grownBy w' row) : Only (fun k => row = some k) w w' := ⟨h.os, h.tape, h.output, h.size, fun k hk hn => h.block k hk (fun q => hn q.symm)⟩
theorem gb_new (hL : Lay B rb cb nb vb a len) {g : Nat} (hB : B ≤ g) (h1 : rb < g) (h2 : cb < g) (h3 : nb < g) (h4 : vb < g) : Gb B rb cb nb vb g := ⟨hB, by omega, by omega, by omega, by omega⟩
theorem twin_snoc (ts : List TxnM) (t : TxnM) (i : Int) : twinB (ts ++ [t]) i = (twinB ts i || t.id == i) := by simp [twinB, List.any_append]
/-- The transaction's line has been read, and the transaction was appended; its row is laid into the reader. -/
theorem RAll.pushed {id : Int} {ab : Bool} {T : TypeId} {g gcap : Nat} (h : RAll w B rb cb nb vb most a len cap z s ts tv cs) (ho : Only (fun k => k = cb ∨ k = nb) w w5) (hl : Live w5 cb a len cap z s')
    (hn : Names w5 nb (ts.length + 1) (fun y => twinB ts y || id == y)) (h24 : ts.length < 1024) (hw : (Lit.int .i64 id).wf = true)
    (hgrow : (w5.alloc (.cells #[.int .i64 id, .bool ab, .slice none 0 0] T)).drew.grownBy w1 tv.ownBlock)
    (hown : w1.ownsRow B 48 3 (.slice (some ⟨g, 0, none⟩) (ts.length + 1) gcap) (ts.length + 1) (cs.flatten ++ [.int .i64 id, .bool ab, .slice none 0 0])) (hat : tv.ownBlock = some g ∨ g = w5.heap.size + 1) :
    RAll (w1.setCell ⟨rb, 5, none⟩ (.slice (some ⟨g, 0, none⟩) (ts.length + 1) gcap)) B rb cb nb vb most a len cap z s' (ts ++ [⟨id, ab, []⟩]) (.slice (some ⟨g, 0, none⟩) (ts.length + 1) gcap) (cs ++ [[.int .i64 id, .bool ab, .slice none 0 0]]) ∧
      Only (fun k => B ≤ k) w (w1.setCell ⟨rb, 5, none⟩ (.slice (some ⟨g, 0, none⟩) (ts.length + 1) gcap)) := by
  obtain ⟨⟨hr, _, _, hown0, hL, hf⟩, hv⟩ := h
  have hs5 := ho.size
  have hrl : rb < w.heap.size := Is.lt hr
  have hvl := SetAt.lt hv
  have hcl := hl.cur.lt
  have hnl := SetAt.lt hn
  have hB5 : Below w5.heap.size w5 (w5.alloc (.cells #[.int .i64 id, .bool ab, .slice none 0 0] T)).drew := ((Below.refl _ _).alloc (Nat.le_refl _) _).drew
  have hO1 : Only (fun k => tv.ownBlock = some k) w5 w1 := (Only.of_below hB5).trans (grown_only hgrow)
  have ho5 : HistOwn (Gb B rb cb nb vb) B w5 tv ts cs := hown0.keep ho (fun b q r => r.elim q.2.2.1 q.2.2.2.1)
  have hr5 : Rdr w5 rb cb most (opsN ts) nb vb tv := hr.keep ho (fun q => q.elim hL.rc hL.rn)
  have hv5 : Vals w5 vb (opsN ts) (fun p => appB ts p.1 p.2) := SetAt.keep hv ho (fun q => q.elim (Ne.symm hL.cv) (Ne.symm hL.nv))
  have hG : ∀ {b : Nat}, tv.ownBlock = some b → Gb B rb cb nb vb b := fun {b} q => ho5.1 b q
  have hlr := hL.r
  have hp := ho5.push (own_snoc ho5.2.1 rfl (by rw [ho5.len]; exact hown)) hO1 (fun b q => by
    simp [Value.ownBlock] at q
    subst q
    rcases hat with r | r
    · exact .inl r
    · exact .inr ⟨by omega, gb_new hL (by omega) (by omega) (by omega) (by omega) (by omega)⟩) hw
  have hO2 : Only (fun k => k = rb) w1 (w1.setCell ⟨rb, 5, none⟩ (.slice (some ⟨g, 0, none⟩) (ts.length + 1) gcap)) := (Only.refl _ _).put 5 _
  have hrl1 : Rdr w1 rb cb most (opsN ts) nb vb tv := hr5.keep hO1 (fun q => (hG q).2.1 rfl)
  have hops : opsN (ts ++ [⟨id, ab, []⟩]) = opsN ts := by rw [opsN_app]; rfl
  refine ⟨⟨⟨?_, ?_, ?_, hp.keep hO2 (fun b q => q.2.1), hL, by rw [hops]; simp; omega⟩, ?_⟩, ?_⟩
  · rw [hops]
    exact Is.set hrl1 5 _
  · exact (hl.other hO1 (fun q => (hG q).2.2.1 rfl) (fun h0 x hx q => by have := hL.a h0 x hx; have := (hG q).1; omega)).other hO2 (Ne.symm hL.rc) (fun h0 x hx q => by have := hL.a h0 x hx; omega)
  · refine SetAt.congr (SetAt.mono (SetAt.keep (SetAt.keep hn hO1 (fun q => (hG q).2.2.2.1 rfl)) hO2 (Ne.symm hL.rn)) (by simp)) (fun x => ?_)
    rw [twin_snoc]
  · rw [hops]
    refine SetAt.congr (SetAt.keep (SetAt.keep hv5 hO1 (fun q => (hG q).2.2.2.2 rfl)) hO2 (Ne.symm hL.rv)) (fun p => ?_)
    simp [appB, List.any_append]
  · exact ((ho.mono (S' := fun k => B ≤ k) (fun k q => by have := hL.c; have := hL.n; rcases q with q | q <;> omega)).trans (hO1.mono fun k q => (hG q).1)).trans (hO2.mono fun k q => by have := hL.r; omega)
theorem opsN_addOp (pre : List TxnM) (last : TxnM) (o : OpM) : opsN (addOp (pre ++ [last]) o) = opsN (pre ++ [last]) + 1 := addOp_ops _ _ (by simp)
theorem twin_addOp (pre : List TxnM) (last : TxnM) (o : OpM) (i : Int) : twinB (addOp (pre ++ [last]) o) i = twinB (pre ++ [last]) i := by rw [addOp_snoc]; simp [twinB, List.any_append]
theorem app_addOp (pre : List TxnM) (last : TxnM) (o : OpM) (k v : Int) : appB (addOp (pre ++ [last]) o) k v = (appB (pre ++ [last]) k v || (!o.read && o.key == k && o.value == v)) := by
  rw [addOp_snoc]
  simp only [appB, List.any_append, List.any_cons, List.any_nil, Bool.or_false]
  rw [Bool.or_assoc]
theorem _root_.Go.Proofs.Ytigmgkcojifbcaa.Mem.HistOwn.lt {G : Nat → Prop} (h : HistOwn G B w tv ts cs) : (∀ b, tv.ownBlock = some b → b < w.heap.size) ∧ ∀ cs0 x y ov, cs = cs0 ++ [[x, y, ov]] → ∀ b, ov.ownBlock = some b → b < w.heap.size := by
  obtain ⟨_, h2, h3⟩ := h
  refine ⟨fun b q => (h2.lt b q).2, ?_⟩
  rintro cs0 x y ov rfl b q
  rcases h3 with ⟨_, e⟩ | ⟨pre, last, cs0', ov', ocs, _, e, _, _, h5, _, _⟩
  · simp at e
  · have := List.append_inj' e rfl
    simp at this
    obtain ⟨_, _, _, rfl⟩ := this
    exact (h5.lt b q).2
/-- An operation was appended to the last one's row, that row laid into its cell, and the count raised. -/
theorem RAll.added {wa w3 : World} {o : OpM} {lv ov : Value} {pre : List TxnM} {last : TxnM} {cs0 ocs : List (List Value)} {M tg tcap g gcap H : Nat}
    (h : RCore w B rb cb nb vb most a len cap z s (pre ++ [last]) (.slice (some ⟨tg, 0, none⟩) (pre.length + 1) tcap) (cs0 ++ [[.int .i64 last.id, .bool last.ab, ov]]))
    (hlast : LastOwn (Gb B rb cb nb vb) B w (.slice (some ⟨tg, 0, none⟩) (pre.length + 1) tcap) ov pre last cs0 ocs)
    (hv : Vals w vb (opsN (pre ++ [last]) + 1) (fun p => appB (addOp (pre ++ [last]) o) p.1 p.2)) (hi : IntsAt (fun b => Gb B rb cb nb vb b ∧ M ≤ b) w lv o.list) (hk : (Lit.int .i64 o.key).wf = true) (hval : (Lit.int .i64 o.value).wf = true)
    (hM : tg < M ∧ ∀ b, ov.ownBlock = some b → b < M) (hwa : Only (fun _ => False) w wa) (hgrow : wa.grownBy w3 ov.ownBlock)
    (hown : w3.ownsRow B 45 4 (.slice (some ⟨g, 0, none⟩) (last.ops.length + 1) gcap) (last.ops.length + 1) (ocs.flatten ++ [.bool o.read, .int .i64 o.key, .int .i64 o.value, lv]))
    (hat : ov.ownBlock = some g ∨ g = H) (hH : w.heap.size ≤ H) (hN : opsN (pre ++ [last]) < 5000) (n1 : Int) (hn1 : n1 = ((opsN (pre ++ [last]) + 1 : Nat) : Int)) :
    RAll ((w3.setCell ⟨tg, pre.length * 3 + 2, none⟩ (.slice (some ⟨g, 0, none⟩) (last.ops.length + 1) gcap)).setCell ⟨rb, 2, none⟩ (.int .i64 n1)) B rb cb nb vb most a len cap z s (addOp (pre ++ [last]) o)
        (.slice (some ⟨tg, 0, none⟩) (pre.length + 1) tcap) (cs0 ++ [[.int .i64 last.id, .bool last.ab, .slice (some ⟨g, 0, none⟩) (last.ops.length + 1) gcap]]) ∧
      Only (fun k => B ≤ k) w ((w3.setCell ⟨tg, pre.length * 3 + 2, none⟩ (.slice (some ⟨g, 0, none⟩) (last.ops.length + 1) gcap)).setCell ⟨rb, 2, none⟩ (.int .i64 n1)) := by
  obtain ⟨hr, hl, hn, hown0, hL, hf⟩ := h
  have hrl : rb < w.heap.size := Is.lt hr
  have hvl := SetAt.lt hv
  have hcl := hl.cur.lt
  have hnl := SetAt.lt hn
  have hlr := hL.r
  have hlen0 : cs0.length = pre.length := hlast.2.1.1
  have hO1 : Only (fun k => ov.ownBlock = some k) w w3 := (hwa.mono (fun _ q => q.elim)).trans (grown_only hgrow)
  have hGo : ∀ {b : Nat}, ov.ownBlock = some b → Gb B rb cb nb vb b := fun {b} q => (hlast.2.2.2.2 b q).1
  have hGt : Gb B rb cb nb vb tg := hown0.1 tg rfl
  have hto : ov.ownBlock ≠ some tg := fun q => (hlast.2.2.2.2 tg q).2 rfl
  have htl : tg < w.heap.size := (hown0.2.1.lt tg rfl).2
  have hO2 : Only (fun k => k = tg) w3 (w3.setCell ⟨tg, pre.length * 3 + 2, none⟩ (.slice (some ⟨g, 0, none⟩) (last.ops.length + 1) gcap)) := (Only.refl _ _).put _ _
  have hO3 : ∀ w', Only (fun k => k = rb) w' (w'.setCell ⟨rb, 2, none⟩ (.int .i64 n1)) := fun w' => (Only.refl _ _).put 2 _
  have hc3 : OwnC 48 3 B w3 (.slice (some ⟨tg, 0, none⟩) (pre.length + 1) tcap) (cs0 ++ [[.int .i64 last.id, .bool last.ab, ov]]) := hown0.2.1.keep hO1 (fun b q r => by
    simp [Value.ownBlock] at q
    subst q
    exact hto r)
  have hset := hc3.set (i := pre.length) (by simp [hlen0]) (j := 2) (by omega) (.slice (some ⟨g, 0, none⟩) (last.ops.length + 1) gcap)
  have e1 : (cs0 ++ [[.int .i64 last.id, .bool last.ab, ov]]).set pre.length ((cs0 ++ [[.int .i64 last.id, .bool last.ab, ov]])[pre.length]'(by simp [hlen0]) |>.set 2 (.slice (some ⟨g, 0, none⟩) (last.ops.length + 1) gcap)) = cs0 ++ [[.int .i64 last.id, .bool last.ab, .slice (some ⟨g, 0, none⟩) (last.ops.length + 1) gcap]] := by
    have : (cs0 ++ [[Value.int .i64 last.id, .bool last.ab, ov]])[pre.length]'(by simp [hlen0]) = [.int .i64 last.id, .bool last.ab, ov] := by
      rw [List.getElem_append_right (by omega)]; simp [hlen0]
    rw [this, List.set_append_right _ _ (by omega)]
    simp [hlen0]
  rw [e1] at hset
  have hadd := HistOwn.add (o := o) (c := [.bool o.read, .int .i64 o.key, .int .i64 o.value, lv]) (w1 := w3) hown0.1 hlast ⟨lv, rfl, hi.lt.mono (fun b q => ⟨q.1.1, fun r => by simp [Value.ownBlock] at r; have := hM.1; have := q.1.2; omega, fun r => by have := hM.2 b r; have := q.1.2; omega, q.2⟩), hk, hval⟩
    (own_snoc hlast.2.2.1 rfl (by rw [hlast.2.2.2.1.1]; exact hown)) hO1 (fun b q => by
      simp [Value.ownBlock] at q
      subst q
      rcases hat with r | r
      · exact .inl r
      · have := hL.r; exact .inr ⟨by omega, gb_new hL (by omega) (by omega) (by omega) (by omega) (by omega)⟩) (fun b q => by simp [Value.ownBlock] at q; omega) hset (hO2.mono (fun k q => by subst q; rfl))
  rw [← addOp_snoc pre last o] at hadd
  have hops := opsN_addOp pre last o
  have hr2 : Rdr (w3.setCell ⟨tg, pre.length * 3 + 2, none⟩ (.slice (some ⟨g, 0, none⟩) (last.ops.length + 1) gcap)) rb cb most (opsN (pre ++ [last])) nb vb (.slice (some ⟨tg, 0, none⟩) (pre.length + 1) tcap) := (hr.keep hO1 (fun q => (hGo q).2.1 rfl)).keep hO2 (fun q => hGt.2.1 q.symm)
  have hla : (addOp (pre ++ [last]) o).length = (pre ++ [last]).length := addOp_len _ _
  refine ⟨⟨⟨?_, ?_, ?_, hadd.keep (hO3 _) (fun b q => q.2.1), hL, by rw [hops, hla]; exact ⟨hf.1, by omega⟩⟩, ?_⟩, ?_⟩
  · rw [hops, ← hn1]
    exact Is.set hr2 2 _
  · refine ((hl.other hO1 (fun q => (hGo q).2.2.1 rfl) (fun h0 x hx q => by have := hL.a h0 x hx; have := (hGo q).1; omega)).other hO2 (fun q => hGt.2.2.1 q.symm) (fun h0 x hx q => by have := hL.a h0 x hx; have := hGt.1; omega)).other (hO3 _) (Ne.symm hL.rc) (fun h0 x hx q => by have := hL.a h0 x hx; omega)
  · rw [hla]
    exact SetAt.congr (SetAt.keep (SetAt.keep (SetAt.keep hn hO1 (fun q => (hGo q).2.2.2.1 rfl)) hO2 (fun q => hGt.2.2.2.1 q.symm)) (hO3 _) (Ne.symm hL.rn)) (fun x => twin_addOp pre last o x)
  · rw [hops]
    exact SetAt.keep (SetAt.keep (SetAt.keep hv hO1 (fun q => (hGo q).2.2.2.2 rfl)) hO2 (fun q => hGt.2.2.2.2 q.symm)) (hO3 _) (Ne.symm hL.rv)
  · exact ((hO1.mono fun k q => (hGo q).1).trans (hO2.mono fun k q => by have := hGt.1; omega)).trans ((hO3 _).mono fun k q => by omega)
end
end Go.Proofs.Ytigmgkcojifbcaa.Hist

/- The reader's txn: a transaction's line. -/
namespace Go.Proofs.Ytigmgkcojifbcaa.Hist
open Go.RowKit Go.Proofs.Ytigmgkcojifbcaa.Dig Go.Proofs.Ytigmgkcojifbcaa.Mem Go.Proofs.Ytigmgkcojifbcaa.Cur Go.Proofs.Ytigmgkcojifbcaa.Keys
set_option linter.unusedVariables false
set_option linter.unusedSimpArgs false
attribute [local go_sem ↓] Go.wp_at_zero Go.wp_at_succ

theorem Try.info48 : (Try.prog.info? 48).map (fun i => (i.zero, i.size, i.bytes)) = some (some (.agg #[.int .i64 0, .bool false, .slice none 0 0]), 3, 40) := by kernel_rfl
/-- An error at the cursor's place. -/
theorem failAt {w w' : World} {B rb cb nb vb : Nat} {most : Int} {a : Option Addr} {len cap : Nat} {z : Nat → Int} {s s' : St} {ts : List TxnM} {tv : Value} {cs : List (List Value)} (h : RAll w B rb cb nb vb most a len cap z s ts tv cs) (ho : Only (fun k => k = cb) w w') (hl : Live w' cb a len cap z s') :
    RAll w' B rb cb nb vb most a len cap z s' ts tv cs ∧ Only (fun k => B ≤ k) w w' := ⟨h.went ho hl, ho.mono (fun k q => by have := h.1.lay.c; omega)⟩
theorem three' {w : World} {b : Nat} {v0 v1 v2 : Value} (h : Is w b #[v0, v1, v2]) :
    (w.cell? ⟨b, 0, none⟩ = some v0 ∧ w.cell? ⟨b, 1, none⟩ = some v1 ∧ w.cell? ⟨b, 2, none⟩ = some v2) ∧ w.frozen? ⟨b, 1, none⟩ = false := ⟨⟨h.cell 0 rfl, h.cell 1 rfl, h.cell 2 rfl⟩, h.frozen 1⟩
/-- In the midst of a transaction's line: the transaction lies in block tb. -/
def TxnMid (w : World) (rb cb nb vb : Nat) (most ops : Int) (tv : Value) (a : Option Addr) (len cap : Nat) (z : Nat → Int) (n : Nat) (P : Int → Bool) (tb : Nat) (id : Int) (ab : Bool) (s : St) (wi : World) : Prop :=
  Live wi cb a len cap z s ∧ Names wi nb n P ∧ Rdr wi rb cb most ops nb vb tv ∧ Is wi tb #[.int .i64 id, .bool ab, .slice none 0 0] ∧ Only (fun k => k = cb ∨ k = nb) w wi ∧ w.heap.size ≤ tb
section
variable {w w2 wi wj : World} {rb cb nb vb : Nat} {most ops : Int} {tv : Value} {a : Option Addr} {len cap : Nat} {z : Nat → Int} {n : Nat} {P : Int → Bool} {tb : Nat} {id : Int} {ab : Bool} {s s' : St}
theorem TxnMid.start (T : TypeId) (hl : Live w2 cb a len cap z s) (hn : Names w2 nb n P) (hr : Rdr w2 rb cb most ops nb vb tv) (ho : Only (fun k => k = cb ∨ k = nb) w w2) :
    TxnMid w rb cb nb vb most ops tv a len cap z n P w2.heap.size id ab s (w2.alloc (.cells #[.int .i64 id, .bool ab, .slice none 0 0] T)) := by
  have hB : Below w2.heap.size w2 (w2.alloc (.cells #[.int .i64 id, .bool ab, .slice none 0 0] T)) := (Below.refl _ _).alloc (Nat.le_refl _) _
  exact ⟨hl.keep hB, SetAt.keep hn (Only.of_below (S := fun _ => False) hB) (fun q => q), hr.keep (Only.of_below (S := fun _ => False) hB) (fun q => q), Is.made _ _ _ rfl, ho.alloc _, ho.size⟩
theorem TxnMid.go (h : TxnMid w rb cb nb vb most ops tv a len cap z n P tb id ab s wi) (h1 : rb ≠ cb) (h3 : cb ≠ nb) (h4 : cb < w.heap.size) (ho : Only (fun k => k = cb) wi wj) (hl : Live wj cb a len cap z s') : TxnMid w rb cb nb vb most ops tv a len cap z n P tb id ab s' wj := by
  obtain ⟨g1, g2, g3, g4, g5, g6⟩ := h
  exact ⟨hl, SetAt.keep g2 ho (Ne.symm h3), g3.keep ho h1, g4.keep ho (fun q => by omega), g5.trans (ho.mono fun _ q => .inl q), g6⟩
theorem TxnMid.put (h : TxnMid w rb cb nb vb most ops tv a len cap z n P tb id ab s wi) (h1 : rb < w.heap.size) (h2 : cb < w.heap.size) (h3 : nb < w.heap.size) (ha : ∀ (_ : 0 < len) x, a = some x → x.block < w.heap.size) (ab' : Bool) :
    TxnMid w rb cb nb vb most ops tv a len cap z n P tb id ab' s (wi.setCell ⟨tb, 1, none⟩ (.bool ab')) := by
  obtain ⟨g1, g2, g3, g4, g5, g6⟩ := h
  have hO : Only (fun k => k = tb) wi (wi.setCell ⟨tb, 1, none⟩ (.bool ab')) := (Only.refl _ _).put 1 _
  exact ⟨g1.other hO (fun q => by omega) (fun h0 x hx q => by have := ha h0 x hx; omega), SetAt.keep g2 hO (fun q => by omega), g3.keep hO (fun q => by omega), g4.set 1 _, g5.trans' hO (fun i q => .inr (by omega)), g6⟩
end
set_option maxHeartbeats 4000000 in
theorem txn_any (B rb cb nb vb : Nat) (most : Int) (a : Option Addr) (len cap : Nat) (z : Nat → Int) (s : St) (ts : List TxnM) (tv : Value) (cs : List (List Value)) (w : World)
    (h : RAll w B rb cb nb vb most a len cap z s ts tv cs) :
    Calls Try.prog 60 #[.pointer (some ⟨rb, 0, none⟩)] w fun e w' => e = .returned (.tuple #[]) ∧ ∃ tv' cs', RAll w' B rb cb nb vb most a len cap z (pTxn z len s ts).1 (pTxn z len s ts).2 tv' cs' ∧ Only (fun k => B ≤ k) w w' := by
  obtain ⟨ta, tcap, rfl, hc1, hc2⟩ := h.1.own.shape
  obtain ⟨c0, -, -, -, -, c5⟩ := h.1.rdr.six
  have hf := h.1.few.1
  by_cases h24 : 1024 ≤ ts.length
  · have h24' : (1024 : Int) ≤ (ts.length : Int) := by omega
    have HS : Hid (pTxn z len s ts = (failS s 3 s.at_, ts)) := if_pos h24
    have HL : Hid (Live w.drew cb a len cap z s) := h.1.live.drewN 1
    have H : Hid (RAll w B rb cb nb vb most a len cap z s ts (.slice ta ts.length tcap) cs) := h
    clear h
    go_enter Try.func60, Try.ntmps60
    go_wp2
    go_region_held3 (fun w' => w'.cell? ⟨rb, 0, none⟩ = some (.pointer (some ⟨cb, 0, none⟩))) (first | assumption | go_keep)
      (first | (go_at_call 62; (with_reducible refine (at_any cb a len cap s _ HL.out.cur).mono ?_); rintro e w2 ⟨rfl, hw⟩; replace hw := hw.symm; subst hw) | (go_at_call 61; (with_reducible refine (fail_live cb a len cap s z 3 s.at_ _ HL.out).mono ?_); rintro e w3 ⟨rfl, ho3, hl3⟩; have M := hide (failAt H.out ((Only.refl _ _).drew.trans ho3) hl3); have c3 := (Is.keep H.out.1.rdr ((Only.refl _ _).drew.trans ho3) H.out.1.lay.rc).cell 0 rfl; clear ho3 hl3))
    all_goals
      go_simp
      go_wp2
      refine bodyPost_ret (results_none rfl _ _ _) rfl ?_
      rw [HS.out]
      exact ⟨rfl, _, _, M.out.1, M.out.2⟩
  · have h24' : ¬ (1024 : Int) ≤ (ts.length : Int) := by omega
    obtain ⟨s1, hs1⟩ : ∃ s1, byteS z len s 116 = s1 := ⟨_, rfl⟩
    obtain ⟨⟨s2, id⟩, hs2⟩ : ∃ r, pKey z len 5 (twinB ts) s1 = r := ⟨_, rfl⟩
    obtain ⟨s3, hs3⟩ : ∃ s3, byteS z len s2 32 = s3 := ⟨_, rfl⟩
    obtain ⟨⟨s4, ab⟩, hs4⟩ : ∃ r, pAborted z len s3 = r := ⟨_, rfl⟩
    obtain ⟨s5, hs5⟩ : ∃ s5, byteS z len s4 10 = s5 := ⟨_, rfl⟩
    have HS : Hid (pTxn z len s ts = (s5, ts ++ [⟨id, ab, []⟩])) := by show _ = _; unfold pTxn pName; rw [if_neg h24]; simp only [hs1, hs2, hs3, hs4, hs5]
    have hwf : (Lit.int .i64 id).wf = true := by
      have e : id = (numS z len (byteS z len s1 32)).2 := by have := congrArg Prod.snd hs2; simpa [pKey] using this.symm
      rw [e]
      exact numS_wf (byteS_at (by rw [← hs1]; exact byteS_at h.1.live.at_))
    obtain ⟨hB, hrl, hcl, hnl⟩ := h.1.hi
    have H : Hid (RAll w B rb cb nb vb most a len cap z s ts (.slice ta ts.length tcap) cs) := h
    have HL : Hid (Live w cb a len cap z s) := h.1.live
    have L : Hid (Lay B rb cb nb vb a len) := h.1.lay
    have HA : Hid (∀ (_ : 0 < len) x, a = some x → x.block < w.heap.size) := hide (fun h0 x hx => by have := h.1.lay.a h0 x hx; omega)
    replace hs1 := hide hs1
    replace hs2 := hide hs2
    replace hs3 := hide hs3
    replace hs4 := hide hs4
    replace hs5 := hide hs5
    clear h
    obtain ⟨i0, hi, hz0, hz1, hz2⟩ := info_parts Try.info48
    have HI0 : Hid (Try.prog.info? 48 = some i0 ∧ i0.zero = some (.agg #[.int .i64 0, .bool false, .slice none 0 0]) ∧ i0.size = 3 ∧ i0.bytes = 40) := ⟨hi, hz0, hz1, hz2⟩
    clear hi hz0 hz1 hz2
    have hrc : rb ≠ cb := L.out.rc
    have hcn : cb ≠ nb := L.out.cn
    go_enter Try.func60, Try.ntmps60
    go_wp2_with (first | (go_at_call 70; (with_reducible refine (byte_live cb a len cap s z 116 _ HL.out).mono ?_); rw [hs1.out]; rintro e w1 ⟨rfl, ho1, hl1⟩; have HL1 := hide hl1; have HO1 := hide ho1; have HR1 := hide (H.out.1.rdr.keep ho1 hrc); have HN1 : Hid (Names w1 nb ts.length (twinB ts)) := SetAt.keep H.out.1.names ho1 (Ne.symm hcn); obtain ⟨c0, -, -, -, -, -⟩ := HR1.out.six; clear hl1 ho1) | (go_at_call 71; (with_reducible refine (name_any rb cb nb vb most (opsN ts : Int) (.slice ta ts.length tcap) a len cap z s1 ts.length (twinB ts) _ HR1.out HL1.out HN1.out hrc L.out.rn hcn L.out.an (by omega)).mono ?_); rw [hs2.out]; rintro e w2 ⟨rfl, ho2, hl2, hn2⟩; have M2 := hide (TxnMid.start (id := id) (ab := false) 48 hl2 hn2 (HR1.out.keep ho2 (fun q => q.elim hrc L.out.rn)) ((HO1.out.mono (S' := fun k => k = cb ∨ k = nb) (fun _ q => .inl q)).trans ho2)); have HL2 : Hid (Live (w2.alloc (.cells #[.int .i64 id, .bool false, .slice none 0 0] 48)) cb a len cap z s2) := M2.out.1; obtain ⟨c0, -, -, -, -, -⟩ := (HR1.out.keep ho2 (fun q => q.elim hrc L.out.rn)).six; have hrl2 : rb < w2.heap.size := (by have := HO1.out.size; have := ho2.size; omega); clear ho2 hl2 hn2) | (go_at_call 70; (with_reducible refine (byte_live cb a len cap s2 z 32 _ HL2.out).mono ?_); rw [hs3.out]; rintro e w3 ⟨rfl, ho3, hl3⟩; have M3 := hide (TxnMid.go M2.out hrc hcn hcl ho3 hl3); have HL3 : Hid (Live w3 cb a len cap z s3) := hl3; have HR3 : Hid (Rdr w3 rb cb most (opsN ts : Int) nb vb (.slice ta ts.length tcap)) := M3.out.2.2.1; obtain ⟨c0, -, -, -, -, -⟩ := HR3.out.six; clear ho3 hl3) | (go_at_call 72; (with_reducible refine (aborted_any rb cb nb vb most (opsN ts : Int) (.slice ta ts.length tcap) a len cap z s3 _ HR3.out HL3.out hrc).mono ?_); rw [hs4.out]; rintro e w4 ⟨rfl, ho4, hl4⟩; have M4 := hide (TxnMid.go M3.out hrc hcn hcl ho4 hl4); obtain ⟨⟨d0, d1, d2⟩, f1⟩ := three' M4.out.2.2.2.1; have M4' := hide (TxnMid.put M4.out hrl hcl hnl HA.out ab); have HL4 : Hid (Live (w4.setCell ⟨w2.heap.size, 1, none⟩ (.bool ab)) cb a len cap z s4) := M4'.out.1; obtain ⟨c0, -, -, -, -, -⟩ := M4.out.2.2.1.six; clear ho4 hl4) | (go_at_call 70; (with_reducible refine (byte_live cb a len cap s4 z 10 _ HL4.out).mono ?_); rw [hs5.out]; rintro e w5 ⟨rfl, ho5, hl5⟩; have M5 := hide (TxnMid.go M4'.out hrc hcn hcl ho5 hl5); obtain ⟨⟨d0, d1, d2⟩, f1⟩ := three' M5.out.2.2.2.1; obtain ⟨c0, -, -, -, -, c5⟩ := M5.out.2.2.1.six; clear ho5 hl5))
    have hs5' := M5.out.2.2.2.2.1.size
    have htl : ∀ b, (Value.slice ta ts.length tcap).ownBlock = some b → b < w.heap.size ∧ Gb B rb cb nb vb b := fun b q => ⟨H.out.1.own.lt.1 b q, H.out.1.own.1 b q⟩
    have HT : Hid ((Value.slice ta ts.length tcap).ownBlock ≠ some rb ∧ (Value.slice ta ts.length tcap).ownBlock ≠ some w2.heap.size) := hide ⟨fun q => (htl _ q).2.2.1 rfl, fun q => by have := (htl _ q).1; have := M5.out.2.2.2.2.2; omega⟩
    have HOWN : Hid (w5.ownsRow B 48 3 (.slice ta ts.length tcap) ts.length cs.flatten) := by
      have q := (H.out.1.own.keep M5.out.2.2.2.2.1 (fun b q r => r.elim q.2.2.1 q.2.2.2.1)).2.1.1
      rw [H.out.1.own.len] at q
      exact q
    have hrl5 : rb < w5.heap.size := by omega
    have htb5 : w2.heap.size < w5.heap.size := M5.out.2.2.2.1.lt
    clear htl
    go_region_law
      ((refine step_append_lies _ (by rfl) _ _ _ (by rfl) B 48 i0 _ 3 40 Try.underlying22 HI0.out.1 HI0.out.2.1 HI0.out.2.2.1 HI0.out.2.2.2 rfl (by omega) (.slice ta ts.length tcap) ts.length cs.flatten (by rfl) ((HOWN.out.alloc _).drew)
            ⟨w5.heap.size, 0, none⟩ 1 1 [.int .i64 id, .bool ab, .slice none 0 0] (by rfl) (by rfl) (World.news_of_block (cs := #[.int .i64 id, .bool ab, .slice none 0 0]) (t := 48) (fr := (0, 0)) (heap_alloc_new w5 _)) (by simp [Value.oneCell'])
            (by omega) (by unfold maxLen; omega) (by omega) (by simp; omega) (w5.heap.size + 1) (by simp) ?_; intro gg gcap w6 hown6 hgrow6 hat6 hlt6; have RX := Is.keep ((Is.alloc M5.out.2.2.1 _).drew) (grown_only hgrow6) HT.out.1; have TX := Is.keep ((Is.alloc M5.out.2.2.2.1 _).drew) (grown_only hgrow6) HT.out.2; have q5 := RX.cell 5 rfl; have f5 := RX.frozen 5; obtain ⟨⟨t0, t1, t2⟩, -⟩ := three' TX; have M := hide (RAll.pushed H.out M5.out.2.2.2.2.1 M5.out.1 M5.out.2.1 (by omega) hwf hgrow6 hown6 hat6); clear RX TX))
    all_goals
      go_simp
      go_wp2
      go_end0
      rw [HS.out]
      exact ⟨rfl, _, _, M.out.1, M.out.2⟩
end Go.Proofs.Ytigmgkcojifbcaa.Hist
