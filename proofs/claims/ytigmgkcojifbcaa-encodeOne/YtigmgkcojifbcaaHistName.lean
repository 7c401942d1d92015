/- The reader's name: a blank, and a number that no transaction has. -/
import Derived.Test.YtigmgkcojifbcaaHistDo
import Derived.Test.YtigmgkcojifbcaaHistKeys
import Derived.Deep.QuietTactic
import Derived.BigQuiet
import Derived.Deep.RegionWith
import Derived.Deep.RegionHeld3
import Derived.Deep.DrawnRows
import Derived.Deep.DeepCutAuto
import Derived.Outline
namespace Go.Proofs.Ytigmgkcojifbcaa.Hist
open Go.RowKit Go.Proofs.Ytigmgkcojifbcaa.Dig Go.Proofs.Ytigmgkcojifbcaa.Mem Go.Proofs.Ytigmgkcojifbcaa.Cur Go.Proofs.Ytigmgkcojifbcaa.Keys
set_option linter.unusedVariables false
set_option linter.unusedSimpArgs false

/-- A reader lies in block rb. -/
def Rdr (w : World) (rb cb : Nat) (most ops : Int) (nb vb : Nat) (tv : Value) : Prop := Is w rb #[.pointer (some ⟨cb, 0, none⟩), .int .i64 most, .int .i64 ops, .map (some nb), .map (some vb), tv]
theorem Rdr.six {w : World} {rb cb : Nat} {most ops : Int} {nb vb : Nat} {tv : Value} (h : Rdr w rb cb most ops nb vb tv) :
    w.cell? ⟨rb, 0, none⟩ = some (.pointer (some ⟨cb, 0, none⟩)) ∧ w.cell? ⟨rb, 1, none⟩ = some (.int .i64 most) ∧ w.cell? ⟨rb, 2, none⟩ = some (.int .i64 ops) ∧ w.cell? ⟨rb, 3, none⟩ = some (.map (some nb)) ∧
    w.cell? ⟨rb, 4, none⟩ = some (.map (some vb)) ∧ w.cell? ⟨rb, 5, none⟩ = some tv :=
  ⟨h.cell 0 rfl, h.cell 1 rfl, h.cell 2 rfl, h.cell 3 rfl, h.cell 4 rfl, h.cell 5 rfl⟩
theorem Rdr.keep {w w' : World} {rb cb : Nat} {most ops : Int} {nb vb : Nat} {tv : Value} (h : Rdr w rb cb most ops nb vb tv) {S : Nat → Prop} (ho : Only S w w') (hs : ¬ S rb) : Rdr w' rb cb most ops nb vb tv := Is.keep h ho hs
theorem numS_wf {z : Nat → Int} {len : Nat} {s : St} (h : s.at_ ≤ len) : (Lit.int .i64 (numS z len s).2).wf = true := by
  unfold numS
  split
  · rcases parse_two z len s.at_ h with ⟨n, t, h1, h2, h3, h4, hp⟩ | ⟨t, h1, h2, hp⟩
    · rw [hp]; exact wf_of_i64 h3 h4
    · rw [hp]; rfl
  · rfl
theorem name_mid {w3 w5 : World} {rb cb nb vb n : Nat} {most ops m : Int} {tv : Value} {P : Int → Bool} (hr : Rdr w3 rb cb most ops nb vb tv) (hn : Names w3 nb n P) (hcb : cb < w3.heap.size)
    (ho : Only (fun k => k = cb) ((w3.alloc (.cells #[.int .i64 m] 129)).alloc (.cells #[] 83)).drew w5) (h1 : rb ≠ cb) (h3 : cb ≠ nb) :
    Rdr w5 rb cb most ops nb vb tv ∧ Names w5.drew nb n P ∧ Is w5 w3.heap.size #[.int .i64 m] ∧ Only (fun k => k = cb) w3 w5 := by
  have hB : Below w3.heap.size w3 ((w3.alloc (.cells #[.int .i64 m] 129)).alloc (.cells #[] 83)).drew := (((Below.refl _ _).alloc (Nat.le_refl _) _).alloc (by simp) _).drew
  have hO : Only (fun k => k = cb) w3 w5 := (Only.of_below hB).trans ho
  exact ⟨hr.keep hO h1, SetAt.keep hn (hO.drew) (Ne.symm h3), (((Is.made w3 _ _ rfl).alloc _).drew).keep ho (by omega), hO⟩
theorem name_end {w w1 w3 w5 w6 : World} {cb nb : Nat} (h1 : Only (fun k => k = cb) w w1) (h2 : Only (fun k => k = cb) w1 w3) (h3 : Only (fun k => k = cb) w3 w5) (h4 : Only (fun k => k = nb) w5.drew w6) : Only (fun k => k = cb ∨ k = nb) w w6 := by
  have q := ((h1.trans h2).trans h3).drew
  exact (q.mono fun _ r => .inl r).trans (h4.mono fun _ r => .inr r)
set_option maxHeartbeats 1000000 in
theorem name_any (rb cb nb vb : Nat) (most ops : Int) (tv : Value) (a : Option Addr) (len cap : Nat) (z : Nat → Int) (s : St) (n : Nat) (P : Int → Bool) (w : World)
    (hr : Rdr w rb cb most ops nb vb tv) (hl : Live w cb a len cap z s) (hn : Names w nb n P) (h1 : rb ≠ cb) (h2 : rb ≠ nb) (h3 : cb ≠ nb) (ha : 0 < len → ∀ x, a = some x → x.block ≠ nb) (hm : n < 1000000) :
    Calls Try.prog 71 #[.pointer (some ⟨rb, 0, none⟩)] w fun e w' => e = .returned (.int .i64 (pKey z len 5 P s).2) ∧ Only (fun k => k = cb ∨ k = nb) w w' ∧ Live w' cb a len cap z (pKey z len 5 P s).1 ∧ Names w' nb (n + 1) (fun y => P y || (pKey z len 5 P s).2 == y) := by
  obtain ⟨c0, -, -, c3, -, -⟩ := hr.six
  obtain ⟨s1, hs1⟩ : ∃ s1, byteS z len s 32 = s1 := ⟨_, rfl⟩
  obtain ⟨⟨s2, m⟩, hs2⟩ : ∃ r, numS z len s1 = r := ⟨_, rfl⟩
  have hat1 : s1.at_ ≤ len := by rw [← hs1]; exact byteS_at hl.at_
  have hwf : (Lit.int .i64 m).wf = true := by have := numS_wf (z := z) hat1; rwa [hs2] at this
  have HR : Hid (Rdr w rb cb most ops nb vb tv) := hr
  have HL : Hid (Live w cb a len cap z s) := hl
  have HN : Hid (Names w nb n P) := hn
  have HA : Hid (0 < len → ∀ x, a = some x → x.block ≠ nb) := ha
  clear hr hl hn ha
  by_cases hp : P m = true
  · have HS : Hid (pKey z len 5 P s = (failS s2 5 s1.at_, m)) := by show _ = _; unfold pKey; simp only [hs1, hs2, if_pos hp]
    have HP : Hid (P m = true) := hp
    replace hs1 := hide hs1
    replace hs2 := hide hs2
    clear hp
    go_enter Try.func71, Try.ntmps71
    go_wp2_with (first | (go_at_call 70; (with_reducible refine (byte_live cb a len cap s z 32 _ HL.out).mono ?_); rw [hs1.out]; rintro e w1 ⟨rfl, ho1, hl1⟩; have HL1 := hide hl1; have HO1 := hide ho1; have HR1 := hide (HR.out.keep ho1 h1); obtain ⟨c0, -, -, c3, -, -⟩ := HR1.out.six; clear hl1 ho1) | (go_at_call 62; (with_reducible refine (at_any cb a len cap s1 _ HL1.out.cur).mono ?_); rintro e w2 ⟨rfl, hw⟩; replace hw := hw.symm; subst hw) | (go_at_call 73; (with_reducible refine (num_live cb a len cap s1 z _ HL1.out).mono ?_); rw [hs2.out]; rintro e w3 ⟨rfl, ho2, hl2⟩; have HL2 := hide hl2; have HO2 := hide ho2; have HR2 := hide (HR1.out.keep ho2 h1); obtain ⟨c0, -, -, c3, -, -⟩ := HR2.out.six; have HN2 := hide ((HN.out.keep HO1.out (Ne.symm h3)).keep ho2 (Ne.symm h3)); clear hl2 ho2))
    have ho3 : Below w3.heap.size w3 (w3.alloc (.cells #[.int .i64 m] 129)).drew := ((Below.refl _ _).alloc (Nat.le_refl _) _).drew
    have ho4 : Below w3.heap.size w3 ((w3.alloc (.cells #[.int .i64 m] 129)).alloc (.cells #[] 83)).drew := (((Below.refl _ _).alloc (Nat.le_refl _) _).alloc (by simp) _).drew
    have L1 := SetAt.look (T := 69) (SetAt.keep HN2.out (Only.of_below (S := fun _ => False) ho3) (fun q => q)) nameIs Try.underlying69 (x := m) hwf
    have L2 := SetAt.look (T := 69) (SetAt.keep HN2.out (Only.of_below (S := fun _ => False) ho4) (fun q => q)) nameIs Try.underlying69 (x := m) hwf
    rw [HP.out] at L1 L2
    unfold nameV at L1 L2
    have hrl : rb < w3.heap.size := HR2.out.lt
    clear ho3 ho4
    go_region
    all_goals
      clear L1 L2
      go_simp
      go_wp2_with (go_at_call 61; (with_reducible refine (fail_live cb a len cap s2 z 5 s1.at_ _ (HL2.out.keep (((Below.refl _ _).alloc (Nat.le_refl _) _).alloc (by simp) _).drew)).mono ?_); rintro e w5 ⟨rfl, ho5, hl5⟩)
      obtain ⟨K1, K2, K3, K4⟩ := name_mid HR2.out HN2.out HL2.out.cur.lt ho5 h1 h3
      obtain ⟨w6, hput, hn6, ho6⟩ := Names.store (w := w5.drew) K2 hwf hm
      have k3 := K1.cell 3 rfl
      have k0 := K3.cell 0 rfl
      have hz := K3.lt
      have q0 := Is.cell (K3.drew.keep ho6 (fun (q : w3.heap.size = nb) => by have := SetAt.lt HN2.out; omega)) 0 rfl
      have HF := hide (name_end HO1.out HO2.out K4 ho6)
      have HL6 := hide ((hl5.drewN 1).other (S := fun k => k = nb) ho6 h3 HA.out)
      have HN6 := hide hn6
      clear K1 K2 K3 K4 ho5 hl5 hn6 ho6
      go_region
      all_goals
        clear hput
        go_simp
        go_wp2
        go_ret
        exact ⟨by rw [HS.out]; rfl, HF.out, by rw [HS.out]; exact HL6.out, by rw [HS.out]; exact HN6.out⟩
  · have HS : Hid (pKey z len 5 P s = (s2, m)) := by show _ = _; unfold pKey; simp only [hs1, hs2, if_neg hp]
    have HP : Hid (P m = false) := by show _ = _; simpa using hp
    replace hs1 := hide hs1
    replace hs2 := hide hs2
    clear hp
    go_enter Try.func71, Try.ntmps71
    go_wp2_with (first | (go_at_call 70; (with_reducible refine (byte_live cb a len cap s z 32 _ HL.out).mono ?_); rw [hs1.out]; rintro e w1 ⟨rfl, ho1, hl1⟩; have HL1 := hide hl1; have HO1 := hide ho1; have HR1 := hide (HR.out.keep ho1 h1); obtain ⟨c0, -, -, c3, -, -⟩ := HR1.out.six; clear hl1 ho1) | (go_at_call 62; (with_reducible refine (at_any cb a len cap s1 _ HL1.out.cur).mono ?_); rintro e w2 ⟨rfl, hw⟩; replace hw := hw.symm; subst hw) | (go_at_call 73; (with_reducible refine (num_live cb a len cap s1 z _ HL1.out).mono ?_); rw [hs2.out]; rintro e w3 ⟨rfl, ho2, hl2⟩; have HL2 := hide hl2; have HO2 := hide ho2; have HR2 := hide (HR1.out.keep ho2 h1); obtain ⟨c0, -, -, c3, -, -⟩ := HR2.out.six; have HN2 := hide ((HN.out.keep HO1.out (Ne.symm h3)).keep ho2 (Ne.symm h3)); clear hl2 ho2))
    have ho3 : Below w3.heap.size w3 (w3.alloc (.cells #[.int .i64 m] 129)).drew := ((Below.refl _ _).alloc (Nat.le_refl _) _).drew
    have ho4 : Below w3.heap.size w3 ((w3.alloc (.cells #[.int .i64 m] 129)).alloc (.cells #[] 83)).drew := (((Below.refl _ _).alloc (Nat.le_refl _) _).alloc (by simp) _).drew
    have L1 := SetAt.look (T := 69) (SetAt.keep HN2.out (Only.of_below (S := fun _ => False) ho3) (fun q => q)) nameIs Try.underlying69 (x := m) hwf
    have L2 := SetAt.look (T := 69) (SetAt.keep HN2.out (Only.of_below (S := fun _ => False) ho4) (fun q => q)) nameIs Try.underlying69 (x := m) hwf
    rw [HP.out] at L1 L2
    unfold nameV at L1 L2
    have hrl : rb < w3.heap.size := HR2.out.lt
    clear ho3 ho4
    go_region
    all_goals
      clear L1 L2
      go_simp
      go_wp2_with fail
      obtain ⟨K1, K2, K3, K4⟩ := name_mid (m := m) HR2.out HN2.out HL2.out.cur.lt (Only.refl _ _) h1 h3
      have hl5 := HL2.out.keep ((((Below.refl _ _).alloc (Nat.le_refl _) (.cells #[.int .i64 m] 129)).alloc (by simp) (.cells #[] 83)).drew)
      obtain ⟨w6, hput, hn6, ho6⟩ := Names.store K2 hwf hm
      have k3 := K1.cell 3 rfl
      have k0 := K3.cell 0 rfl
      have hz := K3.lt
      have q0 := Is.cell (K3.drew.keep ho6 (fun (q : w3.heap.size = nb) => by have := SetAt.lt HN2.out; omega)) 0 rfl
      have HF := hide (name_end HO1.out HO2.out K4 ho6)
      have HL6 := hide ((hl5.drewN 1).other (S := fun k => k = nb) ho6 h3 HA.out)
      have HN6 := hide hn6
      clear K1 K2 K3 K4 hl5 hn6 ho6
      go_region
      all_goals
        clear hput
        go_simp
        go_wp2
        go_ret
        exact ⟨by rw [HS.out]; rfl, HF.out, by rw [HS.out]; exact HL6.out, by rw [HS.out]; exact HN6.out⟩
end Go.Proofs.Ytigmgkcojifbcaa.Hist
