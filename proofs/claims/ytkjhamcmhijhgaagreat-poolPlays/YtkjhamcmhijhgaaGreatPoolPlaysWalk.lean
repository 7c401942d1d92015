/- PoolPlays, walked. -/
import Derived.Test.YtkjhamcmhijhgaaGreatAll9
import Derived.Test.YtkjhamcmhijhgaaGreatAll14
import Derived.Test.YtkjhamcmhijhgaaGreatAll17
import Derived.Test.YtkjhamcmhijhgaaGreatAll18
import Derived.Deep.Cut
import Derived.Deep.RegionHeld3
namespace Go.Proofs.YtkjhamcmhijhgaaGreat.Walk
open Go.RowKit Go.Proofs.YtkjhamcmhijhgaaGreat.Dig Go.Proofs.YtkjhamcmhijhgaaGreat.Mem Go.Proofs.YtkjhamcmhijhgaaGreat.Dq Go.Proofs.YtkjhamcmhijhgaaGreat.Thing Go.Proofs.YtkjhamcmhijhgaaGreat.Pick Go.Proofs.YtkjhamcmhijhgaaGreat.Sets Go.Proofs.YtkjhamcmhijhgaaGreat.Pool Go.Proofs.YtkjhamcmhijhgaaGreat.PRef
set_option linter.unusedVariables false
set_option linter.unusedSimpArgs false

/-- The document's pool, while others are turned: it hangs on its own blocks, and on the picks. -/
def pT (la : Option Addr) (lp : Nat) (L : List Int) (c : Int) (n : Nat) (s : PS Int) (v : RV) (lo hi : Nat) : Th where
  P W := hi ≤ W.heap.size ∧ ∀ W', Only (fun k => ¬ (lo ≤ k ∧ k < hi)) W W' → RowI W' la lp L → RP W' v L c n s
  F k := lo ≤ k ∧ k < hi
  keep h ho hs := ⟨Nat.le_trans h.1 ho.size, fun W' h2 hr => h.2 W' ((ho.mono (fun k q r => hs k r q)).trans h2) hr⟩
  lt h k hk := Nat.lt_of_lt_of_le hk.2 h.1
theorem plays_big (w : World) (wk cn : Int) (a1 a3 : Option Addr) (n1 c1 n3 c3 : Nat) (h : 300 < n1) (hm : n1 ≤ 9223372036854775807) : Calls Tryz.prog 3 #[.int .i64 wk, .slice a1 n1 c1, .int .i64 cn, .slice a3 n3 c3] w fun e w' => e = .returned (.bool true) ∧ Below w.heap.size w w' := by
  have g : (300 : Int) < n1 := by omega
  go_enter Tryz.func3, Tryz.ntmps3
  go_wp2_with (go_at_call 5; go_must ((with_reducible refine (works10_any _).mono ?_); rintro e w9 ⟨rfl, hb⟩))
  go_ret
  exact ⟨rfl, hb⟩
theorem plays_many (w : World) (wk cn : Int) (a1 a3 : Option Addr) (n1 c1 n3 c3 : Nat) (h : n1 ≤ 300) (hf : Calls Tryz.prog 4 #[.slice a3 n3 c3] w fun e w' => e = .returned (.bool false) ∧ w' = w) : Calls Tryz.prog 3 #[.int .i64 wk, .slice a1 n1 c1, .int .i64 cn, .slice a3 n3 c3] w fun e w' => e = .returned (.bool true) ∧ Below w.heap.size w w' := by
  have g : ¬ (300 : Int) < n1 := by omega
  have HF := hide hf
  clear hf
  go_enter Tryz.func3, Tryz.ntmps3
  go_wp2_with (first
    | (go_at_call 4; go_must ((with_reducible refine (Hid.out HF).mono ?_); rintro e w9 ⟨rfl, rfl⟩))
    | (go_at_call 5; go_must ((with_reducible refine (works10_any _).mono ?_); rintro e w9 ⟨rfl, hb⟩)))
  go_ret
  exact ⟨rfl, hb⟩
set_option maxHeartbeats 4000000 in
set_option maxRecDepth 20000 in
theorem plays_bad (w : World) (wk cn : Int) (a1 a3 : Option Addr) (n1 c1 n3 c3 : Nat) (h : n1 ≤ 300) (hf : Calls Tryz.prog 4 #[.slice a3 n3 c3] w fun e w' => e = .returned (.bool true) ∧ w' = w) {L : List Int} (r1 : RowI w a1 c1 L) (e1 : n1 = L.length) (hw : wk < 1 ∨ 64 < wk) : Calls Tryz.prog 3 #[.int .i64 wk, .slice a1 n1 c1, .int .i64 cn, .slice a3 n3 c3] w fun e w' => e = .returned (.bool true) ∧ Below w.heap.size w w' := by
  have g : ¬ (300 : Int) < n1 := by omega
  have HF := hide hf
  have HW := hide hw
  have N0 := hide (newE (w := w) (wx := w) (hide (Kn.start w)) r1 e1 (by omega) cn)
  clear hf hw r1 e1
  go_enter Tryz.func3, Tryz.ntmps3
  go_wp2_with (first
    | (go_at_call 4; go_must ((with_reducible refine (Hid.out HF).mono ?_); rintro e w9 ⟨rfl, rfl⟩))
    | (go_at_call 6; go_must ((with_reducible refine (Hid.out N0).mono ?_); rintro e w1 ⟨sb, rfl, H1⟩; have B1 := hide H1.out.below; clear H1))
    | (go_at_call 7; go_must ((with_reducible refine (DqI.new_no wk _ HW.out _).mono ?_); rintro e w2 ⟨rfl, rfl⟩))
    | (go_at_call 8; go_must ((with_reducible refine (rnew_no HW.out).mono ?_); rintro e w3 ⟨rfl, hb3⟩; have B3 := hide (B1.out.trans (hb3.mono B1.out.size)); clear hb3))
    | (go_at_call 5; go_must ((with_reducible refine (works10_any _).mono ?_); rintro e w9 ⟨rfl, hb⟩)))
  go_ret
  have B4 := B3.out.alloc (o := .cells #[.slice none 0 0, .int .i64 0, .int .i64 0, .int .i64 0, .slice none 0 0, .slice none 0 0, .slice none 0 0, .slice none 0 0, .int .i64 0, .int .i64 0, .slice none 0 0] 36) B3.out.size
  exact ⟨rfl, B4.trans (hb.mono B4.size)⟩
theorem run_all {L : List Int} {c : Int} : ∀ (m : Nat) (s : PS Int) (n : Nat), DqI.AllG SmallJ s.ks → DqI.AllG SmallJ (runS halfL 0 L c m s n).1.ks := by
  intro m
  induction m with
  | zero => intro s n h; exact h
  | succ m ih =>
    intro s n h
    by_cases h0 : readyL s.ks = []
    · rw [run_none halfL 0 L c h0]; exact h
    · cases ho : over c n with
      | true => rw [run_over halfL 0 L c h0 ho]; exact h
      | false =>
        obtain ⟨k, hk, hr⟩ := told_rdy L n h0
        rw [run_next halfL 0 L c h0 ho hk]
        exact ih _ _ (DqI.allG_step half_small h hr)
/-- What a run comes to. -/
structure Plays (L : List Int) (c : Int) (N : Nat) (s s' : PS Int) (n' : Nat) (E : Int) : Prop where
  is : runS halfL 0 L c 2001 s 0 = (s', n', E)
  left : leftL s'.ks + bornL s'.ks + s'.dn.length = N
  sum : sumL jobs1 s'.ks ≤ 1000
  all : DqI.AllG SmallJ s'.ks
  small : s'.dn.length ≤ 1000 ∧ s'.st ≤ 2001 ∧ s'.who.length ≤ 2001 ∧ n' ≤ 2001
  len : s'.ks.length = s.ks.length
theorem plays (L : List Int) (c : Int) {r : Nat} {l : List Int} {s : PS Int} (h : Started r l s) (hN : jobsL l ≤ 780) : ∃ s' n' E, Plays L c (jobsL l) s s' n' E := by
  have ht := h.todo
  obtain ⟨R, hR⟩ : ∃ R, R = runS halfL 0 L c 2001 s 0 := ⟨_, rfl⟩
  have hr := run_ran (of := halfL) (d0 := 0) (L := L) (c := c) (J := jobs1) (f := jobs1) (g := fun _ => 1) jobs1_eq jobs1_eq 2001 s 0 (by omega)
  have hl := left_born (L := L) (c := c) h 2001 (by omega)
  have ha := run_all (L := L) (c := c) 2001 s 0 h.all
  rw [← hR] at hr hl ha
  obtain ⟨s', n', E⟩ := R
  have hst := hr.steps
  have hsum := hr.sum
  rw [h.dn, h.sum jobs1] at hsum
  have hjl : (l.map jobs1).sum = jobsL l := rfl
  have hsto := hr.st
  have hwho := hr.who
  rw [h.st] at hsto
  rw [h.who] at hwho
  simp only [List.map_nil, List.sum_nil, List.length_nil] at hsum hwho hst hsto
  rw [sum_ones] at hsum
  exact ⟨s', n', E, hR.symm, hl, by omega, ha, ⟨by omega, by omega, by omega, by omega⟩, hr.len⟩
/-- What the law knows at its end. -/
structure PlK (w : World) (p sb ub : Nat) (L : List Int) (c : Int) (n : Nat) (s : PS Int) (v : RV) (ts : List Th) (W : World) : Prop where
  pl : DqI.PL w p sb L c n s ts W
  rp : RP W v L c n s
  box : Is W ub #[.slice v.l.a v.l.n v.l.c, .int .i64 v.c, .int .i64 (v.n : Int), .int .i64 (v.u : Int), .slice v.rows.a v.rows.n v.rows.c, .slice v.held.a v.held.n v.held.c, .slice v.holds.a v.holds.n v.holds.c, .slice v.done.a v.done.n v.done.c, .int .i64 (v.st : Int), .int .i64 (v.nx : Int), .slice v.who.a v.who.n v.who.c]
section
variable {w W w' : World} {p sb ub : Nat} {L : List Int} {c : Int} {n : Nat} {s : PS Int} {v : RV} {ts : List Th}
theorem PlK.keep (h : PlK w p sb ub L c n s v ts W) (hb : Below W.heap.size W w') : PlK w p sb ub L c n s v ts w' := ⟨h.pl.keep hb, h.rp.keep hb, h.box.below hb⟩
theorem PlK.below (h : PlK w p sb ub L c n s v ts W) : Below w.heap.size w W := h.pl.below
theorem gen_pl {code : Code} {Q : Exit → Act → World → Prop} {a : Act} (h : PlK w p sb ub L c n s v ts W) (k : ∀ W, Hid (PlK w p sb ub L c n s v ts W) → code.wp Tryz.prog Q a W) : code.wp Tryz.prog Q a W := k W h
end
set_option maxHeartbeats 8000000 in
set_option maxRecDepth 20000 in
theorem plays_ok (w : World) (r : Nat) (cn : Int) (a1 a3 : Option Addr) (n1 c1 n3 c3 : Nat) (h : n1 ≤ 300) {L js : List Int} (r1 : RowI w a1 c1 L) (e1 : n1 = L.length) (r3 : RowI w a3 c3 js) (e3 : n3 = js.length) (h3 : n3 ≤ 20) (hsm : ∀ x ∈ js, SmallJ x) (hf : Calls Tryz.prog 4 #[.slice a3 n3 c3] w fun e w' => e = .returned (.bool true) ∧ w' = w) (hr1 : 1 ≤ r) (hr64 : r ≤ 64) : Calls Tryz.prog 3 #[.int .i64 (r : Int), .slice a1 n1 c1, .int .i64 cn, .slice a3 n3 c3] w fun e w' => e = .returned (.bool true) ∧ Below w.heap.size w w' := by
  have g : ¬ (300 : Int) < n1 := by omega
  have HF := hide hf
  have hST := started r (by omega) js hsm
  have hJL := jobsL_le hsm
  obtain ⟨N, hN⟩ : ∃ N, N = jobsL js := ⟨_, rfl⟩
  have hN780 : N ≤ 780 := by omega
  obtain ⟨s', n', E, hC⟩ := plays L cn hST (by omega)
  rw [← hN] at hC
  have HC := hide hC
  have HST := hide hST
  have R1 := hide r1
  have R3 := hide r3
  have E1 := hide e1
  have E3 := hide e3
  have HSM := hide hsm
  have N0 := hide (newE (w := w) (wx := w) (hide (Kn.start w)) r1 e1 (by omega) cn)
  have JB : Hid (∀ wy, Below w.heap.size w wy → Calls Tryz.prog 19 #[.slice a3 n3 c3] wy fun e w' => e = .returned (.int .i64 (N : Int)) ∧ w' = wy) := hide (fun wy hb => by rw [hN]; exact jobs_any (r3.keep hb) e3 (by omega) hsm)
  have JN : Hid (∀ wy : World, Calls Tryz.prog 19 #[.slice none 0 0] wy fun e w' => e = .returned (.int .i64 0) ∧ w' = wy) := hide (fun wy => jobs_any (l := []) (DqI.rowi_nil wy) rfl (by omega) (fun x hx => absurd hx List.not_mem_nil))
  have AD : Hid (∀ ts wy p sb, Hid (DqI.PL w p sb L cn 0 (newS 0 r) ts wy) → Calls Tryz.prog 9 #[.pointer (some ⟨p, 0, none⟩), .slice a3 n3 c3] wy fun e w' => e = .returned (.tuple #[]) ∧ Hid (DqI.PL w p sb L cn 0 (addL (newS 0 r) js) ts w')) := hide (fun ts wy p sb z => DqI.addP z (by simp [newS]; omega) e3 (by omega) (by rw [(new_sum (0 : Int) (fun _ => 1) r).2.2]; omega) (fun W hK => rowE_of (r3.keep hK.below)))
  have RN : Hid (∀ ts wy p sb, Hid (DqI.PL w p sb L cn 0 (addL (newS 0 r) js) ts wy) → Calls Tryz.prog 10 #[.pointer (some ⟨p, 0, none⟩), .func (.func 11) #[] #[]] wy fun e w' => e = .returned (.int .i64 E) ∧ Hid (DqI.PL w p sb L cn n' s' (DqI.noT :: ts) w')) := hide (fun ts wy p sb z => by
    refine (DqI.runP (hide z.out.nothing) (D := fun _ t => t = DqI.noT) rfl hST.all jobs1_eq half_small (does_halves p) (mm := 2001) (by rw [hST.todo]; omega) (by rw [hST.dn, hST.st, hST.who]; simp) hC.is).mono ?_
    rintro e w' ⟨rfl, t', h1, h2⟩
    obtain rfl := h2.out
    exact ⟨rfl, h1⟩)
  have RAD : Hid (∀ (W : World) v, Hid (RPA (fun _ => False) W v L cn 0 (newS 0 r)) → Below w.heap.size w W → Calls Tryz.prog 13 #[.agg #[.slice v.l.a v.l.n v.l.c, .int .i64 v.c, .int .i64 (v.n : Int), .int .i64 (v.u : Int), .slice v.rows.a v.rows.n v.rows.c, .slice v.held.a v.held.n v.held.c, .slice v.holds.a v.holds.n v.holds.c, .slice v.done.a v.done.n v.done.c, .int .i64 (v.st : Int), .int .i64 (v.nx : Int), .slice v.who.a v.who.n v.who.c], .slice a3 n3 c3] W fun e w' => ∃ v', e = .returned (.agg #[.slice v'.l.a v'.l.n v'.l.c, .int .i64 v'.c, .int .i64 (v'.n : Int), .int .i64 (v'.u : Int), .slice v'.rows.a v'.rows.n v'.rows.c, .slice v'.held.a v'.held.n v'.held.c, .slice v'.holds.a v'.holds.n v'.holds.c, .slice v'.done.a v'.done.n v'.done.c, .int .i64 (v'.st : Int), .int .i64 (v'.nx : Int), .slice v'.who.a v'.who.n v'.who.c]) ∧ Hid (RPA (fun _ => False) w' v' L cn 0 (addL (newS 0 r) js)) ∧ Below W.heap.size W w') := hide (fun W v hp hb => radd_any hp (fun k q => q.elim) (by simp [newS]; omega) (by simp [newS]; omega) (by rw [(new_sum (0 : Int) (fun _ => 1) r).1]; omega) e3 (by omega) (r3.keep hb))
  have RRN : Hid (∀ (W : World) v, Hid (RPA (fun _ => False) W v L cn 0 (addL (newS 0 r) js)) → Calls Tryz.prog 12 #[.agg #[.slice v.l.a v.l.n v.l.c, .int .i64 v.c, .int .i64 (v.n : Int), .int .i64 (v.u : Int), .slice v.rows.a v.rows.n v.rows.c, .slice v.held.a v.held.n v.held.c, .slice v.holds.a v.holds.n v.holds.c, .slice v.done.a v.done.n v.done.c, .int .i64 (v.st : Int), .int .i64 (v.nx : Int), .slice v.who.a v.who.n v.who.c], .int .i64 2000] W fun e w' => ∃ v', e = .returned (.tuple #[.agg #[.slice v'.l.a v'.l.n v'.l.c, .int .i64 v'.c, .int .i64 (v'.n : Int), .int .i64 (v'.u : Int), .slice v'.rows.a v'.rows.n v'.rows.c, .slice v'.held.a v'.held.n v'.held.c, .slice v'.holds.a v'.holds.n v'.holds.c, .slice v'.done.a v'.done.n v'.done.c, .int .i64 (v'.st : Int), .int .i64 (v'.nx : Int), .slice v'.who.a v'.who.n v'.who.c], .int .i64 E]) ∧ Hid (RPA (fun _ => False) w' v' L cn n' s') ∧ Below W.heap.size W w') := hide (fun W v hp => rrun_any hp (fun k q => q.elim) hr64 (i0 := 0) (by omega) (by omega) (by omega) ⟨hST.len, by rw [hST.sum jobs1, hST.dn]; have : (js.map jobs1).sum = jobsL js := rfl; simp; omega, hST.all, by rw [hST.who]; simp, by rw [hST.st]; omega⟩ hC.is)
  have hr0 : ¬ (r : Int) < 1 := by omega
  have hEE : (E == E) = true := by simp
  clear h hf hsm r1 e1 r3 e3 hST hJL hC
  go_enter Tryz.func3, Tryz.ntmps3
  go_upto_region 13 with (first
    | (go_at_call 4; go_must ((with_reducible refine (Hid.out HF).mono ?_); rintro e w9 ⟨rfl, hq⟩; replace hq := hq.symm; subst hq))
    | (go_at_call 6; go_must ((with_reducible refine (Hid.out N0).mono ?_); rintro e w1 ⟨sb, rfl, H1⟩; have P1 := hide (DqI.newL H1 (by decide) r hr1 hr64 (z := (r : Int)) rfl)))
    | (go_at_call 7; go_must ((with_reducible refine (Hid.out P1).mono ?_); rintro e w2 ⟨p, rfl, H2⟩; have RW := hide (rnew_ok (c := cn) (R1.out.keep H2.out.below) E1.out hr1 hr64)))
    | (go_at_call 8; go_must ((with_reducible refine (Hid.out RW).mono ?_); rintro e w3 ⟨v0, rfl, hp3, hb3⟩; have H3 := hide ((H2.out.more (t := pT a1 c1 L cn 0 (newS 0 r) v0 w2.heap.size w3.heap.size) hb3 ⟨Nat.le_refl _, hp3.out⟩ (fun k hk => hk.1)).more (w' := w3.alloc (.cells #[.slice v0.l.a v0.l.n v0.l.c, .int .i64 v0.c, .int .i64 (v0.n : Int), .int .i64 (v0.u : Int), .slice v0.rows.a v0.rows.n v0.rows.c, .slice v0.held.a v0.held.n v0.held.c, .slice v0.holds.a v0.holds.n v0.holds.c, .slice v0.done.a v0.done.n v0.done.c, .int .i64 (v0.st : Int), .int .i64 (v0.nx : Int), .slice v0.who.a v0.who.n v0.who.c] 36)) (t := boxT w3.heap.size #[.slice v0.l.a v0.l.n v0.l.c, .int .i64 v0.c, .int .i64 (v0.n : Int), .int .i64 (v0.u : Int), .slice v0.rows.a v0.rows.n v0.rows.c, .slice v0.held.a v0.held.n v0.held.c, .slice v0.holds.a v0.holds.n v0.holds.c, .slice v0.done.a v0.done.n v0.done.c, .int .i64 (v0.st : Int), .int .i64 (v0.nx : Int), .slice v0.who.a v0.who.n v0.who.c]) ((Below.refl _ _).alloc (Nat.le_refl _) _) (Is.made _ _ _ rfl) (fun k hk => by cases hk; exact Nat.le_refl _)); clear hb3 hp3))
    | (go_at_call 9; go_must ((with_reducible refine (AD.out _ _ _ _ H3).mono ?_); rintro e w4 ⟨rfl, H4⟩))
    | (go_at_call 10; go_must ((with_reducible refine (RN.out _ _ _ _ H4).mono ?_); rintro e w5 ⟨rfl, H5⟩; obtain ⟨⟨c0, c1', c2, c3', c4, c5, c6, c7, c8, c9, c10⟩, _⟩ := Is.eleven (show Is w5 w3.heap.size #[.slice v0.l.a v0.l.n v0.l.c, .int .i64 v0.c, .int .i64 (v0.n : Int), .int .i64 (v0.u : Int), .slice v0.rows.a v0.rows.n v0.rows.c, .slice v0.held.a v0.held.n v0.held.c, .slice v0.holds.a v0.holds.n v0.holds.c, .slice v0.done.a v0.done.n v0.done.c, .int .i64 (v0.st : Int), .int .i64 (v0.nx : Int), .slice v0.who.a v0.who.n v0.who.c] from H5.out.kn.get (t := boxT w3.heap.size _) (by simp)); have K5 : Hid (RPA (fun _ => False) w5 v0 L cn 0 (newS 0 r)) := hide (fun W ho => (show (pT a1 c1 L cn 0 (newS 0 r) v0 w2.heap.size w3.heap.size).P w5 from H5.out.kn.get (by simp)).2 W (ho.mono (fun k q => q.elim)) (R1.out.keep (H5.out.below.only ho (fun k q => q.elim) H5.out.below.size)))))
    | (go_at_call 13; go_must ((with_reducible refine (RAD.out _ _ K5 H5.out.below).mono ?_); rintro e w6 ⟨v6, rfl, hp6, hb6⟩))
    | (go_at_call 12; go_must ((with_reducible refine (RRN.out _ _ hp6).mono ?_); rintro e w7 ⟨v7, rfl, hp7, hb7⟩)))
  obtain ⟨ub, hub⟩ : ∃ ub, ub = w7.heap.size := ⟨_, rfl⟩
  have K0 : Hid (PlK w p sb ub L cn n' s' v7 (DqI.noT :: boxT w3.heap.size #[.slice v0.l.a v0.l.n v0.l.c, .int .i64 v0.c, .int .i64 (v0.n : Int), .int .i64 (v0.u : Int), .slice v0.rows.a v0.rows.n v0.rows.c, .slice v0.held.a v0.held.n v0.held.c, .slice v0.holds.a v0.holds.n v0.holds.c, .slice v0.done.a v0.done.n v0.done.c, .int .i64 (v0.st : Int), .int .i64 (v0.nx : Int), .slice v0.who.a v0.who.n v0.who.c] :: [pT a1 c1 L cn 0 (newS 0 r) v0 w2.heap.size w3.heap.size]) (w7.alloc (.cells #[.slice v7.l.a v7.l.n v7.l.c, .int .i64 v7.c, .int .i64 (v7.n : Int), .int .i64 (v7.u : Int), .slice v7.rows.a v7.rows.n v7.rows.c, .slice v7.held.a v7.held.n v7.held.c, .slice v7.holds.a v7.holds.n v7.holds.c, .slice v7.done.a v7.done.n v7.done.c, .int .i64 (v7.st : Int), .int .i64 (v7.nx : Int), .slice v7.who.a v7.who.n v7.who.c] 36))) := hide ⟨H5.out.keep ((hb6.trans (hb7.mono hb6.size)).alloc (Nat.le_trans hb6.size hb7.size) _), hp7.out.rp.keep ((Below.refl _ _).alloc (Nat.le_refl _) _), Is.made _ _ _ hub⟩
  rw [← hub]
  refine gen_pl K0.out ?_
  intro W KW
  obtain ⟨B, hB⟩ : ∃ B, B = bornL s'.ks := ⟨_, rfl⟩
  obtain ⟨lf, hlf⟩ : ∃ lf, lf = leftL s'.ks := ⟨_, rfl⟩
  have ks := HC.out.small
  have hwn := KW.out.rp.who.1
  have hdz := KW.out.rp.done.1
  have hsz := KW.out.rp.num.1
  have hnz := KW.out.rp.scr.2.1
  have hlb := HC.out.left
  have hwt : waitL s'.ks ≤ leftL s'.ks := Nat.le_add_right _ _
  have HWL : Hid (s'.who.length ≤ 1000000) := hide (by omega)
  have HWN := hide hwn
  have HDZ : Hid ((v7.done.n : Int) = ((s'.dn.length : Nat) : Int)) := hide (by omega)
  have HSZ : Hid ((v7.st : Int) = ((s'.st : Nat) : Int)) := hide (by omega)
  have HNZ : Hid ((v7.n : Int) = ((n' : Nat) : Int)) := hide (by omega)
  have HLZ : Hid ((lf : Int) = ((leftL s'.ks : Nat) : Int)) := hide (by omega)
  have HWT : Hid (waitL s'.ks ≤ 1000000) := hide (by omega)
  have SM : Hid (∀ W a c, RowI W a c s'.who → RowI W v7.who.a v7.who.c s'.who → Calls Tryz.prog 14 #[.slice a v7.who.n c, .slice v7.who.a v7.who.n v7.who.c] W fun e w' => e = .returned (.bool true) ∧ Below W.heap.size W w') := hide (fun W a c q1 q2 => by rw [hwn]; exact same_rows a v7.who.a c v7.who.c s'.who s'.who W (row_v q1) (row_v q2) rfl)
  have BR : Hid (∀ W, RP W v7 L cn n' s' → Calls Tryz.prog 20 #[.agg #[.slice v7.l.a v7.l.n v7.l.c, .int .i64 v7.c, .int .i64 (v7.n : Int), .int .i64 (v7.u : Int), .slice v7.rows.a v7.rows.n v7.rows.c, .slice v7.held.a v7.held.n v7.held.c, .slice v7.holds.a v7.holds.n v7.holds.c, .slice v7.done.a v7.done.n v7.done.c, .int .i64 (v7.st : Int), .int .i64 (v7.nx : Int), .slice v7.who.a v7.who.n v7.who.c]] W fun e w' => e = .returned (.int .i64 (B : Int)) ∧ Below W.heap.size W w') := hide (fun W q => by rw [hB]; exact rborn_any (hide q) (by have := HC.out.len; have := HST.out.len; omega) HC.out.sum HC.out.all)
  have gL : (N : Int) - (v7.done.n : Int) - (B : Int) = (lf : Int) := by omega
  have b1 : N ≤ 780 := hN780
  have b2 : v7.done.n ≤ 1000 := by omega
  have b3 : B ≤ 1000 := by omega
  have b4 : lf ≤ 1000 := by omega
  have y1 : IntKind.i64.wrap (N : Int) = N := IntWalk.i64_in _ (by omega)
  have y2 : IntKind.i64.wrap ((N : Int) - (v7.done.n : Int)) = (N : Int) - (v7.done.n : Int) := IntWalk.i64_in _ (by omega)
  have y3 : IntKind.i64.wrap ((N : Int) - (v7.done.n : Int) - (B : Int)) = (N : Int) - (v7.done.n : Int) - (B : Int) := IntWalk.i64_in _ (by omega)
  have y4 : IntKind.i64.wrap (lf : Int) = (lf : Int) := IntWalk.i64_in _ (by omega)
  have hll : ((lf : Int) == (lf : Int)) = true := by simp
  have K := hide (KW.out.keep (w' := W.drew) ((Below.refl _ _).drew))
  obtain ⟨⟨s0, s1, s2, s3, s4, s5, s6, s7, s8, s9, s10⟩, _⟩ := KW.out.box.eleven
  clear K0 hB hlf ks hwn hdz hsz hnz hlb hwt hub hb6 hb7 hp6 hp7 H5 K5 c0 c1' c2 c3' c4 c5 c6 c7 c8 c9 c10 H4 H3 H2 RW P1 N0 RN AD RAD RRN HF hN
  go_region_held3 (fun w' : World => (w'.cell? ⟨ub, 0, none⟩ = some (.slice v7.l.a v7.l.n v7.l.c) ∧ w'.cell? ⟨ub, 1, none⟩ = some (.int .i64 v7.c) ∧ w'.cell? ⟨ub, 2, none⟩ = some (.int .i64 (v7.n : Int)) ∧ w'.cell? ⟨ub, 3, none⟩ = some (.int .i64 (v7.u : Int)) ∧ w'.cell? ⟨ub, 4, none⟩ = some (.slice v7.rows.a v7.rows.n v7.rows.c) ∧ w'.cell? ⟨ub, 5, none⟩ = some (.slice v7.held.a v7.held.n v7.held.c) ∧ w'.cell? ⟨ub, 6, none⟩ = some (.slice v7.holds.a v7.holds.n v7.holds.c) ∧ w'.cell? ⟨ub, 7, none⟩ = some (.slice v7.done.a v7.done.n v7.done.c) ∧ w'.cell? ⟨ub, 8, none⟩ = some (.int .i64 (v7.st : Int)) ∧ w'.cell? ⟨ub, 9, none⟩ = some (.int .i64 (v7.nx : Int)) ∧ w'.cell? ⟨ub, 10, none⟩ = some (.slice v7.who.a v7.who.n v7.who.c))) (first | (with_reducible exact ⟨by assumption, by assumption, by assumption, by assumption, by assumption, by assumption, by assumption, by assumption, by assumption, by assumption, by assumption⟩) | go_keep) (first
    | (go_at_call 15; (with_reducible refine (DqI.whoP (hide K.out.pl) HWL.out (m := v7.who.n) HWN.out).mono ?_); go_must (rintro e w6 ⟨aw, cw, rfl, HW, HPL, HB6⟩; replace K := hide (K.out.keep HB6.out); have HWR := hide HW.out.1; clear HW HPL HB6 s0 s1 s2 s3 s4 s5 s6 s7 s8 s9 s10; obtain ⟨⟨s0, s1, s2, s3, s4, s5, s6, s7, s8, s9, s10⟩, _⟩ := K.out.box.eleven))
    | (go_at_call 14; (with_reducible refine (SM.out _ _ _ HWR.out K.out.rp.who.2).mono ?_); go_must (rintro e w6 ⟨rfl, hb6⟩; replace K := hide (K.out.keep hb6); clear hb6 HWR s0 s1 s2 s3 s4 s5 s6 s7 s8 s9 s10; obtain ⟨⟨s0, s1, s2, s3, s4, s5, s6, s7, s8, s9, s10⟩, _⟩ := K.out.box.eleven))
    | (go_at_call 16; (with_reducible refine (DqI.doneP (hide K.out.pl) (z := (v7.done.n : Int)) HDZ.out).mono ?_); go_must (rintro e w6 ⟨rfl, rfl⟩))
    | (go_at_call 17; (with_reducible refine (DqI.stolenP (hide K.out.pl) (z := (v7.st : Int)) HSZ.out).mono ?_); go_must (rintro e w6 ⟨rfl, rfl⟩))
    | (go_at_call 18; (with_reducible refine (DqI.leftP (hide K.out.pl) HWT.out (z := (lf : Int)) HLZ.out).mono ?_); go_must (rintro e w6 ⟨rfl, rfl⟩))
    | (go_at_call 19; (first | (with_reducible refine (JN.out _).mono ?_) | (with_reducible refine (JB.out _ K.out.below).mono ?_)); go_must (rintro e w6 ⟨rfl, rfl⟩))
    | (go_at_call 20; (with_reducible refine (BR.out _ K.out.rp).mono ?_); go_must (rintro e w6 ⟨rfl, hb6⟩; replace K := hide (K.out.keep hb6); clear hb6 s0 s1 s2 s3 s4 s5 s6 s7 s8 s9 s10; obtain ⟨⟨s0, s1, s2, s3, s4, s5, s6, s7, s8, s9, s10⟩, _⟩ := K.out.box.eleven))
    | (go_at_call 21; (with_reducible refine (DqI.stepsP (hide K.out.pl) (z := (v7.n : Int)) HNZ.out).mono ?_); go_must (rintro e w6 ⟨rfl, rfl⟩))
    | (go_at_call 5; (with_reducible refine (works10_any _).mono ?_); go_must (rintro e w6 ⟨rfl, hb6⟩; replace K := hide (K.out.keep hb6); clear hb6 s0 s1 s2 s3 s4 s5 s6 s7 s8 s9 s10; obtain ⟨⟨s0, s1, s2, s3, s4, s5, s6, s7, s8, s9, s10⟩, _⟩ := K.out.box.eleven)))
  go_simp
  go_wp2
  go_ret
  exact ⟨rfl, K.out.below⟩
theorem walk_poolPlays (w : World) (wk : Int) (hwk : (Lit.int .i64 wk).wf = true) (a1 : Option Addr) (n1 c1 : Nat) (z1 : List Int) (h1 : Frame.IsRow .i64 w a1 n1 c1 z1) (cn : Int) (hcn : (Lit.int .i64 cn).wf = true) (a3 : Option Addr) (n3 c3 : Nat) (z3 : List Int) (h3 : Frame.IsRow .i64 w a3 n3 c3 z3) :
    Calls Tryz.prog 3 #[.int .i64 wk, .slice a1 n1 c1, .int .i64 cn, .slice a3 n3 c3] w fun e w' => e = .returned (.bool true) ∧ Below w.heap.size w w' := by
  have m1 := h1.cap
  have m3 := h3.cap
  by_cases hb : 300 < n1
  · exact plays_big w wk cn a1 a3 n1 c1 n3 c3 hb (by omega)
  by_cases hb3 : 20 < n3
  · exact plays_many w wk cn a1 a3 n1 c1 n3 c3 (by omega) (few_big a3 n3 c3 hb3 (by omega) w)
  obtain ⟨L, e1, r1⟩ := h1.rowi (by omega)
  obtain ⟨js, e3, r3⟩ := h3.rowi (by omega)
  cases hfew : fewB js with
  | false => exact plays_many w wk cn a1 a3 n1 c1 n3 c3 (by omega) (by have := few_any r3 e3 (by omega); rw [hfew] at this; exact this)
  | true =>
    obtain ⟨hj20, hsm⟩ := fewB_iff.1 hfew
    have hf := few_any r3 e3 (by omega)
    rw [hfew] at hf
    by_cases hw : wk < 1 ∨ 64 < wk
    · exact plays_bad w wk cn a1 a3 n1 c1 n3 c3 (by omega) hf r1 e1 hw
    · obtain ⟨r, rfl⟩ : ∃ r : Nat, wk = r := ⟨wk.toNat, by omega⟩
      exact plays_ok w r cn a1 a3 n1 c1 n3 c3 (by omega) r1 e1 r3 e3 (by omega) hsm hf (by omega) (by omega)
end Go.Proofs.YtkjhamcmhijhgaaGreat.Walk
