/- PicksSteps, walked. -/
import Derived.Test.YtjdcmeclmaljeaaPickEnv
import Derived.Test.YtjdcmeclmaljeaaRowArg
import Derived.Test.YtjdcmeclmaljeaaLists
import Derived.Deep.RegionHeld3
namespace Go.Proofs.Ytjdcmeclmaljeaa.Walk
open Go.RowKit Go.Proofs.Ytjdcmeclmaljeaa.Dig Go.Proofs.Ytjdcmeclmaljeaa.Mem Go.Proofs.Ytjdcmeclmaljeaa.Dq Go.Proofs.Ytjdcmeclmaljeaa.Thing Go.Proofs.Ytjdcmeclmaljeaa.Pick Go.Proofs.Ytjdcmeclmaljeaa.Sets
set_option linter.unusedVariables false
set_option linter.unusedSimpArgs false

/-- Row i of the argument, in whatever world behind. -/
theorem lists_row {w : World} {a : Option Addr} {n p : Nat} {ls : List (List Int)} (h : ListsAt (fun b => b < w.heap.size) w (.slice a n p) ls) {i : Nat} (hi : i < n) :
    ∃ b off la lc l, a = some ⟨b, off, none⟩ ∧ (∀ w', Below w.heap.size w w' → w'.cell? ⟨b, off + i, none⟩ = some (.slice la (List.length l) lc) ∧ (List.length l ≤ 1000 → RowI w' la lc l)) ∧ List.length l ≤ 9223372036854775807 := by
  obtain ⟨a', c', e, q1, q2⟩ := h.shape
  injection e with e1 e2 e3
  subst e2
  obtain ⟨b, off, la, lc, ea, hc, hl, hm⟩ := h.at hi
  have hb := lt_of_cell hc
  refine ⟨b, off, la, lc, ls.getD i [], ea, fun w' ho => ⟨(ho.cell (p := ⟨b, off + i, none⟩) hb).trans hc, fun hle => (hl.row (by omega)).keep ho⟩, by unfold maxLen at hm; omega⟩
section
variable {w wx w' : World} {b n : Nat} {L : List Int} {c : Int} {ts : List Th} {q : Nat} {u0 u1 u2 u3 : Value}
theorem scells (h : SE w b L c n (boxT q #[u0, u1, u2, u3] :: ts) wx) : (wx.cell? ⟨q, 0, none⟩ = some u0 ∧ wx.cell? ⟨q, 1, none⟩ = some u1 ∧ wx.cell? ⟨q, 2, none⟩ = some u2 ∧ wx.cell? ⟨q, 3, none⟩ = some u3) ∧
    wx.frozen? ⟨q, 0, none⟩ = false ∧ wx.frozen? ⟨q, 1, none⟩ = false ∧ wx.frozen? ⟨q, 2, none⟩ = false ∧ wx.frozen? ⟨q, 3, none⟩ = false :=
  Is.four (show Is wx q #[u0, u1, u2, u3] from h.kn.hd)
theorem SE4 (h : SE w b L c n (boxT q #[u0, u1, u2, u3] :: ts) wx) (v0 v1 v2 v3 : Value) : SE w b L c n (boxT q #[v0, v1, v2, v3] :: ts) ((((wx.setCell ⟨q, 0, none⟩ v0).setCell ⟨q, 1, none⟩ v1).setCell ⟨q, 2, none⟩ v2).setCell ⟨q, 3, none⟩ v3) :=
  h.turn (t' := boxT q #[v0, v1, v2, v3]) (((((show Is wx q #[u0, u1, u2, u3] from h.kn.hd).set 0 v0).set 1 v1).set 2 v2).set 3 v3) (((((Only.refl _ _).put 0 v0).put 1 v1).put 2 v2).put 3 v3) (fun k hk => .inl hk)
theorem far4 {w : World} {u b i : Nat} {v : Value} (h : w.cell? ⟨b, i, none⟩ = some v) (hb : ¬ b = u) (v0 v1 v2 v3 : Value) : ((((w.setCell ⟨u, 0, none⟩ v0).setCell ⟨u, 1, none⟩ v1).setCell ⟨u, 2, none⟩ v2).setCell ⟨u, 3, none⟩ v3).cell? ⟨b, i, none⟩ = some v :=
  (((((Only.refl (fun k => k = u) w).put 0 v0).put 1 v1).put 2 v2).put 3 v3).cell h hb
/-- A copy of the struct lies beside, and the law's own is turned. -/
theorem SEstep (h : SE w b L c n (boxT q #[u0, u1, u2, u3] :: ts) wx) (o : Obj) (v0 v1 v2 v3 : Value) : SE w b L c n (boxT q #[v0, v1, v2, v3] :: ts) (((((wx.setCell ⟨q, 0, none⟩ v0).setCell ⟨q, 1, none⟩ v1).setCell ⟨q, 2, none⟩ v2).setCell ⟨q, 3, none⟩ v3).alloc o) :=
  SE.keep (SE4 h v0 v1 v2 v3) ((Below.refl _ _).alloc (Nat.le_refl _) _)
theorem gen_se {W : World} {code : Code} {Q : Exit → Act → World → Prop} {a : Act} (h : SE w b L c n ts W) (k : ∀ W, Hid (SE w b L c n ts W) → code.wp Try.prog Q a W) : code.wp Try.prog Q a W := k W h
end
abbrev rcs (a : Option Addr) (m p : Nat) (c : Int) (n u : Nat) : Array Value := #[.slice a m p, .int .i64 c, .int .i64 (n : Int), .int .i64 (u : Int)]
def StR (w : World) (b qb : Nat) (a : Option Addr) (n p : Nat) (L : List Int) (c : Int) (m : Nat) (kv : Value) (wr : World) : Prop := ∃ k N u : Nat, k ≤ m ∧ N ≤ k ∧ kv = .int .i64 (k : Int) ∧ Hid (u = min N n) ∧ Hid (SE w b L c N [boxT qb (rcs a n p c N u)] wr)
set_option maxHeartbeats 4000000 in
set_option maxRecDepth 20000 in
theorem walk_picksSteps (w : World) (a : Option Addr) (n p : Nat) (zs : List Int) (ha : Frame.IsRow .i64 w a n p zs) (c : Int) (hc : (Lit.int .i64 c).wf = true) (a2 : Option Addr) (m p2 : Nat) (ls : List (List Int)) (hls : ListsAt (fun b => b < w.heap.size) w (.slice a2 m p2) ls) :
    Calls Try.prog 3 #[.slice a n p, .int .i64 c, .slice a2 m p2] w fun e w' => e = .returned (.bool true) ∧ Below w.heap.size w w' := by
  by_cases h1 : 100 < n
  · have g1 : (100 : Int) < n := by omega
    clear ha hls
    go_enter Try.func3, Try.ntmps3
    go_wp2_with (go_at_call 7; go_must ((with_reducible refine (works9_any _).mono ?_); rintro e w1 ⟨rfl, hb1⟩))
    go_ret
    exact ⟨rfl, hb1⟩
  by_cases h2 : 100 < m
  · have g1 : ¬ (100 : Int) < n := by omega
    have g2 : (100 : Int) < m := by omega
    clear ha hls
    go_enter Try.func3, Try.ntmps3
    go_wp2_with (go_at_call 7; go_must ((with_reducible refine (works9_any _).mono ?_); rintro e w1 ⟨rfl, hb1⟩))
    go_ret
    exact ⟨rfl, hb1⟩
  obtain ⟨L, hL, hr⟩ := ha.rowi (by omega)
  have g1 : ¬ (100 : Int) < n := by omega
  have g2 : ¬ (100 : Int) < m := by omega
  have N0 := hide (newE (hide (Kn.start w)) hr hL (by omega) c)
  have HLS := hide (fun i (hi : i < m) => lists_row hls hi)
  have HR := hide hr
  have HL := hide hL
  clear ha hls hr hL hc
  go_enter Try.func3, Try.ntmps3
  go_wp2_with (go_at_call 8; go_must ((with_reducible refine (Hid.out N0).mono ?_); rintro e w1 ⟨b, rfl, H1⟩))
  obtain ⟨qb, hqb⟩ : ∃ qb, qb = w1.heap.size := ⟨_, rfl⟩
  have M0 : Hid (StR w b qb a n p L c m (.int .i64 0) (w1.alloc (.cells #[.slice a n p, .int .i64 c, .int .i64 0, .int .i64 0] 28))) := hide
    ⟨0, 0, 0, by omega, by omega, rfl, hide (by omega), hide (H1.out.more (t := boxT qb (rcs a n p c 0 0)) ((Below.refl _ _).alloc (Nat.le_refl _) _) (Is.made _ _ _ hqb) (fun k hk => by cases hk; omega))⟩
  rw [← hqb]
  generalize (w1.alloc (.cells #[.slice a n p, .int .i64 c, .int .i64 0, .int .i64 0] 28)) = W0 at *
  clear N0 H1 hqb
  go_loopw [9] (fun i wr => StR w b qb a n p L c m i wr) (fun i _ => m - (intOf i).toNat)
  case atStart => exact M0.out
  case round =>
    obtain ⟨k, N, u, hk, hN, rfl, HU, HE⟩ := hrel
    clear M0
    by_cases hlt : k < m
    · have hli : (k : Int) < m := by omega
      obtain ⟨lb, lo, la, lc, l, rfl, hrow, hle⟩ := HLS.out k hlt
      obtain ⟨hc0, hr0⟩ := hrow wr HE.out.below
      obtain ⟨ln, hln⟩ : ∃ ln, ln = l.length := ⟨_, rfl⟩
      rw [← hln] at hc0
      have HLN := hide hln
      by_cases hbig : 20 < ln
      · have g3 : (20 : Int) < ln := by omega
        have HB := hide HE.out.below
        clear hrow hr0 hln HE hle
        go_wp2_with (go_at_call 7; go_must ((with_reducible refine (works9_any _).mono ?_); rintro e w9 ⟨rfl, hb9⟩))
        go_ret
        exact ⟨rfl, HB.out.trans (hb9.mono HB.out.size)⟩
      · have g3 : ¬ (20 : Int) < ln := by omega
        obtain ⟨x, er, N', hs⟩ := StepIs.ex L c N l
        obtain ⟨j1, j2⟩ := hs.le
        obtain ⟨u', hu'⟩ : ∃ u', u' = min N' n := ⟨_, rfl⟩
        have P := hide (stepE HE (by omega) hln (by omega) (hr0 (by omega)) hs)
        have R : Hid (∀ W, Below w.heap.size w W → Calls Try.prog 10 #[.agg (rcs a n p c N u), .slice la ln lc] W fun r w' => r = .returned (.tuple #[.agg (rcs a n p c N' u'), .int .i64 x, .int .i64 er]) ∧ Below W.heap.size W w') := hide (fun W ho =>
          rstep_any W (by omega) HL.out (by omega) (HR.out.keep ho) hln (by omega) ((hrow W ho).2 (by omega)) hs HU.out hu')
        have HRW := hide hrow
        have HU' := hide hu'
        have hxx : (x != x) = false := by simp
        have hee : (er != er) = false := by simp
        clear hrow hr0 hln HE hle hs hu'
        go_wp2_with (go_at_call 9; go_must ((with_reducible refine (Hid.out P).mono ?_); rintro e w3 ⟨rfl, H3⟩; obtain ⟨⟨p0, p1, p2', p3⟩, pf⟩ := scells H3.out; obtain ⟨f3, _⟩ := HRW.out w3 H3.out.below; rw [← HLN.out] at f3))
        clear P hc0
        have HD := hide ((Hid.out R) w3.drew (H3.out.below.drew))
        have HA := hide ((Hid.out R) (w3.alloc (.cells #[.slice none 0 0, .int .i64 0, .int .i64 0, .int .i64 0] 28)).drew ((H3.out.below.alloc H3.out.below.size _).drew))
        have KD := hide (H3.out.keep (w' := w3.drew) ((Below.refl _ _).drew))
        have KA := hide (((H3.out.more (t := boxT w3.heap.size #[.slice none 0 0, .int .i64 0, .int .i64 0, .int .i64 0]) (w' := w3.alloc (.cells #[.slice none 0 0, .int .i64 0, .int .i64 0, .int .i64 0] 28)) ((Below.refl _ _).alloc (Nat.le_refl _) _) (Is.made w3 _ 28 rfl) (fun j hj => Nat.le_of_eq hj.symm))).keep (w' := (w3.alloc (.cells #[.slice none 0 0, .int .i64 0, .int .i64 0, .int .i64 0] 28)).drew) ((Below.refl _ _).drew))
        have HRB := hide (fun W (ho : Below w.heap.size w W) => (HRW.out W ho).1)
        rw [← HLN.out] at HRB
        clear R HRW
        go_region_held3 (fun w' => w'.cell? ⟨qb, 0, none⟩ = some (.slice a n p) ∧ w'.cell? ⟨qb, 1, none⟩ = some (.int .i64 c) ∧ w'.cell? ⟨qb, 2, none⟩ = some (.int .i64 (N : Int)) ∧ w'.cell? ⟨qb, 3, none⟩ = some (.int .i64 (u : Int)) ∧ w'.cell? ⟨lb, lo + k, none⟩ = some (.slice la ln lc)) (first | (with_reducible exact ⟨by assumption, by assumption, by assumption, by assumption, by assumption⟩) | exact ⟨far4 s0 hqu _ _ _ _, far4 s1 hqu _ _ _ _, far4 s2 hqu _ _ _ _, far4 s3 hqu _ _ _ _, far4 s4 hbu _ _ _ _⟩ | go_keep) (first
          | (go_at_call 10; (with_reducible refine (Hid.out HD).mono ?_); go_must (rintro e w4 ⟨rfl, hb4⟩; have H4 := hide (KD.out.keep hb4); obtain ⟨⟨s0, s1, s2, s3⟩, t0, t1, t2, t3⟩ := scells H4.out; have hqs := lt_of_cell s0; have s4 := HRB.out w4 H4.out.below; clear HA HD KA KD hb4))
          | (go_at_call 10; (with_reducible refine (Hid.out HA).mono ?_); go_must (rintro e w4 ⟨rfl, hb4⟩; have H4 := hide (SE.perm (KA.out.keep hb4) (List.Perm.swap _ _ _)); obtain ⟨⟨s0, s1, s2, s3⟩, t0, t1, t2, t3⟩ := scells H4.out; have hqs := lt_of_cell s0; have s4 := HRB.out w4 H4.out.below; obtain ⟨⟨v0, v1, v2, v3⟩, y0, y1, y2, y3⟩ := Is.four (show Is w4 w3.heap.size #[.slice none 0 0, .int .i64 0, .int .i64 0, .int .i64 0] from H4.out.kn.tail.hd); have hqu : ¬ qb = w3.heap.size := Nat.ne_of_lt (lt_of_cell p0); have hbu : ¬ lb = w3.heap.size := Nat.ne_of_lt (lt_of_cell f3); generalize hub : w3.heap.size = ub at v0 v1 v2 v3 y0 y1 y2 y3 hqu hbu H4 ⊢; clear HA HD KA KD p0 p1 p2' p3 pf f3 hub hb4)))
        · go_simp
          go_wp2_with fail
          refine gen_se (SEstep H4.out _ _ _ _ _) ?_
          intro W5 H5
          obtain ⟨⟨s0, s1, s2, s3⟩, _⟩ := scells H5.out
          have K := hide (H5.out.keep (w' := W5.drew) ((Below.refl _ _).drew))
          obtain ⟨d, hd⟩ : ∃ d, over c N' = d := ⟨_, rfl⟩
          have HD2 := hide hd
          have hdd : (d != d) = false := by cases d <;> rfl
          have HUI : Hid ((u' : Int) = ((min N' L.length : Nat) : Int)) := hide (by rw [HU'.out, HL.out])
          clear hd H5
          go_region_held3 (fun w' => w'.cell? ⟨qb, 0, none⟩ = some (.slice a n p) ∧ w'.cell? ⟨qb, 1, none⟩ = some (.int .i64 c) ∧ w'.cell? ⟨qb, 2, none⟩ = some (.int .i64 (N' : Int)) ∧ w'.cell? ⟨qb, 3, none⟩ = some (.int .i64 (u' : Int))) (first | (with_reducible exact ⟨by assumption, by assumption, by assumption, by assumption⟩) | go_keep) (first
          | (go_at_call 11; (with_reducible refine (stepsE K (z := (N' : Int)) rfl).mono ?_); go_must (rintro e w6 ⟨rfl, rfl⟩))
          | (go_at_call 12; (with_reducible refine (usedE K (z := (u' : Int)) (Hid.out HUI)).mono ?_); go_must (rintro e w6 ⟨rfl, q6, hw6⟩; have K6 := K.out.drewN q6; rw [← hw6] at K6; replace K := hide K6; clear K6 hw6; obtain ⟨⟨s0, s1, s2, s3⟩, _⟩ := scells K.out))
          | (go_at_call 13; (with_reducible refine (overE K (d := d) (Hid.out HD2).symm).mono ?_); go_must (rintro e w6 ⟨rfl, q6, hw6⟩; have K6 := K.out.drewN q6; rw [← hw6] at K6; replace K := hide K6; clear K6 hw6; obtain ⟨⟨s0, s1, s2, s3⟩, _⟩ := scells K.out))
          | (go_at_call 14; (with_reducible refine (rover_any _ a n p c N' u' (Hid.out HD2)).mono ?_); go_must (rintro e w6 ⟨rfl, hb6⟩; replace K := hide (K.out.keep hb6); clear hb6; obtain ⟨⟨s0, s1, s2, s3⟩, _⟩ := scells K.out))
          | (go_at_call 7; (with_reducible refine (works9_any _).mono ?_); go_must (rintro e w6 ⟨rfl, hb6⟩; replace K := hide (K.out.keep hb6); clear hb6; obtain ⟨⟨s0, s1, s2, s3⟩, _⟩ := scells K.out)))
          go_simp
          go_wp2
          go_roundw
          case rel => exact ⟨k + 1, N', u', by omega, by omega, by simp, HU', K⟩
          case measure => simp [intOf]; omega
        · go_simp
          go_wp2_with fail
          refine gen_se (SE4 (SE.perm (SE4 (SE.perm H4.out (List.Perm.swap _ _ _)) _ _ _ _) (List.Perm.swap _ _ _)) _ _ _ _) ?_
          intro W5 H5
          obtain ⟨⟨s0, s1, s2, s3⟩, _⟩ := scells H5.out
          have K := hide (H5.out.keep (w' := W5.drew) ((Below.refl _ _).drew))
          obtain ⟨d, hd⟩ : ∃ d, over c N' = d := ⟨_, rfl⟩
          have HD2 := hide hd
          have hdd : (d != d) = false := by cases d <;> rfl
          have HUI : Hid ((u' : Int) = ((min N' L.length : Nat) : Int)) := hide (by rw [HU'.out, HL.out])
          clear hd H5
          go_region_held3 (fun w' => w'.cell? ⟨qb, 0, none⟩ = some (.slice a n p) ∧ w'.cell? ⟨qb, 1, none⟩ = some (.int .i64 c) ∧ w'.cell? ⟨qb, 2, none⟩ = some (.int .i64 (N' : Int)) ∧ w'.cell? ⟨qb, 3, none⟩ = some (.int .i64 (u' : Int))) (first | (with_reducible exact ⟨by assumption, by assumption, by assumption, by assumption⟩) | go_keep) (first
          | (go_at_call 11; (with_reducible refine (stepsE K (z := (N' : Int)) rfl).mono ?_); go_must (rintro e w6 ⟨rfl, rfl⟩))
          | (go_at_call 12; (with_reducible refine (usedE K (z := (u' : Int)) (Hid.out HUI)).mono ?_); go_must (rintro e w6 ⟨rfl, q6, hw6⟩; have K6 := K.out.drewN q6; rw [← hw6] at K6; replace K := hide K6; clear K6 hw6; obtain ⟨⟨s0, s1, s2, s3⟩, _⟩ := scells K.out))
          | (go_at_call 13; (with_reducible refine (overE K (d := d) (Hid.out HD2).symm).mono ?_); go_must (rintro e w6 ⟨rfl, q6, hw6⟩; have K6 := K.out.drewN q6; rw [← hw6] at K6; replace K := hide K6; clear K6 hw6; obtain ⟨⟨s0, s1, s2, s3⟩, _⟩ := scells K.out))
          | (go_at_call 14; (with_reducible refine (rover_any _ a n p c N' u' (Hid.out HD2)).mono ?_); go_must (rintro e w6 ⟨rfl, hb6⟩; replace K := hide (K.out.keep hb6); clear hb6; obtain ⟨⟨s0, s1, s2, s3⟩, _⟩ := scells K.out))
          | (go_at_call 7; (with_reducible refine (works9_any _).mono ?_); go_must (rintro e w6 ⟨rfl, hb6⟩; replace K := hide (K.out.keep hb6); clear hb6; obtain ⟨⟨s0, s1, s2, s3⟩, _⟩ := scells K.out)))
          go_simp
          go_wp2
          go_roundw
          case rel => exact ⟨k + 1, N', u', by omega, by omega, by simp, HU', hide (K.out.sub (List.sublist_append_left [_] [_]))⟩
          case measure => simp [intOf]; omega
    · have hge : ¬ (k : Int) < m := by omega
      obtain ⟨⟨s0, s1, s2, s3⟩, _⟩ := scells HE.out
      have K := hide (HE.out.keep (w' := wr.drew) ((Below.refl _ _).drew))
      obtain ⟨d, hd⟩ : ∃ d, over c N = d := ⟨_, rfl⟩
      have HD2 := hide hd
      have hdd : (d == d) = true := by cases d <;> rfl
      have HUI : Hid ((u : Int) = ((min N L.length : Nat) : Int)) := hide (by rw [HU.out, HL.out])
      clear hd HE
      go_wp2
      go_region_held3 (fun w' => w'.cell? ⟨qb, 0, none⟩ = some (.slice a n p) ∧ w'.cell? ⟨qb, 1, none⟩ = some (.int .i64 c) ∧ w'.cell? ⟨qb, 2, none⟩ = some (.int .i64 (N : Int)) ∧ w'.cell? ⟨qb, 3, none⟩ = some (.int .i64 (u : Int))) (first | (with_reducible exact ⟨by assumption, by assumption, by assumption, by assumption⟩) | go_keep) (first
      | (go_at_call 11; (with_reducible refine (stepsE K (z := (N : Int)) rfl).mono ?_); go_must (rintro e w6 ⟨rfl, rfl⟩))
      | (go_at_call 12; (with_reducible refine (usedE K (z := (u : Int)) (Hid.out HUI)).mono ?_); go_must (rintro e w6 ⟨rfl, q6, hw6⟩; have K6 := K.out.drewN q6; rw [← hw6] at K6; replace K := hide K6; clear K6 hw6; obtain ⟨⟨s0, s1, s2, s3⟩, _⟩ := scells K.out))
      | (go_at_call 13; (with_reducible refine (overE K (d := d) (Hid.out HD2).symm).mono ?_); go_must (rintro e w6 ⟨rfl, q6, hw6⟩; have K6 := K.out.drewN q6; rw [← hw6] at K6; replace K := hide K6; clear K6 hw6; obtain ⟨⟨s0, s1, s2, s3⟩, _⟩ := scells K.out))
      | (go_at_call 14; (with_reducible refine (rover_any _ a n p c N u (Hid.out HD2)).mono ?_); go_must (rintro e w6 ⟨rfl, hb6⟩; replace K := hide (K.out.keep hb6); clear hb6; obtain ⟨⟨s0, s1, s2, s3⟩, _⟩ := scells K.out))
      | (go_at_call 7; (with_reducible refine (works9_any _).mono ?_); go_must (rintro e w6 ⟨rfl, hb6⟩; replace K := hide (K.out.keep hb6); clear hb6; obtain ⟨⟨s0, s1, s2, s3⟩, _⟩ := scells K.out)))
      go_simp
      go_wp2
      go_ret
      exact ⟨rfl, K.out.below⟩
end Go.Proofs.Ytjdcmeclmaljeaa.Walk
