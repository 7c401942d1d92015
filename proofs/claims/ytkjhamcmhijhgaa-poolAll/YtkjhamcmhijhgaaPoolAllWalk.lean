/- PoolAll, walked. -/
import Derived.Test.YtkjhamcmhijhgaaAll9
import Derived.Test.YtkjhamcmhijhgaaPoolAllDo
import Derived.Test.YtkjhamcmhijhgaaPoolAllP
import Derived.Test.YtkjhamcmhijhgaaAll14
namespace Go.Proofs.Ytkjhamcmhijhgaa.Walk
open Go.RowKit Go.Proofs.Ytkjhamcmhijhgaa.Dig Go.Proofs.Ytkjhamcmhijhgaa.Mem Go.Proofs.Ytkjhamcmhijhgaa.Dq Go.Proofs.Ytkjhamcmhijhgaa.Thing Go.Proofs.Ytkjhamcmhijhgaa.Pick Go.Proofs.Ytkjhamcmhijhgaa.Sets Go.Proofs.Ytkjhamcmhijhgaa.Pool
set_option linter.unusedVariables false
set_option linter.unusedSimpArgs false

theorem all_big (w : World) (wk : Int) (a1 a3 : Option Addr) (n1 c1 n3 c3 : Nat) (h : 300 < n1) (hm : n1 ≤ 9223372036854775807) : Calls Try.prog 3 #[.int .u8 wk, .slice a1 n1 c1, .slice a3 n3 c3] w fun e w' => e = .returned (.bool true) ∧ Below w.heap.size w w' := by
  have g : (300 : Int) < n1 := by omega
  go_enter Try.func3, Try.ntmps3
  go_wp2_with (go_at_call 7; go_must ((with_reducible refine (works10_any _).mono ?_); rintro e w9 ⟨rfl, hb⟩))
  go_ret
  exact ⟨rfl, hb⟩
theorem all_many (w : World) (wk : Int) (a1 a3 : Option Addr) (n1 c1 n3 c3 : Nat) (h : n1 ≤ 300) (hf : Calls Try.prog 6 #[.slice a3 n3 c3] w fun e w' => e = .returned (.bool false) ∧ w' = w) : Calls Try.prog 3 #[.int .u8 wk, .slice a1 n1 c1, .slice a3 n3 c3] w fun e w' => e = .returned (.bool true) ∧ Below w.heap.size w w' := by
  have g : ¬ (300 : Int) < n1 := by omega
  have HF := hide hf
  clear hf
  go_enter Try.func3, Try.ntmps3
  go_wp2_with (first
    | (go_at_call 6; go_must ((with_reducible refine (Hid.out HF).mono ?_); rintro e w9 ⟨rfl, rfl⟩))
    | (go_at_call 7; go_must ((with_reducible refine (works10_any _).mono ?_); rintro e w9 ⟨rfl, hb⟩)))
  go_ret
  exact ⟨rfl, hb⟩
/-- The two rows of the law's loop. -/
def AllR (js : List Int) (W0 : World) (wv rv kv : Value) (wr : World) : Prop :=
  ∃ (k : Nat) (r : List Int), kv = .int .i64 (k : Int) ∧ Hid (Bfs js k r) ∧ Hid (Kn W0 [ownT W0.heap.size 3 wv k ((r.take k).map (Value.int .i64)), ownT W0.heap.size 3 rv r.length (r.map (Value.int .i64))] wr)
set_option maxHeartbeats 8000000 in
set_option maxRecDepth 20000 in
theorem walk_poolAll (w : World) (wk : Int) (hwk : (Lit.int .u8 wk).wf = true) (a1 : Option Addr) (n1 c1 : Nat) (z1 : List Int) (h1 : Frame.IsRow .i64 w a1 n1 c1 z1) (a3 : Option Addr) (n3 c3 : Nat) (z3 : List Int) (h3 : Frame.IsRow .i64 w a3 n3 c3 z3) :
    Calls Try.prog 3 #[.int .u8 wk, .slice a1 n1 c1, .slice a3 n3 c3] w fun e w' => e = .returned (.bool true) ∧ Below w.heap.size w w' := by
  have m1 := h1.cap
  have m3 := h3.cap
  by_cases hb : 300 < n1
  · exact all_big w wk a1 a3 n1 c1 n3 c3 hb (by omega)
  by_cases hb3 : 20 < n3
  · exact all_many w wk a1 a3 n1 c1 n3 c3 (by omega) (few_big a3 n3 c3 hb3 (by omega) w)
  obtain ⟨L, e1, r1⟩ := h1.rowi (by omega)
  obtain ⟨js, e3, r3⟩ := h3.rowi (by omega)
  cases hfew : fewB js with
  | false => exact all_many w wk a1 a3 n1 c1 n3 c3 (by omega) (by have := few_any r3 e3 (by omega); rw [hfew] at this; exact this)
  | true =>
    obtain ⟨i0, hi, hz0, hz1, hz2⟩ := info_parts Try.infoInt
    obtain ⟨hj20, hsm⟩ := fewB_iff.1 hfew
    have hbw := bounds_u8 hwk
    obtain ⟨wn, rfl⟩ : ∃ wn : Nat, wk = wn := ⟨wk.toNat, by omega⟩
    obtain ⟨q, hq⟩ : ∃ q, q = wn % 64 := ⟨_, rfl⟩
    have hq64 : q < 64 := by rw [hq]; exact Nat.mod_lt _ (by omega)
    have hmod : (wn : Int).tmod 64 = (q : Int) := by rw [hq]; exact DqI.tmod_nat wn 64
    have hST := started (q + 1) (by omega) js hsm
    obtain ⟨s', n', hC⟩ := alls L hST
    have hJL := jobsL_le hsm
    have BF0 := hide (Bfs.start (js := js) (fun x hx => ⟨hsm x hx, r3.wf x hx⟩))
    have BFS := hide (fun k r (h : Bfs js k r) => h.small)
    have BFD := hide (fun r (h : Bfs js r.length r) => h.done)
    obtain ⟨N, hN⟩ : ∃ N, N = jobsL js := ⟨_, rfl⟩
    have hN780 : N ≤ 780 := by omega
    rw [← hN] at BFS BFD
    have HC := hide hC
    have HST := hide hST
    have R1 := hide r1
    have R3 := hide r3
    have E3 := hide e3
    have FEW := hide (few_any r3 e3 (by omega))
    rw [hfew] at FEW
    have N0 := hide (newE (w := w) (wx := w) (hide (Kn.start w)) r1 e1 (by omega) (-1))
    have JB : Hid (∀ wy, Below w.heap.size w wy → Calls Try.prog 14 #[.slice a3 n3 c3] wy fun e w' => e = .returned (.int .i64 (N : Int)) ∧ w' = wy) := hide (fun wy hb => by rw [hN]; exact jobs_any (r3.keep hb) e3 (by omega) hsm)
    have AD : Hid (∀ wy p sb, Hid (DqI.PL w p sb L (-1) 0 (newS 0 (q + 1)) [] wy) → Calls Try.prog 10 #[.pointer (some ⟨p, 0, none⟩), .slice a3 n3 c3] wy fun e w' => e = .returned (.tuple #[]) ∧ Hid (DqI.PL w p sb L (-1) 0 (addL (newS 0 (q + 1)) js) [] w')) := hide (fun wy p sb z => DqI.addP z (by simp [newS]) e3 (by omega) (by rw [(new_sum (0 : Int) (fun _ => 1) (q + 1)).2.2]; omega) (fun W hK => rowE_of (r3.keep hK.below)))
    have RN : Hid (∀ wy p sb, Hid (DqI.PL w p sb L (-1) 0 (addL (newS 0 (q + 1)) js) [] wy) → Calls Try.prog 11 #[.pointer (some ⟨p, 0, none⟩), .func (.func 12) #[] #[.pointer (some ⟨wy.heap.size, 0, none⟩)]] (wy.alloc (.cells #[.slice none 0 0] 22)) fun e w' => e = .returned (.int .i64 0) ∧ ∃ v, Hid (DqI.PL w p sb L (-1) n' s' [doneT w.heap.size wy.heap.size v s'.dn] w')) := hide (fun wy p sb z => by
      have hsz := z.out.below.size
      have hne : Sep (boxT wy.heap.size #[.slice none 0 0]) (ownT w.heap.size 3 (.slice none 0 0) 0 []) := fun k _ h2 => by cases h2
      have z2 : Hid (DqI.PL w p sb L (-1) 0 (addL (newS 0 (q + 1)) js) [doneT w.heap.size wy.heap.size (.slice none 0 0) []] (wy.alloc (.cells #[.slice none 0 0] 22))) := hide (z.out.more ((Below.refl _ _).alloc (Nat.le_refl _) _) ⟨Is.made _ _ _ rfl, World.ownsRow_nil _ _ _ _, hne⟩ (fun k hk => by
        rcases hk with h | h
        · cases h; exact Nat.le_refl _
        · cases h))
      refine (DqI.runP z2 (D := fun dn t => ∃ v, t = doneT w.heap.size wy.heap.size v dn) (by rw [hST.dn]; exact ⟨_, rfl⟩) hST.all jobs1_eq half_small (does_all p wy.heap.size) (mm := 2 * jobsL js + 1) (by rw [hST.todo]; omega) (by rw [hST.dn, hST.st, hST.who]; simp; omega) hC.is).mono ?_
      rintro e w' ⟨rfl, t', h1, h2⟩
      obtain ⟨v, rfl⟩ := h2.out
      exact ⟨rfl, v, h1⟩)
    have g1 : ¬ (300 : Int) < n1 := by omega
    have g3 : (1 : Int) + (q : Int) = ((q + 1 : Nat) : Int) := by omega
    have g5 : IntKind.i64.wrap (wn : Int) = wn := IntWalk.i64_in _ (by omega)
    have G3 := hide g3
    have hq1 : q + 1 ≤ 64 := by omega
    have hjs : js.length ≤ 20 := hj20
    have HJS := hide hjs
    have HE : Hid (n' = 2 * N ∧ leftL s'.ks = 0 ∧ waitL s'.ks ≤ 1000000 ∧ s'.dn.length = N ∧ s'.who.length = 2 * N ∧ ∀ v, cntL v s'.dn = (js.map (allF fun x => if x = v then 1 else 0)).sum) := hide ⟨by rw [hN]; exact hC.steps, hC.left, by have h1 : waitL s'.ks ≤ leftL s'.ks := Nat.le_add_right _ _; have h2 := hC.left; omega, by rw [hN]; exact hC.dn, by rw [hN]; exact hC.who, hC.cnt⟩
    have HSM := hide hsm
    clear h1 h3 m1 m3 hb hb3 e1 r1 r3 e3 hj20 hsm hfew hwk hST hC hJL hq g3 hjs hN
    go_enter Try.func3, Try.ntmps3
    go_wp2_with (first
      | (go_at_call 6; go_must ((with_reducible refine (Hid.out FEW).mono ?_); rintro e w0 ⟨rfl, rfl⟩))
      | (go_at_call 8; go_must ((with_reducible refine (Hid.out N0).mono ?_); rintro e w1 ⟨sb, rfl, H1⟩; have P1 := hide (DqI.newL H1 (by decide) (q + 1) (by omega) hq1 (z := 1 + (q : Int)) G3.out)))
      | (go_at_call 9; go_must ((with_reducible refine (Hid.out P1).mono ?_); rintro e w2 ⟨p, rfl, H2⟩))
      | (go_at_call 10; go_must ((with_reducible refine (AD.out _ _ _ H2).mono ?_); rintro e w3 ⟨rfl, H3⟩))
      | (go_at_call 11; go_must ((with_reducible refine (RN.out _ _ _ H3).mono ?_); rintro e w4 ⟨rfl, dv, H4⟩))
      | (go_at_call 14; go_must ((with_reducible refine (JB.out _ H4.out.below).mono ?_); rintro e w5 ⟨rfl, rfl⟩))
      | (at_builtin; go_must (refine app_at rfl _ _ rfl w5.heap.size (.slice (some ⟨w5.heap.size, 0, none⟩) 0 0) 0 [] rfl (World.ownsRow_made w5 #[] 0 (Nat.le_refl _) (by unfold maxLen; omega) rfl) a3 c3 n3 js rfl E3.out ((R3.out.keep H4.out.below).keep ((Below.refl _ _).alloc (Nat.le_refl _) _)) (by have := HJS.out; omega) (by simp) ?_; intro v6 w6 hown6 hg6 hat6; have K6 := hide ((Kn.start w5).more ((Below.refl _ _).alloc (Nat.le_refl _) _) (t' := ownT w5.heap.size 3 (.slice (some ⟨w5.heap.size, 0, none⟩) 0 0) 0 []) (World.ownsRow_made w5 #[] 0 (Nat.le_refl _) (by unfold maxLen; omega) rfl) (fun k hk => by cases hk; exact Nat.le_refl _)); rw [Nat.zero_add, List.nil_append] at hown6; obtain ⟨a6, c6, rfl⟩ := Dq.own_form hown6; have KR : Hid (AllR js w5 (.slice none 0 0) (.slice a6 js.length c6) (.int .i64 0) w6) := hide ⟨0, js, rfl, BF0, hide ((Kn.grow1 K6.out hown6 hg6 hat6).more (Below.refl _ _) (t' := ownT w5.heap.size 3 (.slice none 0 0) 0 []) (World.ownsRow_nil _ _ _ _) (fun k hk => by cases hk))⟩; clear hg6 hat6 hown6)))
    go_loopw [13, 14, 15] (fun wv rv kv wr => AllR js w5 wv rv kv wr) (fun _ _ kv _ => N - (intOf kv).toNat)
    case atStart => exact KR.out
    case round =>
      obtain ⟨k, r, rfl, hB, hK⟩ := hrel
      obtain ⟨sm1, sm2⟩ := BFS.out k r hB.out
      have hwf : ∀ x ∈ r, (Lit.int .i64 x).wf = true := fun x hx => (hB.out.ok x hx).2
      have hkr := hB.out.le
      obtain ⟨wa, wc, rfl⟩ := Dq.own_form (Kn.hd hK.out)
      obtain ⟨ra, rc, rfl⟩ := Dq.own_form (DqI.Kn.hd2 hK.out)
      have hz5 := hK.out.below.size
      by_cases hlt : k < r.length
      · have hkN := sm2 hlt
        obtain ⟨b, off, rfl, hc⟩ := own_at (l := r) (DqI.Kn.hd2 hK.out) (by omega) hwf hlt
        have HBN := hide (hB.out.next hlt)
        have hxs : SmallJ (r.getD k 0) := (hB.out.ok _ (by rw [List.getD_eq_getElem?_getD, List.getElem?_eq_getElem hlt]; exact List.getElem_mem hlt)).1
        have HCL : Hid (∀ (W : World) n c', W.ownsRow w5.heap.size 3 1 (.slice (some ⟨b, off, none⟩) n c') r.length (r.map (Value.int .i64)) → W.cell? ⟨b, off + k, none⟩ = some (.int .i64 (r.getD k 0))) := hide (fun W n c' h => (own_cell h (by omega) hwf hlt).2)
        have HT : Hid ((r ++ halfL (r.getD k 0)).take (k + 1) = r.take k ++ [r.getD k 0]) := hide (by
          rw [List.take_append_of_le_length (by omega), List.take_add_one, List.getElem?_eq_getElem hlt, List.getD_eq_getElem?_getD, List.getElem?_eq_getElem hlt]; rfl)
        obtain ⟨x, hx⟩ : ∃ x, x = r.getD k 0 := ⟨_, rfl⟩
        rw [← hx] at hc HBN hxs HCL HT
        have hol := halfL_length x
        have HO := hide (fun W => rof_any10 hxs W)
        obtain ⟨o, ho⟩ : ∃ o, o = halfL x := ⟨_, rfl⟩
        rw [← ho] at HBN HT HO hol
        obtain ⟨m, hm⟩ : ∃ m, m = o.length := ⟨_, rfl⟩
        rw [← hm] at HO hol
        have HM := hide hm
        have HK2 : Hid (∀ wv rv W, Kn w5 [ownT w5.heap.size 3 wv (k + 1) ((r.take k).map (Value.int .i64) ++ [.int .i64 x]), ownT w5.heap.size 3 rv (r.length + o.length) (r.map (Value.int .i64) ++ o.map (Value.int .i64))] W → Kn w5 [ownT w5.heap.size 3 wv (k + 1) (((r ++ o).take (k + 1)).map (Value.int .i64)), ownT w5.heap.size 3 rv (r ++ o).length ((r ++ o).map (Value.int .i64))] W) := hide (fun wv rv W h => by
          rw [HT.out, List.map_append, List.length_append, List.map_append]; exact h)
        obtain ⟨ln, hln⟩ : ∃ ln, ln = r.length := ⟨_, rfl⟩
        rw [← hln] at hK hlt sm1 HK2 hkr HCL ⊢
        have hki : (k : Int) < ln := by omega
        clear hx ho hm hxs HT hln hwf KR sm2
        go_wp2_with (first
          | (go_at_call 13; go_must ((with_reducible refine (Hid.out HO _).mono ?_); rintro e w9 ⟨⟨a9, c9, rfl, h1, h2⟩, h3⟩; have H9 := hide h1; have KC := hide (KA.out.keep h3); have hz9 := KC.out.below.size; clear h1 h2 h3))
          | (at_builtin; go_must (first
            | (refine wpList_append_own_at _ rfl _ _ 22 rfl w5.heap.size 3 i0 (.int .i64 0) 1 8 Try.underlying22 hi hz0 hz1 hz2 rfl (by decide) (.slice wa k wc) k ((r.take k).map (Value.int .i64)) rfl (World.ownsRow.alloc (Kn.hd hK.out) _) ⟨wr.heap.size, 0, none⟩ 1 1 [.int .i64 x] rfl rfl (cell_one_new _ _ _) (by simp [Value.oneCell']) (by unfold maxLen; omega) (by omega) (by simp; omega) ?_; intro v7 w7 hown7 hg7 _ hat7; obtain ⟨wa7, wc7, rfl⟩ := Dq.own_form hown7; have KA := hide (Kn.grow1 (hK.out.keep (w' := wr.alloc (.cells #[.int .i64 x] 3)) ((Below.refl _ _).alloc (Nat.le_refl _) _)) hown7 hg7 hat7); have hc7 := HCL.out _ _ _ (DqI.Kn.hd2 KA.out); clear hown7 hg7 hat7)
            | (refine app_at rfl _ _ rfl w5.heap.size (.slice (some ⟨b, off, none⟩) ln rc) ln (r.map (Value.int .i64)) rfl (DqI.Kn.hd2 KC.out) a9 c9 m o rfl HM.out H9.out (by have := HM.out; omega) hz9 ?_; intro v8 w8 hown8 hg8 hat8; obtain ⟨ra8, rc8, rfl⟩ := Dq.own_form hown8; have KD := hide (HK2.out _ _ _ (Kn.grow2 KC.out hown8 hg8 hat8)); clear hown8 hg8 hat8))))
        go_roundw
        case rel => exact ⟨k + 1, r ++ o, by simp, HBN, KD⟩
        case measure => simp [intOf]; omega
      · obtain rfl : k = r.length := by omega
        obtain ⟨b1, b2⟩ := BFD.out r hB.out
        obtain ⟨x1, x2, x3, x4, x5, x6⟩ := HE.out
        have hcnt : ∀ v, cntL v s'.dn = cntL v r := fun v => by rw [x6 v, b2 v]
        have hwd : ∀ x ∈ s'.dn, (Lit.int .i64 x).wf = true := fun x hx => hwf x (cnt_pos.1 (by rw [← hcnt x]; exact cnt_pos.2 hx))
        have PR := hide (H4.out.keep hK.out.below)
        have hdo := PR.out.kn.hd.2.1
        obtain ⟨da, dc, rfl⟩ := Dq.own_form hdo
        have hrd := own_row (l := s'.dn) hdo (by omega) hwd
        have hrw := own_row (l := r) (n := r.length) (by have := Kn.hd hK.out; rw [List.take_length] at this; exact this) (by omega) hwf
        have TM : Hid (∀ W, Below wr.heap.size wr W → Calls Try.prog 19 #[.slice da r.length dc, .slice wa r.length wc] W fun e w' => e = .returned (.bool true) ∧ Below W.heap.size W w') := hide (fun W hb => times_any da wa dc wc r.length s'.dn r W (hrd.keep hb) (hrw.keep hb) (by omega) rfl (by omega) hcnt)
        subst b1
        subst x1
        have DN := hide (DqI.doneP PR (z := (r.length : Int)) (by rw [x4]))
        have LF := hide (DqI.leftP PR x3 (z := 0) (by rw [x2]; rfl))
        have SP := hide (DqI.stepsP PR (z := 2 * (r.length : Int)) (by omega))
        obtain ⟨M, hM⟩ : ∃ M, M = s'.who.length := ⟨_, rfl⟩
        have WH := hide (DqI.whoP PR (by omega) hM)
        have g7 : ((M : Int) == 2 * (r.length : Int)) = true := by simp; omega
        have HDL : Hid (s'.dn.length = r.length) := hide x4
        clear hlt sm1 sm2 hkr x2 x3 x4 x5 x6 hcnt hwd hdo hrd hrw hM b2 hwf
        go_wp2_with (first
          | (go_at_call 15; go_must ((with_reducible refine (Hid.out DN).mono ?_); rintro e w8 ⟨rfl, rfl⟩))
          | (go_at_call 16; go_must ((with_reducible refine (Hid.out LF).mono ?_); rintro e w8 ⟨rfl, rfl⟩))
          | (go_at_call 17; go_must ((with_reducible refine (Hid.out SP).mono ?_); rintro e w8 ⟨rfl, rfl⟩))
          | (go_at_call 18; go_must ((with_reducible refine (Hid.out WH).mono ?_); rintro e w10 ⟨wa10, wc10, rfl, hr10, hp10, hb10⟩; have hcd : w10.cell? ⟨w3.heap.size, 0, none⟩ = some (.slice da r.length dc) := (by have := hp10.out.kn.hd.1.cell 0 rfl; rw [HDL.out] at this; exact this); have TM10 := hide (TM.out w10 hb10.out)))
          | (go_at_call 19; go_must ((with_reducible refine (Hid.out TM10).mono ?_); rintro e w11 ⟨rfl, hb11⟩; have B11 := hide (hp10.out.below.trans (hb11.mono hp10.out.below.size)); clear hb11))
          | (go_at_call 7; go_must ((with_reducible refine (works10_any _).mono ?_); rintro e w12 ⟨rfl, hb12⟩)))
        go_ret
        exact ⟨rfl, B11.out.trans (hb12.mono B11.out.size)⟩
end Go.Proofs.Ytkjhamcmhijhgaa.Walk
