/- PipePlays, walked. -/
import Derived.Test.YthajooipaiiieaaPipeInt
import Derived.Test.YthajooipaiiieaaPipeRef
import Derived.Test.YthajooipaiiieaaRecs
import Derived.Deep.DeepCutAuto
import Derived.Deep.CutBlock
import Derived.Deep.RegionHeld3
namespace Go.Proofs.Ythajooipaiiieaa.Walk
open Go.RowKit Go.Proofs.Ythajooipaiiieaa.Dig Go.Proofs.Ythajooipaiiieaa.Mem Go.Proofs.Ythajooipaiiieaa.Dq Go.Proofs.Ythajooipaiiieaa.DqI Go.Proofs.Ythajooipaiiieaa.Thing Go.Proofs.Ythajooipaiiieaa.PipeRef
set_option linter.unusedVariables false
set_option linter.unusedSimpArgs false

attribute [local go_sem] pv
theorem acts_two {w : World} {a : Option Addr} {n : Nat} {Y : Nat → Nat → Int} (h : Frame.RdRec [.i64, .i64] w a n Y) {i : Nat} (hi : i < n) :
    ∃ b off, a = some ⟨b, off, none⟩ ∧ (∀ w', Below w.heap.size w w' → w'.cell? ⟨b, off + i * 2, none⟩ = some (.int .i64 (Y i 0)) ∧ w'.cell? ⟨b, off + i * 2 + 1, none⟩ = some (.int .i64 (Y i 1))) ∧ (Lit.int .i64 (Y i 0)).wf = true ∧ (Lit.int .i64 (Y i 1)).wf = true := by
  obtain ⟨b, off, e, hc⟩ := h i hi
  have c0 : w.cell? ⟨b, off + i * 2, none⟩ = some (.int .i64 (Y i 0)) ∧ (Lit.int .i64 (Y i 0)).wf = true := hc 0 .i64 rfl
  have c1 : w.cell? ⟨b, off + i * 2 + 1, none⟩ = some (.int .i64 (Y i 1)) ∧ (Lit.int .i64 (Y i 1)).wf = true := hc 1 .i64 rfl
  have hb := lt_of_cell c0.1
  exact ⟨b, off, e, fun w' ho => ⟨(ho.cell (p := ⟨b, off + i * 2, none⟩) hb).trans c0.1, (ho.cell (p := ⟨b, off + i * 2 + 1, none⟩) hb).trans c1.1⟩, c0.2, c1.2⟩
theorem pipe_no (w : World) (x : Int) (h : x < 1 ∨ 64 < x) (v : Value) : Calls Try.prog 3 #[.int .i64 x, v] w fun e w' => e = .returned (.bool true) ∧ Below w.heap.size w w' := by
  have R := hide (rnew_any x w)
  rw [if_pos h] at R
  go_enter Try.func3, Try.ntmps3
  go_wp2_with (first
    | (go_at_call 6; go_must ((with_reducible refine (new_no x h _).mono ?_); rintro e w1 ⟨rfl, rfl⟩))
    | (go_at_call 7; go_must ((with_reducible refine (Hid.out R).mono ?_); rintro e w1 ⟨rfl, rfl⟩))
    | (go_at_call 8; go_must ((with_reducible refine (works8_any _).mono ?_); rintro e w1 ⟨rfl, hb1⟩)))
  go_ret
  exact ⟨rfl, hb1⟩
theorem pipe_long (w : World) (r : Nat) (h1 : 1 ≤ r) (h2 : r ≤ 64) (a : Option Addr) (n c : Nat) (h : 200 < n) (hn : n ≤ 9223372036854775807) : Calls Try.prog 3 #[.int .i64 (r : Int), .slice a n c] w fun e w' => e = .returned (.bool true) ∧ Below w.heap.size w w' := by
  have N0 := hide (newP (Kn.start w) r h1 h2 rfl)
  have RN := hide (rnew_any (r : Int))
  rw [if_neg (by omega)] at RN
  have g0 : (200 : Int) < n := by omega
  go_enter Try.func3, Try.ntmps3
  go_wp2_with (first
    | (go_at_call 6; go_must ((with_reducible refine (Hid.out N0).mono ?_); rintro e w1 ⟨rfl, H1⟩))
    | (go_at_call 7; go_must ((with_reducible refine (Hid.out RN _).mono ?_); rintro e w2 ⟨rfl, rfl⟩))
    | (go_at_call 8; go_must ((with_reducible refine (works8_any _).mono ?_); rintro e w3 ⟨rfl, hb1⟩)))
  go_ret
  exact ⟨rfl, H1.out.below.trans (hb1.mono H1.out.below.size)⟩
section
variable {w wx w' : World} {b r n : Nat} {c : Bool} {l : List Int} {ts : List Th} {q : Nat} {u0 u1 u2 u3 : Value}
theorem qcells (h : PE w b r n c l (boxT q #[u0, u1, u2, u3] :: ts) wx) : (wx.cell? ⟨q, 0, none⟩ = some u0 ∧ wx.cell? ⟨q, 1, none⟩ = some u1 ∧ wx.cell? ⟨q, 2, none⟩ = some u2 ∧ wx.cell? ⟨q, 3, none⟩ = some u3) ∧
    wx.frozen? ⟨q, 0, none⟩ = false ∧ wx.frozen? ⟨q, 1, none⟩ = false ∧ wx.frozen? ⟨q, 2, none⟩ = false ∧ wx.frozen? ⟨q, 3, none⟩ = false :=
  Is.four (show Is wx q #[u0, u1, u2, u3] from h.kn.hd)
theorem PE.four (h : PE w b r n c l (boxT q #[u0, u1, u2, u3] :: ts) wx) (v0 v1 v2 v3 : Value) : PE w b r n c l (boxT q #[v0, v1, v2, v3] :: ts) ((((wx.setCell ⟨q, 0, none⟩ v0).setCell ⟨q, 1, none⟩ v1).setCell ⟨q, 2, none⟩ v2).setCell ⟨q, 3, none⟩ v3) :=
  h.turn (t' := boxT q #[v0, v1, v2, v3]) (((((show Is wx q #[u0, u1, u2, u3] from h.kn.hd).set 0 v0).set 1 v1).set 2 v2).set 3 v3) (((((Only.refl _ _).put 0 v0).put 1 v1).put 2 v2).put 3 v3) (fun k hk => .inl hk)
theorem far4 {w : World} {u b i : Nat} {v : Value} (h : w.cell? ⟨b, i, none⟩ = some v) (hb : ¬ b = u) (v0 v1 v2 v3 : Value) : ((((w.setCell ⟨u, 0, none⟩ v0).setCell ⟨u, 1, none⟩ v1).setCell ⟨u, 2, none⟩ v2).setCell ⟨u, 3, none⟩ v3).cell? ⟨b, i, none⟩ = some v :=
  (((((Only.refl (fun k => k = u) w).put 0 v0).put 1 v1).put 2 v2).put 3 v3).cell h hb
/-- A copy of the struct lies beside, and the law's own is turned. -/
theorem PE.step (h : PE w b r n c l (boxT q #[u0, u1, u2, u3] :: ts) wx) (hb : Below wx.heap.size wx w') (o : Obj) (v0 v1 v2 v3 : Value) : PE w b r n c l (boxT q #[v0, v1, v2, v3] :: ts) (((((w'.setCell ⟨q, 0, none⟩ v0).setCell ⟨q, 1, none⟩ v1).setCell ⟨q, 2, none⟩ v2).setCell ⟨q, 3, none⟩ v3).alloc o) :=
  PE.keep (PE.four (h.keep hb) v0 v1 v2 v3) ((Below.refl _ _).alloc (Nat.le_refl _) _)
end
/-- Send, the program's and the document's. -/
theorem send_both {w wr : World} {b r qb k cp : Nat} {c : Bool} {M : List Int} {am : Option Addr} {x : Int} (HE : Hid (PE w b r M.length c (M.drop k) [boxT qb (pv (r : Int) am M.length cp (k : Int) c), rowT am cp M] wr)) (hr1 : 1 ≤ r) (hr64 : r ≤ 64) (hk1 : k ≤ M.length) (hk2 : M.length ≤ 1000) (hk3 : M.length ≤ r + k) (hx : (Lit.int .i64 x).wf = true) :
    ∃ (M' : List Int) (z : Int), k ≤ M'.length ∧ M'.length ≤ M.length + 1 ∧ M'.length ≤ r + k ∧
      Hid (Calls Try.prog 13 #[.pointer (some ⟨b, 0, none⟩), .int .i64 x] wr fun e w' => e = .returned (.int .i64 z) ∧ Hid (PE w b r M'.length c (M'.drop k) [boxT qb (pv (r : Int) am M.length cp (k : Int) c), rowT am cp M] w')) ∧
      Hid (∀ (W : World) (ts : List Th), PE w b r M'.length c (M'.drop k) (boxT qb (pv (r : Int) am M.length cp (k : Int) c) :: rowT am cp M :: ts) W →
        Calls Try.prog 14 #[.agg (pv (r : Int) am M.length cp (k : Int) c), .int .i64 x] W fun e w' => (∃ a' cp', e = .returned (.tuple #[.agg (pv (r : Int) a' M'.length cp' (k : Int) c), .int .i64 z]) ∧
          Hid (PE w b r M'.length c (M'.drop k) (boxT qb (pv (r : Int) am M.length cp (k : Int) c) :: rowT a' cp' M' :: ts) w')) ∧ Hid (Below W.heap.size W w')) := by
  have h0 : r ≠ 0 := by omega
  cases c with
  | true =>
    refine ⟨M, 11, hk1, by omega, hk3, hide (sendP_not HE (k := 11) (by simp [refE, h0]) (by decide) x), hide (fun W ts hW => ?_)⟩
    refine (rsend_closed W (r : Int) am M.length cp (k : Int) x).mono ?_
    rintro e w' ⟨rfl, hb⟩
    exact ⟨⟨am, cp, rfl, hW.keep hb⟩, hb⟩
  | false =>
    by_cases hf : (M.drop k).length = r
    · refine ⟨M, 9, hk1, by omega, hk3, hide (sendP_full HE h0 hf x), hide (fun W ts hW => ?_)⟩
      refine (rsend_full W (r : Int) am M.length cp k x hk1 (by omega) (by rw [List.length_drop] at hf; omega)).mono ?_
      rintro e w' ⟨rfl, hb⟩
      exact ⟨⟨am, cp, rfl, hW.keep hb⟩, hb⟩
    · rw [List.length_drop] at hf
      have hd : (M ++ [x]).drop k = M.drop k ++ [x] := List.drop_append_of_le_length hk1
      have hl : (M ++ [x]).length = M.length + 1 := by simp
      refine ⟨M ++ [x], 0, by omega, by omega, by omega, ?_, hide (fun W ts hW => ?_)⟩
      · rw [hd, hl]
        exact hide (sendP HE h0 hr64 (by rw [List.length_drop]; omega) (by omega) x)
      · refine (rsend_ok W (r : Int) am M.length cp k x (show RowI W am cp M from hW.kn.tail.hd) rfl hx hk1 (by omega) (by omega)).mono ?_
        rintro e w' ⟨⟨a', cp', rfl, h1, h2⟩, hb⟩
        rw [hl]
        refine ⟨⟨a', cp', rfl, ?_⟩, hb⟩
        rw [hl] at hW
        have h3 := hW.more (t := rowT a' cp' (M ++ [x])) hb h1 (fun j hj => by obtain ⟨_, y, e, rfl⟩ := hj; exact h2 y e)
        exact hide ((h3.perm (List.Perm.swap _ _ _)).sub (List.Sublist.cons_cons _ (List.Sublist.cons_cons _ (List.sublist_cons_self _ _))))
/-- What is known between two acts: all that was sent is M, k of it are received. -/
def PlayMid (w : World) (r qb K : Nat) (wx : World) : Prop := ∃ (k : Nat) (c : Bool) (M : List Int) (a : Option Addr) (cp : Nat), Hid (k ≤ M.length) ∧ Hid (M.length ≤ K) ∧ Hid (M.length ≤ r + k) ∧
  Hid (PE w w.heap.size r M.length c (M.drop k) [boxT qb (pv (r : Int) a M.length cp (k : Int) c), rowT a cp M] wx)
def PlayR (w : World) (r qb n : Nat) (kv : Value) (wr : World) : Prop := ∃ K, K ≤ n ∧ kv = .int .i64 (K : Int) ∧ PlayMid w r qb K wr
set_option maxHeartbeats 4000000 in
set_option maxRecDepth 20000 in
theorem walk_pipePlays (w : World) (x : Int) (hx : (Lit.int .i64 x).wf = true) (a : Option Addr) (n c : Nat) (Y : Nat → Nat → Int) (ha : Frame.IsRec [.i64, .i64] w a n c Y) :
    Calls Try.prog 3 #[.int .i64 x, .slice a n c] w fun e w' => e = .returned (.bool true) ∧ Below w.heap.size w w' := by
  by_cases hroom : x < 1 ∨ 64 < x
  · exact pipe_no w x hroom _
  obtain ⟨r, rfl⟩ : ∃ r : Nat, x = (r : Int) := ⟨x.toNat, by omega⟩
  have hr1 : 1 ≤ r := by omega
  have hr64 : r ≤ 64 := by omega
  obtain ⟨q1, q2⟩ := ha.cap
  by_cases hbig : 200 < n
  · exact pipe_long w r hr1 hr64 a n c hbig (by omega)
  have g0 : ¬ (200 : Int) < n := by omega
  have hn2 : n ≤ 200 := by omega
  have N0 := hide (newP (Kn.start w) r hr1 hr64 rfl)
  have RN := hide (rnew_any (r : Int))
  rw [if_neg hroom] at RN
  have hr := hide (ha.rd (by decide))
  clear ha hroom hx q1 q2 hbig
  go_enter Try.func3, Try.ntmps3
  go_wp2_with (first
    | (go_at_call 6; go_must ((with_reducible refine (Hid.out N0).mono ?_); rintro e w1 ⟨rfl, H1⟩))
    | (go_at_call 7; go_must ((with_reducible refine (Hid.out RN _).mono ?_); rintro e w2 ⟨rfl, rfl⟩)))
  have HT : Hid (Kn w [] w2) := hide H1.out.kn
  obtain ⟨qb, hqb⟩ : ∃ qb, qb = w2.heap.size := ⟨_, rfl⟩
  have M0 : Hid (PlayR w r qb n (.int .i64 0) (w2.alloc (.cells #[.int .i64 (r : Int), .slice none 0 0, .int .i64 0, .bool false] 31))) := hide
    ⟨0, Nat.zero_le _, rfl, 0, false, [], none, 0, hide (by simp), hide (by simp), hide (by simp), hide ((H1.out.more (t := rowT none 0 []) (Below.refl _ _) (show RowI w2 none 0 [] from ⟨by simp, ⟨by simp, fun i hi => by simp at hi⟩, fun _ => rfl⟩) (fun k hk => absurd hk.1 (by simp))).more (t := boxT qb (pv (r : Int) none 0 0 0 false)) ((Below.refl _ _).alloc (Nat.le_refl _) _) (Is.made _ _ _ hqb) (fun k hk => by cases hk; omega))⟩
  rw [← hqb]
  generalize (w2.alloc (.cells #[.int .i64 (r : Int), .slice none 0 0, .int .i64 0, .bool false] 31)) = W0 at *
  clear N0 RN H1 HT hqb
  go_loopw [8] (fun i wr => PlayR w r qb n i wr) (fun i _ => n - (intOf i).toNat)
  case atStart => exact M0.out
  case round =>
    obtain ⟨K, hK, rfl, k, c1, M, am, cp, HK1, HK2, HK3, HE⟩ := hrel
    clear M0
    by_cases hlt : K < n
    · obtain ⟨b1, o1, rfl, hact, wd, wx⟩ := acts_two hr.out hlt
      obtain ⟨d, hd⟩ : ∃ d, d = Y K 0 := ⟨_, rfl⟩
      obtain ⟨x, hx⟩ : ∃ x, x = Y K 1 := ⟨_, rfl⟩
      rw [← hd] at hact wd
      rw [← hx] at hact wx
      have HA := hide hact
      have HX := hide wx
      obtain ⟨f0, f1⟩ := hact wr HE.out.below
      have hli : (K : Int) < n := by omega
      have hbd := bounds_i64 wd
      have hbx := bounds_i64 wx
      obtain ⟨d1, d2⟩ := hbd
      obtain ⟨x1, x2⟩ := hbx
      clear hact hd hx wd wx
      go_upto_block 2 with fail
      go_cut [] (fun wx => PlayMid w r qb (K + 1) wx)
      case first =>
        obtain ⟨m, hm⟩ : ∃ m, m = M.length := ⟨_, rfl⟩
        have HM := hide hm
        clear hm
        have hmm : m ≤ 1000000 := by have := HM.out; have := HK2.out; omega
        by_cases e1 : d = 1
        · subst e1
          by_cases hkm : k < M.length
          · obtain ⟨y, hy⟩ : ∃ y, y = M.getD k 0 := ⟨_, rfl⟩
            have hdr : M.drop k = y :: M.drop (k + 1) := by
              rw [List.drop_eq_getElem_cons hkm, hy, List.getD_eq_getElem?_getD, List.getElem?_eq_getElem hkm]
              rfl
            have HY := hide hy.symm
            have HKM := hide hkm
            have P := hide (recvP HE hdr)
            have hyy : (y != y) = false := by simp
            clear hkm hy hdr
            go_wp2_with (first
              | (go_at_call 9; go_must ((with_reducible refine (Hid.out P).mono ?_); rintro e w3 ⟨rfl, H3⟩; obtain ⟨⟨p0, p1, p2, p3⟩, _⟩ := qcells H3.out; rw [← HM.out] at p1))
              | (go_at_call 10; go_must ((refine (rrecv_some w3 (r : Int) am m cp k c1 (show RowI w3 am cp M from H3.out.kn.tail.hd) HM.out (by have := HM.out; have := HKM.out; omega) hmm HY.out).mono ?_); rintro e w4 ⟨rfl, hb4⟩; obtain ⟨⟨s0, s1, s2, s3⟩, t0, t1, t2, t3⟩ := qcells (H3.out.keep hb4); have hqs := lt_of_cell s0; have HB4 := hide hb4; clear hb4)))
            go_meet
            case rel =>
              have e := HM.out
              subst e
              exact ⟨k + 1, c1, M, am, cp, HKM.out, hide (by have := HK2.out; omega), hide (by have := HK3.out; omega), hide (PE.step H3.out HB4.out _ _ _ _ _)⟩
          · have hkm' : k = M.length := by have := HK1.out; omega
            have hdr : M.drop k = [] := by rw [hkm']; simp
            have HKM := hide hkm'
            have P : Hid (Calls Try.prog 9 #[.pointer (some ⟨w.heap.size, 0, none⟩)] wr fun e w' => e = .returned (.tuple #[.int .i64 0, .int .i64 (if c1 then 11 else 10)]) ∧ Hid (PE w w.heap.size r M.length c1 (M.drop k) [boxT qb (pv (r : Int) am M.length cp (k : Int) c1), rowT am cp M] w')) :=
              hide (recvP_none HE hdr (by have h0 : r ≠ 0 := (by omega); cases c1 <;> simp [refE, h0]))
            obtain ⟨z, hz⟩ : ∃ z : Int, z = if c1 then 11 else 10 := ⟨_, rfl⟩
            have HR : Hid (∀ W, Calls Try.prog 10 #[.agg (pv (r : Int) am m cp (k : Int) c1)] W fun e w' => e = .returned (.tuple #[.agg (pv (r : Int) am m cp (k : Int) c1), .int .i64 0, .int .i64 z]) ∧ Below W.heap.size W w') := hide (fun W => by
              rw [hz]
              exact rrecv_none W (r : Int) am m cp k c1 (by rw [HM.out]; exact hkm'))
            rw [← hz] at P
            have hzz : (z != z) = false := by simp
            clear hkm hkm' hdr hz
            go_wp2_with (first
              | (go_at_call 9; go_must ((with_reducible refine (Hid.out P).mono ?_); rintro e w3 ⟨rfl, H3⟩; obtain ⟨⟨p0, p1, p2, p3⟩, _⟩ := qcells H3.out; rw [← HM.out] at p1))
              | (go_at_call 10; go_must ((refine (HR.out w3).mono ?_); rintro e w4 ⟨rfl, hb4⟩; obtain ⟨⟨s0, s1, s2, s3⟩, t0, t1, t2, t3⟩ := qcells (H3.out.keep hb4); have hqs := lt_of_cell s0; have HB4 := hide hb4; clear hb4)))
            go_meet
            case rel =>
              have e := HM.out
              subst e
              exact ⟨k, c1, M, am, cp, HK1, hide (by have := HK2.out; omega), HK3, hide (PE.step H3.out HB4.out _ _ _ _ _)⟩
        by_cases e2 : d = 2
        · subst e2
          cases c1 with
          | true =>
            have P := hide (closeP_not HE (k := 11) (by have h0 : r ≠ 0 := (by omega); simp [refE, h0]) (by decide))
            clear e1
            go_wp2_with (first
              | (go_at_call 11; go_must ((with_reducible refine (Hid.out P).mono ?_); rintro e w3 ⟨rfl, H3⟩; obtain ⟨⟨p0, p1, p2, p3⟩, _⟩ := qcells H3.out; rw [← HM.out] at p1))
              | (go_at_call 12; go_must ((refine (rclose_not w3 (r : Int) am m cp (k : Int)).mono ?_); rintro e w4 ⟨rfl, hb4⟩; obtain ⟨⟨s0, s1, s2, s3⟩, t0, t1, t2, t3⟩ := qcells (H3.out.keep hb4); have hqs := lt_of_cell s0; have HB4 := hide hb4; clear hb4)))
            go_meet
            case rel =>
              have e := HM.out
              subst e
              exact ⟨k, true, M, am, cp, HK1, hide (by have := HK2.out; omega), HK3, hide (PE.step H3.out HB4.out _ _ _ _ _)⟩
          | false =>
            have P := hide (closeP HE (by omega))
            clear e1
            go_wp2_with (first
              | (go_at_call 11; go_must ((with_reducible refine (Hid.out P).mono ?_); rintro e w3 ⟨rfl, H3⟩; obtain ⟨⟨p0, p1, p2, p3⟩, _⟩ := qcells H3.out; rw [← HM.out] at p1))
              | (go_at_call 12; go_must ((refine (rclose_ok w3 (r : Int) am m cp (k : Int)).mono ?_); rintro e w4 ⟨rfl, hb4⟩; obtain ⟨⟨s0, s1, s2, s3⟩, t0, t1, t2, t3⟩ := qcells (H3.out.keep hb4); have hqs := lt_of_cell s0; have HB4 := hide hb4; clear hb4)))
            go_meet
            case rel =>
              have e := HM.out
              subst e
              exact ⟨k, true, M, am, cp, HK1, hide (by have := HK2.out; omega), HK3, hide (PE.step H3.out HB4.out _ _ _ _ _)⟩
        · have g1 : (d == 1) = false := by simpa using e1
          have g2 : (d == 2) = false := by simpa using e2
          obtain ⟨M', z, j1, j2, j3, P, R⟩ := send_both (x := x) HE hr1 hr64 HK1.out (by have := HK2.out; omega) HK3.out HX.out
          obtain ⟨m', hm'⟩ : ∃ m', m' = M'.length := ⟨_, rfl⟩
          have HM' := hide hm'
          rw [← HM.out, ← hm'] at P R
          have J1 := hide j1
          have J2 := hide j2
          have J3 := hide j3
          have hzz : (z != z) = false := by simp
          clear e1 e2 hm' j1 j2 j3
          go_wp2_with (first
              | (go_at_call 13; go_must ((with_reducible refine (Hid.out P).mono ?_); rintro e w3 ⟨rfl, H3⟩; obtain ⟨⟨p0, p1, p2, p3⟩, pf⟩ := qcells H3.out; obtain ⟨f3, f4⟩ := HA.out w3 H3.out.below)))
          clear P f0 f1
          have CB := hide ((Hid.out R) w3.drew [] (H3.out.keep ((Below.refl _ _).drew)))
          have CA := hide ((Hid.out R) (w3.alloc (.cells #[.int .i64 0, .slice none 0 0, .int .i64 0, .bool false] 31)).drew [boxT w3.heap.size #[.int .i64 0, .slice none 0 0, .int .i64 0, .bool false]] (((H3.out.keep ((Below.refl _ _).drew)).more (t := boxT w3.heap.size #[.int .i64 0, .slice none 0 0, .int .i64 0, .bool false]) ((Below.refl _ _).alloc (Nat.le_refl _) _) (Is.made w3.drew _ 31 rfl) (fun j hj => Nat.le_of_eq hj.symm)).perm (List.perm_append_comm (l₁ := [_]) (l₂ := [_, _]))))
          clear R
          --DBG
          go_region_held3 (fun w' => w'.cell? ⟨qb, 0, none⟩ = some (.int .i64 (r : Int)) ∧ w'.cell? ⟨qb, 1, none⟩ = some (.slice am m cp) ∧ w'.cell? ⟨qb, 2, none⟩ = some (.int .i64 (k : Int)) ∧ w'.cell? ⟨qb, 3, none⟩ = some (.bool c1) ∧ w'.cell? ⟨b1, o1 + K * 2 + 1, none⟩ = some (.int .i64 x)) (first | (with_reducible exact ⟨by assumption, by assumption, by assumption, by assumption, by assumption⟩) | exact ⟨far4 s0 hqu _ _ _ _, far4 s1 hqu _ _ _ _, far4 s2 hqu _ _ _ _, far4 s3 hqu _ _ _ _, far4 s4 hbu _ _ _ _⟩ | go_keep) (first
            --| (go_at_call 14; trace_state; fail)
            | (go_at_call 14; (with_reducible refine (Hid.out CB).mono ?_); go_must (rintro e w4 ⟨⟨a4, cp4, rfl, H4⟩, HB4⟩; obtain ⟨⟨s0, s1, s2, s3⟩, t0, t1, t2, t3⟩ := qcells H4.out; have hqs := lt_of_cell s0; have s4 := (HA.out w4 H4.out.below).2; clear CA CB))
            | (go_at_call 14; (with_reducible refine (Hid.out CA).mono ?_); go_must (rintro e w4 ⟨⟨a4, cp4, rfl, H4⟩, HB4⟩; obtain ⟨⟨s0, s1, s2, s3⟩, t0, t1, t2, t3⟩ := qcells H4.out; have hqs := lt_of_cell s0; have s4 := (HA.out w4 H4.out.below).2; obtain ⟨⟨v0, v1, v2, v3⟩, y0, y1, y2, y3⟩ := Is.four (show Is w4 w3.heap.size #[.int .i64 0, .slice none 0 0, .int .i64 0, .bool false] from H4.out.kn.tail.tail.hd); have hqu : ¬ qb = w3.heap.size := Nat.ne_of_lt (lt_of_cell p0); have hbu : ¬ b1 = w3.heap.size := Nat.ne_of_lt (lt_of_cell f4); generalize hub : w3.heap.size = ub at v0 v1 v2 v3 y0 y1 y2 y3 hqu hbu H4 ⊢; clear CA CB p0 p1 p2 p3 pf f3 f4 hub)))
          · go_wp2
            go_meet
            case rel =>
              have e := HM'.out
              subst e
              exact ⟨k, c1, M', a4, cp4, J1, hide (by have := HK2.out; have := J2.out; omega), J3, hide (PE.step H4.out (Below.refl _ _) _ _ _ _ _)⟩
          · go_wp2
            go_meet
            case rel =>
              have e := HM'.out
              subst e
              exact ⟨k, c1, M', a4, cp4, J1, hide (by have := HK2.out; have := J2.out; omega), J3, hide (PE.four ((PE.four (H4.out.perm (List.perm_append_comm (l₁ := [_, _]) (l₂ := [_]))) _ _ _ _).sub (List.sublist_cons_self _ _)) _ _ _ _)⟩
      case rest =>
        clear HK1 HK2 HK3 HE
        obtain ⟨k, c1, M, am, cp, HK1, HK2, HK3, HE⟩ := hcut
        obtain ⟨m, hm⟩ : ∃ m, m = M.length := ⟨_, rfl⟩
        obtain ⟨ln, hln⟩ : ∃ ln, ln = m - k := ⟨_, rfl⟩
        have hk1 := HK1.out
        have hk2 := HK2.out
        rw [← hm] at hk1 hk2
        have HL : Hid (ln = (M.drop k).length) := hide (by rw [List.length_drop, hln, hm])
        have P : Hid (Calls Try.prog 15 #[.pointer (some ⟨w.heap.size, 0, none⟩)] wc fun e w' => e = .returned (.tuple #[.int .i64 (m : Int), .int .i64 (k : Int)]) ∧ Hid (PE w w.heap.size r M.length c1 (M.drop k) [boxT qb (pv (r : Int) am M.length cp (k : Int) c1), rowT am cp M] w')) := by
          rw [hm]
          exact hide (countsP HE HL.out (by omega) (by omega))
        have HM := hide hm
        have g1 : ((ln : Int) != (m : Int) - (k : Int)) = false := by simp; omega
        obtain ⟨dn, hdn⟩ : ∃ dn, dn = (c1 && decide (M.drop k = [])) := ⟨_, rfl⟩
        have hdn' : dn = (c1 && decide (ln = 0)) := by
          have e : decide (M.drop k = []) = decide (ln = 0) := by rw [HL.out]; cases M.drop k <;> simp
          rw [hdn, e]
        have HDN := hide hdn
        have hmi : (m : Int) ≤ 1000 := by omega
        have hki : (k : Int) ≤ m := by omega
        clear hdn hm HE f0 f1
        cases c1 with
        | false =>
          obtain rfl : dn = false := by simpa using hdn'
          clear hdn' hln
          go_wp2_with (go_at_call 15; go_must ((with_reducible refine (Hid.out P).mono ?_); rintro e w5 ⟨rfl, H5⟩; obtain ⟨⟨p0, p1, p2, p3⟩, _⟩ := qcells H5.out; rw [← HM.out] at p1; have L1 := hide (fun q => lenP (wx := w5.drewN q) (hide (H5.out.keep (below_of_drewN q))) HL.out); have L2 := hide (fun q => roomP (wx := w5.drewN q) (hide (H5.out.keep (below_of_drewN q)))); have L3 := hide (fun q => closedP (wx := w5.drewN q) (hide (H5.out.keep (below_of_drewN q)))); have L4 := hide (fun q => doneP (wx := w5.drewN q) (hide (H5.out.keep (below_of_drewN q))) HDN.out); clear P))
          go_quiet ((first | (go_at_call 16; exact Calls.quiet_of_same (L1.out _)) | (go_at_call 17; exact Calls.quiet_of_same (L2.out _)) | (go_at_call 18; exact Calls.quiet_of_same (L3.out _)) | (go_at_call 19; exact Calls.quiet_of_same (L4.out _))))
          go_wp2
          go_roundw
          case rel => exact ⟨K + 1, by omega, by simp, k, _, M, am, cp, HK1, HK2, HK3, hide (H5.out.keep (below_of_drewN nq))⟩
          case measure => simp [intOf]; omega
        | true =>
          by_cases h0 : ln = 0
          · obtain rfl : dn = true := by simpa [h0] using hdn'
            obtain rfl : k = m := by omega
            clear hdn' hln
            subst h0
            go_wp2_with (go_at_call 15; go_must ((with_reducible refine (Hid.out P).mono ?_); rintro e w5 ⟨rfl, H5⟩; obtain ⟨⟨p0, p1, p2, p3⟩, _⟩ := qcells H5.out; rw [← HM.out] at p1; have L1 := hide (fun q => lenP (wx := w5.drewN q) (hide (H5.out.keep (below_of_drewN q))) HL.out); have L2 := hide (fun q => roomP (wx := w5.drewN q) (hide (H5.out.keep (below_of_drewN q)))); have L3 := hide (fun q => closedP (wx := w5.drewN q) (hide (H5.out.keep (below_of_drewN q)))); have L4 := hide (fun q => doneP (wx := w5.drewN q) (hide (H5.out.keep (below_of_drewN q))) HDN.out); clear P))
            go_quiet ((first | (go_at_call 16; exact Calls.quiet_of_same (L1.out _)) | (go_at_call 17; exact Calls.quiet_of_same (L2.out _)) | (go_at_call 18; exact Calls.quiet_of_same (L3.out _)) | (go_at_call 19; exact Calls.quiet_of_same (L4.out _))))
            go_wp2
            go_roundw
            case rel => exact ⟨K + 1, by omega, by simp, k, _, M, am, cp, HK1, HK2, HK3, hide (H5.out.keep (below_of_drewN nq))⟩
            case measure => simp [intOf]; omega
          · obtain rfl : dn = false := by simpa [h0] using hdn'
            have g2 : ((m : Int) - (k : Int) == 0) = false := by simp; omega
            clear hdn' hln h0
            go_wp2_with (go_at_call 15; go_must ((with_reducible refine (Hid.out P).mono ?_); rintro e w5 ⟨rfl, H5⟩; obtain ⟨⟨p0, p1, p2, p3⟩, _⟩ := qcells H5.out; rw [← HM.out] at p1; have L1 := hide (fun q => lenP (wx := w5.drewN q) (hide (H5.out.keep (below_of_drewN q))) HL.out); have L2 := hide (fun q => roomP (wx := w5.drewN q) (hide (H5.out.keep (below_of_drewN q)))); have L3 := hide (fun q => closedP (wx := w5.drewN q) (hide (H5.out.keep (below_of_drewN q)))); have L4 := hide (fun q => doneP (wx := w5.drewN q) (hide (H5.out.keep (below_of_drewN q))) HDN.out); clear P))
            go_quiet ((first | (go_at_call 16; exact Calls.quiet_of_same (L1.out _)) | (go_at_call 17; exact Calls.quiet_of_same (L2.out _)) | (go_at_call 18; exact Calls.quiet_of_same (L3.out _)) | (go_at_call 19; exact Calls.quiet_of_same (L4.out _))))
            go_wp2
            go_roundw
            case rel => exact ⟨K + 1, by omega, by simp, k, _, M, am, cp, HK1, HK2, HK3, hide (H5.out.keep (below_of_drewN nq))⟩
            case measure => simp [intOf]; omega
    · have hge : ¬ (K : Int) < n := by omega
      have HB := hide HE.out.below
      clear HE
      go_wp2_with (go_at_call 8; go_must ((with_reducible refine (works8_any _).mono ?_); rintro e w9 ⟨rfl, hb9⟩; have HB9 := hide hb9; clear hb9))
      go_ret
      exact ⟨rfl, HB.out.trans (HB9.out.mono HB.out.size)⟩
end Go.Proofs.Ythajooipaiiieaa.Walk
