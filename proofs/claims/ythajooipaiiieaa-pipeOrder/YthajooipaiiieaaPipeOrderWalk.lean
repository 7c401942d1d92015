/- PipeOrder, walked. -/
import Derived.Test.YthajooipaiiieaaPipeInt
import Derived.Test.YthajooipaiiieaaDqsPipe
import Derived.Test.YthajooipaiiieaaStrFrame
import Derived.Maps.AppendAt
import Derived.Deep.DeepCutAuto
import Derived.Deep.CutBlock
namespace Go.Proofs.Ythajooipaiiieaa.Walk
open Go.RowKit Go.Proofs.Ythajooipaiiieaa.Dig Go.Proofs.Ythajooipaiiieaa.Mem Go.Proofs.Ythajooipaiiieaa.Dq Go.Proofs.Ythajooipaiiieaa.DqS Go.Proofs.Ythajooipaiiieaa.Thing
set_option linter.unusedVariables false
set_option linter.unusedSimpArgs false

def encS (x : List UInt8) : Value := .string ⟨x.toArray⟩
/-- What is between two places of a list. -/
def mid (L : List (List UInt8)) (lo hi : Nat) : List (List UInt8) := (L.take hi).drop lo
theorem mid_last {L : List (List UInt8)} {lo hi : Nat} (h1 : lo ≤ hi) (h2 : hi < L.length) : mid L lo (hi + 1) = mid L lo hi ++ [L.getD hi []] := by
  unfold mid
  rw [List.take_add_one, List.getElem?_eq_getElem h2, List.drop_append_of_le_length (by rw [List.length_take]; omega), List.getD_eq_getElem?_getD, List.getElem?_eq_getElem h2]
  rfl
theorem mid_first {L : List (List UInt8)} {lo hi : Nat} (h1 : lo < hi) (h2 : hi ≤ L.length) : mid L lo hi = L.getD lo [] :: mid L (lo + 1) hi := by
  unfold mid
  rw [List.drop_eq_getElem_cons (by rw [List.length_take]; omega), List.getD_eq_getElem?_getD, List.getElem?_eq_getElem (by omega)]
  simp
theorem mid_none (L : List (List UInt8)) (lo : Nat) : mid L lo lo = [] := by
  unfold mid
  apply List.eq_nil_of_length_eq_zero
  rw [List.length_drop, List.length_take]
  omega
theorem mid_len {L : List (List UInt8)} {lo hi : Nat} (h2 : hi ≤ L.length) : (mid L lo hi).length = hi - lo := by
  unfold mid
  rw [List.length_drop, List.length_take]
  omega
theorem newS {w wx : World} {ts : List Th} (h : Hid (Kn w ts wx)) (r : Nat) (h1 : 1 ≤ r) (h2 : r ≤ 64) : Calls Try.prog 20 #[.int .i64 (r : Int)] wx fun e w' => e = .returned (.tuple #[.pointer (some ⟨wx.heap.size, 0, none⟩), .int .i64 0]) ∧ Hid (PE w wx.heap.size r 0 false [] ts w') := by
  refine (new_ok r h1 h2 wx).mono ?_
  rintro e w' ⟨rfl, rfl⟩
  exact ⟨rfl, PE.new h.out r _ rfl⟩
/-- The room that the law asks for. -/
theorem room_of {x : Int} (h1 : 0 ≤ x) (h2 : x ≤ 255) : ∃ R : Nat, 1 ≤ R ∧ R ≤ 64 ∧ 1 + x % 64 = (R : Int) := ⟨(1 + x % 64).toNat, by omega, by omega, by omega⟩
def OrdR (w : World) (R n : Nat) (L : List (List UInt8)) (gv sv kv : Value) (wr : World) : Prop := ∃ (k s t : Nat) (c : Bool) (a : Option Addr) (cp : Nat), kv = .int .i64 (k : Int) ∧ sv = .int .i64 (s : Int) ∧ gv = .slice a t cp ∧
  k ≤ 3 * n + 3 ∧ t ≤ s ∧ s ≤ n ∧ s ≤ t + R ∧ (c = true → s = n) ∧ (k ≤ s + t ∨ s + t = 2 * n) ∧ (2 * n < k → c = true) ∧
  Hid (PE w w.heap.size R s c (mid L t s) [ownT w.heap.size 9 (.slice a t cp) t ((L.take t).map encS)] wr)
theorem PE.app {w W w' : World} {b r n : Nat} {c : Bool} {l : List (List UInt8)} {ts : List Th} {base m m' : Nat} {e : TypeId} {v v' : Value} {xs xs' : List Value} (h : PE w b r n c l (ownT base e v m xs :: ts) W) (ho : w'.ownsRow base e 1 v' m' xs') (hg : W.grownBy w' v.ownBlock) (hat : v'.ownBlock = v.ownBlock ∨ v'.ownBlock = some W.heap.size) : PE w b r n c l (ownT base e v' m' xs' :: ts) w' :=
  h.turn (t' := ownT base e v' m' xs') ho ⟨hg.os, hg.tape, hg.output, hg.size, fun k hk hn => hg.block k hk (fun e => hn e.symm)⟩ (fun k hk => by
    have hk' : v'.ownBlock = some k := hk
    rcases hat with q | q
    · exact .inl (by show v.ownBlock = some k; rw [← q]; exact hk')
    · rw [q] at hk'
      exact .inr (Nat.le_of_eq (Option.some.inj hk')))
theorem take_enc {L : List (List UInt8)} {t : Nat} (h : t < L.length) : (L.take t).map encS ++ [.string ⟨(L.getD t []).toArray⟩] = (L.take (t + 1)).map encS := by
  rw [List.take_add_one, List.getElem?_eq_getElem h, List.map_append, List.getD_eq_getElem?_getD, List.getElem?_eq_getElem h]
  rfl
theorem own_at {w : World} {base e n c : Nat} {a : Option Addr} {l : List (List UInt8)} (h : w.ownsRow base e 1 (.slice a n c) n (l.map encS)) (hn : n = l.length) {i : Nat} (hi : i < n) : ∃ b off, a = some ⟨b, off, none⟩ ∧ w.cell? ⟨b, off + i, none⟩ = some (.string ⟨(l.getD i []).toArray⟩) := by
  rcases h.2 with ⟨_, h0⟩ | ⟨g, cap, cur, hv, _⟩
  · omega
  · injection hv with h1 h2 h3
    subst h1 h3
    refine ⟨g, 0, rfl, ?_⟩
    rw [Nat.zero_add, World.ownsRow.cellAt h i (by omega), List.getElem?_map, List.getD_eq_getElem?_getD, List.getElem?_eq_getElem (by omega)]
    rfl
set_option maxHeartbeats 4000000 in
set_option maxRecDepth 20000 in
theorem walk_pipeOrder (w : World) (x : Int) (hx : (Lit.int .u8 x).wf = true) (a : Option Addr) (n c : Nat) (L : List (List UInt8)) (ha : Frame.IsStrs w a n c L) (z : Int) (hz : (Lit.int .u8 z).wf = true) :
    Calls Try.prog 4 #[.int .u8 x, .slice a n c, .int .u8 z] w fun e w' => e = .returned (.bool true) ∧ Below w.heap.size w w' := by
  obtain ⟨x1, x2⟩ := bounds_u8 hx
  obtain ⟨z1, z2⟩ := bounds_u8 hz
  obtain ⟨R, r1, r2, hR⟩ := room_of x1 x2
  have N0 := hide (newS (Kn.start w) R r1 r2)
  rw [← hR] at N0
  obtain ⟨q1, q2, q3⟩ := ha.cap
  by_cases hbig : 200 < n
  · have g0 : (200 : Int) < n := by omega
    rw [hR] at N0
    have N1 : Hid (Calls Try.prog 20 #[.int .i64 (1 + x % 64)] w fun e w' => e = .returned (.tuple #[.pointer (some ⟨w.heap.size, 0, none⟩), .int .i64 0]) ∧ Hid (PE w w.heap.size R 0 false [] [] w')) := by rw [hR]; exact N0
    replace N0 := N1
    clear N1 hR ha hx hz
    go_enter Try.func4, Try.ntmps4
    go_wp2_with (first
      | (go_at_call 20; go_must ((with_reducible refine (Hid.out N0).mono ?_); rintro e w1 ⟨rfl, H1⟩))
      | (go_at_call 8; go_must ((with_reducible refine (DqI.works8_any _).mono ?_); rintro e w2 ⟨rfl, hb2⟩; have HB2 := hide hb2; clear hb2)))
    go_ret
    exact ⟨rfl, H1.out.below.trans (HB2.out.mono H1.out.below.size)⟩
  have g0 : ¬ (200 : Int) < n := by omega
  have hn2 : n ≤ 200 := by omega
  have hr := hide (ha.rows (by omega))
  have HN := hide q3
  clear ha q1 q2 q3 hbig hx hz hR
  go_enter Try.func4, Try.ntmps4
  go_wp2_with (first
    | (go_at_call 20; go_must ((with_reducible refine (Hid.out N0).mono ?_); rintro e w1 ⟨rfl, H1⟩)))
  have R0 : Hid (OrdR w R n L (.slice none 0 0) (.int .i64 0) (.int .i64 0) w1) := hide ⟨0, 0, 0, false, none, 0, rfl, rfl, rfl, by omega, by omega, by omega, by omega, by simp, by omega, by omega, hide (by
    have := H1.out.more (t := ownT w.heap.size 9 (.slice none 0 0) 0 []) (Below.refl _ _) (World.ownsRow_nil _ _ _ _) (fun k hk => by cases hk)
    simpa [mid_none] using this)⟩
  clear N0 H1
  go_loopw [9, 10, 11] (fun g s k wr => OrdR w R n L g s k wr) (fun _ _ k _ => 3 * n + 3 - (intOf k).toNat)
  case atStart => exact R0.out
  case round =>
    obtain ⟨k, s, t, c1, ag, cg, rfl, rfl, rfl, hk, hts, hsn, hsR, hc, hkst, hkc, HE⟩ := hrel
    clear R0
    by_cases hlt : k < 3 * n + 3
    · have hli : (k : Int) < 3 * (n : Int) + 3 := by omega
      have HG := hide (show t ≤ s ∧ s ≤ n ∧ s ≤ t + R from ⟨hts, hsn, hsR⟩)
      have HC := hide hc
      have HK := hide hkst
      have HKC := hide hkc
      clear hc hkst hkc
      obtain ⟨i0, hi, hz0, hz1, hz2⟩ := info_parts Try.infoEl
      by_cases hs : s < n
      · have hsi : (s : Int) < n := by omega
        have hsq : ((s : Int) == (n : Int)) = false := by simp; omega
        have hsL : s < L.length := by rw [← HN.out]; exact hs
        obtain rfl : c1 = false := by
          cases c1 with
          | false => rfl
          | true => exact absurd (HC.out rfl) (by omega)
        have HML := hide (mid_len (L := L) (lo := t) (hi := s) (by have := HN.out; omega))
        by_cases hb : (z / 2 ^ (k % 8)).tmod 2 = 0
        · obtain ⟨b1, o1, rfl, hcell⟩ := hr.out.at hsL
          have hc1 := (HE.out.below.cell (p := ⟨b1, o1 + s, none⟩) (lt_of_cell hcell)).trans hcell
          by_cases hfull : s = t + R
          · have P := hide (sendP_full HE (by omega) (by rw [HML.out]; omega) (L.getD s []))
            obtain ⟨y0, hy0⟩ : ∃ y, y = L.getD s [] := ⟨_, rfl⟩
            rw [← hy0] at P hc1
            obtain ⟨y, hy⟩ : ∃ y, y = L.getD t [] := ⟨_, rfl⟩
            have HT := hide (take_enc (L := L) (t := t) (by have := HN.out; omega))
            have HMF := hide (mid_first (L := L) (lo := t) (hi := s) (by omega) (by have := HN.out; omega))
            rw [← hy] at HT HMF
            obtain ⟨ln, hln⟩ : ∃ ln, ln = s - (t + 1) := ⟨_, rfl⟩
            have HLN := hide (hln.trans (mid_len (L := L) (lo := t + 1) (hi := s) (by have := HN.out; omega)).symm)
            have g1 : ((ln : Int) != (s : Int) - ((t : Int) + 1)) = false := by simp; omega
            have g2 : ¬ (R : Int) < ln := by omega
            have HF := hide hfull
            clear hy hy0 hln hcell hfull
            go_wp2_with (first
              | (go_at_call 21; go_must ((with_reducible refine (Hid.out P).mono ?_); rintro e w2 ⟨rfl, H2⟩; have P2 := hide (recvP H2 HMF.out); clear P))
              | (go_at_call 23; go_must ((with_reducible refine (Hid.out P2).mono ?_); rintro e w3 ⟨rfl, H3⟩; clear P2))
              | (at_builtin; go_must ((refine wpList_append_own_at _ rfl (.tmp 87) (.tmp 89) 47 rfl w.heap.size 9 i0 (.string ⟨#[]⟩) 1 16 Try.underlying47 hi hz0 hz1 hz2 rfl (by decide) (.slice ag t cg) t ((L.take t).map encS) rfl (H3.out.keep ((Below.refl _ _).alloc (Nat.le_refl _) _)).kn.hd ⟨w3.heap.size, 0, none⟩ 1 1 [.string ⟨y.toArray⟩] rfl rfl (cell_one_new _ _ _) (by simp [Value.oneCell']) (by unfold maxLen; omega) (by omega) (by have := H3.out.below.size; simp; omega) ?_); intro v4 w4 hown4 hg4 _ hat4; obtain ⟨a4, c4, rfl⟩ := own_form hown4; have H4 := hide (PE.app (H3.out.keep ((Below.refl _ _).alloc (Nat.le_refl _) _)) hown4 hg4 hat4); clear hown4 hg4 hat4))
              | (go_at_call 24; go_must ((refine (lenP H4 HLN.out).mono ?_); rintro e w6 ⟨rfl, rfl⟩))
              | (go_at_call 25; go_must ((refine (roomP H4).mono ?_); rintro e w6 ⟨rfl, rfl⟩)))
            rw [HT.out] at H4
            have hfull := HF.out
            go_roundw
            case rel => exact ⟨k + 1, s, (t + 1), false, _, _, by simp, by simp, rfl, by omega, by omega, by omega, by omega, (by intro hh; first | omega | cases hh), (by have := HK.out; omega), (by intro hh; first | rfl | (exfalso; have := HK.out; omega)), H4⟩
            case measure => simp [intOf]; omega
          · have P := hide (sendP HE (by omega) r2 (by rw [HML.out]; omega) (by omega) (L.getD s []))
            rw [← mid_last hts hsL] at P
            obtain ⟨y, hy⟩ : ∃ y, y = L.getD s [] := ⟨_, rfl⟩
            rw [← hy] at P hc1
            clear hy hcell
            go_wp2_with (go_at_call 21; go_must ((with_reducible refine (Hid.out P).mono ?_); rintro e w2 ⟨rfl, H2⟩; clear P))
            go_roundw
            case rel => exact ⟨k + 1, (s + 1), t, false, _, _, by simp, by simp, rfl, by omega, by omega, by omega, by omega, (by intro hh; first | omega | cases hh), (by have := HK.out; omega), (by intro hh; first | rfl | (exfalso; have := HK.out; omega)), H2⟩
            case measure => simp [intOf]; omega
        · by_cases htl : t < s
          · have P := hide (recvP HE (x := L.getD t []) (l' := mid L (t + 1) s) (mid_first htl (by have := HN.out; omega)))
            obtain ⟨y, hy⟩ : ∃ y, y = L.getD t [] := ⟨_, rfl⟩
            have HT := hide (take_enc (L := L) (t := t) (by have := HN.out; omega))
            rw [← hy] at P HT
            obtain ⟨ln, hln⟩ : ∃ ln, ln = s - (t + 1) := ⟨_, rfl⟩
            have HLN := hide (hln.trans (mid_len (L := L) (lo := t + 1) (hi := s) (by have := HN.out; omega)).symm)
            have g1 : ((ln : Int) != (s : Int) - ((t : Int) + 1)) = false := by simp; omega
            have g2 : ¬ (R : Int) < ln := by omega
            clear hy hln
            go_wp2_with (first
              | (go_at_call 23; go_must ((with_reducible refine (Hid.out P).mono ?_); rintro e w3 ⟨rfl, H3⟩; clear P))
              | (at_builtin; go_must ((refine wpList_append_own_at _ rfl (.tmp 87) (.tmp 89) 47 rfl w.heap.size 9 i0 (.string ⟨#[]⟩) 1 16 Try.underlying47 hi hz0 hz1 hz2 rfl (by decide) (.slice ag t cg) t ((L.take t).map encS) rfl (H3.out.keep ((Below.refl _ _).alloc (Nat.le_refl _) _)).kn.hd ⟨w3.heap.size, 0, none⟩ 1 1 [.string ⟨y.toArray⟩] rfl rfl (cell_one_new _ _ _) (by simp [Value.oneCell']) (by unfold maxLen; omega) (by omega) (by have := H3.out.below.size; simp; omega) ?_); intro v4 w4 hown4 hg4 _ hat4; obtain ⟨a4, c4, rfl⟩ := own_form hown4; have H4 := hide (PE.app (H3.out.keep ((Below.refl _ _).alloc (Nat.le_refl _) _)) hown4 hg4 hat4); clear hown4 hg4 hat4))
              | (go_at_call 24; go_must ((refine (lenP H4 HLN.out).mono ?_); rintro e w6 ⟨rfl, rfl⟩))
              | (go_at_call 25; go_must ((refine (roomP H4).mono ?_); rintro e w6 ⟨rfl, rfl⟩)))
            rw [HT.out] at H4
            go_roundw
            case rel => exact ⟨k + 1, s, (t + 1), false, _, _, by simp, by simp, rfl, by omega, by omega, by omega, by omega, (by intro hh; first | omega | cases hh), (by have := HK.out; omega), (by intro hh; first | rfl | (exfalso; have := HK.out; omega)), H4⟩
            case measure => simp [intOf]; omega
          · obtain rfl : t = s := by omega
            obtain ⟨b1, o1, rfl, hcell⟩ := hr.out.at hsL
            have hc1 := (HE.out.below.cell (p := ⟨b1, o1 + t, none⟩) (lt_of_cell hcell)).trans hcell
            have h0 : R ≠ 0 := by omega
            have P := hide (recvP_none HE (mid_none L t) (k := 10) (by simp [refE, h0]))
            obtain ⟨y, hy⟩ : ∃ y, y = L.getD t [] := ⟨_, rfl⟩
            have HMY := hide (mid_last (L := L) (lo := t) (hi := t) (Nat.le_refl _) hsL)
            rw [← hy] at hc1 HMY
            obtain ⟨ln, hln⟩ : ∃ ln, ln = 1 := ⟨_, rfl⟩
            have HLN := hide (show ln = (mid L t (t + 1)).length by rw [mid_len (by omega)]; omega)
            have HC1 : Hid (∀ w1 : World, Below w.heap.size w w1 → w1.cell? ⟨b1, o1 + t, none⟩ = some (.string ⟨y.toArray⟩)) := hide (fun w1 hb1 => by rw [hy]; exact (hb1.cell (p := ⟨b1, o1 + t, none⟩) (lt_of_cell hcell)).trans hcell)
            have g1 : ((ln : Int) != (t : Int) + 1 - (t : Int)) = false := by rw [show (t : Int) + 1 - (t : Int) = 1 by omega]; simp; omega
            have g2 : ¬ (R : Int) < ln := by omega
            clear hy hcell hln
            go_wp2_with (first
              | (go_at_call 23; go_must ((with_reducible refine (Hid.out P).mono ?_); rintro e w3 ⟨rfl, H3⟩; have hc3 := HC1.out w3 H3.out.below; have P2 := hide (sendP H3 h0 r2 (by rw [HML.out]; omega) (by omega) y); rw [← HMY.out] at P2; clear P))
              | (go_at_call 21; go_must ((with_reducible refine (Hid.out P2).mono ?_); rintro e w4 ⟨rfl, H4⟩; clear P2))
              | (go_at_call 24; go_must ((refine (lenP H4 HLN.out).mono ?_); rintro e w6 ⟨rfl, rfl⟩))
              | (go_at_call 25; go_must ((refine (roomP H4).mono ?_); rintro e w6 ⟨rfl, rfl⟩)))
            go_roundw
            case rel => exact ⟨k + 1, (t + 1), t, false, _, _, by simp, by simp, rfl, by omega, by omega, by omega, by omega, (by intro hh; first | omega | cases hh), (by have := HK.out; omega), (by intro hh; first | rfl | (exfalso; have := HK.out; omega)), H4⟩
            case measure => simp [intOf]; omega
      · obtain rfl : s = n := by omega
        have HML := hide (mid_len (L := L) (lo := t) (hi := s) (by have := HN.out; omega))
        have h0 : R ≠ 0 := by omega
        have C : Hid (Calls Try.prog 22 #[.pointer (some ⟨w.heap.size, 0, none⟩)] wr fun e w' => (∃ v : Int, e = .returned (.int .i64 v)) ∧ Hid (PE w w.heap.size R s true (mid L t s) [ownT w.heap.size 9 (.slice ag t cg) t ((L.take t).map encS)] w')) := by
          cases c1 with
          | true =>
            refine (closeP_not HE (k := 11) (by simp [refE, h0]) (by decide)).mono ?_
            rintro e w' ⟨rfl, h⟩
            exact ⟨⟨_, rfl⟩, h⟩
          | false =>
            refine (closeP HE h0).mono ?_
            rintro e w' ⟨rfl, h⟩
            exact ⟨⟨_, rfl⟩, h⟩
        clear HE HC HKC hs
        by_cases htl : t < s
        · have HMF := hide (mid_first (L := L) (lo := t) (hi := s) htl (by have := HN.out; omega))
          obtain ⟨y, hy⟩ : ∃ y, y = L.getD t [] := ⟨_, rfl⟩
          have HT := hide (take_enc (L := L) (t := t) (by have := HN.out; omega))
          rw [← hy] at HMF HT
          obtain ⟨ln, hln⟩ : ∃ ln, ln = s - (t + 1) := ⟨_, rfl⟩
          have HLN := hide (hln.trans (mid_len (L := L) (lo := t + 1) (hi := s) (by have := HN.out; omega)).symm)
          have g1 : ((ln : Int) != (s : Int) - ((t : Int) + 1)) = false := by simp; omega
          have g2 : ¬ (R : Int) < ln := by omega
          clear hy hln
          by_cases hb : (z / 2 ^ (k % 8)).tmod 2 = 0
          all_goals
            go_wp2_with (first
              | (go_at_call 22; go_must ((with_reducible refine (Hid.out C).mono ?_); rintro e w2 ⟨⟨cv, rfl⟩, H2⟩; have P2 := hide (recvP H2 HMF.out); clear C))
              | (go_at_call 23; go_must ((with_reducible refine (Hid.out P2).mono ?_); rintro e w3 ⟨rfl, H3⟩; clear P2))
              | (at_builtin; go_must ((refine wpList_append_own_at _ rfl (.tmp 87) (.tmp 89) 47 rfl w.heap.size 9 i0 (.string ⟨#[]⟩) 1 16 Try.underlying47 hi hz0 hz1 hz2 rfl (by decide) (.slice ag t cg) t ((L.take t).map encS) rfl (H3.out.keep ((Below.refl _ _).alloc (Nat.le_refl _) _)).kn.hd ⟨w3.heap.size, 0, none⟩ 1 1 [.string ⟨y.toArray⟩] rfl rfl (cell_one_new _ _ _) (by simp [Value.oneCell']) (by unfold maxLen; omega) (by omega) (by have := H3.out.below.size; simp; omega) ?_); intro v4 w4 hown4 hg4 _ hat4; obtain ⟨a4, c4, rfl⟩ := own_form hown4; have H4 := hide (PE.app (H3.out.keep ((Below.refl _ _).alloc (Nat.le_refl _) _)) hown4 hg4 hat4); clear hown4 hg4 hat4))
              | (go_at_call 24; go_must ((refine (lenP H4 HLN.out).mono ?_); rintro e w6 ⟨rfl, rfl⟩))
              | (go_at_call 25; go_must ((refine (roomP H4).mono ?_); rintro e w6 ⟨rfl, rfl⟩)))
            rw [HT.out] at H4
            go_roundw
            case rel => exact ⟨k + 1, s, (t + 1), true, _, _, by simp, by simp, rfl, by omega, by omega, by omega, by omega, (by intro hh; first | omega | cases hh), (by have := HK.out; omega), (by intro hh; first | rfl | (exfalso; have := HK.out; omega)), H4⟩
            case measure => simp [intOf]; omega
        · obtain rfl : t = s := by omega
          obtain ⟨ln, hln⟩ : ∃ ln, ln = 0 := ⟨_, rfl⟩
          have HLN := hide (show ln = (mid L t t).length by rw [mid_none]; exact hln)
          have g1 : ((ln : Int) != 0) = false := by simp; omega
          have g2 : ¬ (R : Int) < ln := by omega
          clear hln
          by_cases hb : (z / 2 ^ (k % 8)).tmod 2 = 0
          all_goals
            go_wp2_with (first
              | (go_at_call 22; go_must ((with_reducible refine (Hid.out C).mono ?_); rintro e w2 ⟨⟨cv, rfl⟩, H2⟩; have P2 := hide (recvP_none H2 (mid_none L t) (k := 11) (by simp [refE, h0])); clear C))
              | (go_at_call 23; go_must ((with_reducible refine (Hid.out P2).mono ?_); rintro e w3 ⟨rfl, H3⟩; clear P2))
              | (go_at_call 24; go_must ((refine (lenP H3 HLN.out).mono ?_); rintro e w6 ⟨rfl, rfl⟩))
              | (go_at_call 25; go_must ((refine (roomP H3).mono ?_); rintro e w6 ⟨rfl, rfl⟩)))
            go_roundw
            case rel => exact ⟨k + 1, t, t, true, _, _, by simp, by simp, rfl, by omega, by omega, by omega, by omega, (by intro hh; first | omega | cases hh), (by have := HK.out; omega), (by intro hh; first | rfl | (exfalso; have := HK.out; omega)), H3⟩
            case measure => simp [intOf]; omega
    · obtain rfl : c1 = true := hkc (by omega)
      obtain rfl : s = n := hc rfl
      obtain rfl : t = s := by omega
      have hge : ¬ (k : Int) < 3 * (t : Int) + 3 := by omega
      have HL : Hid (L.take t = L) := hide (by rw [HN.out]; exact List.take_length)
      rw [mid_none, HL.out] at HE
      have R1 : Hid (∃ j : Nat, j ≤ t ∧ (Value.int .i64 0) = .int .i64 (j : Int) ∧ Hid (PE w w.heap.size R t true [] [ownT w.heap.size 9 (.slice ag t cg) t (L.map encS)] wr)) := ⟨0, Nat.zero_le _, rfl, HE⟩
      clear hc hkst hkc hlt hk
      go_wp2_with (go_at_call 26; go_must ((refine (doneP HE (d := true) rfl).mono ?_); rintro e w6 ⟨rfl, rfl⟩))
      clear HE
      go_loopw [14] (fun i wr => ∃ j : Nat, j ≤ t ∧ i = .int .i64 (j : Int) ∧ Hid (PE w w.heap.size R t true [] [ownT w.heap.size 9 (.slice ag t cg) t (L.map encS)] wr)) (fun i _ => t - (intOf i).toNat)
      case atStart => exact R1.out
      case round =>
        obtain ⟨j, hj, rfl, HE⟩ := hrel
        clear R1
        by_cases hlt : j < t
        · have hli : (j : Int) < t := by omega
          obtain ⟨b2, o2, rfl, hcg⟩ := own_at HE.out.kn.hd HN.out hlt
          obtain ⟨b1, o1, rfl, hcell⟩ := hr.out.at (show j < L.length by rw [← HN.out]; exact hlt)
          have hc1 := (HE.out.below.cell (p := ⟨b1, o1 + j, none⟩) (lt_of_cell hcell)).trans hcell
          obtain ⟨y, hy⟩ : ∃ y, y = L.getD j [] := ⟨_, rfl⟩
          rw [← hy] at hcg hc1
          clear hcell hy
          go_wp2
          go_quiet (fail)
          go_wp2
          go_roundw
          case rel => exact ⟨j + 1, by omega, by simp, hide (HE.out.keep (below_of_drewN nq))⟩
          case measure => simp [intOf]; omega
        · have hge2 : ¬ (j : Int) < t := by omega
          have HB := hide HE.out.below
          clear HE
          go_wp2_with (go_at_call 8; go_must ((with_reducible refine (DqI.works8_any _).mono ?_); rintro e w9 ⟨rfl, hb9⟩; have HB9 := hide hb9; clear hb9))
          go_ret
          exact ⟨rfl, HB.out.trans (HB9.out.mono HB.out.size)⟩
end Go.Proofs.Ythajooipaiiieaa.Walk
