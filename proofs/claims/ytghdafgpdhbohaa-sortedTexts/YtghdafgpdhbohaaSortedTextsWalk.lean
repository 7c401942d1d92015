/- SortedTexts, walked. -/
import Derived.Test.YtghdafgpdhbohaaSetWorks
import Derived.Test.YtghdafgpdhbohaaTxtFrame
import Derived.Test.YtghdafgpdhbohaaTxtWith
import Derived.Test.YtghdafgpdhbohaaTxtRef
namespace Go.Proofs.Ytghdafgpdhbohaa.SetsT
open Go.RowKit Go.Proofs.Ytghdafgpdhbohaa.Sets Go.Proofs.Ytghdafgpdhbohaa.Dig Go.Proofs.Ytghdafgpdhbohaa.Mem
set_option linter.unusedVariables false
set_option linter.unusedSimpArgs false

theorem ofT (w : World) (a : Option Addr) (n c : Nat) (l : List (List UInt8)) (h : RowT w a c l) (hn : n = l.length) (hm : n ≤ 60) :
    Calls Try.prog 23 #[.slice a n c] w fun e w' => ∃ a' n' c', e = .returned (.agg #[.slice a' n' c']) ∧ n' = (setL ltS l).length ∧ RowT w' a' c' (setL ltS l) ∧ Below w.heap.size w w' := by
  subst hn
  refine (of_any a c l w h (by omega)).mono ?_
  rintro e w' ⟨v, rfl, ⟨a', c', rfl, hr⟩, _, hb⟩
  exact ⟨a', _, c', rfl, rfl, hr, hb⟩
theorem withT (w : World) (a2 a : Option Addr) (k c2 n c : Nat) (s l S : List (List UInt8)) (hs : RowT w a2 c2 s) (hk : k = s.length) (hr : Rising ltS s) (hks : k ≤ 400) (h : RowT w a c l) (hn : n = l.length) (hm : n ≤ 60) (hS : setL ltS (s ++ l) = S) :
    Calls Try.prog 24 #[.agg #[.slice a2 k c2], .slice a n c] w fun e w' => ∃ a' c', e = .returned (.agg #[.slice a' S.length c']) ∧ RowT w' a' c' S ∧ Below w.heap.size w w' := by
  subst hn; subst hk; subst hS
  refine (with_any _ s a c l w ⟨a2, c2, rfl, hs⟩ h (by omega) (by omega) hr).mono ?_
  rintro e w' ⟨v, rfl, ⟨a', c', rfl, hr⟩, _, hb⟩
  exact ⟨a', c', rfl, hr, hb⟩
theorem listT (w : World) (a : Option Addr) (n c : Nat) (S : List (List UInt8)) (h : RowT w a c S) (hn : n = S.length) (hm : n ≤ 400) :
    Calls Try.prog 25 #[.agg #[.slice a n c]] w fun e w' => ∃ a' c', e = .returned (.slice a' n c') ∧ RowT w' a' c' S ∧ Below w.heap.size w w' := by
  subst hn
  refine (list_any _ S w ⟨a, c, rfl, h⟩ (by omega)).mono ?_
  rintro e w' ⟨⟨a', c', rfl, hr⟩, hb⟩
  exact ⟨a', c', rfl, hr, hb⟩
theorem textsT (w : World) (a : Option Addr) (N M c : Nat) (ab S : List (List UInt8)) (h : RowT w a c ab) (hn : N = ab.length) (hm : N ≤ 400) (hS : setL ltS ab = S) (hM : M = S.length) :
    Calls Try.prog 26 #[.slice a N c] w fun e w' => ∃ a' c', e = .returned (.slice a' M c') ∧ RowT w' a' c' S ∧ Below w.heap.size w w' := by
  subst hn; subst hS; subst hM
  refine (texts_any a c ab w h (by omega)).mono ?_
  rintro e w' ⟨⟨a', c', rfl, hr⟩, hb⟩
  exact ⟨a', c', rfl, hr, hb⟩
theorem sameT (w : World) (a b : Option Addr) (c d n m : Nat) (l r : List (List UInt8)) (x : Bool) (ha : RowT w a c l) (hb : RowT w b d r) (hn : n = l.length) (hm : m = r.length) (hx : (cmpL ltS l r == 0) = x) :
    Calls Try.prog 27 #[.slice a n c, .slice b m d] w fun e w' => e = .returned (.bool x) ∧ w' = w := by
  subst hn; subst hm; subst hx
  exact psame_any a b c d l r w ha hb
theorem more_not (S : List (List UInt8)) : (cmpL ltS S (S ++ [[]]) == 0) = false := by
  rw [beq_eq_false_iff_ne]
  intro h
  have := congrArg List.length (cmpL_zero totS h)
  simp at this
theorem one_rows (w : World) (b : Nat) (hb : b = w.heap.size) : RowS (w.alloc (.cells #[.string ⟨#[]⟩] 9)) (some ⟨b, 0, none⟩) 1 [[]] := by
  subst hb
  refine ⟨by simp, by simp, fun i hi => ⟨_, _, rfl, ?_⟩, fun e => (by cases e)⟩
  have : i = 0 := by simpa using hi
  subst this
  exact (Is.made w #[.string ⟨#[]⟩] 9 rfl).cell 0 rfl
theorem texts_no (w : World) (a0 a1 : Option Addr) (n0 n1 c0 c1 : Nat) (h : 60 < n0 ∨ 60 < n1) (m0 : n0 ≤ 9223372036854775807) (m1 : n1 ≤ 9223372036854775807) : Calls Try.prog 5 #[.slice a0 n0 c0, .slice a1 n1 c1] w fun e w' => e = .returned (.bool true) ∧ Below w.heap.size w w' := by
  by_cases h0 : 60 < n0
  · have g0 : (60 : Int) < n0 := by omega
    clear h
    go_enter Try.func5, Try.ntmps5
    go_wp2_with (first | (go_at_call 8; go_must ((with_reducible refine (Sets.works5_any _).mono ?_); rintro e w1 ⟨rfl, hb1⟩; have HB1 := hide hb1; clear hb1)))
    go_ret
    exact ⟨rfl, HB1.out⟩
  · have g0 : ¬ (60 : Int) < n0 := by omega
    have g1 : (60 : Int) < n1 := by omega
    clear h
    go_enter Try.func5, Try.ntmps5
    go_wp2_with (first | (go_at_call 8; go_must ((with_reducible refine (Sets.works5_any _).mono ?_); rintro e w1 ⟨rfl, hb1⟩; have HB1 := hide hb1; clear hb1)))
    go_ret
    exact ⟨rfl, HB1.out⟩
def ShortR (ab : List (List UInt8)) (N : Nat) (kv : Value) : Prop := ∃ k : Nat, k ≤ N ∧ kv = .int .i64 (k : Int) ∧ Hid (∀ i, i < k → (ab.getD i []).length ≤ 100)
set_option maxHeartbeats 4000000 in
set_option maxRecDepth 20000 in
theorem texts_yes (w : World) (a0 a1 : Option Addr) (n0 n1 c0 c1 : Nat) (la lb : List (List UInt8)) (ha : RowS w a0 c0 la) (hb : RowS w a1 c1 lb) (hn0 : n0 = la.length) (hn1 : n1 = lb.length) (b0 : n0 ≤ 60) (b1 : n1 ≤ 60) :
    Calls Try.prog 5 #[.slice a0 n0 c0, .slice a1 n1 c1] w fun e w' => e = .returned (.bool true) ∧ Below w.heap.size w w' := by
  have HA := hide ha
  have HB := hide hb
  have HO1 : Hid (OwnT w.heap.size (w.alloc (.cells #[] 9)) (.slice (some ⟨w.heap.size, 0, none⟩) 0 0) []) := OwnT.empty rfl (Nat.le_refl _)
  have HBA : Hid (Below w.heap.size w (w.alloc (.cells #[] 9))) := (Below.refl _ _).alloc (Nat.le_refl _) _
  have HN0 := hide hn0
  have HN1 := hide hn1
  have HB0 := hide b0
  have HB1' := hide b1
  have g0 : ¬ (60 : Int) < n0 := by omega
  have g1 : ¬ (60 : Int) < n1 := by omega
  obtain ⟨ab, hab⟩ : ∃ ab, ab = la ++ lb := ⟨_, rfl⟩
  obtain ⟨N, hNN⟩ : ∃ N, N = ab.length := ⟨_, rfl⟩
  have HAB := hide hab
  have HNN := hide hNN
  have HN : Hid (N ≤ 120) := hide (by rw [hNN, hab, List.length_append]; omega)
  obtain ⟨S, hS⟩ : ∃ S, S = setL ltS ab := ⟨_, rfl⟩
  obtain ⟨M, hM⟩ : ∃ M, M = S.length := ⟨_, rfl⟩
  have HS : Hid (setL ltS ab = S) := hS.symm
  have HSA : Hid (setL ltS (setL ltS la ++ lb) = S) := by rw [hS, hab]; exact setL_congr totS fun x => by simp [mem_setL totS]
  have HM := hide hM
  have HM2 : Hid (M ≤ 120) := hide (by have := setL_length (lt := ltS) ab; have := HN.out; rw [hM, hS]; omega)
  have HK2 : Hid ((setL ltS la).length ≤ 60) := hide (by have := setL_length (lt := ltS) la; omega)
  clear ha hb hn0 hn1 b0 b1 hab hNN hS hM
  go_enter Try.func5, Try.ntmps5
  go_wp2_with (first
    | (at_builtin; (refine app_rows (w0 := w) rfl _ _ rfl w.heap.size v1 la rfl HO2.out a1 c1 n1 lb rfl HN1.out (HB.out.keep HBB.out) (by have := HN0.out; have := HN1.out; have := HB0.out; have := HB1'.out; omega) HZ1.out HBB.out ?_); intro v2 w2 hown2 hb2 hs2; rw [← HAB.out] at hown2; obtain ⟨a3, c3, rfl, hr3⟩ := hown2.rows (by have := HN.out; have := HNN.out; omega); rw [← HNN.out]; have HR3 := hide hr3; have HB2 := hide hb2; clear hown2 hb2 hs2 hr3)
    | (at_builtin; (refine app_rows (w0 := w) rfl _ _ rfl w.heap.size (.slice (some ⟨w.heap.size, 0, none⟩) 0 0) [] rfl HO1.out a0 c0 n0 la rfl HN0.out (HA.out.keep HBA.out) (by have := HN0.out; have := HB0.out; simp; omega) (by simp) HBA.out ?_); intro v1 w1 hown1 hb1 hs1; have HO2 : Hid (OwnT w.heap.size w1 v1 la) := hown1; have HBB := hide hb1; have HZ1 := hide hb1.size; clear hown1 hb1 hs1))
  have hnn := HN.out
  go_loopw [6] (fun kv wr => ShortR ab N kv ∧ wr = w2) (fun kv _ => N - (intOf kv).toNat)
  case atStart => exact ⟨⟨0, by omega, rfl, hide (fun i hi => by omega)⟩, rfl⟩
  case round =>
    obtain ⟨⟨k, hk, rfl, hsh⟩, hwr⟩ := hrel
    replace hwr := hwr.symm
    subst hwr
    by_cases hlt : k < N
    · obtain ⟨b3, o3, rfl, hc3⟩ := HR3.out.at (show k < ab.length by rw [← HNN.out]; exact hlt)
      obtain ⟨x, hx⟩ : ∃ x, x = ab.getD k [] := ⟨_, rfl⟩
      rw [← hx] at hc3
      have HX := hide hx
      have hsz : ByteArray.size ⟨x.toArray⟩ = x.length := by simp [ByteArray.size]
      clear hx
      by_cases hlong : 100 < x.length
      · have g2 : (100 : Int) < x.length := by omega
        go_wp2_with (first | (go_at_call 8; go_must ((with_reducible refine (Sets.works5_any _).mono ?_); rintro e w1 ⟨rfl, hb1⟩; have HB1 := hide hb1; clear hb1)))
        go_ret
        exact ⟨rfl, HB2.out.trans (HB1.out.mono HB2.out.size)⟩
      · have g2 : ¬ (100 : Int) < x.length := by omega
        have HX2 : Hid (x.length ≤ 100) := hide (by omega)
        clear hlong
        go_wp2
        go_roundw
        case rel => exact ⟨⟨k + 1, by omega, by simp, hide (fun i hi => by
          by_cases e : i = k
          · rw [e, ← HX.out]; exact HX2.out
          · exact hsh.out i (by omega))⟩, trivial⟩
        case measure => simp [intOf]; omega
    · obtain rfl : k = N := by omega
      have hshort : ∀ x ∈ ab, x.length ≤ 1000 := fun x hx => by
        obtain ⟨i, hi, e⟩ := List.getElem_of_mem hx
        have := hsh.out i (by rw [HNN.out]; exact hi)
        rw [List.getD_eq_getElem?_getD, List.getElem?_eq_getElem hi, Option.getD_some, e] at this
        omega
      have hsa : RowT _ a0 c0 la := (HA.out.keep (HB2.out.mono (Nat.le_refl _))).short (fun x hx => hshort x (by rw [HAB.out]; exact List.mem_append_left _ hx))
      have hsb : RowT _ a1 c1 lb := (HB.out.keep (HB2.out.mono (Nat.le_refl _))).short (fun x hx => hshort x (by rw [HAB.out]; exact List.mem_append_right _ hx))
      have HTA := hide hsa
      have HTB := hide hsb
      have HTR := hide (HR3.out.short hshort)
      clear hshort hsa hsb hsh hk hlt
      obtain ⟨W2, hW2⟩ : ∃ W2, W2 = w2 := ⟨_, rfl⟩
      subst hW2
      have g3 : ((M : Int) != M) = false := by simp
      go_wp2_with (first
        | (go_at_call 23; go_must ((with_reducible refine (ofT _ a0 n0 c0 la HTA.out HN0.out HB0.out).mono ?_); rintro e w3 ⟨a5, n5, c5, rfl, hn5, hr5, hb5⟩; have HN5 := hide hn5; have HR5 := hide hr5; have HB5 := hide hb5; have HC5 := hide (hb5.alloc hb5.size (.cells #[.slice a5 n5 c5] 43)); have hI5 : (w3.alloc (.cells #[.slice a5 n5 c5] 43)).cell? ⟨w3.heap.size, 0, none⟩ = some (.slice a5 n5 c5) := (Is.made w3 #[.slice a5 n5 c5] 43 rfl).cell 0 rfl; clear hn5 hr5 hb5))
        | (go_at_call 24; go_must ((with_reducible refine (withT _ a5 a1 n5 c5 n1 c1 (setL ltS la) lb S (HR5.out.keep ((Below.refl _ _).alloc (Nat.le_refl _) _)) HN5.out (rising_setL totS la) (by have := HN5.out; have := HK2.out; omega) (HTB.out.keep HC5.out) HN1.out HB1'.out HSA.out).mono ?_); rw [← HM.out]; rintro e w4 ⟨a6, c6, rfl, hr6, hb6⟩; have HR6 := hide hr6; have HB6 := hide (HC5.out.trans (hb6.mono (by have := HC5.out.size; exact this))); clear hr6 hb6 hI5))
        | (go_at_call 25; go_must ((with_reducible refine (listT _ a6 M c6 S HR6.out HM.out (by have := HM2.out; omega)).mono ?_); rintro e w5 ⟨a7, c7, rfl, hr7, hb7⟩; have HR7 := hide hr7; have HB7 := hide (HB6.out.trans (hb7.mono HB6.out.size)); clear hr7 hb7))
        | (go_at_call 26; go_must ((with_reducible refine (textsT _ a3 k M c3 ab S (HTR.out.keep HB7.out) HNN.out (by have := HN.out; omega) HS.out HM.out).mono ?_); rintro e w6 ⟨a8, c8, rfl, hr8, hb8⟩; have HR8 := hide hr8; have HR77 := hide (HR7.out.keep hb8); have HB8 := hide (HB7.out.trans (hb8.mono HB7.out.size)); have HO8 : Hid (OwnT w6.heap.size (w6.alloc (.cells #[] 9)) (.slice (some ⟨w6.heap.size, 0, none⟩) 0 0) []) := OwnT.empty rfl (Nat.le_refl _); have HBO : Hid (Below w6.heap.size w6 (w6.alloc (.cells #[] 9))) := (Below.refl _ _).alloc (Nat.le_refl _) _; clear hr8 hb8))
        | (at_builtin; (refine app_rows_g (w0 := w6) (by first | rfl | simp [Region.wanted, yielded]) _ _ rfl w6.heap.size v9 S rfl (HO9.out.keep ((Below.refl _ _).alloc (Nat.le_refl _) _)) (some ⟨w7.heap.size, 0, none⟩) 1 1 [[]] rfl rfl (one_rows w7 _ rfl) (by have := HM.out; have := HM2.out; simp; omega) (by have := HZ9.out; simp; omega) (HB9.out.alloc HZ9.out _) ?_); intro v10 w8 hown10 hb10 hs10; obtain ⟨a10, c10, rfl, hr10⟩ := hown10.rows (by have := HM.out; have := HM2.out; simp; omega); rw [List.length_append, ← HM.out, List.length_singleton]; have HR10 := hide (hr10.short (fun x hx => (List.mem_append.1 hx).elim (HR8.out.wf x) (fun q => by rw [List.mem_singleton.1 q]; simp))); have HB10 := hide hb10; clear hown10 hb10 hs10 hr10)
        | (at_builtin; (refine app_rows_g (w0 := w6) (by first | rfl | simp [Region.wanted, yielded]) _ _ rfl w6.heap.size (.slice (some ⟨w6.heap.size, 0, none⟩) 0 0) [] rfl HO8.out a8 c8 M S rfl HM.out (HR8.out.row.keep HBO.out) (by have := HM.out; have := HM2.out; simp; omega) (by simp) HBO.out ?_); intro v9 w7 hown9 hb9 hs9; have HO9 : Hid (OwnT w6.heap.size w7 v9 S) := hown9; have HB9 := hide hb9; have HZ9 := hide hb9.size; clear hown9 hb9 hs9)
        | (go_at_call 27; ((with_reducible refine (sameT _ a7 a8 c7 c8 M M S S true HR77.out HR8.out HM.out HM.out (by simp [cmpL_self totS])).mono ?_); rintro e w9 ⟨rfl, hw9⟩; replace hw9 := hw9.symm; subst hw9))
        | (go_at_call 27; go_must ((with_reducible refine (sameT _ a7 a10 c7 c10 M (M + 1) S (S ++ [[]]) false (HR77.out.keep HB10.out) HR10.out HM.out (by rw [List.length_append, ← HM.out, List.length_singleton]) (more_not S)).mono ?_); rintro e w9 ⟨rfl, hw9⟩; replace hw9 := hw9.symm; subst hw9)))
      have hm2 := HM2.out
      have HBE := hide (HB2.out.trans ((HB8.out.trans (HB10.out.mono HB8.out.size)).mono HB2.out.size))
      have HR7E := hide (HR77.out.keep HB10.out)
      have HR8E := hide (HR8.out.keep HB10.out)
      go_loopw [10] (fun kv wr => (∃ q : Nat, q ≤ M ∧ kv = .int .i64 (q : Int)) ∧ Hid (Below w8.heap.size w8 wr)) (fun kv _ => M - (intOf kv).toNat)
      case atStart => exact ⟨⟨0, by omega, rfl⟩, Below.refl _ _⟩
      case round =>
        obtain ⟨⟨q, hq, rfl⟩, hB11⟩ := hrel
        obtain ⟨W3, hW3⟩ : ∃ W3, W3 = wr := ⟨_, rfl⟩
        subst hW3
        by_cases hql : q < M
        · obtain ⟨b7, o7, rfl, hc7⟩ := (HR7E.out.keep hB11.out).at (show q < S.length by rw [← HM.out]; exact hql)
          obtain ⟨b8, o8, rfl, hc8⟩ := (HR8E.out.keep hB11.out).at (show q < S.length by rw [← HM.out]; exact hql)
          obtain ⟨x, hx⟩ : ∃ x, x = S.getD q [] := ⟨_, rfl⟩
          rw [← hx] at hc7 hc8
          clear hx
          have heq : (x == x) = true := by simp
          go_wp2
          go_region
          all_goals
            go_wp2
            go_roundw
            case rel => exact ⟨⟨q + 1, by omega, by simp⟩, by repeat (first | exact hB11.out | apply Below.drew)⟩
            case measure => simp [intOf]; omega
        · obtain rfl : q = M := by omega
          have HBF := hide (HBE.out.trans (hB11.out.mono HBE.out.size))
          go_wp2_with (first | (go_at_call 8; go_must ((with_reducible refine (Sets.works5_any _).mono ?_); rintro e w1 ⟨rfl, hb1⟩; have HB1 := hide hb1; clear hb1)))
          go_ret
          exact ⟨rfl, HBF.out.trans (HB1.out.mono HBF.out.size)⟩
end Go.Proofs.Ytghdafgpdhbohaa.SetsT
namespace Go.Proofs.Ytghdafgpdhbohaa.Walk
open Go.RowKit Go.Proofs.Ytghdafgpdhbohaa.SetsT
theorem walk_sortedTexts (w : World) (a0 : Option Addr) (n0 c0 : Nat) (z0 : List (List UInt8)) (h0 : Frame.IsStrs w a0 n0 c0 z0) (a1 : Option Addr) (n1 c1 : Nat) (z1 : List (List UInt8)) (h1 : Frame.IsStrs w a1 n1 c1 z1) :
    Calls Try.prog 5 #[.slice a0 n0 c0, .slice a1 n1 c1] w fun e w' => e = .returned (.bool true) ∧ Below w.heap.size w w' := by
  have m0 := h0.cap
  have m1 := h1.cap
  by_cases hb : 60 < n0 ∨ 60 < n1
  · exact texts_no w a0 a1 n0 n1 c0 c1 hb (by omega) (by omega)
  · exact texts_yes w a0 a1 n0 n1 c0 c1 z0 z1 (h0.rows (by omega)) (h1.rows (by omega)) m0.2.2 m1.2.2 (by omega) (by omega)
end Go.Proofs.Ytghdafgpdhbohaa.Walk
