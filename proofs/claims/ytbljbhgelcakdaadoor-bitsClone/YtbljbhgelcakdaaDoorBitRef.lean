/- The document's answer for bits: New, Set, Has, List, Next, With. -/
import Derived.Test.YtbljbhgelcakdaaDoorBitRow
import Derived.WalkArith
namespace Go.Proofs.YtbljbhgelcakdaaDoor.Bit
open Go.RowKit Go.Proofs.YtbljbhgelcakdaaDoor.Dig Go.Proofs.YtbljbhgelcakdaaDoor.Mem
set_option linter.unusedVariables false
set_option linter.unusedSimpArgs false

/-- The first k of a row laid, no truths behind. -/
def fillB (all : Bool) (n k : Nat) : List Bool := List.replicate k all ++ List.replicate (n - k) false
theorem fillB_length {all : Bool} {n k : Nat} (h : k ≤ n) : (fillB all n k).length = n := by simp [fillB]; omega
theorem fillB_set {all : Bool} {n k : Nat} (h : k < n) : (fillB all n k).set k all = fillB all n (k + 1) := by
  unfold fillB
  obtain ⟨r, hr⟩ : ∃ r, n - k = r + 1 := ⟨n - k - 1, by omega⟩
  have e : n - (k + 1) = r := by omega
  rw [hr, e, List.set_append_right _ _ (by simp), List.length_replicate, Nat.sub_self, List.replicate_succ (n := r), List.set_cons_zero, List.replicate_succ']
  simp
def NewR (w : World) (all : Bool) (n : Nat) (v : Value) (i : Value) (wr : World) : Prop :=
  ∃ k : Nat, k ≤ n ∧ i = .int .i64 (k : Int) ∧ Hid (OwnB w.heap.size wr v (fillB all n k)) ∧ Hid (Below w.heap.size w wr)
set_option maxHeartbeats 1000000 in
set_option maxRecDepth 20000 in
theorem rnew_any (n : Int) (all : Bool) (w : World) (hn : (Lit.int .i64 n).wf = true) :
    Calls Tryd.prog 10 #[.int .i64 n, .bool all] w fun e w' => (∃ a c, e = .returned (.slice a (newB n all).length c) ∧ RowB w' a c (newB n all) ∧ Fresh w.heap.size a) ∧ Below w.heap.size w w' := by
  obtain ⟨N, hN⟩ : ∃ N : Nat, N = (max 0 (min n 65536)).toNat := ⟨_, rfl⟩
  have hN2 : N ≤ 65536 := by omega
  have HE : Hid (newB n all = List.replicate N all) := by rw [hN]; rfl
  obtain ⟨C, hC⟩ := mk_bools w.heap.size N hN2
  have HF : Hid (∀ w1 : World, OwnB w.heap.size w1 (.slice (some ⟨w.heap.size, 0, none⟩) N N) (fillB all N N) → Below w.heap.size w w1 → (∃ a c, Ending.returned (.slice (some ⟨w.heap.size, 0, none⟩) N N) = .returned (.slice a (newB n all).length c) ∧ RowB w1 a c (newB n all) ∧ Fresh w.heap.size a) ∧ Below w.heap.size w w1) := fun w1 ho hb => by
    have e : fillB all N N = newB n all := by rw [HE.out]; simp [fillB]
    rw [e] at ho
    obtain ⟨a, c, hv, hr, hfr⟩ := ho.row (by rw [HE.out]; simp; omega)
    injection hv with h1 h2 h3
    subst h1 h3
    exact ⟨⟨_, _, by rw [← h2], hr, hfr⟩, hb⟩
  have HO := hide (hC w (Nat.le_refl _)).2
  have hmk := (hC w (Nat.le_refl _)).1
  have hb1 := bounds_i64 hn
  obtain ⟨q1, q2⟩ := hb1
  clear hC HE
  by_cases h0 : n < 0
  · have HZ : Hid ((N : Int) = 0) := hide (by omega)
    rw [HZ.out] at hmk
    clear hN hN2
    go_enter Tryd.func10, Tryd.ntmps10
    go_wp2
    have R0 : Hid (NewR w all N (.slice (some ⟨w.heap.size, 0, none⟩) N N) (.int .i64 0) (w.alloc (.cells C 4))) := ⟨0, by omega, rfl, hide (by have := HO.out; unfold fillB; simpa using this), (Below.refl _ _).alloc (Nat.le_refl _) _⟩
    generalize (w.alloc (.cells C 4)) = w1 at *
    go_loopw [6] (fun i wr => NewR w all N (.slice (some ⟨w.heap.size, 0, none⟩) N N) i wr) (fun i _ => N - (intOf i).toNat)
    case atStart => exact R0.out
    case round =>
      obtain ⟨k, hk, rfl, hO, hB⟩ := hrel
      obtain rfl : N = k := by have := HZ.out; omega
      have hlI : ¬ (N : Int) < 0 := by have := HZ.out; omega
      go_wp2
      go_ret
      exact HF.out _ hO.out hB.out
  · by_cases h1 : n > 65536
    · have HZ : Hid ((N : Int) = 65536) := hide (by omega)
      rw [HZ.out] at hmk
      clear hN hN2
      go_enter Tryd.func10, Tryd.ntmps10
      go_wp2
      have R0 : Hid (NewR w all N (.slice (some ⟨w.heap.size, 0, none⟩) N N) (.int .i64 0) (w.alloc (.cells C 4))) := ⟨0, by omega, rfl, hide (by have := HO.out; unfold fillB; simpa using this), (Below.refl _ _).alloc (Nat.le_refl _) _⟩
      generalize (w.alloc (.cells C 4)) = w1 at *
      go_loopw [6] (fun i wr => NewR w all N (.slice (some ⟨w.heap.size, 0, none⟩) N N) i wr) (fun i _ => N - (intOf i).toNat)
      case atStart => exact R0.out
      case round =>
        obtain ⟨k, hk, rfl, hO, hB⟩ := hrel
        by_cases hlt : k < N
        · have hlI : (k : Int) < 65536 := by have := HZ.out; omega
          obtain ⟨g, hg, hbg, hglt, hcell, hfz, -, hput⟩ := OwnB.put hO.out (k := k) (by rw [fillB_length hk]; exact hlt)
          injection hg with hg
          injection hg with hg
          subst hg
          have HP := hide (hput all)
          have hB2 := hide (hB.out.setCell (p := ⟨w.heap.size, k, none⟩) (Nat.le_refl _) (.bool all))
          clear hput
          go_wp2
          go_roundw
          case rel => exact ⟨k + 1, by omega, by simp, by have := HP.out; rw [fillB_set hlt] at this; exact this, hB2⟩
          case measure => simp [intOf]; omega
        · obtain rfl : N = k := by omega
          have hlI : ¬ (N : Int) < 65536 := by have := HZ.out; omega
          go_wp2
          go_ret
          exact HF.out _ hO.out hB.out
    · obtain rfl : n = (N : Int) := by omega
      have HZ : Hid ((N : Int) = N) := rfl
      clear hN hN2
      go_enter Tryd.func10, Tryd.ntmps10
      go_wp2
      have R0 : Hid (NewR w all N (.slice (some ⟨w.heap.size, 0, none⟩) N N) (.int .i64 0) (w.alloc (.cells C 4))) := ⟨0, by omega, rfl, hide (by have := HO.out; unfold fillB; simpa using this), (Below.refl _ _).alloc (Nat.le_refl _) _⟩
      generalize (w.alloc (.cells C 4)) = w1 at *
      go_loopw [6] (fun i wr => NewR w all N (.slice (some ⟨w.heap.size, 0, none⟩) N N) i wr) (fun i _ => N - (intOf i).toNat)
      case atStart => exact R0.out
      case round =>
        obtain ⟨k, hk, rfl, hO, hB⟩ := hrel
        by_cases hlt : k < N
        · have hlI : (k : Int) < (N : Int) := by have := HZ.out; omega
          obtain ⟨g, hg, hbg, hglt, hcell, hfz, -, hput⟩ := OwnB.put hO.out (k := k) (by rw [fillB_length hk]; exact hlt)
          injection hg with hg
          injection hg with hg
          subst hg
          have HP := hide (hput all)
          have hB2 := hide (hB.out.setCell (p := ⟨w.heap.size, k, none⟩) (Nat.le_refl _) (.bool all))
          clear hput
          go_wp2
          go_roundw
          case rel => exact ⟨k + 1, by omega, by simp, by have := HP.out; rw [fillB_set hlt] at this; exact this, hB2⟩
          case measure => simp [intOf]; omega
        · obtain rfl : N = k := by omega
          have hlI : ¬ (N : Int) < (N : Int) := by have := HZ.out; omega
          go_wp2
          go_ret
          exact HF.out _ hO.out hB.out
/-- Has. -/
theorem rhas_any (a : Option Addr) (c : Nat) (m : List Bool) (k : Int) (w : World) (h : RowB w a c m) :
    Calls Tryd.prog 18 #[.slice a m.length c, .int .i64 k] w fun e w' => e = .returned (.bool (hasB m k)) ∧ w' = w := by
  have hle := h.le
  have HH := hide h
  obtain ⟨n, hn⟩ : ∃ n, n = m.length := ⟨_, rfl⟩
  have HN := hide hn
  rw [← hn] at hle ⊢
  clear h hn
  by_cases h0 : 0 ≤ k
  · by_cases h1 : k < (n : Int)
    · obtain ⟨j, rfl⟩ : ∃ j : Nat, k = (j : Int) := ⟨k.toNat, by omega⟩
      obtain ⟨b, off, rfl, hc⟩ := HH.out.at (show j < m.length by rw [← HN.out]; omega)
      obtain ⟨x, hx⟩ : ∃ x, x = m.getD j false := ⟨_, rfl⟩
      have HX : Hid (hasB m (j : Int) = x) := by rw [hx]; exact hasB_nat m j
      rw [← hx] at hc
      have hjn : j < n := by omega
      clear hx
      go_enter Tryd.func18, Tryd.ntmps18
      go_wp2
      go_ret
      rw [HX.out]
      exact ⟨rfl, rfl⟩
    · have HX : Hid (hasB m k = false) := by show _ = _; unfold hasB; rw [decide_eq_false (by rw [← HN.out]; omega)]; rfl
      go_enter Tryd.func18, Tryd.ntmps18
      go_wp2
      go_ret
      rw [HX.out]
      exact ⟨rfl, rfl⟩
  · have HX : Hid (hasB m k = false) := by show _ = _; unfold hasB; rw [decide_eq_false (by omega)]; rfl
    go_enter Tryd.func18, Tryd.ntmps18
    go_wp2
    go_ret
    rw [HX.out]
    exact ⟨rfl, rfl⟩
/-- Next. -/
theorem rnext_any (a : Option Addr) (c : Nat) (m : List Bool) (f : Int) (w : World) (h : RowB w a c m) (hf : (Lit.int .i64 f).wf = true) :
    Calls Tryd.prog 20 #[.slice a m.length c, .int .i64 f] w fun e w' => e = .returned (.int .i64 (nextB m f)) ∧ w' = w := by
  have hle := h.le
  have HH := hide h
  have hb1 := bounds_i64 hf
  obtain ⟨q1, q2⟩ := hb1
  have HHIT := hide (fun k => nextB_hit (m := m) (f := f) (k := k))
  have HNONE := hide (nextB_none (m := m) (f := f))
  obtain ⟨n, hn⟩ : ∃ n, n = m.length := ⟨_, rfl⟩
  have HN := hide hn
  rw [← hn] at hle HHIT HNONE ⊢
  clear h hn hf
  go_enter Tryd.func20, Tryd.ntmps20
  go_wp2
  go_loopw [5] (fun i wr => (∃ k : Nat, k ≤ n ∧ i = .int .i64 (k : Int) ∧ Hid (NoneB m f k)) ∧ wr = w) (fun i _ => n - (intOf i).toNat)
  case atStart => exact ⟨⟨0, by omega, rfl, fun j hj => by omega⟩, rfl⟩
  case round =>
    obtain ⟨⟨k, hk, rfl, hno⟩, hwr⟩ := hrel
    replace hwr := hwr.symm
    subst hwr
    by_cases hlt : k < n
    · obtain ⟨b, off, rfl, hc⟩ := HH.out.at (show k < m.length by rw [← HN.out]; exact hlt)
      obtain ⟨x, hx⟩ : ∃ x, x = m.getD k false := ⟨_, rfl⟩
      have HX : Hid (m.getD k false = x) := hx.symm
      rw [← hx] at hc
      clear hx
      by_cases hkf : (k : Int) ≥ f
      · cases x with
        | true =>
          have HR := hide (HHIT.out k hlt HX.out hkf hno.out)
          go_wp2
          go_ret
          rw [HR.out]
          exact ⟨rfl, rfl⟩
        | false =>
          go_wp2
          go_roundw
          case rel => exact ⟨⟨k + 1, by omega, by simp, fun j hj hfj => by
            by_cases e : j = k
            · subst e; exact HX.out
            · exact hno.out j (by omega) hfj⟩, trivial⟩
          case measure => simp [intOf]; omega
      · go_wp2
        go_roundw
        case rel => exact ⟨⟨k + 1, by omega, by simp, fun j hj hfj => by
          by_cases e : j = k
          · subst e; exact absurd hfj (by omega)
          · exact hno.out j (by omega) hfj⟩, trivial⟩
        case measure => simp [intOf]; omega
    · obtain rfl : k = n := by omega
      have HR := hide (HNONE.out hno.out)
      go_wp2
      go_ret
      rw [HR.out]
      exact ⟨rfl, rfl⟩
def ListR (w : World) (m : List Bool) (n : Nat) (ov iv : Value) (wr : World) : Prop :=
  ∃ k : Nat, k ≤ n ∧ iv = .int .i64 (k : Int) ∧ Hid (wr.ownsRow w.heap.size 3 1 ov (listN m k).length ((listN m k).map (Value.int .i64))) ∧ Hid (Below w.heap.size w wr)
set_option maxHeartbeats 1000000 in
set_option maxRecDepth 20000 in
/-- List. -/
theorem rlist_any (a : Option Addr) (c : Nat) (m : List Bool) (w : World) (h : RowB w a c m) (hm : m.length ≤ 100000) :
    Calls Tryd.prog 15 #[.slice a m.length c] w fun e w' => (∃ a c, e = .returned (.slice a (listB m).length c) ∧ RowI w' a c (listB m) ∧ Fresh w.heap.size a) ∧ Below w.heap.size w w' := by
  obtain ⟨i0, hi, hz0, hz1, hz2⟩ := info_parts Tryd.infoInt
  have HH := hide h
  have HF : Hid (∀ (w1 : World) (v : Value), w1.ownsRow w.heap.size 3 1 v (listB m).length ((listB m).map (Value.int .i64)) → Below w.heap.size w w1 → (∃ a c, Ending.returned v = .returned (.slice a (listB m).length c) ∧ RowI w1 a c (listB m) ∧ Fresh w.heap.size a) ∧ Below w.heap.size w w1) := fun w1 v ho hb => by
    obtain ⟨a', c', rfl, hr, hfr⟩ := OwnI.row (l := listB m) ho (by have := listN_le m m.length; unfold listB; omega) (fun x hx => by
      obtain ⟨j, hj, rfl⟩ := List.mem_map.1 hx
      have := List.mem_range.1 (List.mem_filter.1 hj).1
      exact WalkArith.wf_i64 ⟨by omega, by omega⟩)
    exact ⟨⟨_, _, rfl, hr, hfr⟩, hb⟩
  have HL : Hid (listB m = listN m m.length) := rfl
  obtain ⟨n, hn⟩ : ∃ n, n = m.length := ⟨_, rfl⟩
  have HN := hide hn
  rw [← hn] at hm ⊢
  rw [← hn] at HL
  clear h hn
  go_enter Tryd.func15, Tryd.ntmps15
  go_wp2
  go_loopw [3, 4] (fun ov iv wr => ListR w m n ov iv wr) (fun _ iv _ => n - (intOf iv).toNat)
  case atStart => exact ⟨0, by omega, rfl, World.ownsRow_nil _ _ _ _, Below.refl _ _⟩
  case round =>
    obtain ⟨k, hk, rfl, hown, hbel⟩ := hrel
    obtain ⟨W, hW⟩ : ∃ W, W = wr := ⟨_, rfl⟩
    subst hW
    by_cases hlt : k < n
    · obtain ⟨b, off, rfl, hc⟩ := (HH.out.keep (hbel.out.mono (Nat.le_refl _))).at (show k < m.length by rw [← HN.out]; exact hlt)
      have HHIT := hide (listN_hit (m := m) (k := k))
      have HMISS := hide (listN_miss (m := m) (k := k))
      have HLE := hide (listN_le m k)
      obtain ⟨x, hx⟩ : ∃ x, x = m.getD k false := ⟨_, rfl⟩
      rw [← hx] at hc HHIT HMISS
      clear hx
      have hrow := hown.out
      have hsz2 := hbel.out.size
      cases x with
      | true =>
        obtain ⟨q, hq⟩ : ∃ q, q = (listN m k).length := ⟨_, rfl⟩
        rw [← hq] at hrow
        have HQ := hide hq
        have HQ2 : Hid (q ≤ k) := by rw [hq]; exact HLE.out
        have hq2 := HQ2.out
        clear hq
        go_wp2_with (at_builtin; go_loud (refine wpList_append_own _ rfl _ _ 28 rfl w.heap.size 3 i0 (.int .i64 0) 1 8 Tryd.underlying28 hi hz0 hz1 hz2 rfl (by decide) _ _ _ rfl (hrow.alloc _) ⟨W.heap.size, 0, none⟩ 1 1 [.int .i64 (k : Int)] rfl rfl (one_new _ _ _) (by simp [Value.oneCell']) (by unfold maxLen; omega) (by omega) (by simp; omega) ?_); intro v1 w1 hown1 hgrow1 _; have HOWN1 := hide hown1; have HB1 := hide ((hbel.out.alloc hsz2 (.cells #[.int .i64 (k : Int)] 3)).grown hgrow1 (by simp; omega) (fun q e => (World.ownsRow.lt hown.out q e).1)); clear hown1 hgrow1)
        go_roundw
        case rel => exact ⟨k + 1, by omega, by simp, by have := HOWN1.out; rw [HHIT.out rfl, List.map_append, List.length_append, ← HQ.out]; exact this, HB1.out⟩
        case measure => simp [intOf]; omega
      | false =>
        clear hrow
        go_wp2
        go_roundw
        case rel => exact ⟨k + 1, by omega, by simp, by rw [HMISS.out rfl]; exact hown.out, hbel.out⟩
        case measure => simp [intOf]; omega
    · obtain rfl : k = n := by omega
      have HR := hide (HF.out W _ (by rw [HL.out]; exact hown.out) hbel.out)
      go_wp2
      go_ret
      exact HR.out
/-- Set: a row with numbers being so. -/
def SetR (w : World) (m : List Bool) (l : List Int) (so : Bool) (n : Nat) (av iv : Value) (wr : World) : Prop :=
  ∃ k : Nat, k ≤ n ∧ iv = .int .i64 (k : Int) ∧ Hid (OwnB w.heap.size wr av (setB m (l.take k) so)) ∧ Hid (Below w.heap.size w wr)
set_option maxHeartbeats 1000000 in
set_option maxRecDepth 20000 in
theorem rset_any (a : Option Addr) (c : Nat) (m : List Bool) (a2 : Option Addr) (c2 : Nat) (l : List Int) (so : Bool) (w : World) (h : RowB w a c m) (hl : RowI w a2 c2 l) (hm : m.length ≤ 100000) :
    Calls Tryd.prog 22 #[.slice a m.length c, .slice a2 l.length c2, .bool so] w fun e w' => (∃ a c, e = .returned (.slice a m.length c) ∧ RowB w' a c (setB m l so) ∧ Fresh w.heap.size a) ∧ Below w.heap.size w w' := by
  have HH := hide h
  have HL := hide hl
  have hle := hl.rd.le
  have HO1 : Hid (OwnB w.heap.size (w.alloc (.cells #[] 4)) (.slice (some ⟨w.heap.size, 0, none⟩) 0 0) []) := OwnB.empty rfl (Nat.le_refl _)
  have HBA : Hid (Below w.heap.size w (w.alloc (.cells #[] 4))) := (Below.refl _ _).alloc (Nat.le_refl _) _
  obtain ⟨M, hM⟩ : ∃ M, M = m.length := ⟨_, rfl⟩
  obtain ⟨n, hn⟩ : ∃ n, n = l.length := ⟨_, rfl⟩
  have HM := hide hM
  have HN := hide hn
  have HLEN : Hid (∀ k, (setB m (l.take k) so).length = M) := hide (fun k => by rw [setB_length, hM])
  rw [← hM] at hm ⊢
  rw [← hn] at hle ⊢
  clear h hl hM hn
  go_enter Tryd.func22, Tryd.ntmps22
  go_wp2_with (at_builtin; (refine app_bools (w0 := w) rfl _ _ rfl w.heap.size (.slice (some ⟨w.heap.size, 0, none⟩) 0 0) [] rfl HO1.out a c M m rfl HM.out (HH.out.keep HBA.out) (by have := HM.out; simp; omega) (by simp) HBA.out ?_); intro v1 w1 hown1 hb1 hs1; have HO2 : Hid (OwnB w.heap.size w1 v1 m) := hown1; have HB1 := hide hb1; obtain ⟨a3, c3, hv3⟩ := own_form hown1; rw [List.nil_append, ← HM.out] at hv3; subst hv3; clear hown1 hb1 hs1)
  go_loopw [8] (fun iv wr => SetR w m l so n (.slice a3 M c3) iv wr) (fun iv _ => n - (intOf iv).toNat)
  case atStart => exact ⟨0, by omega, rfl, HO2.out, HB1.out⟩
  case round =>
    obtain ⟨k, hk, rfl, hown, hbel⟩ := hrel
    obtain ⟨W, hW⟩ : ∃ W, W = wr := ⟨_, rfl⟩
    subst hW
    by_cases hlt : k < n
    · have hkl : k < l.length := by rw [← HN.out]; exact hlt
      obtain ⟨b, off, rfl, hc⟩ := (HL.out.keep (hbel.out.mono (Nat.le_refl _))).at hkl
      have hw1 := HL.out.wf (l.getD k 0) (by rw [List.getD_eq_getElem?_getD, List.getElem?_eq_getElem hkl]; exact List.getElem_mem hkl)
      have htk : l.take (k + 1) = l.take k ++ [l.getD k 0] := by rw [List.take_add_one, List.getD_eq_getElem?_getD, List.getElem?_eq_getElem hkl]; rfl
      obtain ⟨x, hx⟩ : ∃ x, x = l.getD k 0 := ⟨_, rfl⟩
      rw [← hx] at hc hw1 htk
      have HST : Hid (setB m (l.take (k + 1)) so = putB so (setB m (l.take k) so) x) := hide (by rw [htk, setB_snoc])
      have hb1 := bounds_i64 hw1
      obtain ⟨q1, q2⟩ := hb1
      clear hx htk hw1 hkl
      by_cases h0 : 0 ≤ x
      · by_cases h1 : x < (M : Int)
        · obtain ⟨j, rfl⟩ : ∃ j : Nat, x = (j : Int) := ⟨x.toNat, by omega⟩
          obtain ⟨g, rfl, hbg, hglt, hcell, hfz, -, hput⟩ := OwnB.put hown.out (k := j) (by rw [HLEN.out]; omega)
          have HP := hide (hput so)
          have HPUT : Hid (putB so (setB m (l.take k) so) (j : Int) = (setB m (l.take k) so).set j so) := hide (by unfold putB; rw [if_pos (by rw [HLEN.out]; omega)]; rfl)
          have HB2 := hide (hbel.out.setCell (p := ⟨g, j, none⟩) hbg (.bool so))
          clear hput
          go_wp2
          go_roundw
          case rel => exact ⟨k + 1, by omega, by simp, by rw [HST.out, HPUT.out]; exact HP.out, HB2.out⟩
          case measure => simp [intOf]; omega
        · have HPUT : Hid (putB so (setB m (l.take k) so) x = setB m (l.take k) so) := hide (by unfold putB; rw [if_neg (by rw [HLEN.out]; omega)])
          go_wp2
          go_roundw
          case rel => exact ⟨k + 1, by omega, by simp, by rw [HST.out, HPUT.out]; exact hown.out, hbel.out⟩
          case measure => simp [intOf]; omega
      · have HPUT : Hid (putB so (setB m (l.take k) so) x = setB m (l.take k) so) := hide (by unfold putB; rw [if_neg (by omega)])
        go_wp2
        go_roundw
        case rel => exact ⟨k + 1, by omega, by simp, by rw [HST.out, HPUT.out]; exact hown.out, hbel.out⟩
        case measure => simp [intOf]; omega
    · obtain rfl : k = n := by omega
      have HR : Hid ((∃ a c, Ending.returned (.slice a3 M c3) = .returned (.slice a M c) ∧ RowB W a c (setB m l so) ∧ Fresh w.heap.size a) ∧ Below w.heap.size w W) := by
        have ho := hown.out
        rw [List.take_of_length_le (by rw [HN.out]; exact Nat.le_refl _)] at ho
        have hL : (setB m l so).length = M := by rw [setB_length, HM.out]
        obtain ⟨a4, c4, hv, hr, hfr⟩ := ho.row (by rw [hL]; omega)
        injection hv with e1 e2 e3
        subst e1 e3
        exact ⟨⟨_, _, rfl, hr, hfr⟩, hbel.out⟩
      go_wp2
      go_ret
      exact HR.out
end Go.Proofs.YtbljbhgelcakdaaDoor.Bit
