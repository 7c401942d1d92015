/- Joined out of the texts EncText, Last, in that order. -/
import Derived.Test.YtigmgkcojifbcaaAll6
import Derived.WalkKit
import Derived.Deep.RegionHeld3
/- The contract of the document's Text. -/
namespace Go.Proofs.Ytigmgkcojifbcaa.Hist
open Go.RowKit Go.Proofs.Ytigmgkcojifbcaa.Dig Go.Proofs.Ytigmgkcojifbcaa.Mem
set_option linter.unusedVariables false
set_option linter.unusedSimpArgs false

theorem add_str {l m r : List UInt8} (h : l ++ m = r) (hl : l.length + m.length ≤ 1000000000000) (wx : World) : (Op.stringOp .add ⟨l.toArray⟩ ⟨m.toArray⟩).run Try.prog wx = .ok (.string ⟨r.toArray⟩) wx := by
  rw [run_string_add_sum wx _ _ (by simp [ByteArray.size]; omega), ByteArray.mk_append_mk, h]
theorem rnum_at (n : Int) (w : World) {N : List UInt8} (h : mayN n) (hN : Hid (txt n.toNat = N)) : Calls Try.prog 36 #[.int .i64 n] w fun e w' => e = .returned (.string ⟨N.toArray⟩) ∧ w' = w := by
  rw [← hN.out]; exact rnum_any n w h
/-- A text that grows, and a box that is read. -/
def TxtRel (w : World) (b : Nat) (cs : Array Value) (f : Nat → List UInt8) (m : Nat) (s i : Value) (wr : World) : Prop :=
  ∃ (k : Nat) (l : List UInt8), k ≤ m ∧ i = .int .i64 (k : Int) ∧ s = .string ⟨l.toArray⟩ ∧ Hid (l = f k) ∧ Hid (Below w.heap.size w wr) ∧ Hid (Is wr b cs)
set_option maxRecDepth 20000 in
set_option maxHeartbeats 2000000 in
theorem rtext_any (F : Nat → Prop) (v : Value) (ts : List TxnM) (w : World) (h : TxnsAt F w v ts) (hf : Few4 ts) (hm : MayAll ts) :
    Calls Try.prog 17 #[.agg #[v]] w fun e w' => e = .returned (.string ⟨(textH8 ts).toArray⟩) ∧ Below w.heap.size w w' := by
  obtain ⟨a, c, rfl, _, _⟩ := h.shape
  have H := hide h
  have FW := hide hf
  have M := hide hm
  have hlen := hf.1
  have LE := hide (show sizeH ts ≤ 60000000000 by have := sizeH_le ts (fun t ht => (hf.2.2 t ht).2); have := hf.2.1; omega)
  have hb0 := hide ((Below.refl w.heap.size w).alloc (Nat.le_refl _) (.cells #[.slice a ts.length c] 24))
  have hs0 : Hid (Is (w.alloc (.cells #[.slice a ts.length c] 24)) w.heap.size #[.slice a ts.length c]) := hide (Is.made w _ _ rfl)
  clear h hf hm
  go_enter Try.func17, Try.ntmps17
  go_wp2
  go_loopw [3, 4] (fun s i wr => TxtRel w w.heap.size #[.slice a ts.length c] (fun k => textH8 (ts.take k)) ts.length s i wr) (fun _ i _ => ts.length - (intOf i).toNat)
  case atStart => exact ⟨0, [], by omega, rfl, rfl, hide rfl, hb0, hs0⟩
  case round =>
    obtain ⟨k, l, hk, rfl, rfl, hl, hB, hI⟩ := hrel
    replace hl : Hid (l = textH8 (ts.take k)) := hl
    have hbox : wr.cell? ⟨w.heap.size, 0, none⟩ = some (.slice a ts.length c) := hI.out.cell 0 rfl
    have hz := hB.out.size
    by_cases hlt : k < ts.length
    · obtain ⟨b1, o1, l1, q1, rfl, _, hb1, c0, c1, c2, hi1, _⟩ := (H.out.keep hB.out).at hlt
      have HO : Hid (OpsAt F wr (.slice l1 ts[k].ops.length q1) ts[k].ops) := hi1
      have KI := hide (M.out _ (List.getElem_mem hlt)).1
      have KM := hide (M.out _ (List.getElem_mem hlt)).2
      have FO := hide (FW.out.2.2 _ (List.getElem_mem hlt))
      have hol0 := (FW.out.2.2 _ (List.getElem_mem hlt)).1
      obtain ⟨N1, hN1⟩ : ∃ N, txt ts[k].id.toNat = N := ⟨_, rfl⟩
      have n1 := (txt_len ts[k].id.toNat).2
      rw [hN1] at n1
      obtain ⟨L1, hL1⟩ : ∃ L, [116, 32] ++ N1 = L := ⟨_, rfl⟩
      have n2 : L1.length ≤ 12 := by rw [← hL1]; simp; omega
      have a1 := add_str hL1 (by simp; omega)
      have EN1 := hide hN1
      have EL1 := hide hL1
      obtain ⟨ab, hab⟩ : ∃ b, ts[k].ab = b := ⟨_, rfl⟩
      rw [hab] at c1
      have HAB := hide hab
      have hbt := hide ((Below.refl wr.heap.size wr).alloc (Nat.le_refl _) (.cells #[.int .i64 ts[k].id, .bool ab, .slice l1 ts[k].ops.length q1] 48))
      have hst : Hid (Is (wr.alloc (.cells #[.int .i64 ts[k].id, .bool ab, .slice l1 ts[k].ops.length q1] 48)) wr.heap.size #[.int .i64 ts[k].id, .bool ab, .slice l1 ts[k].ops.length q1]) := hide (Is.made wr _ _ rfl)
      have hln : ∀ j, (((ts[k].ops.take j).map lineO8).flatten).length ≤ 60000000000 := fun j => by
        rw [linesO_len]
        have q1 := sizeOs_split ts[k].ops j
        have q2 := sizeH_split ts (k + 1)
        rw [sizeH_take hlt] at q2
        have q3 := LE.out
        unfold sizeT at q2
        omega
      have HLN := hide hln
      have HB := hB
      have HI := hI
      have hll : l.length ≤ 60000000000 := by have q := hl.out; have q1 := sizeH_len (ts.take k); have q2 := sizeH_split ts k; have q3 := LE.out; rw [q]; omega
      clear hi1 hL1 hN1 hln hab
      cases ab with
      | true =>
        obtain ⟨L2, hL2⟩ : ∃ L, L1 ++ [32, (if true = true then 97 else 99), 10] = L := ⟨_, rfl⟩
        have a2 : ∀ (wx : World), _ := add_str hL2 (by simp; omega)
        simp only [if_true, if_false, Bool.false_eq_true] at a2
        have n3 : L2.length ≤ 15 := by rw [← hL2]; simp; omega
        have EL2 : Hid (L2 = lineT8 ts[k].id ts[k].ab) := hide (by rw [← hL2, ← EL1.out, ← EN1.out, HAB.out]; simp [lineT8])
        clear hL2
        go_wp2_with (first | (go_at_call 36; (with_reducible refine (rnum_at ts[k].id _ KI.out EN1).mono ?_); rintro e w1 ⟨rfl, hq⟩; replace hq := hq.symm; subst hq))
        have W1 := hide (World.size_alloc wr (.cells #[.int .i64 ts[k].id, .bool true, .slice l1 ts[k].ops.length q1] 48))
        go_loopw [6, 7] (fun s i wr' => TxtRel wr wr.heap.size #[.int .i64 ts[k].id, .bool true, .slice l1 ts[k].ops.length q1] (fun j => L2 ++ ((ts[k].ops.take j).map lineO8).flatten) ts[k].ops.length s i wr') (fun _ i _ => ts[k].ops.length - (intOf i).toNat)
        case atStart => exact ⟨0, L2, by omega, rfl, rfl, hide (by simp), hbt, hst⟩
        case round =>
          obtain ⟨j, l2, hj, rfl, rfl, hl2, hB2, hI2⟩ := hrel
          replace hl2 : Hid (l2 = L2 ++ ((ts[k].ops.take j).map lineO8).flatten) := hl2
          have hz2 := hB2.out.size
          have t2 : wr.cell? ⟨_, 2, none⟩ = some (.slice l1 ts[k].ops.length q1) := hI2.out.cell 2 rfl
          have hll2 : l2.length ≤ 60000000015 := by have q := hl2.out; have q1 := HLN.out j; rw [q, List.length_append]; omega
          by_cases hlt2 : j < ts[k].ops.length
          · obtain ⟨b3, o3, l3, q3, rfl, _, hb3, e0, e1, e2, e3, hi3, _⟩ := (HO.out.keep hB2.out).at hlt2
            have hol := FO.out.at hlt2
            have KO := KM.out _ (List.getElem_mem hlt2)
            obtain ⟨N2, hN2⟩ : ∃ N, txt ts[k].ops[j].key.toNat = N := ⟨_, rfl⟩
            have n4 := (txt_len ts[k].ops[j].key.toNat).2
            rw [hN2] at n4
            have EN2 := hide hN2
            have hJ : Hid (∀ r : List UInt8, r = l2 ++ lineO8 ts[k].ops[j] → r = L2 ++ ((ts[k].ops.take (j + 1)).map lineO8).flatten) := hide (fun r q => by have q2 := hl2.out; rw [q, q2, linesO_take hlt2, List.append_assoc])
            obtain ⟨rd, hrd⟩ : ∃ b, ts[k].ops[j].read = b := ⟨_, rfl⟩
            rw [hrd] at e0
            have HBI := hB2
            have HII := hI2
            have HB3 := hide ((Below.refl wr.heap.size wr).alloc (Nat.le_refl _) (.cells #[.bool rd, .int .i64 ts[k].ops[j].key, .int .i64 ts[k].ops[j].value, .slice l3 ts[k].ops[j].list.length q3] 45))
            have HB4 := hide (HBI.out.trans (HB3.out.mono HBI.out.size))
            have HI4 := hide (HII.out.below HB3.out)
            clear HB3
            cases rd with
            | true =>
              obtain ⟨k1, k2, k3⟩ := mayOp_read KO hrd
              have K1 := hide k1
              have K2 := hide k2
              obtain ⟨R1, hR1⟩ : ∃ L, l2 ++ [114, 32] = L := ⟨_, rfl⟩
              have r1 : R1.length ≤ 60000000020 := by rw [← hR1]; simp; omega
              have a5 := add_str hR1 (by simp; omega)
              obtain ⟨R2, hR2⟩ : ∃ L, R1 ++ N2 = L := ⟨_, rfl⟩
              have r2 : R2.length ≤ 60000000030 := by rw [← hR2]; simp; omega
              have a6 := add_str hR2 (by omega)
              have ER2 : Hid (R2 = l2 ++ [114, 32] ++ txt ts[k].ops[j].key.toNat) := hide (by rw [← hR2, ← hR1, hN2])
              have HLO : Hid (lineO8 ts[k].ops[j] = 114 :: 32 :: (txt ts[k].ops[j].key.toNat ++ (flat8 ts[k].ops[j].list ++ [10]))) := hide (by unfold lineO8; rw [if_pos hrd])
              have HI3 := hi3
              clear hR1 hR2 hN2 hrd k1 k2 k3 KO hi3
              have hbt3 := hide ((Below.refl wr.heap.size wr).alloc (Nat.le_refl _) (.cells #[.bool true, .int .i64 ts[k].ops[j].key, .int .i64 ts[k].ops[j].value, .slice l3 ts[k].ops[j].list.length q3] 45))
              have hst3 : Hid (Is (wr.alloc (.cells #[.bool true, .int .i64 ts[k].ops[j].key, .int .i64 ts[k].ops[j].value, .slice l3 ts[k].ops[j].list.length q3] 45)) wr.heap.size #[.bool true, .int .i64 ts[k].ops[j].key, .int .i64 ts[k].ops[j].value, .slice l3 ts[k].ops[j].list.length q3]) := hide (Is.made wr _ _ rfl)
              go_wp2_with (first | (go_at_call 36; (with_reducible refine (rnum_at ts[k].ops[j].key _ K1.out EN2).mono ?_); rintro e w1 ⟨rfl, hq⟩; replace hq := hq.symm; subst hq))
              go_loopw [6, 9] (fun s i wr' => TxtRel wr wr.heap.size #[.bool true, .int .i64 ts[k].ops[j].key, .int .i64 ts[k].ops[j].value, .slice l3 ts[k].ops[j].list.length q3] (fun i => R2 ++ flat8 (ts[k].ops[j].list.take i)) ts[k].ops[j].list.length s i wr') (fun _ i _ => ts[k].ops[j].list.length - (intOf i).toNat)
              case atStart => exact ⟨0, R2, by omega, rfl, rfl, hide (by simp [flat8]), hbt3, hst3⟩
              case round =>
                obtain ⟨i, l5, hi, rfl, rfl, hl5, hB5, hI5⟩ := hrel
                replace hl5 : Hid (l5 = R2 ++ flat8 (ts[k].ops[j].list.take i)) := hl5
                have hz5 := hB5.out.size
                have x3 : wr.cell? ⟨_, 3, none⟩ = some (.slice l3 ts[k].ops[j].list.length q3) := hI5.out.cell 3 rfl
                have hll5 : l5.length ≤ 60020000030 := by
                  have q := hl5.out
                  have q1 := flat8_len (ts[k].ops[j].list.take i)
                  have q2 := sizeN_le (ts[k].ops[j].list.take i)
                  rw [List.length_take] at q2
                  rw [q, List.length_append]
                  omega
                by_cases hlt5 : i < ts[k].ops[j].list.length
                · obtain ⟨b5, off5, rfl, hc5, hw5⟩ := ints_at (HI3.keep hB5.out) hol hlt5
                  have K5 := hide (K2.out _ (List.getElem_mem hlt5))
                  obtain ⟨N5, hN5⟩ : ∃ N, txt ts[k].ops[j].list[i].toNat = N := ⟨_, rfl⟩
                  have n6 := (txt_len ts[k].ops[j].list[i].toNat).2
                  rw [hN5] at n6
                  have EN5 := hide hN5
                  obtain ⟨S1, hS1⟩ : ∃ L, l5 ++ [32] = L := ⟨_, rfl⟩
                  have s1 : S1.length ≤ 60020000040 := by rw [← hS1]; simp; omega
                  have a10 := add_str hS1 (by simp; omega)
                  obtain ⟨S2, hS2⟩ : ∃ L, S1 ++ N5 = L := ⟨_, rfl⟩
                  have a11 := add_str hS2 (by omega)
                  have ES2 : Hid (S2 = R2 ++ flat8 (ts[k].ops[j].list.take (i + 1))) := hide (by have q := hl5.out; rw [flat8_take hlt5, ← hS2, ← hS1, q, hN5]; simp)
                  clear hS1 hS2 hN5
                  go_wp2_with (first | (go_at_call 36; (with_reducible refine (rnum_at ts[k].ops[j].list[i] _ K5.out EN5).mono ?_); rintro e w1 ⟨rfl, hq⟩; replace hq := hq.symm; subst hq))
                  go_roundw
                  case rel => exact ⟨i + 1, S2, by omega, by go_num, rfl, ES2, hB5, hI5⟩
                  case measure => simp [intOf]; omega
                · have e : i = ts[k].ops[j].list.length := by omega
                  subst e
                  obtain ⟨R5, hR5⟩ : ∃ L, l5 ++ [10] = L := ⟨_, rfl⟩
                  have a9 := add_str hR5 (by simp; omega)
                  have ER5 : Hid (R5 = L2 ++ ((ts[k].ops.take (j + 1)).map lineO8).flatten) := hide (hJ.out _ (by have q := hl5.out; rw [← hR5, q, List.take_length, ER2.out, HLO.out]; simp))
                  clear hR5
                  go_wp2
                  go_roundw
                  case rel => exact ⟨j + 1, R5, by omega, by go_num, rfl, ER5, hide (HBI.out.trans (hB5.out.mono HBI.out.size)), hide (HII.out.below hB5.out)⟩
                  case measure => simp [intOf]; omega
            | false =>
              obtain ⟨k1, k2, k3⟩ := mayOp_app KO hrd
              have K1 := hide k1
              have K2 := hide k2
              obtain ⟨N3, hN3⟩ : ∃ N, txt ts[k].ops[j].value.toNat = N := ⟨_, rfl⟩
              have n5 := (txt_len ts[k].ops[j].value.toNat).2
              rw [hN3] at n5
              have EN3 := hide hN3
              obtain ⟨R1, hR1⟩ : ∃ L, l2 ++ [97, 32] = L := ⟨_, rfl⟩
              have r1 : R1.length ≤ 60000000020 := by rw [← hR1]; simp; omega
              have a5 := add_str hR1 (by simp; omega)
              obtain ⟨R2, hR2⟩ : ∃ L, R1 ++ N2 = L := ⟨_, rfl⟩
              have r2 : R2.length ≤ 60000000030 := by rw [← hR2]; simp; omega
              have a6 := add_str hR2 (by omega)
              obtain ⟨R3, hR3⟩ : ∃ L, R2 ++ [32] = L := ⟨_, rfl⟩
              have r3 : R3.length ≤ 60000000040 := by rw [← hR3]; simp; omega
              have a7 := add_str hR3 (by simp; omega)
              obtain ⟨R4, hR4⟩ : ∃ L, R3 ++ N3 = L := ⟨_, rfl⟩
              have r4 : R4.length ≤ 60000000050 := by rw [← hR4]; simp; omega
              have a8 := add_str hR4 (by omega)
              obtain ⟨R5, hR5⟩ : ∃ L, R4 ++ [10] = L := ⟨_, rfl⟩
              have a9 := add_str hR5 (by simp; omega)
              have ER5 : Hid (R5 = L2 ++ ((ts[k].ops.take (j + 1)).map lineO8).flatten) := hide (hJ.out _ (by rw [← hR5, ← hR4, ← hR3, ← hR2, ← hR1, ← hN2, ← hN3]; unfold lineO8; rw [if_neg (by simp [hrd])]; simp))
              clear hR1 hR2 hR3 hR4 hR5 hN2 hN3 hrd k1 k2 k3 KO hi3
              go_wp2
              go_quiet ((go_at_call 36; exact Calls.quiet_of_same (rnum_at _ _ (by first | (with_reducible exact K1.out) | (with_reducible exact K2.out)) (by first | (with_reducible exact EN2) | (with_reducible exact EN3)))))
              go_wp2
              go_roundw
              case rel => exact ⟨j + 1, R5, by omega, by go_num, rfl, ER5, hide (HB4.out.drewN _), hide (HI4.out.drewN _)⟩
              case measure => simp [intOf]; omega
          · have e : j = ts[k].ops.length := by omega
            subst e
            obtain ⟨L3, hL3⟩ : ∃ L, l ++ l2 = L := ⟨_, rfl⟩
            have a3 := add_str hL3 (by omega)
            have EL3 : Hid (L3 = textH8 (ts.take (k + 1))) := hide (by have q := hl2.out; rw [textH8_take hlt, ← hL3, hl.out, q, EL2.out, List.take_length]; rfl)
            clear hL3
            go_wp2
            go_roundw
            case rel => exact ⟨k + 1, L3, by omega, by go_num, rfl, EL3, hide (HB.out.trans (hB2.out.mono HB.out.size)), hide (HI.out.below hB2.out)⟩
            case measure => simp [intOf]; omega
      | false =>
        obtain ⟨L2, hL2⟩ : ∃ L, L1 ++ [32, (if false = true then 97 else 99), 10] = L := ⟨_, rfl⟩
        have a2 : ∀ (wx : World), _ := add_str hL2 (by simp; omega)
        simp only [if_true, if_false, Bool.false_eq_true] at a2
        have n3 : L2.length ≤ 15 := by rw [← hL2]; simp; omega
        have EL2 : Hid (L2 = lineT8 ts[k].id ts[k].ab) := hide (by rw [← hL2, ← EL1.out, ← EN1.out, HAB.out]; simp [lineT8])
        clear hL2
        go_wp2_with (first | (go_at_call 36; (with_reducible refine (rnum_at ts[k].id _ KI.out EN1).mono ?_); rintro e w1 ⟨rfl, hq⟩; replace hq := hq.symm; subst hq))
        have W1 := hide (World.size_alloc wr (.cells #[.int .i64 ts[k].id, .bool false, .slice l1 ts[k].ops.length q1] 48))
        go_loopw [6, 7] (fun s i wr' => TxtRel wr wr.heap.size #[.int .i64 ts[k].id, .bool false, .slice l1 ts[k].ops.length q1] (fun j => L2 ++ ((ts[k].ops.take j).map lineO8).flatten) ts[k].ops.length s i wr') (fun _ i _ => ts[k].ops.length - (intOf i).toNat)
        case atStart => exact ⟨0, L2, by omega, rfl, rfl, hide (by simp), hbt, hst⟩
        case round =>
          obtain ⟨j, l2, hj, rfl, rfl, hl2, hB2, hI2⟩ := hrel
          replace hl2 : Hid (l2 = L2 ++ ((ts[k].ops.take j).map lineO8).flatten) := hl2
          have hz2 := hB2.out.size
          have t2 : wr.cell? ⟨_, 2, none⟩ = some (.slice l1 ts[k].ops.length q1) := hI2.out.cell 2 rfl
          have hll2 : l2.length ≤ 60000000015 := by have q := hl2.out; have q1 := HLN.out j; rw [q, List.length_append]; omega
          by_cases hlt2 : j < ts[k].ops.length
          · obtain ⟨b3, o3, l3, q3, rfl, _, hb3, e0, e1, e2, e3, hi3, _⟩ := (HO.out.keep hB2.out).at hlt2
            have hol := FO.out.at hlt2
            have KO := KM.out _ (List.getElem_mem hlt2)
            obtain ⟨N2, hN2⟩ : ∃ N, txt ts[k].ops[j].key.toNat = N := ⟨_, rfl⟩
            have n4 := (txt_len ts[k].ops[j].key.toNat).2
            rw [hN2] at n4
            have EN2 := hide hN2
            have hJ : Hid (∀ r : List UInt8, r = l2 ++ lineO8 ts[k].ops[j] → r = L2 ++ ((ts[k].ops.take (j + 1)).map lineO8).flatten) := hide (fun r q => by have q2 := hl2.out; rw [q, q2, linesO_take hlt2, List.append_assoc])
            obtain ⟨rd, hrd⟩ : ∃ b, ts[k].ops[j].read = b := ⟨_, rfl⟩
            rw [hrd] at e0
            have HBI := hB2
            have HII := hI2
            have HB3 := hide ((Below.refl wr.heap.size wr).alloc (Nat.le_refl _) (.cells #[.bool rd, .int .i64 ts[k].ops[j].key, .int .i64 ts[k].ops[j].value, .slice l3 ts[k].ops[j].list.length q3] 45))
            have HB4 := hide (HBI.out.trans (HB3.out.mono HBI.out.size))
            have HI4 := hide (HII.out.below HB3.out)
            clear HB3
            cases rd with
            | true =>
              obtain ⟨k1, k2, k3⟩ := mayOp_read KO hrd
              have K1 := hide k1
              have K2 := hide k2
              obtain ⟨R1, hR1⟩ : ∃ L, l2 ++ [114, 32] = L := ⟨_, rfl⟩
              have r1 : R1.length ≤ 60000000020 := by rw [← hR1]; simp; omega
              have a5 := add_str hR1 (by simp; omega)
              obtain ⟨R2, hR2⟩ : ∃ L, R1 ++ N2 = L := ⟨_, rfl⟩
              have r2 : R2.length ≤ 60000000030 := by rw [← hR2]; simp; omega
              have a6 := add_str hR2 (by omega)
              have ER2 : Hid (R2 = l2 ++ [114, 32] ++ txt ts[k].ops[j].key.toNat) := hide (by rw [← hR2, ← hR1, hN2])
              have HLO : Hid (lineO8 ts[k].ops[j] = 114 :: 32 :: (txt ts[k].ops[j].key.toNat ++ (flat8 ts[k].ops[j].list ++ [10]))) := hide (by unfold lineO8; rw [if_pos hrd])
              have HI3 := hi3
              clear hR1 hR2 hN2 hrd k1 k2 k3 KO hi3
              have hbt3 := hide ((Below.refl wr.heap.size wr).alloc (Nat.le_refl _) (.cells #[.bool true, .int .i64 ts[k].ops[j].key, .int .i64 ts[k].ops[j].value, .slice l3 ts[k].ops[j].list.length q3] 45))
              have hst3 : Hid (Is (wr.alloc (.cells #[.bool true, .int .i64 ts[k].ops[j].key, .int .i64 ts[k].ops[j].value, .slice l3 ts[k].ops[j].list.length q3] 45)) wr.heap.size #[.bool true, .int .i64 ts[k].ops[j].key, .int .i64 ts[k].ops[j].value, .slice l3 ts[k].ops[j].list.length q3]) := hide (Is.made wr _ _ rfl)
              go_wp2_with (first | (go_at_call 36; (with_reducible refine (rnum_at ts[k].ops[j].key _ K1.out EN2).mono ?_); rintro e w1 ⟨rfl, hq⟩; replace hq := hq.symm; subst hq))
              go_loopw [6, 9] (fun s i wr' => TxtRel wr wr.heap.size #[.bool true, .int .i64 ts[k].ops[j].key, .int .i64 ts[k].ops[j].value, .slice l3 ts[k].ops[j].list.length q3] (fun i => R2 ++ flat8 (ts[k].ops[j].list.take i)) ts[k].ops[j].list.length s i wr') (fun _ i _ => ts[k].ops[j].list.length - (intOf i).toNat)
              case atStart => exact ⟨0, R2, by omega, rfl, rfl, hide (by simp [flat8]), hbt3, hst3⟩
              case round =>
                obtain ⟨i, l5, hi, rfl, rfl, hl5, hB5, hI5⟩ := hrel
                replace hl5 : Hid (l5 = R2 ++ flat8 (ts[k].ops[j].list.take i)) := hl5
                have hz5 := hB5.out.size
                have x3 : wr.cell? ⟨_, 3, none⟩ = some (.slice l3 ts[k].ops[j].list.length q3) := hI5.out.cell 3 rfl
                have hll5 : l5.length ≤ 60020000030 := by
                  have q := hl5.out
                  have q1 := flat8_len (ts[k].ops[j].list.take i)
                  have q2 := sizeN_le (ts[k].ops[j].list.take i)
                  rw [List.length_take] at q2
                  rw [q, List.length_append]
                  omega
                by_cases hlt5 : i < ts[k].ops[j].list.length
                · obtain ⟨b5, off5, rfl, hc5, hw5⟩ := ints_at (HI3.keep hB5.out) hol hlt5
                  have K5 := hide (K2.out _ (List.getElem_mem hlt5))
                  obtain ⟨N5, hN5⟩ : ∃ N, txt ts[k].ops[j].list[i].toNat = N := ⟨_, rfl⟩
                  have n6 := (txt_len ts[k].ops[j].list[i].toNat).2
                  rw [hN5] at n6
                  have EN5 := hide hN5
                  obtain ⟨S1, hS1⟩ : ∃ L, l5 ++ [32] = L := ⟨_, rfl⟩
                  have s1 : S1.length ≤ 60020000040 := by rw [← hS1]; simp; omega
                  have a10 := add_str hS1 (by simp; omega)
                  obtain ⟨S2, hS2⟩ : ∃ L, S1 ++ N5 = L := ⟨_, rfl⟩
                  have a11 := add_str hS2 (by omega)
                  have ES2 : Hid (S2 = R2 ++ flat8 (ts[k].ops[j].list.take (i + 1))) := hide (by have q := hl5.out; rw [flat8_take hlt5, ← hS2, ← hS1, q, hN5]; simp)
                  clear hS1 hS2 hN5
                  go_wp2_with (first | (go_at_call 36; (with_reducible refine (rnum_at ts[k].ops[j].list[i] _ K5.out EN5).mono ?_); rintro e w1 ⟨rfl, hq⟩; replace hq := hq.symm; subst hq))
                  go_roundw
                  case rel => exact ⟨i + 1, S2, by omega, by go_num, rfl, ES2, hB5, hI5⟩
                  case measure => simp [intOf]; omega
                · have e : i = ts[k].ops[j].list.length := by omega
                  subst e
                  obtain ⟨R5, hR5⟩ : ∃ L, l5 ++ [10] = L := ⟨_, rfl⟩
                  have a9 := add_str hR5 (by simp; omega)
                  have ER5 : Hid (R5 = L2 ++ ((ts[k].ops.take (j + 1)).map lineO8).flatten) := hide (hJ.out _ (by have q := hl5.out; rw [← hR5, q, List.take_length, ER2.out, HLO.out]; simp))
                  clear hR5
                  go_wp2
                  go_roundw
                  case rel => exact ⟨j + 1, R5, by omega, by go_num, rfl, ER5, hide (HBI.out.trans (hB5.out.mono HBI.out.size)), hide (HII.out.below hB5.out)⟩
                  case measure => simp [intOf]; omega
            | false =>
              obtain ⟨k1, k2, k3⟩ := mayOp_app KO hrd
              have K1 := hide k1
              have K2 := hide k2
              obtain ⟨N3, hN3⟩ : ∃ N, txt ts[k].ops[j].value.toNat = N := ⟨_, rfl⟩
              have n5 := (txt_len ts[k].ops[j].value.toNat).2
              rw [hN3] at n5
              have EN3 := hide hN3
              obtain ⟨R1, hR1⟩ : ∃ L, l2 ++ [97, 32] = L := ⟨_, rfl⟩
              have r1 : R1.length ≤ 60000000020 := by rw [← hR1]; simp; omega
              have a5 := add_str hR1 (by simp; omega)
              obtain ⟨R2, hR2⟩ : ∃ L, R1 ++ N2 = L := ⟨_, rfl⟩
              have r2 : R2.length ≤ 60000000030 := by rw [← hR2]; simp; omega
              have a6 := add_str hR2 (by omega)
              obtain ⟨R3, hR3⟩ : ∃ L, R2 ++ [32] = L := ⟨_, rfl⟩
              have r3 : R3.length ≤ 60000000040 := by rw [← hR3]; simp; omega
              have a7 := add_str hR3 (by simp; omega)
              obtain ⟨R4, hR4⟩ : ∃ L, R3 ++ N3 = L := ⟨_, rfl⟩
              have r4 : R4.length ≤ 60000000050 := by rw [← hR4]; simp; omega
              have a8 := add_str hR4 (by omega)
              obtain ⟨R5, hR5⟩ : ∃ L, R4 ++ [10] = L := ⟨_, rfl⟩
              have a9 := add_str hR5 (by simp; omega)
              have ER5 : Hid (R5 = L2 ++ ((ts[k].ops.take (j + 1)).map lineO8).flatten) := hide (hJ.out _ (by rw [← hR5, ← hR4, ← hR3, ← hR2, ← hR1, ← hN2, ← hN3]; unfold lineO8; rw [if_neg (by simp [hrd])]; simp))
              clear hR1 hR2 hR3 hR4 hR5 hN2 hN3 hrd k1 k2 k3 KO hi3
              go_wp2
              go_quiet ((go_at_call 36; exact Calls.quiet_of_same (rnum_at _ _ (by first | (with_reducible exact K1.out) | (with_reducible exact K2.out)) (by first | (with_reducible exact EN2) | (with_reducible exact EN3)))))
              go_wp2
              go_roundw
              case rel => exact ⟨j + 1, R5, by omega, by go_num, rfl, ER5, hide (HB4.out.drewN _), hide (HI4.out.drewN _)⟩
              case measure => simp [intOf]; omega
          · have e : j = ts[k].ops.length := by omega
            subst e
            obtain ⟨L3, hL3⟩ : ∃ L, l ++ l2 = L := ⟨_, rfl⟩
            have a3 := add_str hL3 (by omega)
            have EL3 : Hid (L3 = textH8 (ts.take (k + 1))) := hide (by have q := hl2.out; rw [textH8_take hlt, ← hL3, hl.out, q, EL2.out, List.take_length]; rfl)
            clear hL3
            go_wp2
            go_roundw
            case rel => exact ⟨k + 1, L3, by omega, by go_num, rfl, EL3, hide (HB.out.trans (hB2.out.mono HB.out.size)), hide (HI.out.below hB2.out)⟩
            case measure => simp [intOf]; omega
    · have e : k = ts.length := by omega
      subst e
      have EL3 : Hid (l = textH8 ts) := hide (by rw [hl.out, List.take_length])
      go_wp2
      go_ret
      exact ⟨by rw [← EL3.out]; rfl, hB.out⟩
end Go.Proofs.Ytigmgkcojifbcaa.Hist

/- A region that draws its order, whose last operation waits for all others: it may be split off, so that what is held of the world need not outlast it. -/
namespace Go.Proofs.Ytigmgkcojifbcaa.Last
open Go
set_option linter.unusedVariables false

section
variable {P : Program} {md : Region.Mode} {ops : Array Oper} {Q : Exit → Act → World → Prop} {S : World → Prop}
/-- What an operation comes to hangs on how the rest goes on, and on what is asked where it does not. -/
theorem upon_then {o : Oper} {a : Act} {next K K' : Act → World → Prop} (h : ∀ a w, K a w → K' a w) : ∀ {r : Result Next}, o.upon P a K (Exit.then next Q) r → o.upon P a K' Q r
  | .ok (.value v) w', hh => h _ _ hh
  | .ok .skip w', hh => h _ _ hh
  | .ok (.defer d) w', hh => h _ _ hh
  | .ok (.enter f args) w', hh => Calls.mono hh fun e w'' he => match e, he with
    | .returned v, he => h _ _ he
    | .panicked c, he => he
    | .outgrown, he => he
  | .ok (.row row args) w', hh => Rows.mono hh fun _ _ he => h _ _ he
  | .halt x w', hh => by cases x <;> first | exact hh | exact hh.elim
theorem wpOp_then {i : Nat} {a : Act} {w : World} {next K K' : Act → World → Prop} (h : ∀ a w, K a w → K' a w) (hh : wpOp P ops (Exit.then next Q) i K a w) : wpOp P ops Q i K' a w := by
  unfold wpOp at *
  cases ho : ops[i]? with
  | none => rw [ho] at hh; exact h _ _ hh
  | some o =>
    rw [ho] at hh
    simp only at hh ⊢
    split
    · rename_i hw
      rw [if_pos hw] at hh
      exact hh.imp (upon_then h) id
    · rename_i hw
      rw [if_neg hw] at hh
      exact h _ _ hh
theorem all_listed {listed : Array Bool} (hlt : ∀ i o, ops[i]? = some o → ∀ e ∈ o.after, Region.binds md e = true → e.on < i) (h : Region.ready md ops listed = []) : ∀ n i, i < n → i < ops.size → listed.getD i true = true
  | 0, i, hi, _ => by omega
  | n + 1, i, hi, hs => by
    cases hq : listed.getD i true with
    | true => rfl
    | false =>
      exfalso
      have : i ∈ Region.ready md ops listed := mem_ready.2 ⟨hq, ops[i], Array.getElem?_eq_getElem hs, fun e he hb => by
        have hl := hlt i _ (Array.getElem?_eq_getElem hs) e he hb
        have := all_listed hlt h n e.on (by omega) (by omega)
        rw [Array.getD_eq_getD_getElem?] at this ⊢
        cases hx : listed[e.on]? with
        | some b => rw [hx] at this; exact this
        | none =>
          exfalso
          have h1 : listed.size ≤ e.on := by
            rcases Nat.lt_or_ge e.on listed.size with q | q
            · rw [Array.getElem?_eq_getElem q] at hx; cases hx
            · exact q
          rw [Array.getD_eq_getD_getElem?, Array.getElem?_eq_none (by omega)] at hq
          cases hq⟩
      rw [h] at this
      cases this
theorem getD_true {listed : Array Bool} {i : Nat} (hi : i < listed.size) (h : listed.getD i true = true) : listed.getD i false = true := by
  rw [Array.getD_eq_getD_getElem?, Array.getElem?_eq_getElem hi] at *
  exact h
/-- Whoever is listed, those that it waits for are, too. -/
def Closed (md : Region.Mode) (ops : Array Oper) (listed : Array Bool) : Prop := ∀ i o, ops[i]? = some o → listed.getD i false = true → ∀ e ∈ o.after, Region.binds md e = true → listed.getD e.on false = true
theorem getD_set_le {listed : Array Bool} {i j : Nat} (h : listed.getD j false = true) : (listed.setIfInBounds i true).getD j false = true := by
  by_cases e : i = j
  · subst e
    rw [Array.getD_eq_getD_getElem?] at *
    have hl : i < listed.size := by
      rcases Nat.lt_or_ge i listed.size with q | q
      · exact q
      · rw [Array.getElem?_eq_none q] at h; cases h
    rw [Array.getElem?_setIfInBounds_self_of_lt hl]
    rfl
  · rw [Array.getD_eq_getD_getElem?, Array.getElem?_setIfInBounds_ne e, ← Array.getD_eq_getD_getElem?]
    exact h
theorem Closed.step {listed : Array Bool} {i : Nat} (h : Closed md ops listed) (hi : i ∈ Region.ready md ops listed) : Closed md ops (listed.setIfInBounds i true) := by
  intro j o ho hj e he hb
  obtain ⟨_, oi, hoi, hall⟩ := mem_ready.1 hi
  by_cases q : i = j
  · subst q
    rw [ho] at hoi
    obtain rfl := Option.some.inj hoi
    exact getD_set_le (hall e he hb)
  · rw [Array.getD_eq_getD_getElem?, Array.getElem?_setIfInBounds_ne q, ← Array.getD_eq_getD_getElem?] at hj
    exact getD_set_le (h j o ho hj e he hb)
theorem below_listed {listed : Array Bool} {k : Nat} {ok : Oper} (hk : ops[k]? = some ok) (hc : Closed md ops listed) (hkr : ∀ e ∈ ok.after, Region.binds md e = true → listed.getD e.on false = true)
    (hw : ∀ j, j < k → ∃ i o, i ≤ k ∧ ops[i]? = some o ∧ ∃ e ∈ o.after, Region.binds md e = true ∧ e.on = j) (hlt : ∀ i o, ops[i]? = some o → ∀ e ∈ o.after, Region.binds md e = true → e.on < i) : ∀ n j, k ≤ j + n → j < k → listed.getD j false = true
  | 0, j, h, hj => by omega
  | n + 1, j, h, hj => by
    obtain ⟨i, o, hi, ho, e, he, hb, hon⟩ := hw j hj
    have hji := hlt i o ho e he hb
    rcases Nat.eq_or_lt_of_le hi with q | q
    · subst q
      rw [hk] at ho
      obtain rfl := Option.some.inj ho
      rw [← hon]
      exact hkr e he hb
    · rw [← hon]
      exact hc i o ho (below_listed hk hc hkr hw hlt n i (by omega) q) e he hb
/-- The last one is split off. -/
theorem wpAny_last {k : Nat} {ok : Oper} (hs : k + 1 = ops.size) (hk : ops[k]? = some ok) (hw : ∀ j, j < k → ∃ i o, i ≤ k ∧ ops[i]? = some o ∧ ∃ e ∈ o.after, Region.binds md e = true ∧ e.on = j) (hlt : ∀ i o, ops[i]? = some o → ∀ e ∈ o.after, Region.binds md e = true → e.on < i) :
    ∀ (fuel : Nat) (listed : Array Bool) (a : Act) (w : World), listed.size = ops.size → Closed md ops listed → listed.getD k true = false →
      wpAnyH P md ops (Exit.then (fun a w => wpOp P ops Q k (Q .normal) a w) Q) S fuel (listed.setIfInBounds k true) a w → wpAny P md ops Q (fuel + 1) listed a w := by
  have hne : ∀ {j : Nat} {l : Array Bool}, j ∈ Region.ready md ops (l.setIfInBounds k true) → l.size = ops.size → j ≠ k := by
    intro j l hj hl q
    subst q
    have := (mem_ready.1 hj).1
    rw [Array.getD_eq_getD_getElem?, Array.getElem?_setIfInBounds_self_of_lt (by omega)] at this
    cases this
  have hback : ∀ {j : Nat} {l : Array Bool}, j ∈ Region.ready md ops (l.setIfInBounds k true) → l.size = ops.size → j ∈ Region.ready md ops l := by
    intro j l hj hl
    have hjk := hne hj hl
    obtain ⟨h1, o, h2, h3⟩ := mem_ready.1 hj
    have hjs : j < ops.size := by
      rcases Nat.lt_or_ge j ops.size with q | q
      · exact q
      · rw [Array.getElem?_eq_none q] at h2; cases h2
    refine mem_ready.2 ⟨by rw [Array.getD_eq_getD_getElem?, Array.getElem?_setIfInBounds_ne (Ne.symm hjk)] at h1; rw [Array.getD_eq_getD_getElem?]; exact h1, o, h2, fun e he hb => ?_⟩
    have h4 := h3 e he hb
    have h5 := hlt j o h2 e he hb
    rw [Array.getD_eq_getD_getElem?, Array.getElem?_setIfInBounds_ne (by omega)] at h4
    rw [Array.getD_eq_getD_getElem?]
    exact h4
  -- where nothing but the last one is left
  have hend : ∀ (fuel : Nat) (l : Array Bool) (a : Act) (w : World), Region.ready md ops (l.setIfInBounds k true) = [] → wpAnyH P md ops (Exit.then (fun a w => wpOp P ops Q k (Q .normal) a w) Q) S fuel (l.setIfInBounds k true) a w → wpOp P ops Q k (Q .normal) a w := by
    intro fuel l a w h0 H
    cases fuel with
    | zero => exact H.2
    | succ f => exact H.1 h0
  have hdone : ∀ (fuel : Nat) (l : Array Bool) (a : Act) (w : World), Region.ready md ops l = [] → Q .normal a w → wpAny P md ops Q fuel l a w := by
    intro fuel l a w h0 hq
    cases fuel with
    | zero => exact ⟨h0, hq⟩
    | succ f => exact ⟨fun _ => hq, by rw [h0]; simp⟩
  intro fuel
  induction fuel with
  | zero =>
    intro listed a w hls hcl hun H
    have h0 : Region.ready md ops (listed.setIfInBounds k true) = [] := H.1
    have hall := all_listed hlt h0 ops.size
    have hkr : k ∈ Region.ready md ops listed := mem_ready.2 ⟨hun, ok, hk, fun e he hb => by
      have h5 := hlt k ok hk e he hb
      have := hall e.on (by omega) (by omega)
      rw [Array.getD_eq_getD_getElem?, Array.getElem?_setIfInBounds_ne (by omega), ← Array.getD_eq_getD_getElem?] at this
      exact getD_true (by omega) this⟩
    refine ⟨fun q => (by rw [q] at hkr; cases hkr), fun i hi => ?_⟩
    by_cases hik : i = k
    · subst hik
      exact wpOp_mono (fun a w hq => hdone 0 _ a w h0 hq) (hend 0 listed a w h0 H)
    · have := ready_mono hi hik
      rw [h0] at this
      cases this
  | succ f ih =>
    intro listed a w hls hcl hun H
    by_cases h0 : Region.ready md ops (listed.setIfInBounds k true) = []
    · have hall := all_listed hlt h0 ops.size
      have hkr : k ∈ Region.ready md ops listed := mem_ready.2 ⟨hun, ok, hk, fun e he hb => by
        have h5 := hlt k ok hk e he hb
        have := hall e.on (by omega) (by omega)
        rw [Array.getD_eq_getD_getElem?, Array.getElem?_setIfInBounds_ne (by omega), ← Array.getD_eq_getD_getElem?] at this
        exact getD_true (by omega) this⟩
      refine ⟨fun q => (by rw [q] at hkr; cases hkr), fun i hi => ?_⟩
      by_cases hik : i = k
      · subst hik
        exact wpOp_mono (fun a w hq => hdone _ _ a w h0 hq) (hend _ listed a w h0 H)
      · have := ready_mono hi hik
        rw [h0] at this
        cases this
    · obtain ⟨j, hj⟩ := List.exists_mem_of_ne_nil _ h0
      have hjl := hback hj hls
      refine ⟨fun q => (by rw [q] at hjl; cases hjl), fun i hi => ?_⟩
      by_cases hik : i = k
      · exfalso
        subst hik
        obtain ⟨_, o, ho, hall⟩ := mem_ready.1 hi
        have hjk := hne hj hls
        obtain ⟨hj1, oj, hoj, _⟩ := mem_ready.1 hjl
        have hjs : j < ops.size := by
          rcases Nat.lt_or_ge j ops.size with q | q
          · exact q
          · rw [Array.getElem?_eq_none q] at hoj; cases hoj
        rw [hk] at ho
        obtain rfl := Option.some.inj ho
        have := below_listed hk hcl hall hw hlt i j (by omega) (by omega)
        rw [Array.getD_eq_getD_getElem?, Array.getElem?_eq_getElem (by omega)] at this hj1
        simp only [Option.getD_some] at this hj1
        rw [this] at hj1
        cases hj1
      · refine wpOp_then (fun a' w' h => ?_) (H.2 i (ready_mono hi hik))
        refine ih (listed.setIfInBounds i true) a' w' (by simpa using hls) (hcl.step hi) ?_ ?_
        · rw [Array.getD_eq_getD_getElem?, Array.getElem?_setIfInBounds_ne hik, ← Array.getD_eq_getD_getElem?]; exact hun
        · rw [Array.setIfInBounds_comm _ _ hik]
          exact h.2
theorem done_last {k : Nat} {a : Act} {w : World} (h : wpOp P ops Q k (Q .normal) a w) : Exit.then (fun a w => wpOp P ops Q k (Q .normal) a w) Q .normal a w := h
/-- The beginning. -/
theorem region_last {id k : Nat} {ok : Oper} {a : Act} {w : World} (hm : P.follows .mixedOrders = true) (hs : k + 1 = ops.size) (hk : ops[k]? = some ok) (hw : (List.range k).all (fun j => (List.range (k + 1)).any fun i => match ops[i]? with | none => false | some o => o.after.any fun e => Region.binds .any e && e.on == j) = true)
    (hlt : (List.range ops.size).all (fun i => match ops[i]? with | none => true | some o => o.after.all fun e => !Region.binds .any e || decide (e.on < i)) = true)
    (h : wpAnyH P .any ops (Exit.then (fun a w => wpOp P ops Q k (Q .normal) a w) Q) S k ((Array.replicate ops.size false).setIfInBounds k true) a w.drew) : (Code.region id ops true).wp P Q a w := by
  refine wp_region_any hm ?_
  rw [← hs]
  refine wpAny_last hs hk (fun i hi => ?_) (fun i o ho e he hb => ?_) k _ a _ (by simpa using hs) (fun i o ho hi => by rw [Array.getD_eq_getD_getElem?, Array.getElem?_replicate] at hi; split at hi <;> cases hi) (by rw [Array.getD_eq_getD_getElem?, Array.getElem?_replicate, if_pos (by omega)]; rfl) (by rw [← hs] at h; exact h)
  · have := List.all_eq_true.1 hw i (List.mem_range.2 hi)
    obtain ⟨n, hn, q⟩ := List.any_eq_true.1 this
    have hn' := List.mem_range.1 hn
    cases ho : ops[n]? with
    | none => rw [ho] at q; cases q
    | some o =>
      rw [ho] at q
      obtain ⟨m, hm, q⟩ := Array.any_eq_true.1 q
      simp at q
      exact ⟨n, o, by omega, ho, o.after[m], Array.getElem_mem hm, q.1, q.2⟩
  · have hi : i < ops.size := by
      rcases Nat.lt_or_ge i ops.size with q | q
      · exact q
      · rw [Array.getElem?_eq_none q] at ho; cases ho
    have := List.all_eq_true.1 hlt i (List.mem_range.2 hi)
    rw [ho] at this
    obtain ⟨j, hj, rfl⟩ := Array.mem_iff_getElem.1 he
    have := Array.all_eq_true.1 this j hj
    simp [hb] at this
    exact this
end
end Go.Proofs.Ytigmgkcojifbcaa.Last
