/- The contract of size. -/
import Derived.Test.YtigmgkcojifbcaaEncSize
import Derived.Test.YtigmgkcojifbcaaEncTxn
namespace Go.Proofs.Ytigmgkcojifbcaa.Hist
open Go.RowKit Go.Proofs.Ytigmgkcojifbcaa.Dig Go.Proofs.Ytigmgkcojifbcaa.Mem Go.Proofs.Ytigmgkcojifbcaa.Keys
set_option linter.unusedVariables false
set_option linter.unusedSimpArgs false

/-- Few enough lists for a sum. -/
def Few4 (ts : List TxnM) : Prop := ts.length ≤ 5000 ∧ opsN ts ≤ 5000 ∧ ∀ t ∈ ts, OpsFew' t.ops
theorem sizeO_le (o : OpM) (h : o.list.length ≤ 1000000) : sizeO o ≤ 11000100 := by
  unfold sizeO
  have := sizeN_le o.list
  have := sizeN_le [o.key]
  have := sizeN_le [o.key, o.value]
  simp at *
  split <;> omega
theorem sizeOs_le : ∀ (os : List OpM), (∀ o ∈ os, o.list.length ≤ 1000000) → (os.map sizeO).sum ≤ 11000100 * os.length
  | [], _ => by simp
  | o :: os, h => by
    have h1 := sizeO_le o (h o List.mem_cons_self)
    have h2 := sizeOs_le os (fun p hp => h p (List.mem_cons_of_mem _ hp))
    simp only [List.map_cons, List.sum_cons, List.length_cons]
    omega
theorem sizeH_le : ∀ (ts : List TxnM), (∀ t ∈ ts, ∀ o ∈ t.ops, o.list.length ≤ 1000000) → sizeH ts ≤ 15 * ts.length + 11000100 * opsN ts
  | [], _ => by simp [sizeH]
  | t :: ts, h => by
    have h1 := sizeOs_le t.ops (h t List.mem_cons_self)
    have h2 := sizeH_le ts (fun u hu => h u (List.mem_cons_of_mem _ hu))
    have h3 := sizeN_le [t.id]
    have h4 : opsN (t :: ts) = t.ops.length + opsN ts := by simp [opsN]
    rw [h4]
    simp only [sizeH, List.map_cons, List.sum_cons, List.length_cons, sizeT] at *
    simp at h3
    omega
theorem sizeH_take {ts : List TxnM} {k : Nat} (h : k < ts.length) : sizeH (ts.take (k + 1)) = sizeH (ts.take k) + sizeT ts[k] := by
  unfold sizeH
  rw [List.take_succ_eq_append_getElem h, List.map_append, List.sum_append]; simp
theorem sizeH_split (ts : List TxnM) (k : Nat) : sizeH (ts.take k) ≤ sizeH ts := by
  have h : ts.take k ++ ts.drop k = ts := List.take_append_drop k ts
  have e : sizeH ts = sizeH (ts.take k) + sizeH (ts.drop k) := by
    conv => lhs; rw [← h]
    simp only [sizeH, List.map_append, List.sum_append]
  omega
theorem sizeOs_take {os : List OpM} {k : Nat} (h : k < os.length) : ((os.take (k + 1)).map sizeO).sum = ((os.take k).map sizeO).sum + sizeO os[k] := by
  rw [List.take_succ_eq_append_getElem h, List.map_append, List.sum_append]; simp
theorem sizeOs_split (os : List OpM) (k : Nat) : ((os.take k).map sizeO).sum ≤ (os.map sizeO).sum := by
  have h : os.take k ++ os.drop k = os := List.take_append_drop k os
  have e : (os.map sizeO).sum = ((os.take k).map sizeO).sum + ((os.drop k).map sizeO).sum := by
    conv => lhs; rw [← h]
    simp only [List.map_append, List.sum_append]
  omega
def SzRel (w : World) (f : Nat → Nat) (m : Nat) (n i : Value) (wr : World) : Prop :=
  ∃ k s : Nat, k ≤ m ∧ i = .int .i64 (k : Int) ∧ n = .int .i64 (s : Int) ∧ Hid (s = f k) ∧ Below w.heap.size w wr
set_option maxRecDepth 20000 in
set_option maxHeartbeats 1000000 in
theorem size_any (F : Nat → Prop) (v : Value) (ts : List TxnM) (w : World) (h : TxnsAt F w v ts) (hf : Few4 ts) (hm : MayAll ts) :
    Calls Try.prog 18 #[.agg #[v]] w fun e w' => e = .returned (.int .i64 (sizeH ts : Int)) ∧ Below w.heap.size w w' := by
  obtain ⟨a, c, rfl, _, _⟩ := h.shape
  have H := hide h
  have FW := hide hf
  have M := hide hm
  have hlen := hf.1
  have LE := hide (show sizeH ts ≤ 60000000000 by have := sizeH_le ts (fun t ht => (hf.2.2 t ht).2); have := hf.2.1; omega)
  clear h hf hm
  go_enter Try.func18, Try.ntmps18
  go_wp2
  go_loopw [3, 11] (fun n i wr => SzRel w (fun k => sizeH (ts.take k)) ts.length n i wr) (fun _ i _ => ts.length - (intOf i).toNat)
  case atStart => exact ⟨0, 0, by omega, rfl, rfl, hide rfl, (Below.refl _ _).alloc (Nat.le_refl _) _⟩
  case round =>
    obtain ⟨k, s, hk, rfl, rfl, hs, hbel⟩ := hrel
    replace hs : Hid (s = sizeH (ts.take k)) := hs
    have hsb : s ≤ 60000000000 := by have q := hs.out; have := sizeH_split ts k; have := LE.out; omega
    by_cases hlt : k < ts.length
    · obtain ⟨b1, o1, l1, q1, rfl, _, hb1, c0, c1, c2, hi1, _⟩ := (H.out.keep hbel).at hlt
      have HO : Hid (OpsAt F wr (.slice l1 ts[k].ops.length q1) ts[k].ops) := hi1
      have KI := hide (M.out _ (List.getElem_mem hlt)).1
      have KM := hide (M.out _ (List.getElem_mem hlt)).2
      have FO := hide (FW.out.2.2 _ (List.getElem_mem hlt))
      have hol0 := (FW.out.2.2 _ (List.getElem_mem hlt)).1
      have HB := hide hbel
      obtain ⟨s1, h1⟩ : ∃ s, sizeN [ts[k].id] = s := ⟨_, rfl⟩
      have b1' := sizeN_le [ts[k].id]
      rw [h1] at b1'
      simp at b1'
      have E1 := hide h1
      have hz := hbel.size
      have ST : Hid (sizeH (ts.take (k + 1)) = s + (2 + s1 + 2 + (ts[k].ops.map sizeO).sum)) := hide (by have q := hs.out; rw [sizeH_take hlt, q]; unfold sizeT; rw [h1])
      have SB : Hid (sizeH (ts.take (k + 1)) ≤ 60000000000) := hide (Nat.le_trans (sizeH_split ts _) LE.out)
      clear h1 hi1 hbel
      go_wp2_with (first | (go_at_call 37; (with_reducible refine (nsize1 ts[k].id _ _ (by first | exact Is.made _ _ _ (by first | rfl | simp) | exact Is.drew (Is.made _ _ _ (by first | rfl | simp)) | exact Is.drewN (Is.made _ _ _ (by first | rfl | simp)) _) KI.out).mono ?_); rw [E1.out]; rintro e w1 ⟨rfl, hq⟩; replace hq := hq.symm; subst hq))
      go_loopw [3, 26] (fun n i wr' => SzRel wr (fun j => s + (2 + s1 + 2 + ((ts[k].ops.take j).map sizeO).sum)) ts[k].ops.length n i wr') (fun _ i _ => ts[k].ops.length - (intOf i).toNat)
      case atStart => exact ⟨0, s + (2 + s1 + 2), by omega, rfl, by go_num, hide (by simp), (by repeat (first | exact Below.refl _ _ | refine Below.drew ?_ | refine Below.drewN ?_ _ | refine Below.alloc ?_ (by first | omega | (simp; done) | (simp; omega)) _))⟩
      case round =>
        obtain ⟨j, s2, hj, rfl, rfl, hs2, hbel2⟩ := hrel
        replace hs2 : Hid (s2 = s + (2 + s1 + 2 + ((ts[k].ops.take j).map sizeO).sum)) := hs2
        have hsb2 : s2 ≤ 60000000000 := by have q := hs2.out; have q1 := sizeOs_split ts[k].ops j; have q2 := SB.out; have q3 := ST.out; omega
        have hz2 := hbel2.size
        by_cases hlt2 : j < ts[k].ops.length
        · obtain ⟨b3, o3, l3, q3, rfl, _, hb3, e0, e1, e2, e3, hi3, _⟩ := (HO.out.keep hbel2).at hlt2
          have hol := FO.out.at hlt2
          have KO := hide (KM.out _ (List.getElem_mem hlt2))
          have HI := hide hi3
          have HB3 := hide hbel2
          obtain ⟨s3, h3⟩ : ∃ s, sizeO ts[k].ops[j] = s := ⟨_, rfl⟩
          have b3' := sizeO_le ts[k].ops[j] hol
          rw [h3] at b3'
          have EO := hide h3
          have S3 : Hid (s2 + s3 = s + (2 + s1 + 2 + ((ts[k].ops.take (j + 1)).map sizeO).sum)) := hide (by have q := hs2.out; rw [q, sizeOs_take hlt2, h3]; omega)
          clear h3 hi3 hbel2 c0 c1 c2
          go_wp2_with (first | (go_at_call 38; go_must ((with_reducible refine (opsize_any F ts[k].ops[j] _ _ (HI.out.keep (by repeat (first | exact Below.refl _ _ | refine Below.drew ?_ | refine Below.drewN ?_ _ | refine Below.alloc ?_ (by first | omega | (simp; done) | (simp; omega)) _))) hol KO.out).mono ?_); rw [EO.out]; rintro e w2 ⟨rfl, hb2⟩; have HB2 := hide (((Below.refl _ _).alloc (Nat.le_refl _) _).trans (hb2.mono (by simp))); clear hb2)))
          go_roundw
          case rel => exact ⟨j + 1, s2 + s3, by omega, by go_num, by go_num, S3, HB3.out.trans (HB2.out.mono HB3.out.size)⟩
          case measure => simp [intOf]; omega
        · have e : j = ts[k].ops.length := by omega
          subst e
          have HB3 := hide hbel2
          have S3 : Hid (s2 = sizeH (ts.take (k + 1))) := hide (by have q := hs2.out; rw [q, ST.out, List.take_length])
          go_wp2
          go_roundw
          case rel => exact ⟨k + 1, s2, by omega, by go_num, rfl, S3, HB.out.trans (HB3.out.mono HB.out.size)⟩
          case measure => simp [intOf]; omega
    · have e : k = ts.length := by omega
      subst e
      have S3 : Hid (s = sizeH ts) := hide (by have q := hs.out; rw [q, List.take_length])
      go_wp2
      go_ret
      exact ⟨by rw [← S3.out]; rfl, hbel⟩
end Go.Proofs.Ytigmgkcojifbcaa.Hist
