/- Contracts of opSize and size. -/
import Derived.Test.YtigmgkcojifbcaaEncOp
import Derived.Deep.RegionHeld3
import Derived.Deep.DrawnRows
namespace Go.Proofs.Ytigmgkcojifbcaa.Hist
open Go.RowKit Go.Proofs.Ytigmgkcojifbcaa.Dig Go.Proofs.Ytigmgkcojifbcaa.Mem Go.Proofs.Ytigmgkcojifbcaa.Keys
set_option linter.unusedVariables false
set_option linter.unusedSimpArgs false

theorem sizeN_cons (x : Int) (l : List Int) : sizeN (x :: l) = (txt x.toNat).length + 1 + sizeN l := by simp [sizeN]
theorem flat8_len : ∀ l : List Int, (flat8 l).length = sizeN l
  | [] => rfl
  | x :: l => by
    have := flat8_len l
    simp only [flat8, sizeN, List.map_cons, List.flatten_cons, List.length_append, List.length_cons, List.sum_cons] at *
    omega
def sizeO (o : OpM) : Nat := if o.read = true then 2 + sizeN [o.key] + sizeN o.list else 2 + sizeN [o.key, o.value]
theorem sizeO_len (o : OpM) : (lineO8 o).length = sizeO o := by
  unfold lineO8 sizeO
  split
  · have := flat8_len o.list
    simp [sizeN_cons] at *
    rw [this]
    simp [sizeN]
    omega
  · simp [sizeN]
    omega
def sizeT (t : TxnM) : Nat := 2 + sizeN [t.id] + 2 + (t.ops.map sizeO).sum
theorem sizeT_len (t : TxnM) : (textT8 t).length = sizeT t := by
  have h : ∀ os : List OpM, (os.map lineO8).flatten.length = (os.map sizeO).sum := by
    intro os
    induction os with
    | nil => rfl
    | cons o os ih => simp [ih, sizeO_len]
  unfold textT8 sizeT
  rw [List.length_append, h]
  simp [lineT8, sizeN]
  omega
def sizeH (ts : List TxnM) : Nat := (ts.map sizeT).sum
theorem sizeH_len : ∀ ts : List TxnM, (textH8 ts).length = sizeH ts
  | [] => rfl
  | t :: ts => by
    have ih := sizeH_len ts
    simp only [textH8, sizeH, List.map_cons, List.flatten_cons, List.length_append, List.sum_cons, sizeT_len] at *
    rw [ih]
theorem textH8_take {ts : List TxnM} {k : Nat} (h : k < ts.length) : textH8 (ts.take (k + 1)) = textH8 (ts.take k) ++ textT8 ts[k] := by
  unfold textH8
  rw [List.take_succ_eq_append_getElem h, List.map_append, List.flatten_append]; simp
theorem linesO_take {os : List OpM} {k : Nat} (h : k < os.length) : ((os.take (k + 1)).map lineO8).flatten = ((os.take k).map lineO8).flatten ++ lineO8 os[k] := by
  rw [List.take_succ_eq_append_getElem h, List.map_append, List.flatten_append]; simp
theorem flat8_take {l : List Int} {k : Nat} (h : k < l.length) : flat8 (l.take (k + 1)) = flat8 (l.take k) ++ 32 :: txt l[k].toNat := by
  unfold flat8
  rw [List.take_succ_eq_append_getElem h, List.map_append, List.flatten_append]; simp
theorem linesO_len : ∀ os : List OpM, (os.map lineO8).flatten.length = (os.map sizeO).sum
  | [] => rfl
  | o :: os => by simp [linesO_len os, sizeO_len]
theorem nsize1 (n : Int) (b : Nat) (w : World) (h : Is w b #[.int .i64 n]) (hn : mayN n) :
    Calls Try.prog 37 #[.slice (some ⟨b, 0, none⟩) 1 1] w fun e w' => e = .returned (.int .i64 (sizeN [n] : Int)) ∧ w' = w :=
  nsize_any _ _ [n] w (ints_one h (wf_of_i64 hn.1 (by have := hn.2; omega))) (by simp) (by simpa using hn)
theorem nsize2 (n m : Int) (b : Nat) (w : World) (h : Is w b #[.int .i64 n, .int .i64 m]) (hn : mayN n) (hm : mayN m) :
    Calls Try.prog 37 #[.slice (some ⟨b, 0, none⟩) 2 2] w fun e w' => e = .returned (.int .i64 (sizeN [n, m] : Int)) ∧ w' = w :=
  nsize_any _ _ [n, m] w (ints_two h (wf_of_i64 hn.1 (by have := hn.2; omega)) (wf_of_i64 hm.1 (by have := hm.2; omega))) (by simp) (by simp; exact ⟨hn, hm⟩)
set_option maxHeartbeats 1000000 in
theorem opsize_any (F : Nat → Prop) (o : OpM) (lv : Value) (w : World) (h : IntsAt F w lv o.list) (hl : o.list.length ≤ 1000000) (hm : mayOpB o = true) :
    Calls Try.prog 38 #[.agg #[.bool o.read, .int .i64 o.key, .int .i64 o.value, lv]] w fun e w' => e = .returned (.int .i64 (sizeO o : Int)) ∧ Below w.heap.size w w' := by
  obtain ⟨a, c, rfl, _, _⟩ := h.shape
  have H := hide h
  clear h
  by_cases hr : o.read = true
  · obtain ⟨k1, k3, k0⟩ := mayOp_read hm hr
    have K1 := hide k1
    have K3 := hide k3
    obtain ⟨s1, h1⟩ : ∃ s, sizeN [o.key] = s := ⟨_, rfl⟩
    obtain ⟨s2, h2⟩ : ∃ s, sizeN o.list = s := ⟨_, rfl⟩
    have b1 := sizeN_le [o.key]
    have b2 := sizeN_le o.list
    rw [h1] at b1
    rw [h2] at b2
    simp at b1
    have T : Hid (sizeO o = 2 + s1 + s2) := hide (by unfold sizeO; rw [if_pos hr, h1, h2])
    have E1 := hide h1
    have E2 := hide h2
    clear h1 h2 k1 k3 k0 hm
    have q1 : IntKind.i64.wrap (2 + (s1 : Int)) = 2 + (s1 : Int) := by rw [IntKind.wrap_i64]; omega
    have q2 : IntKind.i64.wrap (2 + (s1 : Int) + (s2 : Int)) = 2 + (s1 : Int) + (s2 : Int) := by rw [IntKind.wrap_i64]; omega
    have Q1 := hide q1
    have Q2 := hide q2
    clear q1 q2
    go_enter Try.func38, Try.ntmps38
    go_upto_region 2 with fail
    go_region_with (first | (go_at_call 37; (with_reducible refine (nsize1 o.key _ _ (by first | exact Is.made _ _ _ (by first | rfl | simp) | exact Is.drew (Is.made _ _ _ (by first | rfl | simp)) | exact Is.drewN (Is.made _ _ _ (by first | rfl | simp)) _) K1.out).mono ?_); rw [E1.out]; rintro e w1 ⟨rfl, hq⟩; replace hq := hq.symm; subst hq) | (go_at_call 37; (with_reducible refine (nsize_any F _ o.list _ (H.out.keep (by repeat (first | exact Below.refl _ _ | refine Below.drew ?_ | refine Below.drewN ?_ _ | refine Below.alloc ?_ (by first | omega | (simp; done) | (simp; omega)) _))) hl K3.out).mono ?_); rw [E2.out]; rintro e w2 ⟨rfl, hq⟩; replace hq := hq.symm; subst hq))
    all_goals
      go_simp
      go_wp2
      go_ret
      exact ⟨by rw [Q1.out, Q2.out, T.out]; push_cast; rfl, (by repeat (first | exact Below.refl _ _ | refine Below.drew ?_ | refine Below.drewN ?_ _ | refine Below.alloc ?_ (by first | omega | (simp; done) | (simp; omega)) _))⟩
  · have hr' : o.read = false := by simpa using hr
    obtain ⟨k1, k2, k3⟩ := mayOp_app hm hr'
    have K1 := hide k1
    have K2 := hide k2
    obtain ⟨s1, h1⟩ : ∃ s, sizeN [o.key, o.value] = s := ⟨_, rfl⟩
    have b1 := sizeN_le [o.key, o.value]
    rw [h1] at b1
    simp at b1
    have T : Hid (sizeO o = 2 + s1) := hide (by unfold sizeO; rw [if_neg hr, h1])
    have E1 := hide h1
    clear h1 k1 k2 k3 hm hr
    go_enter Try.func38, Try.ntmps38
    go_wp2_with (first | (go_at_call 37; (with_reducible refine (nsize2 o.key o.value _ _ (by first | exact Is.made _ _ _ (by first | rfl | simp) | exact Is.drew (Is.made _ _ _ (by first | rfl | simp)) | exact Is.drewN (Is.made _ _ _ (by first | rfl | simp)) _) K1.out K2.out).mono ?_); rw [E1.out]; rintro e w1 ⟨rfl, hq⟩; replace hq := hq.symm; subst hq))
    go_ret
    exact ⟨by rw [T.out]; go_num, (by repeat (first | exact Below.refl _ _ | refine Below.drew ?_ | refine Below.drewN ?_ _ | refine Below.alloc ?_ (by first | omega | (simp; done) | (simp; omega)) _))⟩
end Go.Proofs.Ytigmgkcojifbcaa.Hist
