/- The document's Appended. -/
import Derived.Test.YtigmgkcojifbcaaHistOps
namespace Go.Proofs.Ytigmgkcojifbcaa.Hist
open Go.RowKit Go.Proofs.Ytigmgkcojifbcaa.Dig Go.Proofs.Ytigmgkcojifbcaa.Mem
set_option linter.unusedVariables false
set_option linter.unusedSimpArgs false

def isApp (k v : Int) (o : OpM) : Bool := !o.read && o.key == k && o.value == v
def hasApp (k v : Int) (t : TxnM) : Bool := t.ops.any (isApp k v)
theorem appB_eq (ts : List TxnM) (k v : Int) : appB ts k v = ts.any (hasApp k v) := rfl
def AnyRel {α : Type} (p : α → Bool) (w : World) (xs : List α) (i : Value) (wr : World) : Prop :=
  ∃ k : Nat, k ≤ xs.length ∧ i = .int .i64 (k : Int) ∧ Hid ((xs.take k).any p = false) ∧ Below w.heap.size w wr
theorem AnyRel.next {α : Type} {p : α → Bool} {w w' : World} {xs : List α} {k : Nat} {i : Value} (hx : k < xs.length) (he : p xs[k] = false) (h : Hid ((xs.take k).any p = false)) (hi : i = .int .i64 ((k + 1 : Nat) : Int)) (hb : Below w.heap.size w w') : AnyRel p w xs i w' :=
  ⟨k + 1, by omega, hi, hide (by rw [any_take hx, h.out, he]; rfl), hb⟩
theorem any_none {α : Type} {p : α → Bool} {xs : List α} {k : Nat} (hk : ¬ k < xs.length) (h : (xs.take k).any p = false) : xs.any p = false := by
  rwa [List.take_of_length_le (by omega)] at h
set_option maxHeartbeats 2000000 in
theorem rapp_any (F : Nat → Prop) (tv : Value) (ts : List TxnM) (k v : Int) (w : World) (h : TxnsAt F w tv ts) (ht : ts.length ≤ 1000000) (ho : ∀ t ∈ ts, t.ops.length ≤ 1000000) :
    Calls Try.prog 28 #[.agg #[tv], .int .i64 k, .int .i64 v] w fun e w' => e = .returned (.bool (appB ts k v)) ∧ Below w.heap.size w w' := by
  obtain ⟨a, c, rfl, _, _⟩ := h.shape
  have H : Hid (TxnsAt F w (.slice a ts.length c) ts) := h
  have L : Hid (∀ t ∈ ts, t.ops.length ≤ 1000000) := ho
  clear h ho
  go_enter Try.func28, Try.ntmps28
  go_wp2
  go_loopw [7] (fun i wr => AnyRel (hasApp k v) (w.alloc (.cells #[.slice a ts.length c] 24)) ts i wr) (fun i _ => ts.length - (intOf i).toNat)
  case atStart => exact ⟨0, by omega, rfl, hide rfl, Below.refl _ _⟩
  case round =>
    obtain ⟨i, hi, rfl, hj, hbel⟩ := hrel
    have HB : Hid (Below w.heap.size w wr) := ((Below.refl _ _).alloc (Nat.le_refl _) _).trans (hbel.mono (by simp))
    have hz : w.heap.size < wr.heap.size := by have := hbel.size; simp at this; omega
    have X : Is wr w.heap.size #[.slice a ts.length c] := (Is.made w _ 24 rfl).below hbel
    have X0 := X.cell 0 rfl
    by_cases hlt : i < ts.length
    · have hol := L.out _ (List.getElem_mem hlt)
      obtain ⟨b1, o1, l1, q1, rfl, _, hb1, c0, c1, c2, hi1, _⟩ := (H.out.keep HB.out).at hlt
      have HO : Hid (OpsAt F wr (.slice l1 ts[i].ops.length q1) ts[i].ops) := hi1
      have HX : Hid (Is wr w.heap.size #[.slice (some ⟨b1, o1, none⟩) ts.length c]) := X
      clear X hi1
      go_wp2
      go_loopw [8] (fun i' wr' => AnyRel (isApp k v) wr ts[i].ops i' wr') (fun i' _ => ts[i].ops.length - (intOf i').toNat)
      case atStart => exact ⟨0, by omega, rfl, hide rfl, Below.refl _ _⟩
      case round =>
        obtain ⟨j, hk2, rfl, hj2, hbel2⟩ := hrel
        have hs2 := hbel2.size
        have Y0 := (HX.out.below hbel2).cell 0 rfl
        have d2 := (hbel2.cell (p := ⟨b1, o1 + i * 3 + 2, none⟩) hb1).trans c2
        by_cases hlt2 : j < ts[i].ops.length
        · obtain ⟨b3, o3, l3, q3, rfl, _, hb3, e0, e1, e2, e3, _⟩ := (HO.out.keep hbel2).at hlt2
          by_cases h1 : ts[i].ops[j].read = true
          · have HE : Hid (isApp k v ts[i].ops[j] = false) := by show _ = _; unfold isApp; rw [h1]; rfl
            clear c0 c1 c2 X0
            go_wp2
            go_roundw
            case rel => exact AnyRel.next hlt2 HE.out hj2 (by go_num) (hbel2.alloc hs2 _)
            case measure => simp [intOf]; omega
          have h1' : ts[i].ops[j].read = false := by simpa using h1
          clear h1
          by_cases h2 : (ts[i].ops[j].key == k) = true
          rotate_left
          · have h2' : (ts[i].ops[j].key == k) = false := by simpa using h2
            have HE : Hid (isApp k v ts[i].ops[j] = false) := by show _ = _; unfold isApp; rw [h2']; simp
            clear c0 c1 c2 X0 h2
            go_wp2
            go_roundw
            case rel => exact AnyRel.next hlt2 HE.out hj2 (by go_num) (hbel2.alloc hs2 _)
            case measure => simp [intOf]; omega
          by_cases h3 : (ts[i].ops[j].value == v) = true
          rotate_left
          · have h3' : (ts[i].ops[j].value == v) = false := by simpa using h3
            have HE : Hid (isApp k v ts[i].ops[j] = false) := by show _ = _; unfold isApp; rw [h3']; simp
            clear c0 c1 c2 X0 h3
            go_wp2
            go_roundw
            case rel => exact AnyRel.next hlt2 HE.out hj2 (by go_num) (hbel2.alloc hs2 _)
            case measure => simp [intOf]; omega
          · have HE : Hid (appB ts k v = true) := by
              show _ = _
              rw [appB_eq]
              exact any_at hlt (any_at hlt2 (by unfold isApp; rw [h1', h2, h3]; rfl))
            clear c0 c1 c2 X0
            go_wp2
            go_ret
            exact ⟨by rw [HE.out]; rfl, HB.out.trans ((hbel2.alloc hs2 _).mono HB.out.size)⟩
        · have HE : Hid (hasApp k v ts[i] = false) := any_none hlt2 hj2.out
          clear c0 c1 c2 X0
          go_wp2
          go_roundw
          case rel => exact AnyRel.next hlt HE.out hj (by go_num) (hbel.trans (hbel2.mono hbel.size))
          case measure => simp [intOf]; omega
    · have HE : Hid (appB ts k v = false) := any_none hlt hj.out
      go_wp2
      go_ret
      exact ⟨by rw [HE.out]; rfl, HB.out⟩
end Go.Proofs.Ytigmgkcojifbcaa.Hist
