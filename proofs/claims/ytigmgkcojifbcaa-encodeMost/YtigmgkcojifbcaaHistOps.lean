/- Contracts of the two Ops, twin, is: each only reads. -/
import Derived.Test.YtigmgkcojifbcaaHistMem
import Derived.Deep.QuietTactic
import Derived.BigQuiet
import Derived.Deep.RegionWith
import Derived.Outline
namespace Go.Proofs.Ytigmgkcojifbcaa.Hist
open Go.RowKit Go.Proofs.Ytigmgkcojifbcaa.Dig Go.Proofs.Ytigmgkcojifbcaa.Mem
set_option linter.unusedVariables false
set_option linter.unusedSimpArgs false

theorem _root_.Go.RowKit.Below.drewN {B : Nat} {a w : World} (h : Below B a w) (n : Nat) : Below B a (w.drewN n) := ⟨h.os, h.tape, h.output, h.size, h.block⟩
theorem ops_any (F : Nat → Prop) (v : Value) (ts : List TxnM) (w : World) (h : TxnsAt F w v ts) (ht : ts.length ≤ 1000000) (hn : opsN ts ≤ 1000000) :
    Calls Try.prog 23 #[.agg #[v]] w fun e w' => e = .returned (.int .i64 (opsN ts : Int)) ∧ Below w.heap.size w w' := by
  obtain ⟨a, cap, rfl, hc1, hc2⟩ := h.shape
  have H : Hid (TxnsAt F w (.slice a ts.length cap) ts) := h
  clear h
  go_enter Try.func23, Try.ntmps23
  go_wp2
  go_loopw [3, 9] (fun n i wr => ∃ k : Nat, k ≤ ts.length ∧ i = .int .i64 (k : Int) ∧ n = .int .i64 (opsN (ts.take k) : Int) ∧ Below w.heap.size w wr) (fun _ i _ => ts.length - (intOf i).toNat)
  case atStart => exact ⟨0, by omega, rfl, rfl, (Below.refl _ _).alloc (Nat.le_refl _) _⟩
  case round =>
    obtain ⟨k, hk, rfl, rfl, hbel⟩ := hrel
    by_cases hlt : k < ts.length
    · obtain ⟨b, off, oa, ocap, rfl, _, hb, c0, c1, c2, _, _⟩ := (H.out.keep hbel).at hlt
      have s1 := opsN_take hlt
      have s2 := opsN_take_le ts k
      have s3 := ops_le hlt
      have S : Hid (opsN (ts.take (k + 1)) = opsN (ts.take k) + ts[k].ops.length) := s1
      have hs := hbel.size
      clear s1
      go_wp2
      go_roundw
      case rel => exact ⟨k + 1, by omega, by go_num, by rw [S.out]; go_num, hbel.alloc hs _⟩
      case measure => simp [intOf]; omega
    · have e : k = ts.length := by omega
      subst e
      go_wp2
      go_ret
      exact ⟨by rw [List.take_length]; rfl, hbel⟩
theorem rops_any (F : Nat → Prop) (v : Value) (ts : List TxnM) (w : World) (h : TxnsAt F w v ts) (ht : ts.length ≤ 1000000) (hn : opsN ts ≤ 1000000) :
    Calls Try.prog 25 #[.agg #[v]] w fun e w' => e = .returned (.int .i64 (opsN ts : Int)) ∧ Below w.heap.size w w' := by
  obtain ⟨a, cap, rfl, hc1, hc2⟩ := h.shape
  have H : Hid (TxnsAt F w (.slice a ts.length cap) ts) := h
  clear h
  go_enter Try.func25, Try.ntmps25
  go_wp2
  go_loop [3, 4] (fun n i => ∃ k : Nat, k ≤ ts.length ∧ i = .int .i64 (k : Int) ∧ n = .int .i64 (opsN (ts.take k) : Int)) (fun _ i => ts.length - (intOf i).toNat)
  case atStart => exact ⟨0, by omega, rfl, rfl⟩
  case round =>
    obtain ⟨k, hk, rfl, rfl⟩ := hrel
    by_cases hlt : k < ts.length
    · obtain ⟨b, off, oa, ocap, rfl, _, hb, c0, c1, c2, _, _⟩ := H.out.at hlt
      have s1 := opsN_take hlt
      have s2 := opsN_take_le ts k
      have s3 := ops_le hlt
      have S : Hid (opsN (ts.take (k + 1)) = opsN (ts.take k) + ts[k].ops.length) := s1
      clear s1
      go_wp2
      go_round
      case rel => exact ⟨k + 1, by omega, by go_num, by rw [S.out]; go_num⟩
      case measure => simp [intOf]; omega
    · have e : k = ts.length := by omega
      subst e
      go_wp2
      go_ret
      exact ⟨rfl, (Below.refl _ _).alloc (Nat.le_refl _) _⟩
theorem any_take {α : Type} {p : α → Bool} {l : List α} {k : Nat} (h : k < l.length) : (l.take (k + 1)).any p = ((l.take k).any p || p l[k]) := by
  rw [List.take_succ_eq_append_getElem h, List.any_append]; simp
theorem any_at {α : Type} {p : α → Bool} {l : List α} {k : Nat} (h : k < l.length) (hp : p l[k] = true) : l.any p = true := List.any_eq_true.2 ⟨_, List.getElem_mem h, hp⟩
theorem rtwin_any (F : Nat → Prop) (v : Value) (ts : List TxnM) (id : Int) (w : World) (h : TxnsAt F w v ts) (ht : ts.length ≤ 1000000) :
    Calls Try.prog 49 #[.agg #[v], .int .i64 id] w fun e w' => e = .returned (.bool (twinB ts id)) ∧ Below w.heap.size w w' := by
  obtain ⟨a, cap, rfl, hc1, hc2⟩ := h.shape
  have H : Hid (TxnsAt F w (.slice a ts.length cap) ts) := h
  clear h
  go_enter Try.func49, Try.ntmps49
  go_wp2
  go_loop [5] (fun i => ∃ k : Nat, k ≤ ts.length ∧ i = .int .i64 (k : Int) ∧ Hid (twinB (ts.take k) id = false)) (fun i => ts.length - (intOf i).toNat)
  case atStart => exact ⟨0, by omega, rfl, rfl⟩
  case round =>
    obtain ⟨k, hk, rfl, hno⟩ := hrel
    by_cases hlt : k < ts.length
    · obtain ⟨b, off, oa, ocap, rfl, _, hb, c0, c1, c2, _, _⟩ := H.out.at hlt
      by_cases he : (ts[k].id == id) = true
      · have T : Hid (twinB ts id = true) := any_at (p := fun t : TxnM => t.id == id) hlt he
        go_wp2
        go_ret
        exact ⟨by rw [T.out]; rfl, (Below.refl _ _).alloc (Nat.le_refl _) _⟩
      · have he' : (ts[k].id == id) = false := by simpa using he
        have T : Hid (twinB (ts.take (k + 1)) id = false) := by
          show (ts.take (k + 1)).any _ = false
          rw [any_take hlt, he', Bool.or_false]; exact hno.out
        clear he
        go_wp2
        go_round
        case rel => exact ⟨k + 1, by omega, by go_num, T⟩
        case measure => simp [intOf]; omega
    · have e : k = ts.length := by omega
      subst e
      go_wp2
      go_ret
      exact ⟨by have q := hno.out; rw [List.take_length] at q; rw [q]; rfl, (Below.refl _ _).alloc (Nat.le_refl _) _⟩
theorem ris_any (a : Option Addr) (len cap : Nat) (z : Nat → Int) (i : Nat) (x : Int) (w : World) (h : Rd .u8 w a len z) (hi : i ≤ 2000000) :
    Calls Try.prog 47 #[.slice a len cap, .int .i64 (i : Int), .int .u8 x] w fun e w' => e = .returned (.bool (isB z len i x)) ∧ w' = w := by
  have hlen := h.le
  by_cases hlt : i < len
  · have hlt' : (i : Int) < (len : Int) := by omega
    obtain ⟨b, off, rfl, hc, _, _⟩ := h.u8 hlt
    have hd : decide ((i : Int) < (len : Int)) = true := by simpa using hlt
    by_cases he : (z i == x) = true
    · have T : Hid (isB z len i x = true) := isB_iff.2 ⟨hlt, by simpa using he⟩
      clear h
      go_enter Try.func47, Try.ntmps47
      go_wp2
      go_ret
      exact ⟨by rw [T.out]; rfl, rfl⟩
    · have he' : (z i == x) = false := by simpa using he
      have T : Hid (isB z len i x = false) := isB_no.2 (by intro q; simp [q.2] at he')
      clear h he
      go_enter Try.func47, Try.ntmps47
      go_wp2
      go_ret
      exact ⟨by rw [T.out]; rfl, rfl⟩
  · have hlt' : ¬ (i : Int) < (len : Int) := by omega
    have hd : decide ((i : Int) < (len : Int)) = false := by simpa using hlt
    have T : Hid (isB z len i x = false) := isB_no.2 (by intro q; exact hlt q.1)
    clear h
    go_enter Try.func47, Try.ntmps47
    go_wp2
    go_ret
    exact ⟨by rw [T.out]; rfl, rfl⟩
end Go.Proofs.Ytigmgkcojifbcaa.Hist
