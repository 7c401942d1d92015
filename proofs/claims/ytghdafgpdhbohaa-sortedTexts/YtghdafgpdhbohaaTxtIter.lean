/- A set is gone through: the function that All and From hand back, and what a range over it does. -/
import Derived.Test.YtghdafgpdhbohaaTxtList
import Derived.RangeFuncBox
import Derived.RangeFuncNested
import Derived.RangeFuncBound
import Derived.RangeFuncCalls
import Derived.RangeFuncLeaves
import Derived.Shelf.Abstract
import Derived.Shelf.RegionOpen
import Derived.WalkKit
import Derived.OwnWalkIn
import Derived.TacticsInMore
import Derived.LoopNIn
import Derived.LoopIn
import Derived.Maps.AppendAt
namespace Go.Proofs.Ytghdafgpdhbohaa.SetsT
open Go.RowKit Go.Proofs.Ytghdafgpdhbohaa.Sets Go.Proofs.Ytghdafgpdhbohaa.Dig Go.Proofs.Ytghdafgpdhbohaa.Mem Go.Shelf
set_option linter.unusedVariables false
set_option linter.unusedSimpArgs false
attribute [local go_sem] Oper.semAt_some

set_option maxRecDepth 100000 in
set_option maxHeartbeats 2000000 in
/-- The closure, over a row that is not nil. -/
theorem valc_in (F : Fence) (n : Nat) (h7 : F.fn 83) (hro : F.round = none) (hn : 1 ≤ n) (l Bs n₀ b off len cap : Nat) (zs : List (List UInt8)) (hzl : zs.length = len) (hreach : len ≤ 1000000) (hb : b < n₀) (J Jx : List (List UInt8) → World → Prop)
    (hY : ∀ pre x W, J pre W → pre.length < len → YieldAt F (n - 1) Try.prog l #[.string ⟨x.toArray⟩] W fun e W' =>
      (e = .returned (.bool true) ∧ J (pre ++ [x]) W' ∧ Below n₀ W W') ∨ (e = .returned (.bool false) ∧ Jx (pre ++ [x]) W'))
    (W : World) (hBs : W.cell? ⟨Bs, 0, none⟩ = some (.slice (some ⟨b, off, none⟩) len cap)) (hc : ∀ j, j < len → W.cell? ⟨b, off + j, none⟩ = some (.string ⟨(zs[j]?.getD []).toArray⟩)) (h0 : J [] W) :
    CallsIn F n Try.prog 83 #[.func (.yield l) #[] #[], .pointer (some ⟨Bs, 0, none⟩)] W fun e W' => (∃ v, e = .returned v) ∧
      ((∃ ys, ys = zs ∧ J ys W') ∨ (∃ pre, (∃ k, k ≤ len ∧ pre = zs.take k) ∧ Jx pre W')) := by
  have hsnoc : ∀ k, k < len → zs.take k ++ [zs[k]?.getD []] = zs.take (k + 1) := fun k hk => by
    rw [List.take_add_one, List.getElem?_eq_getElem (by omega)]; rfl
  refine callsIn_of_wp Try.func83 rfl h7 ?_ hro
  simp only [Try.ntmps83, List.size_toArray, List.length_cons, List.length_nil, Nat.reduceAdd, Nat.reduceSub, Array.replicate_succ, Array.replicate_zero, List.push_toArray, List.append_toArray, List.nil_append, List.cons_append]
  have HS := hide hsnoc
  have HZ := hide hzl
  clear hsnoc hzl
  gi_wp2
  gi_loopw [7] (fun i wr => ∃ k : Nat, k ≤ len ∧ i = .int .i64 k ∧ J (zs.take k) wr ∧ Below n₀ W wr)
    (fun i _ => len - (intOf i).toNat)
  case atStart => exact ⟨0, Nat.zero_le _, rfl, h0, Below.refl _ _⟩
  case round =>
    obtain ⟨k, hk, rfl, hJs, hnx⟩ := hrel
    have hcx : k < len → wr.cell? ⟨b, off + k, none⟩ = some (.string ⟨(zs[k]?.getD []).toArray⟩) := fun h => (hnx.cell (p := ⟨b, off + k, none⟩) hb).trans (hc k h)
    by_cases hlt : k < len
    · obtain ⟨fn, tmps, assign, body, hy, hR⟩ := hY _ (zs[k]?.getD []) wr hJs (by rw [List.length_take]; omega)
      have hcx' := hcx hlt
      gi_wp2
      refine hR.mono ?_
      rintro e W3 (⟨rfl, hJ3, hk3⟩ | ⟨rfl, hJx3⟩)
      · gi_wp2
        go_roundw
        case rel => exact ⟨k + 1, by omega, by simp, by rw [← HS.out k hlt]; exact hJ3, hnx.trans hk3⟩
        case measure => simp [intOf]; omega
      · gi_wp2
        refine bodyPost_ret (results_none rfl _ _ _) rfl ?_
        exact ⟨⟨_, rfl⟩, .inr ⟨_, ⟨k + 1, by omega, HS.out k hlt⟩, hJx3⟩⟩
    · obtain rfl : k = len := by omega
      gi_wp2
      go_end0
      exact ⟨⟨_, rfl⟩, .inl ⟨_, List.take_of_length_le (by rw [HZ.out]; omega), hJs⟩⟩
set_option maxRecDepth 100000 in
set_option maxHeartbeats 1000000 in
/-- .. over no element, whatever the address. -/
theorem valc_nil_in (F : Fence) (n : Nat) (h7 : F.fn 83) (hro : F.round = none) (l Bs cap : Nat) (a : Option Addr) (J : List (List UInt8) → World → Prop) (W : World) (hBs : W.cell? ⟨Bs, 0, none⟩ = some (.slice a 0 cap)) (h0 : J [] W) :
    CallsIn F n Try.prog 83 #[.func (.yield l) #[] #[], .pointer (some ⟨Bs, 0, none⟩)] W fun e W' => (∃ v, e = .returned v) ∧ J [] W' := by
  refine callsIn_of_wp Try.func83 rfl h7 ?_ hro
  simp only [Try.ntmps83, List.size_toArray, List.length_cons, List.length_nil, Nat.reduceAdd, Nat.reduceSub, Array.replicate_succ, Array.replicate_zero, List.push_toArray, List.append_toArray, List.nil_append, List.cons_append]
  gi_wp2
  gi_loopw [7] (fun i wr => i = .int .i64 0 ∧ J [] wr) (fun _ _ => 0)
  case atStart => exact ⟨rfl, h0⟩
  case round =>
    obtain ⟨rfl, hJs⟩ := hrel
    gi_wp2
    go_end0
    exact ⟨⟨_, rfl⟩, hJs⟩
/-- The value that a range goes over: the closure, whose box holds a row. -/
def IterV (w : World) (v : Value) (B : Nat) (s : List (List UInt8)) : Prop := v = .func (.func 83) #[] #[.pointer (some ⟨B, 0, none⟩)] ∧ ∃ a c, w.cell? ⟨B, 0, none⟩ = some (.slice a s.length c) ∧ RowT w a c s
theorem IterV.lt {w : World} {v : Value} {B : Nat} {s : List (List UInt8)} (h : IterV w v B s) : B < w.heap.size := by
  obtain ⟨_, a, c, hc, _⟩ := h
  exact lt_of_cell hc
theorem IterV.keep {w w' : World} {v : Value} {B : Nat} {s : List (List UInt8)} (h : IterV w v B s) (hb : Below w.heap.size w w') : IterV w' v B s := by
  have hl := h.lt
  obtain ⟨e, a, c, hc, hr⟩ := h
  exact ⟨e, a, c, (hb.cell (p := ⟨B, 0, none⟩) hl).trans hc, hr.keep hb⟩
/-- All of s come, in order; or a part from its beginning, a round having said that it is enough. It reads memory below n₀ alone. -/
theorem vals_stops (F : Fence) (n : Nat) (h7 : F.fn 83) (hro : F.round = none) (hn : 1 ≤ n) (B n₀ : Nat) (v : Value) (s : List (List UInt8)) (hm : s.length ≤ 1000000) (w : World) (h : IterV w v B s) (hn₀ : n₀ ≤ w.heap.size) (hr : ∀ b off, (∃ c, w.cell? ⟨B, 0, none⟩ = some (.slice (some ⟨b, off, none⟩) s.length c)) → 0 < s.length → b < n₀) :
    SeqStopsK F n Try.prog 83 #[.pointer (some ⟨B, 0, none⟩)] (fun x : List UInt8 => #[Value.string ⟨x.toArray⟩]) (Below n₀) (fun ys => ys = s) (fun pre => ∃ k, k ≤ s.length ∧ pre = s.take k) s.length w := fun l J Jx W hW _ _ hY h0 => by
  have hl := h.lt
  obtain ⟨_, a, c, hc, hrow⟩ := h
  have hc' := (hW.cell (p := ⟨B, 0, none⟩) hl).trans hc
  by_cases e0 : s = []
  · subst e0
    exact (valc_nil_in F n h7 hro l B c a J W hc' h0).mono fun e W' ⟨he, hj⟩ => ⟨he, .inl ⟨_, rfl, hj⟩⟩
  · have hpos : 0 < s.length := by cases s with
      | nil => exact absurd rfl e0
      | cons x s => simp
    obtain ⟨b, off, rfl, _⟩ := hrow.at hpos
    refine valc_in F n h7 hro hn l B n₀ b off s.length c s rfl hm (hr b off ⟨c, hc⟩ hpos) J Jx hY W hc' (fun j hj => ?_) h0
    obtain ⟨b', off', e, hcj⟩ := hrow.at hj
    cases e
    rw [← List.getD_eq_getElem?_getD, hW.cell (p := ⟨b, off + j, none⟩) (lt_of_cell hcj)]
    exact hcj
theorem vals_any (a : Option Addr) (len cap : Nat) (w : World) :
    Calls Try.prog 73 #[.slice a len cap] w fun e w' => e = .returned (.func (.func 83) #[] #[.pointer (some ⟨w.heap.size, 0, none⟩)]) ∧ w' = w.alloc (.cells #[.slice a len cap] 41) := by
  go_enter Try.func73, Try.ntmps73
  go_wp2
  go_ret
  exact ⟨rfl, rfl⟩
/-- What All and From hand back. -/
def IterPost (w : World) (s : List (List UInt8)) (e : Ending) (w' : World) : Prop := ∃ B, w.heap.size ≤ B ∧ e = .returned (.func (.func 83) #[] #[.pointer (some ⟨B, 0, none⟩)]) ∧ (∃ a c, w'.cell? ⟨B, 0, none⟩ = some (.slice a s.length c) ∧ RowT w' a c s ∧ RowT w a c s) ∧ Below w.heap.size w w'
theorem all_at (a : Option Addr) (n c : Nat) (w : World) :
    Calls Try.prog 51 #[.agg #[.slice a n c]] w fun e w' => ∃ B, w.heap.size ≤ B ∧ e = .returned (.func (.func 83) #[] #[.pointer (some ⟨B, 0, none⟩)]) ∧ w'.cell? ⟨B, 0, none⟩ = some (.slice a n c) ∧ Below w.heap.size w w' := by
  go_enter Try.func51, Try.ntmps51
  go_wp2_with (go_at_call 73; go_must ((with_reducible refine (vals_any _ _ _ _).mono ?_); rintro e w9 ⟨rfl, rfl⟩))
  go_ret
  have hb : Below w.heap.size w ((w.alloc (.cells #[.slice a n c] 43)).alloc (.cells #[.slice a n c] 41)) := ((Below.refl _ _).alloc (Nat.le_refl _) _).alloc (by simp) _
  exact ⟨w.heap.size + 1, by omega, by simp, (Is.made _ _ _ (by simp)).cell 0 rfl, hb⟩
theorem all_any (v : Value) (s : List (List UInt8)) (w : World) (h : SetV w v s) :
    Calls Try.prog 51 #[v] w fun e w' => IterPost w s e w' := by
  obtain ⟨a, c, rfl, hr⟩ := h
  refine (all_at a s.length c w).mono ?_
  rintro e w' ⟨B, h1, rfl, hc, hb⟩
  exact ⟨B, h1, rfl, ⟨a, c, hc, hr.keep hb, hr⟩, hb⟩
end Go.Proofs.Ytghdafgpdhbohaa.SetsT
