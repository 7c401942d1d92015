/- All of a deque is gone through: the function that each hands back. -/
import Derived.Test.YthajooipaiiieaaDqMem
import Derived.Test.YthajooipaiiieaaBitRange
namespace Go.Proofs.Ythajooipaiiieaa.DqI
open Go.RowKit Go.Proofs.Ythajooipaiiieaa.Dig Go.Proofs.Ythajooipaiiieaa.Mem Go.Proofs.Ythajooipaiiieaa.Dq Go.Proofs.Ythajooipaiiieaa.Bit Go.Shelf
set_option linter.unusedVariables false
set_option linter.unusedSimpArgs false
attribute [local go_sem] Oper.semAt_some

theorem each_any (q : Option Addr) (w : World) :
    Calls Try.prog 47 #[.pointer q] w fun e w' => e = .returned (.func (.func 49) #[] #[.pointer (some ⟨w.heap.size, 0, none⟩)]) ∧ w' = w.alloc (.cells #[.pointer q] 71) := by
  go_enter Try.func47, Try.ntmps47
  go_wp2
  go_ret
  exact ⟨rfl, rfl⟩
def encE (l : List Int) (x : Int) : Array Value := #[.int .i64 x, (Value.int .i64 (l.getD x.toNat (0 : Int)))]
def DueE (l : List Int) (pre : List Int) (x : Int) : Prop := ∃ k : Nat, x = (k : Int) ∧ k < l.length ∧ pre = upTo k
set_option maxRecDepth 100000 in
set_option maxHeartbeats 2000000 in
theorem eachc_none (B : Nat) (s : Sh) (I : List Int → World → Prop) (hI : ∀ pre W, I pre W → W.cell? ⟨B, 0, none⟩ = some s.ptr ∧ s.At W []) :
    Led Fence.wide 2 Try.prog 49 #[.pointer (some ⟨B, 0, none⟩)] (encE []) I (DueE []) (fun xs => xs = upTo ([] : List Int).length) (fun _ => True) := fun f J Jx W hJI hJ hJx hY h0 => by
  refine callsIn_of_wp Try.func49 rfl trivial ?_ rfl
  simp only [Try.ntmps49, List.size_toArray, List.length_cons, List.length_nil, Nat.reduceAdd, Nat.reduceSub, Array.replicate_succ, Array.replicate_zero, List.push_toArray, List.append_toArray, List.nil_append, List.cons_append]
  obtain ⟨k1, k2⟩ := hI _ _ (hJI _ _ h0)
  have HL := hide (len_sh k2)
  obtain ⟨q, hq⟩ := s.shape
  rw [hq] at k1 HL
  simp only [List.length_nil, Int.natCast_zero, Int.ofNat_zero, Int.cast_ofNat_Int] at HL
  clear hI k2 hJI hY
  gi_wp2_with (refine ⟨trivial, ?_⟩; gi_at_call 32; go_must ((with_reducible refine (callsIn_wide.2 (Hid.out HL)).mono ?_); rintro e w1 ⟨rfl, rfl⟩))
  gi_loopw [6] (fun i wr => i = .int .i64 0 ∧ J [] wr) (fun _ _ => 0)
  case atStart => exact ⟨rfl, h0⟩
  case round =>
    obtain ⟨rfl, hJs⟩ := hrel
    gi_wp2
    go_end0
    exact ⟨⟨_, rfl⟩, .inl ⟨_, rfl, hJs⟩⟩
set_option maxRecDepth 100000 in
set_option maxHeartbeats 2000000 in
theorem eachc_ring (B b o g n t : Nat) (cs : Array Value) (rs l : List Int) (I : List Int → World → Prop) (hI : ∀ pre W, I pre W → W.cell? ⟨B, 0, none⟩ = some (.pointer (some ⟨b, o, none⟩)) ∧ Dq W b o cs g n t rs l) :
    Led Fence.wide 2 Try.prog 49 #[.pointer (some ⟨B, 0, none⟩)] (encE l) I (DueE l) (fun xs => xs = upTo l.length) (fun _ => True) := fun f J Jx W hJI hJ hJx hY h0 => by
  refine callsIn_of_wp Try.func49 rfl trivial ?_ rfl
  simp only [Try.ntmps49, List.size_toArray, List.length_cons, List.length_nil, Nat.reduceAdd, Nat.reduceSub, Array.replicate_succ, Array.replicate_zero, List.push_toArray, List.append_toArray, List.nil_append, List.cons_append]
  have HI := hide (fun pre W h => hI pre W (hJI pre W h))
  obtain ⟨k1, k2⟩ := HI.out _ _ h0
  obtain ⟨m, hm⟩ : ∃ m, m = l.length := ⟨_, rfl⟩
  have hmn : m ≤ 1000000 := by have := k2.ring.cnt; have := k2.le; omega
  have HL := hide (len_cell (b := b) (o := o) (k := (m : Int)) W (by rw [hm]; exact k2.cells.2.2))
  have HM := hide hm
  clear hI k2 hm hJI
  gi_wp2_with (refine ⟨trivial, ?_⟩; gi_at_call 32; go_must ((with_reducible refine (callsIn_wide.2 (Hid.out HL)).mono ?_); rintro e w1 ⟨rfl, rfl⟩))
  clear HL k1
  gi_loopw [6] (fun i wr => ∃ k : Nat, k ≤ m ∧ i = .int .i64 k ∧ J (upTo k) wr) (fun i _ => m - (intOf i).toNat)
  case atStart => exact ⟨0, Nat.zero_le _, rfl, h0⟩
  case round =>
    obtain ⟨k, hk, rfl, hJs⟩ := hrel
    obtain ⟨k1, k2⟩ := HI.out _ _ hJs
    by_cases hlt : k < m
    · have hcnt := k2.ring.cnt
      rw [← HM.out] at hcnt
      have hnl := k2.le
      have hpn := k2.ring.lt k
      have HA := hide (fun q : Nat => at_wide _ (k2.drewN q) k (by omega) 1)
      have k3 := k2.cells.1
      have hv := k2.ring.at_ k (by rw [← HM.out]; exact hlt)
      have k4 := k2.at_ hpn
      obtain ⟨p, hp⟩ : ∃ p, p = (t + k) % n := ⟨_, rfl⟩
      obtain ⟨x, hx⟩ : ∃ x, x = l.getD k (0 : Int) := ⟨_, rfl⟩
      rw [← hp, ← hx] at hv
      rw [← hp] at hpn k4 HA
      rw [hv] at k4
      have hpi : (p : Int) < n := by omega
      have hy : ∀ q : Nat, ∃ fn tmps assign body, _ := fun q => hY _ (k : Int) (wr.drewN q) (abides hJ hJs (below_of_drewN q)) ⟨k, rfl, by rw [← HM.out]; exact hlt, rfl⟩
      simp only [encE, Int.toNat_natCast] at hy
      rw [← hx] at hy
      have HY := hide hy
      have hli : (k : Int) < m := by omega
      clear hv hp hx k2 hJs hy hcnt
      gi_wp2
      refine Round.wpIn_region_tail (F := Fence.wide) (Round.Grants.refl _ _ _) (by kernel_rfl) 11 rfl rfl (by kernel_rfl) (by kernel_rfl) (by kernel_rfl) (by kernel_rfl) (by kernel_rfl) (by kernel_rfl) ?_
      simp only [List.take, List.drop]
      repeat (first | (gi_big_quiet_step (fail)) | (refine BigFrame.wpQuietIn_want (fun _ _ _ _ => trivial) rfl ?_; intro K hK; gi_big_quiet_op; gi_big_quiet_call ((gi_at_call 40; exact CallsIn.quiet_of (HA.out _)))))
      refine wpQuietIn_nil ?_
      rintro _ ⟨nq, rfl⟩
      obtain ⟨fn, tmps, assign, body, hy, hR⟩ := HY.out nq
      gi_wp2
      refine hR.mono ?_
      rintro e W3 (⟨rfl, hJ3⟩ | ⟨rfl, hJx3⟩)
      · gi_wp2
        go_roundw
        case rel => exact ⟨k + 1, by omega, by simp, by rw [upTo_succ]; exact hJ3⟩
        case measure => simp [intOf]; omega
      · gi_wp2
        refine bodyPost_ret (results_none rfl _ _ _) rfl ?_
        exact ⟨⟨_, rfl⟩, .inr ⟨_, trivial, hJx3⟩⟩
    · obtain rfl : k = m := by omega
      have hli : ¬ (k : Int) < k := by omega
      rw [HM.out] at hJs
      clear k2 k1
      gi_wp2
      go_end0
      exact ⟨⟨_, rfl⟩, .inl hJs⟩
/-- The function that each hands back, over a deque that stays as it is. -/
theorem eachc_led (B : Nat) (s : Sh) (l : List Int) (I : List Int → World → Prop) {W0 : World} (h0 : s.At W0 l) (hI : ∀ pre W, I pre W → W.cell? ⟨B, 0, none⟩ = some s.ptr ∧ s.At W l) :
    Led Fence.wide 2 Try.prog 49 #[.pointer (some ⟨B, 0, none⟩)] (encE l) I (DueE l) (fun xs => xs = upTo l.length) (fun _ => True) := by
  cases s with
  | nil =>
    have e : l = [] := h0
    subst e
    exact eachc_none B .nil I hI
  | bare b o cs =>
    have e : l = [] := h0.2.2
    subst e
    exact eachc_none B (.bare b o cs) I hI
  | ring b o cs g n t rs => exact eachc_ring B b o g n t cs rs l I hI
end Go.Proofs.Ythajooipaiiieaa.DqI
