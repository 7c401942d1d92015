/- Joined out of the texts DqMem, DqEach, DqSize, DqShrink, DqPush, DqPop, in that order. -/
import Derived.Test.YtkjhamcmhijhgaaGreatAll1
import Derived.Test.YtkjhamcmhijhgaaGreatAll2
import Derived.Deep.QuietTactic
import Derived.BigQuiet
import Derived.Deep.DeepMust
import Derived.Shelf.Abstract
import Derived.Shelf.RegionOpen
import Derived.OwnWalkIn
import Derived.TacticsInMore
import Derived.LoopNIn
import Derived.LoopIn
import Derived.Laws.MakeOwn
/- A deque as it lies: a struct of its ring, the top's place and how many there are; Len, at, lift. -/
namespace Go.Proofs.YtkjhamcmhijhgaaGreat.DqI
open Go.RowKit Go.Proofs.YtkjhamcmhijhgaaGreat.Dig Go.Proofs.YtkjhamcmhijhgaaGreat.Mem Go.Proofs.YtkjhamcmhijhgaaGreat.Dq
set_option linter.unusedVariables false
set_option linter.unusedSimpArgs false

def cellsOf (rs : List Int) : Array Value := (rs.map fun x : Int => (Value.int .i64 x)).toArray
theorem cells_at {rs : List Int} {i : Nat} (hi : i < rs.length) : (cellsOf rs)[i]? = some (Value.int .i64 (rs.getD i (0 : Int))) := by
  simp [cellsOf, List.getD_eq_getElem?_getD, List.getElem?_eq_getElem hi]
theorem cells_set {rs : List Int} {i : Nat} {x : Int} : (cellsOf rs).setIfInBounds i (Value.int .i64 x) = cellsOf (rs.set i x) := by
  apply Array.ext'
  simp [cellsOf, List.map_set]
/-- A deque whose ring is g: its three cells lie at o, in a block whose other cells are those of cs. -/
structure Dq (w : World) (b o : Nat) (cs : Array Value) (g n t : Nat) (rs l : List Int) : Prop where
  box : Is w b (put3 cs o (.slice (some ⟨g, 0, none⟩) n n) (.int .i64 (t : Int)) (.int .i64 (l.length : Int)))
  fit : o + 3 ≤ cs.size
  row : Is w g (cellsOf rs)
  ne : b ≠ g
  ring : Ring (0 : Int) n t rs l
  le : n ≤ 1000000
section
variable {w w' : World} {b o g n t : Nat} {cs : Array Value} {rs l : List Int}
theorem Dq.keep {S : Nat → Prop} (h : Dq w b o cs g n t rs l) (ho : Only S w w') (h1 : ¬ S b) (h2 : ¬ S g) : Dq w' b o cs g n t rs l := ⟨h.box.keep ho h1, h.fit, h.row.keep ho h2, h.ne, h.ring, h.le⟩
theorem Dq.below (h : Dq w b o cs g n t rs l) (ho : Below w.heap.size w w') : Dq w' b o cs g n t rs l := h.keep (Only.of_below (S := fun _ => False) ho) (fun q => q) (fun q => q)
theorem Dq.drewN (h : Dq w b o cs g n t rs l) (m : Nat) : Dq (w.drewN m) b o cs g n t rs l := h.below (below_of_drewN m)
theorem Dq.off (h : Dq w b o cs g n t rs l) {row : Option Nat} (hg : w.grownBy w' row) (hr : ∀ r, row = some r → ∃ o : Obj, w.heap[r]? = some o ∧ o.isCells = false) : Dq w' b o cs g n t rs l := ⟨is_off h.box hg hr, h.fit, is_off h.row hg hr, h.ne, h.ring, h.le⟩
theorem Dq.cells (h : Dq w b o cs g n t rs l) : w.cell? ⟨b, o, none⟩ = some (.slice (some ⟨g, 0, none⟩) n n) ∧ w.cell? ⟨b, o + 1, none⟩ = some (.int .i64 (t : Int)) ∧ w.cell? ⟨b, o + 2, none⟩ = some (.int .i64 (l.length : Int)) := is3 h.box h.fit
theorem Dq.at_ (h : Dq w b o cs g n t rs l) {i : Nat} (hi : i < n) : w.cell? ⟨g, i, none⟩ = some (Value.int .i64 (rs.getD i (0 : Int))) := h.row.cell i (cells_at (by rw [h.ring.len]; exact hi))
theorem len_cell {k : Int} (w : World) (h : w.cell? ⟨b, o + 2, none⟩ = some (.int .i64 k)) : Calls Tryz.prog 63 #[.pointer (some ⟨b, o, none⟩)] w fun e w' => e = .returned (.int .i64 k) ∧ w' = w := by
  go_enter Tryz.func63, Tryz.ntmps63
  go_wp2
  go_ret
  exact ⟨rfl, rfl⟩
theorem len_nil (w : World) : Calls Tryz.prog 63 #[.pointer none] w fun e w' => e = .returned (.int .i64 0) ∧ w' = w := by
  go_enter Tryz.func63, Tryz.ntmps63
  go_wp2
  go_ret
  exact ⟨rfl, rfl⟩
theorem tmod_nat (a n : Nat) : ((a : Int)).tmod (n : Int) = ((a % n : Nat) : Int) := by
  rw [Int.tmod_eq_emod_of_nonneg (by omega)]
  rfl
/-- The place of a thing in its ring. -/
theorem at_cells (w : World) (h0 : w.cell? ⟨b, o, none⟩ = some (.slice (some ⟨g, 0, none⟩) n n)) (h1 : w.cell? ⟨b, o + 1, none⟩ = some (.int .i64 (t : Int))) (ht : t < n) (hn : n ≤ 1000000) (k : Nat) (hk : k ≤ n) :
    Calls Tryz.prog 53 #[.pointer (some ⟨b, o, none⟩), .int .i64 (k : Int)] w fun e w' => e = .returned (.int .i64 (((t + k) % n : Nat) : Int)) ∧ ∃ m, w' = w.drewN m := by
  obtain ⟨q, hq⟩ : ∃ q, q = (t + k) % n := ⟨_, rfl⟩
  have hm : ((t : Int) + (k : Int)).tmod (n : Int) = (q : Int) := by
    rw [hq, ← tmod_nat, Int.natCast_add]
  have hn0 : ¬ (n : Int) = 0 := by omega
  have hql : q < n := by rw [hq]; exact Nat.mod_lt _ (by omega)
  rw [← hq]
  clear hq
  go_enter Tryz.func53, Tryz.ntmps53
  go_wp2
  go_quiet (fail)
  go_wp2
  go_ret
  exact ⟨rfl, _, rfl⟩
theorem at_dq (w : World) (h : Dq w b o cs g n t rs l) (k : Nat) (hk : k ≤ n) : Calls Tryz.prog 53 #[.pointer (some ⟨b, o, none⟩), .int .i64 (k : Int)] w fun e w' => e = .returned (.int .i64 (((t + k) % n : Nat) : Int)) ∧ ∃ m, w' = w.drewN m :=
  at_cells w h.cells.1 h.cells.2.1 h.ring.top h.le k hk
theorem at_wide (w : World) (h : Dq w b o cs g n t rs l) (k : Nat) (hk : k ≤ n) (d : Nat) : CallsIn Fence.wide d Tryz.prog 53 #[.pointer (some ⟨b, o, none⟩), .int .i64 (k : Int)] w fun e w' => e = .returned (.int .i64 (((t + k) % n : Nat) : Int)) ∧ ∃ m, w' = w.drewN m := callsIn_wide.2 (at_dq w h k hk)
set_option maxRecDepth 100000 in
set_option maxHeartbeats 2000000 in
theorem lift_dq (w : World) (h : Dq w b o cs g n t rs l) (k : Nat) (hk : k ≤ n) : Calls Tryz.prog 75 #[.pointer (some ⟨b, o, none⟩), .int .i64 (k : Int)] w fun e w' => e = .returned (Value.int .i64 (rs.getD ((t + k) % n) (0 : Int))) ∧
    Is w' b (put3 cs o (.slice (some ⟨g, 0, none⟩) n n) (.int .i64 (t : Int)) (.int .i64 (l.length : Int))) ∧ Is w' g (cellsOf (rs.set ((t + k) % n) (0 : Int))) ∧ Only (fun k => k = g) w w' := by
  obtain ⟨h0, h1, h2⟩ := h.cells
  have hn := h.le
  have hp := h.ring.lt k
  obtain ⟨p, hq⟩ : ∃ p, p = (t + k) % n := ⟨_, rfl⟩
  have HA : Hid (∀ W : World, Dq W b o cs g n t rs l → CallsIn Fence.wide (3 - 1) Tryz.prog 53 #[.pointer (some ⟨b, o, none⟩), .int .i64 (k : Int)] W fun e w' => e = .returned (.int .i64 (p : Int)) ∧ ∃ m', w' = W.drewN m') := hide (fun W hW => by rw [hq]; exact at_wide _ hW k hk _)
  rw [← hq] at hp ⊢
  obtain ⟨x, hx⟩ : ∃ x, x = rs.getD p (0 : Int) := ⟨_, rfl⟩
  have h3 := h.at_ hp
  rw [← hx] at h3 ⊢
  have hf := h.row.frozen p
  have HD := hide h
  have hpn : (p : Int) < (n : Int) := by omega
  clear h hq hx hk
  refine (callsIn_wide (n := 3)).1 ?_
  refine callsIn_of_wp Tryz.func75 rfl trivial ?_ rfl
  simp only [Tryz.ntmps75, List.size_toArray, List.length_cons, List.length_nil, Nat.reduceAdd, Nat.reduceSub, Array.replicate_succ, Array.replicate_zero, List.push_toArray, List.append_toArray, List.nil_append, List.cons_append]
  gi_wp2
  refine wpIn_region_quiet_lit rfl (by kernel_rfl) (by kernel_rfl) ?_
  repeat (first | (gi_big_quiet_step (fail)) | (refine BigFrame.wpQuietIn_want (fun _ _ _ _ => trivial) rfl ?_; intro K hK; gi_big_quiet_op; gi_big_quiet_call ((gi_at_call 53; exact CallsIn.quiet_of (HA.out _ (HD.out.drewN _))))))
  refine wpQuietIn_nil ?_
  rintro _ ⟨nq, rfl⟩
  have HO := hide ((Only.refl (fun k => k = g) w).drewN nq)
  replace HD := hide (HD.out.drewN nq)
  replace hf := HD.out.row.frozen p
  clear h0 h1 h2 h3
  generalize w.drewN nq = W at *
  obtain ⟨h0, h1, h2⟩ := HD.out.cells
  have h3 := HD.out.at_ hp
  gi_wp2
  refine Round.wpIn_region_tail (F := Fence.wide) (Round.Grants.refl _ _ _) (by kernel_rfl) 9 rfl rfl (by kernel_rfl) (by kernel_rfl) (by kernel_rfl) (by kernel_rfl) (by kernel_rfl) (by kernel_rfl) ?_
  simp only [List.take, List.drop]
  repeat (first | (gi_big_quiet_step (fail)) | (refine BigFrame.wpQuietIn_want (fun _ _ _ _ => trivial) rfl ?_; intro K hK; gi_big_quiet_op; gi_big_quiet_call ((gi_at_call 53; exact CallsIn.quiet_of (HA.out _ (HD.out.drewN _))))))
  refine wpQuietIn_nil ?_
  rintro _ ⟨nq, rfl⟩
  gi_wp2
  have e : (Value.int .i64 (0 : Int)) = (Value.int .i64 0) := rfl
  refine bodyPost_ret (results_tmp rfl _ _ _) rfl ?_
  refine ⟨rfl, (HD.out.box.drewN _).other (p := ⟨g, p, none⟩) (Ne.symm HD.out.ne) _, ?_, ?_⟩
  · rw [← cells_set, e]
    exact (HD.out.row.drewN _).set p _
  · exact (HO.out.drewN _).setCell (p := ⟨g, p, none⟩) (.inl rfl) _
end
/-- How a deque lies: not at all, with no ring, with one. -/
inductive Sh where
  | nil
  | bare (b o : Nat) (cs : Array Value)
  | ring (b o : Nat) (cs : Array Value) (g n t : Nat) (rs : List Int)
def Sh.ptr : Sh → Value
  | .nil => .pointer none
  | .bare b o _ => .pointer (some ⟨b, o, none⟩)
  | .ring b o _ _ _ _ _ => .pointer (some ⟨b, o, none⟩)
/-- Its place: the block, where in it, and the block's cells (its own three counting for nothing). -/
def Sh.place : Sh → Option (Nat × Nat × Array Value)
  | .nil => none
  | .bare b o cs => some (b, o, cs)
  | .ring b o cs _ _ _ _ => some (b, o, cs)
def Sh.has : Sh → Nat → Prop
  | .nil, _ => False
  | .bare b _ _, k => k = b
  | .ring b _ _ g _ _ _, k => k = b ∨ k = g
def Sh.At : Sh → World → List Int → Prop
  | .nil, _, l => l = []
  | .bare b o cs, w, l => Is w b (put3 cs o (.slice none 0 0) (.int .i64 0) (.int .i64 0)) ∧ o + 3 ≤ cs.size ∧ l = []
  | .ring b o cs g n t rs, w, l => Dq w b o cs g n t rs l
section
variable {w w' : World} {s : Sh} {l : List Int}
theorem Sh.keep {S : Nat → Prop} (h : s.At w l) (ho : Only S w w') (hs : ∀ k, s.has k → ¬ S k) : s.At w' l := by
  cases s with
  | nil => exact h
  | bare b o cs => exact ⟨h.1.keep ho (hs b rfl), h.2⟩
  | ring b o cs g n t rs => exact Dq.keep h ho (hs b (.inl rfl)) (hs g (.inr rfl))
theorem Sh.below (h : s.At w l) (ho : Below w.heap.size w w') : s.At w' l := Sh.keep h (Only.of_below (S := fun _ => False) ho) (fun _ _ q => q)
theorem Sh.off (h : s.At w l) {row : Option Nat} (hg : w.grownBy w' row) (hr : ∀ r, row = some r → ∃ o : Obj, w.heap[r]? = some o ∧ o.isCells = false) : s.At w' l := by
  cases s with
  | nil => exact h
  | bare b o cs => exact ⟨is_off h.1 hg hr, h.2⟩
  | ring b o cs g n t rs => exact Dq.off h hg hr
theorem Sh.lt (h : s.At w l) : ∀ k, s.has k → k < w.heap.size := fun k hk => by
  cases s with
  | nil => exact hk.elim
  | bare b o cs => cases hk; exact h.1.lt
  | ring b o cs g n t rs =>
    rcases hk with rfl | rfl
    · exact (show Dq w k o cs g n t rs l from h).box.lt
    · exact (show Dq w b o cs k n t rs l from h).row.lt
theorem Sh.le (h : s.At w l) : l.length ≤ 1000000 := by
  cases s with
  | nil => have : l = [] := h; subst this; simp
  | bare b o cs => have : l = [] := h.2.2; subst this; simp
  | ring b o cs g n t rs =>
    have h1 := (show Dq w b o cs g n t rs l from h).ring.cnt
    have h2 := (show Dq w b o cs g n t rs l from h).le
    omega
theorem Sh.shape (s : Sh) : ∃ q, s.ptr = .pointer q := by
  cases s <;> exact ⟨_, rfl⟩
theorem Sh.ptr_of {b o : Nat} {cs : Array Value} (h : s.place = some (b, o, cs)) : s.ptr = .pointer (some ⟨b, o, none⟩) := by
  cases s <;> cases h <;> rfl
/-- Its three cells. -/
theorem Sh.box (h : s.At w l) {b o : Nat} {cs : Array Value} (hp : s.place = some (b, o, cs)) : s.has b ∧ o + 3 ≤ cs.size ∧ ∃ c0 c1, Is w b (put3 cs o c0 c1 (.int .i64 (l.length : Int))) := by
  cases s with
  | nil => cases hp
  | bare b' o' cs' =>
    cases hp
    obtain ⟨h1, h2, rfl⟩ := h
    exact ⟨rfl, h2, _, _, h1⟩
  | ring b' o' cs' g n t rs =>
    cases hp
    exact ⟨.inl rfl, Dq.fit h, _, _, Dq.box h⟩
theorem len_sh (h : s.At w l) : Calls Tryz.prog 63 #[s.ptr] w fun e w' => e = .returned (.int .i64 (l.length : Int)) ∧ w' = w := by
  cases s with
  | nil => have : l = [] := h; subst this; exact len_nil w
  | bare b o cs => obtain ⟨h1, h2, rfl⟩ := h; exact len_cell w (is3 h1 h2).2.2
  | ring b o cs g n t rs => exact len_cell w (Dq.cells h).2.2
end
end Go.Proofs.YtkjhamcmhijhgaaGreat.DqI

/- All of a deque is gone through: the function that each hands back. -/
namespace Go.Proofs.YtkjhamcmhijhgaaGreat.DqI
open Go.RowKit Go.Proofs.YtkjhamcmhijhgaaGreat.Dig Go.Proofs.YtkjhamcmhijhgaaGreat.Mem Go.Proofs.YtkjhamcmhijhgaaGreat.Dq Go.Proofs.YtkjhamcmhijhgaaGreat.Bit Go.Shelf
set_option linter.unusedVariables false
set_option linter.unusedSimpArgs false
attribute [local go_sem] Oper.semAt_some

theorem each_any (q : Option Addr) (w : World) :
    Calls Tryz.prog 74 #[.pointer q] w fun e w' => e = .returned (.func (.func 85) #[] #[.pointer (some ⟨w.heap.size, 0, none⟩)]) ∧ w' = w.alloc (.cells #[.pointer q] 93) := by
  go_enter Tryz.func74, Tryz.ntmps74
  go_wp2
  go_ret
  exact ⟨rfl, rfl⟩
def encE (l : List Int) (x : Int) : Array Value := #[.int .i64 x, (Value.int .i64 (l.getD x.toNat (0 : Int)))]
def DueE (l : List Int) (pre : List Int) (x : Int) : Prop := ∃ k : Nat, x = (k : Int) ∧ k < l.length ∧ pre = upTo k
set_option maxRecDepth 100000 in
set_option maxHeartbeats 2000000 in
theorem eachc_none (B : Nat) (s : Sh) (I : List Int → World → Prop) (hI : ∀ pre W, I pre W → W.cell? ⟨B, 0, none⟩ = some s.ptr ∧ s.At W []) :
    Led Fence.wide 2 Tryz.prog 85 #[.pointer (some ⟨B, 0, none⟩)] (encE []) I (DueE []) (fun xs => xs = upTo ([] : List Int).length) (fun _ => True) := fun f J Jx W hJI hJ hJx hY h0 => by
  refine callsIn_of_wp Tryz.func85 rfl trivial ?_ rfl
  simp only [Tryz.ntmps85, List.size_toArray, List.length_cons, List.length_nil, Nat.reduceAdd, Nat.reduceSub, Array.replicate_succ, Array.replicate_zero, List.push_toArray, List.append_toArray, List.nil_append, List.cons_append]
  obtain ⟨k1, k2⟩ := hI _ _ (hJI _ _ h0)
  have HL := hide (len_sh k2)
  obtain ⟨q, hq⟩ := s.shape
  rw [hq] at k1 HL
  simp only [List.length_nil, Int.natCast_zero, Int.ofNat_zero, Int.cast_ofNat_Int] at HL
  clear hI k2 hJI hY
  gi_wp2_with (refine ⟨trivial, ?_⟩; gi_at_call 63; go_must ((with_reducible refine (callsIn_wide.2 (Hid.out HL)).mono ?_); rintro e w1 ⟨rfl, rfl⟩))
  gi_loopw [6] (fun i wr => i = .int .i64 0 ∧ J [] wr) (fun _ _ => 0)
  case atStart => exact ⟨rfl, h0⟩
  case round =>
    obtain ⟨rfl, hJs⟩ := hrel
    gi_wp2
    go_end0
    exact ⟨⟨_, rfl⟩, .inl ⟨_, rfl, hJs⟩⟩
set_option maxRecDepth 100000 in
set_option maxHeartbeats 2000000 in
theorem eachc_ring (B b o g n t : Nat) (cs : Array Value) (rs l : List Int) (I : List Int → World → Prop) (hI : ∀ pre W, I pre W → W.cell? ⟨B, 0, none⟩ = some (.pointer (some ⟨b, o, none⟩)) ∧ Dq W b o cs g n t rs l) :
    Led Fence.wide 2 Tryz.prog 85 #[.pointer (some ⟨B, 0, none⟩)] (encE l) I (DueE l) (fun xs => xs = upTo l.length) (fun _ => True) := fun f J Jx W hJI hJ hJx hY h0 => by
  refine callsIn_of_wp Tryz.func85 rfl trivial ?_ rfl
  simp only [Tryz.ntmps85, List.size_toArray, List.length_cons, List.length_nil, Nat.reduceAdd, Nat.reduceSub, Array.replicate_succ, Array.replicate_zero, List.push_toArray, List.append_toArray, List.nil_append, List.cons_append]
  have HI := hide (fun pre W h => hI pre W (hJI pre W h))
  obtain ⟨k1, k2⟩ := HI.out _ _ h0
  obtain ⟨m, hm⟩ : ∃ m, m = l.length := ⟨_, rfl⟩
  have hmn : m ≤ 1000000 := by have := k2.ring.cnt; have := k2.le; omega
  have HL := hide (len_cell (b := b) (o := o) (k := (m : Int)) W (by rw [hm]; exact k2.cells.2.2))
  have HM := hide hm
  clear hI k2 hm hJI
  gi_wp2_with (refine ⟨trivial, ?_⟩; gi_at_call 63; go_must ((with_reducible refine (callsIn_wide.2 (Hid.out HL)).mono ?_); rintro e w1 ⟨rfl, rfl⟩))
  clear HL k1
  gi_loopw [6] (fun i wr => ∃ k : Nat, k ≤ m ∧ i = .int .i64 k ∧ J (upTo k) wr) (fun i _ => m - (intOf i).toNat)
  case atStart => exact ⟨0, Nat.zero_le _, rfl, h0⟩
  case round =>
    obtain ⟨k, hk, rfl, hJs⟩ := hrel
    obtain ⟨k1, k2⟩ := HI.out _ _ hJs
    by_cases hlt : k < m
    · have hcnt := k2.ring.cnt
      rw [← HM.out] at hcnt
      have hnl := k2.le
      have hpn := k2.ring.lt k
      have HA := hide (fun q : Nat => at_wide _ (k2.drewN q) k (by omega) 1)
      have k3 := k2.cells.1
      have hv := k2.ring.at_ k (by rw [← HM.out]; exact hlt)
      have k4 := k2.at_ hpn
      obtain ⟨p, hp⟩ : ∃ p, p = (t + k) % n := ⟨_, rfl⟩
      obtain ⟨x, hx⟩ : ∃ x, x = l.getD k (0 : Int) := ⟨_, rfl⟩
      rw [← hp, ← hx] at hv
      rw [← hp] at hpn k4 HA
      rw [hv] at k4
      have hpi : (p : Int) < n := by omega
      have hy : ∀ q : Nat, ∃ fn tmps assign body, _ := fun q => hY _ (k : Int) (wr.drewN q) (abides hJ hJs (below_of_drewN q)) ⟨k, rfl, by rw [← HM.out]; exact hlt, rfl⟩
      simp only [encE, Int.toNat_natCast] at hy
      rw [← hx] at hy
      have HY := hide hy
      have hli : (k : Int) < m := by omega
      clear hv hp hx k2 hJs hy hcnt
      gi_wp2
      refine Round.wpIn_region_tail (F := Fence.wide) (Round.Grants.refl _ _ _) (by kernel_rfl) 11 rfl rfl (by kernel_rfl) (by kernel_rfl) (by kernel_rfl) (by kernel_rfl) (by kernel_rfl) (by kernel_rfl) ?_
      simp only [List.take, List.drop]
      repeat (first | (gi_big_quiet_step (fail)) | (refine BigFrame.wpQuietIn_want (fun _ _ _ _ => trivial) rfl ?_; intro K hK; gi_big_quiet_op; gi_big_quiet_call ((gi_at_call 53; exact CallsIn.quiet_of (HA.out _)))))
      refine wpQuietIn_nil ?_
      rintro _ ⟨nq, rfl⟩
      obtain ⟨fn, tmps, assign, body, hy, hR⟩ := HY.out nq
      gi_wp2
      refine hR.mono ?_
      rintro e W3 (⟨rfl, hJ3⟩ | ⟨rfl, hJx3⟩)
      · gi_wp2
        go_roundw
        case rel => exact ⟨k + 1, by omega, by simp, by rw [upTo_succ]; exact hJ3⟩
        case measure => simp [intOf]; omega
      · gi_wp2
        refine bodyPost_ret (results_none rfl _ _ _) rfl ?_
        exact ⟨⟨_, rfl⟩, .inr ⟨_, trivial, hJx3⟩⟩
    · obtain rfl : k = m := by omega
      have hli : ¬ (k : Int) < k := by omega
      rw [HM.out] at hJs
      clear k2 k1
      gi_wp2
      go_end0
      exact ⟨⟨_, rfl⟩, .inl hJs⟩
/-- The function that each hands back, over a deque that stays as it is. -/
theorem eachc_led (B : Nat) (s : Sh) (l : List Int) (I : List Int → World → Prop) {W0 : World} (h0 : s.At W0 l) (hI : ∀ pre W, I pre W → W.cell? ⟨B, 0, none⟩ = some s.ptr ∧ s.At W l) :
    Led Fence.wide 2 Tryz.prog 85 #[.pointer (some ⟨B, 0, none⟩)] (encE l) I (DueE l) (fun xs => xs = upTo l.length) (fun _ => True) := by
  cases s with
  | nil =>
    have e : l = [] := h0
    subst e
    exact eachc_none B .nil I hI
  | bare b o cs =>
    have e : l = [] := h0.2.2
    subst e
    exact eachc_none B (.bare b o cs) I hI
  | ring b o cs g n t rs => exact eachc_ring B b o g n t cs rs l I hI
end Go.Proofs.YtkjhamcmhijhgaaGreat.DqI

/- A deque's ring gets another room. -/
namespace Go.Proofs.YtkjhamcmhijhgaaGreat.DqI
open Go.RowKit Go.Proofs.YtkjhamcmhijhgaaGreat.Dig Go.Proofs.YtkjhamcmhijhgaaGreat.Mem Go.Proofs.YtkjhamcmhijhgaaGreat.Dq Go.Proofs.YtkjhamcmhijhgaaGreat.Bit Go.Shelf
set_option linter.unusedVariables false
set_option linter.unusedSimpArgs false
attribute [local go_sem] Oper.semAt_some

theorem Tryz.infoEl : (Tryz.prog.info? 3).map (fun i => (i.zero, i.size, i.bytes)) = some (some (Value.int .i64 0), 1, 8) := by kernel_rfl
theorem madeCells_el (n : Nat) : madeCells ((Value.int .i64 0)).cells n = cellsOf (List.replicate n (0 : Int)) := by
  rw [show ((Value.int .i64 0)).cells = #[(Value.int .i64 0)] from rfl]
  apply Array.ext
  · simp [madeCells, cellsOf]
  · intro i h1 h2
    simp [madeCells, cellsOf, Nat.mod_one]
theorem mk_els (n c : Nat) (hn : n ≤ c) (hc : c ≤ 1000000) : ∀ w : World, (Instr.makeSlice 22 (.int .i64 (n : Int)) (.int .i64 (c : Int))).run Tryz.prog w = .ok (.slice (some ⟨w.heap.size, 0, none⟩) n c) (w.alloc (.cells (cellsOf (List.replicate c (0 : Int))) 3)) := by
  intro w
  obtain ⟨i0, hi, hz0, hz1, hz2⟩ := info_parts Tryz.infoEl
  have hr := run_makeSlice (P := Tryz.prog) w 22 3 i0 (Value.int .i64 0) Tryz.underlying22 hi hz0 .i64 .i64 (n : Int) (c : Int) (by omega) (by omega) (by rw [hz1]; simp; omega) (by rw [hz2]; omega) (by omega)
  simp only [Int.toNat_natCast] at hr
  rw [hz1, Nat.mul_one, madeCells_el] at hr
  exact hr
/-- What the loop keeps: the deque, the boxes of the pointer and of the new ring's slice, and the new ring, filled so far. -/
def SizeR (w : World) (s : Sh) (l : List Int) (m : Nat) (pre : List Int) (W : World) : Prop :=
  s.At W l ∧ Fo (fun _ => False) w [(w.heap.size, cellsOf (laid (0 : Int) m l pre.length)), (w.heap.size + 1, #[.slice (some ⟨w.heap.size, 0, none⟩) m m]), (w.heap.size + 1 + 1, #[s.ptr])] W
set_option maxRecDepth 100000 in
set_option maxHeartbeats 2000000 in
theorem resize_sh {w : World} {s : Sh} {l : List Int} (h : s.At w l) {b o : Nat} {cs : Array Value} (hpl : s.place = some (b, o, cs)) (m : Nat) (hl : l.length ≤ m) (h0 : 0 < m) (hm : m ≤ 1000000) :
    Calls Tryz.prog 52 #[.pointer (some ⟨b, o, none⟩), .int .i64 (m : Int)] w fun e w' => e = .returned (.tuple #[]) ∧ Dq w' b o cs w.heap.size m 0 (laid (0 : Int) m l l.length) l ∧ Only (fun k => k = b) w w' := by
  have hmk := mk_els m m (Nat.le_refl _) hm
  have HS := hide h
  have HP := hide (Sh.ptr_of hpl)
  have HPL := hide hpl
  refine (callsIn_wide (n := 3)).1 ?_
  refine callsIn_of_wp_marks Tryz.func52 rfl trivial ?_ rfl
  simp only [Tryz.ntmps52, List.size_toArray, List.length_cons, List.length_nil, Nat.reduceAdd, Nat.reduceSub, Array.replicate_succ, Array.replicate_zero, List.push_toArray, List.append_toArray, List.nil_append, List.cons_append]
  clear h hpl
  gi_wp2_with (refine ⟨trivial, ?_⟩; gi_at_call 74; go_must ((with_reducible refine (callsIn_wide.2 (each_any _ _)).mono ?_); rintro e w9 ⟨rfl, rfl⟩))
  obtain ⟨W0, hW0⟩ : ∃ W0, W0 = ((w.alloc (.cells (cellsOf (List.replicate m (0 : Int))) 3)).alloc (.cells #[.slice (some ⟨w.heap.size, 0, none⟩) m m] 22)).alloc (.cells #[.pointer (some ⟨b, o, none⟩)] 93) := ⟨_, rfl⟩
  have hsz : W0.heap.size = w.heap.size + 3 := by rw [hW0]; simp
  have F0 : Fo (fun _ => False) w [(w.heap.size, cellsOf (laid (0 : Int) m l ([] : List Int).length)), (w.heap.size + 1, #[.slice (some ⟨w.heap.size, 0, none⟩) m m]), (w.heap.size + 1 + 1, #[s.ptr])] W0 := by
    rw [hW0, HP.out]
    refine Fo.sub ((((Fo.start (fun _ => False) w).push (cellsOf (List.replicate m (0 : Int))) 3 (b := w.heap.size) rfl).push #[.slice (some ⟨w.heap.size, 0, none⟩) m m] 22 (b := w.heap.size + 1) (by simp)).push #[.pointer (some ⟨b, o, none⟩)] 93 (b := w.heap.size + 1 + 1) (by simp)) (fun r hr => ?_)
    simp only [List.length_nil, laid_zero, List.mem_cons, List.not_mem_nil, or_false] at hr ⊢
    rcases hr with rfl | rfl | rfl <;> simp
  have S0 : s.At W0 l := Sh.keep HS.out F0.only (fun _ _ q => q)
  rw [← hW0]
  clear hW0 hmk
  have hst := eachc_led (w.heap.size + 1 + 1) s l (SizeR w s l m) HS.out (fun pre W hR => ⟨(hR.2.one (b := w.heap.size + 1 + 1) (v := s.ptr) (by simp)).1, hR.1⟩)
  refine range_led (n := 3) rfl (by omega) rfl trivial (enters_of Tryz.func85 (by kernel_rfl) rfl) _ (fun _ _ _ => False) hst (fun _ => rfl) ?hI (fun _ _ _ _ _ hs _ _ => hs.elim) ⟨S0, F0⟩
    (fun x => { tmps := #[.pointer (some ⟨b, o, none⟩), .int .i64 (m : Int), undef, undef, .pointer (some ⟨w.heap.size + 1, 0, none⟩), .int .i64 x, (Value.int .i64 (l.getD x.toNat (0 : Int))), .int .i64 (m : Int), .slice (some ⟨w.heap.size, 0, none⟩) m m, .pointer (some ⟨b, o, none⟩), .func (.func 85) #[] #[.pointer (some ⟨w.heap.size + 1 + 1, 0, none⟩)], .int .i64 x, (Value.int .i64 (l.getD x.toNat (0 : Int))), undef, undef, undef, undef, undef, undef, undef, undef, undef, undef, undef], defers := [] }) ?assign ?body ?done ?stop
  case hI =>
    rintro pre A V row ⟨hk, hF⟩ hg hr
    exact ⟨Sh.off hk hg (fun r e => (hr r e).2), hF.off (by omega) hg hr⟩
  case assign =>
    intro f x W K hK
    simp only [encE]
    gi_wp2
    exact hK
  case body =>
    rintro f pre x W ⟨hk, hF⟩ ⟨k, rfl, hlt, rfl⟩
    simp only [Int.toNat_natCast]
    have hkm : k < m := by omega
    have hc := hF.cell (b := w.heap.size) (c := cellsOf (laid (0 : Int) m l (upTo k).length)) (by simp) k (cells_at (by rw [upTo_length, laid_length hl (by omega)]; exact hkm))
    have hb := hF.one (b := w.heap.size + 1) (v := .slice (some ⟨w.heap.size, 0, none⟩) m m) (by simp)
    obtain ⟨c1, c2⟩ := hc
    obtain ⟨b1, b2⟩ := hb
    have HE : Hid ((cellsOf (laid (0 : Int) m l (upTo k).length)).setIfInBounds k (Value.int .i64 (l.getD k (0 : Int))) = cellsOf (laid (0 : Int) m l (upTo k ++ [(k : Int)]).length)) := hide (by rw [cells_set, upTo_length, laid_set hl hlt, List.length_append, upTo_length]; rfl)
    have HK := hide hk
    have HF := hide hF
    have HLT := hide hlt
    obtain ⟨x, hx⟩ : ∃ x, x = l.getD k (0 : Int) := ⟨_, rfl⟩
    rw [← hx] at HE ⊢
    have hkmi : (k : Int) < m := by omega
    clear hk hF hx hlt
    gi_wp2
    refine ⟨(KeepsOthers.setCell W _ _).from _, Sh.keep (S := fun j => j = w.heap.size) HK.out ((Only.refl _ _).put k _) (fun j hj e => by have := Sh.lt HS.out j hj; omega), ?_⟩
    rw [← HE.out]
    exact HF.out.set (.inr (Nat.le_refl _)) (fun r hr => by
      simp only [List.mem_cons, List.not_mem_nil, or_false] at hr
      rcases hr with rfl | rfl <;> simp <;> omega)
  case done =>
    rintro D xs W hD rfl ⟨hz, hF⟩ hK
    obtain ⟨q1, qf, c0, c1, q2⟩ := Sh.box hz HPL.out
    have hb1 := hF.one (b := w.heap.size + 1) (v := .slice (some ⟨w.heap.size, 0, none⟩) m m) (by simp)
    have hlb := Sh.lt HS.out b q1
    obtain ⟨b1, b2⟩ := hb1
    obtain ⟨d0, d1, _⟩ := is3 q2 qf
    have f0 := q2.frozen o
    have f1 := q2.frozen (o + 1)
    have HB := hide q2
    have HF := hide hF
    have HK := hide hK
    have HDb : Hid (D ≠ b) := hide (fun e => by omega)
    clear hz hF q2 q1 hK
    gi_wp2
    have O2 : Only (fun k => k = b) W ((W.setCell ⟨b, o, none⟩ (.slice (some ⟨w.heap.size, 0, none⟩) m m)).setCell ⟨b, o + 1, none⟩ (.int .i64 0)) := ((Only.refl _ _).put o _).put (o + 1) _
    have hK2 := (O2.block D (Array.getElem?_eq_some_iff.1 HK.out).1 HDb.out).trans HK.out
    have hB2 := is3_set1 (is3_set0 HB.out (.slice (some ⟨w.heap.size, 0, none⟩) m m)) (.int .i64 0)
    have hR2 := (HF.out.boxes (w.heap.size, cellsOf (laid (0 : Int) m l (upTo l.length).length)) (by simp)).keep O2 (by show ¬ w.heap.size = b; omega)
    rw [upTo_length] at hR2
    generalize (W.setCell ⟨b, o, none⟩ (.slice (some ⟨w.heap.size, 0, none⟩) m m)).setCell ⟨b, o + 1, none⟩ (.int .i64 0) = W2 at *
    have hg := grownBy_putObj' W2 D (.deferred none)
    have hr : ∀ r, some D = some r → W0.heap.size ≤ r ∧ ∃ o : Obj, W2.heap[r]? = some o ∧ o.isCells = false := fun r e => by cases e; exact ⟨hD, _, hK2, rfl⟩
    refine ⟨by simp, .inl ⟨_, _, rfl, run_takeDeferred hK2, ?_⟩⟩
    refine ⟨_, results_none rfl _ _ _, rfl, ⟨is_off hB2 hg (fun r e => (hr r e).2), qf, is_off hR2 hg (fun r e => (hr r e).2), by omega, Ring.laid hl h0, hm⟩, ?_⟩
    exact only_off ((HF.out.only.mono (fun _ q => q.elim)).trans O2) (by omega) hg hr
  case stop =>
    rintro D cc pre W hD _ h _
    exact h.elim
end Go.Proofs.YtkjhamcmhijhgaaGreat.DqI

/- A ring that is far too great is halved. -/
namespace Go.Proofs.YtkjhamcmhijhgaaGreat.DqI
open Go.RowKit Go.Proofs.YtkjhamcmhijhgaaGreat.Dig Go.Proofs.YtkjhamcmhijhgaaGreat.Mem Go.Proofs.YtkjhamcmhijhgaaGreat.Dq Go.Proofs.YtkjhamcmhijhgaaGreat.Bit Go.Shelf
set_option linter.unusedVariables false
set_option linter.unusedSimpArgs false
attribute [local go_sem] Oper.semAt_some

/-- The deque at P has become l': nothing else has turned but what was the deque's; the block's other cells are as they were. -/
structure Turned (w : World) (P : Nat × Nat × Array Value) (S : Nat → Prop) (l' : List Int) (w' : World) : Prop where
  now : ∃ s' : Sh, s'.At w' l' ∧ s'.place = some P ∧ ∀ k, s'.has k → S k ∨ w.heap.size ≤ k
  only : Only S w w'
theorem Turned.trans {w w1 w2 : World} {P : Nat × Nat × Array Value} {S : Nat → Prop} {l2 : List Int} (ho : Only S w w1) {S1 : Nat → Prop} (hs : ∀ k, S1 k → S k ∨ w.heap.size ≤ k) (h : Turned w1 P S1 l2 w2) : Turned w P S l2 w2 := by
  obtain ⟨⟨s', h1, h2, h3⟩, h4⟩ := h
  refine ⟨⟨s', h1, h2, fun k hk => ?_⟩, ho.trans' h4 hs⟩
  rcases h3 k hk with q | q
  · exact hs k q
  · exact .inr (Nat.le_trans ho.size q)
theorem Turned.ring {w w' : World} {b o g n t : Nat} {cs : Array Value} {rs l : List Int} {S : Nat → Prop} (h : Dq w' b o cs g n t rs l) (hb : S b) (hg : S g ∨ w.heap.size ≤ g) (ho : Only S w w') : Turned w (b, o, cs) S l w' :=
  ⟨⟨.ring b o cs g n t rs, h, rfl, fun k hk => by
    rcases hk with rfl | rfl
    · exact .inl hb
    · exact hg⟩, ho⟩
def R2 (b g : Nat) (k : Nat) : Prop := k = b ∨ k = g
set_option maxRecDepth 100000 in
set_option maxHeartbeats 1000000 in
theorem shrink_dq {w : World} {b o g n t : Nat} {cs : Array Value} {rs l : List Int} (h : Dq w b o cs g n t rs l) :
    Calls Tryz.prog 76 #[.pointer (some ⟨b, o, none⟩)] w fun e w' => e = .returned (.tuple #[]) ∧ Turned w (b, o, cs) (R2 b g) l w' := by
  obtain ⟨h0, h1, h2⟩ := h.cells
  have hn := h.le
  have hc := h.ring.cnt
  have ht := h.ring.top
  have HD := hide h
  obtain ⟨m, hm⟩ : ∃ m, m = l.length := ⟨_, rfl⟩
  have HM := hide hm
  rw [← hm] at h2 hc
  have hq4 : (n : Int).tdiv 4 = ((n / 4 : Nat) : Int) := by rw [Int.tdiv_eq_ediv_of_nonneg (by omega)]; rfl
  have hq2 : (n : Int).tdiv 2 = ((n / 2 : Nat) : Int) := by rw [Int.tdiv_eq_ediv_of_nonneg (by omega)]; rfl
  clear h hm h1
  by_cases e1 : 4 < n
  · by_cases e2 : m ≤ n / 4
    · have HR := hide (fun W (hW : Dq W b o cs g n t rs l) => resize_sh (w := W) (s := .ring b o cs g n t rs) (l := l) hW rfl (n / 2) (by rw [← HM.out]; omega) (by omega) (by omega))
      obtain ⟨q, hq⟩ : ∃ q, q = n / 4 := ⟨_, rfl⟩
      obtain ⟨q', hq'⟩ : ∃ q', q' = n / 2 := ⟨_, rfl⟩
      rw [← hq] at hq4 e2
      rw [← hq'] at hq2 HR
      have e1i : (4 : Int) < n := by omega
      have e2i : (m : Int) ≤ (n : Int) / 4 := by omega
      have e3i : (n : Int) / 2 = q' := by omega
      have e4i : (n : Int) / 4 = q := by omega
      clear e1 e2 hq hq'
      go_enter Tryz.func76, Tryz.ntmps76
      go_wp2
      go_quiet (fail)
      go_wp2_with (go_at_call 52; go_must ((with_reducible refine ((Hid.out HR) _ (HD.out.drewN nq)).mono ?_); rintro e w9 ⟨rfl, hb9, ho9⟩; have HB9 := hide hb9; have HO9 := hide ho9; clear hb9 ho9))
      go_end0
      exact ⟨rfl, Turned.ring HB9.out (.inl rfl) (.inr (by exact Nat.le_refl _)) (((Only.refl _ _).drewN nq).trans (HO9.out.mono (fun k e => .inl e)))⟩
    · have e1i : (4 : Int) < n := by omega
      have e2i : decide ((m : Int) ≤ (n : Int) / 4) = false := decide_eq_false (by omega)
      clear e1 e2
      go_enter Tryz.func76, Tryz.ntmps76
      go_wp2
      go_quiet (fail)
      go_wp2
      go_end0
      exact ⟨rfl, Turned.ring (HD.out.drewN nq) (.inl rfl) (.inl (.inr rfl)) ((Only.refl _ _).drewN nq)⟩
  · have e1i : decide ((4 : Int) < n) = false := decide_eq_false (by omega)
    clear e1
    go_enter Tryz.func76, Tryz.ntmps76
    go_wp2
    go_quiet (fail)
    go_wp2
    go_end0
    exact ⟨rfl, Turned.ring (HD.out.drewN nq) (.inl rfl) (.inl (.inr rfl)) ((Only.refl _ _).drewN nq)⟩
end Go.Proofs.YtkjhamcmhijhgaaGreat.DqI

/- Something is put at the bottom. -/
namespace Go.Proofs.YtkjhamcmhijhgaaGreat.DqI
open Go.RowKit Go.Proofs.YtkjhamcmhijhgaaGreat.Dig Go.Proofs.YtkjhamcmhijhgaaGreat.Mem Go.Proofs.YtkjhamcmhijhgaaGreat.Dq Go.Proofs.YtkjhamcmhijhgaaGreat.Bit Go.Shelf
set_option linter.unusedVariables false
set_option linter.unusedSimpArgs false
attribute [local go_sem] Oper.semAt_some

theorem push_nil (x : Int) (w : World) : Calls Tryz.prog 31 #[.pointer none, (Value.int .i64 x)] w fun e w' => e = .returned (.tuple #[]) ∧ w' = w := by
  go_enter Tryz.func31, Tryz.ntmps31
  go_wp2
  exact bodyPost_ret (results_none rfl _ _ _) rfl ⟨rfl, rfl⟩
/-- The thing is laid, and counted. -/
theorem push_end {w : World} {b o g n t : Nat} {cs : Array Value} {rs l : List Int} (h : Dq w b o cs g n t rs l) (hl : l.length < n) (x : Int) (q : Nat) :
    Dq (((w.drewN q).setCell ⟨g, (t + l.length) % n, none⟩ (Value.int .i64 x)).setCell ⟨b, o + 2, none⟩ (.int .i64 ((l.length : Int) + 1))) b o cs g n t (rs.set ((t + l.length) % n) x) (l ++ [x]) ∧
    Only (R2 b g) w (((w.drewN q).setCell ⟨g, (t + l.length) % n, none⟩ (Value.int .i64 x)).setCell ⟨b, o + 2, none⟩ (.int .i64 ((l.length : Int) + 1))) := by
  refine ⟨⟨?_, h.fit, ?_, h.ne, h.ring.push hl x, h.le⟩, (((Only.refl _ _).drewN q).setCell (p := ⟨g, _, none⟩) (.inl (.inr rfl)) _).setCell (p := ⟨b, o + 2, none⟩) (.inl (.inl rfl)) _⟩
  · have := is3_set2 ((h.box.drewN q).other (p := ⟨g, (t + l.length) % n, none⟩) (Ne.symm h.ne) (Value.int .i64 x)) (.int .i64 ((l.length : Int) + 1))
    refine this.eq ?_
    simp
  · have := ((h.row.drewN q).set ((t + l.length) % n) (Value.int .i64 x)).other (p := ⟨b, o + 2, none⟩) h.ne (.int .i64 ((l.length : Int) + 1))
    rw [cells_set] at this
    exact this
/-- There is room for one more. -/
def Room (w : World) (b o : Nat) (cs : Array Value) (S : Nat → Prop) (l : List Int) (W : World) : Prop := ∃ g n t rs, Dq W b o cs g n t rs l ∧ l.length < n ∧ (S g ∨ w.heap.size ≤ g) ∧ Only S w W
theorem resize_4 {w : World} {b o : Nat} {cs : Array Value} {l : List Int} (h : Is w b (put3 cs o (.slice none 0 0) (.int .i64 0) (.int .i64 0))) (hf : o + 3 ≤ cs.size) (hl : l = []) : Calls Tryz.prog 52 #[.pointer (some ⟨b, o, none⟩), .int .i64 4] w fun e w' => e = .returned (.tuple #[]) ∧ Room w b o cs (fun k => k = b) l w' := by
  subst hl
  refine (resize_sh (w := w) (s := .bare b o cs) (l := []) ⟨h, hf, rfl⟩ rfl 4 (by simp) (by omega) (by omega)).mono ?_
  rintro e w' ⟨rfl, h1, h2⟩
  exact ⟨rfl, _, _, _, _, h1, by simp, .inr (Nat.le_refl _), h2⟩
theorem resize_more {w : World} {b o g n t : Nat} {cs : Array Value} {rs l : List Int} (h : Dq w b o cs g n t rs l) (hl : l.length = n) (hn : n ≤ 400000) : Calls Tryz.prog 52 #[.pointer (some ⟨b, o, none⟩), .int .i64 (if 2 * (n : Int) < 4 then 4 else 2 * (n : Int))] w fun e w' => e = .returned (.tuple #[]) ∧ Room w b o cs (R2 b g) l w' := by
  have e : (if 2 * (n : Int) < 4 then 4 else 2 * (n : Int)) = ((if 2 * n < 4 then 4 else 2 * n : Nat) : Int) := by split <;> split <;> omega
  rw [e]
  have ht := h.ring.top
  refine (resize_sh (w := w) (s := .ring b o cs g n t rs) (l := l) h rfl _ (by split <;> omega) (by split <;> omega) (by split <;> omega)).mono ?_
  rintro e w' ⟨rfl, h1, h2⟩
  exact ⟨rfl, _, _, _, _, h1, by split <;> omega, .inr (Nat.le_refl _), h2.mono (fun k q => .inl q)⟩
set_option maxRecDepth 100000 in
set_option maxHeartbeats 2000000 in
theorem push_sh {w : World} {s : Sh} {l : List Int} (h : s.At w l) {b o : Nat} {cs : Array Value} (hp : s.place = some (b, o, cs)) (x : Int) (hl : l.length ≤ 400000) :
    Calls Tryz.prog 31 #[.pointer (some ⟨b, o, none⟩), (Value.int .i64 x)] w fun e w' => e = .returned (.tuple #[]) ∧ Turned w (b, o, cs) s.has (l ++ [x]) w' := by
  refine (callsIn_wide (n := 3)).1 ?_
  refine callsIn_of_wp Tryz.func31 rfl trivial ?_ rfl
  simp only [Tryz.ntmps31, List.size_toArray, List.length_cons, List.length_nil, Nat.reduceAdd, Nat.reduceSub, Array.replicate_succ, Array.replicate_zero, List.push_toArray, List.append_toArray, List.nil_append, List.cons_append]
  have HL := hide hl
  have HB0 := hide (Sh.box h hp).1
  cases s with
  | nil => cases hp
  | bare b' o' cs' =>
    cases hp
    obtain ⟨hb, hf, he⟩ := h
    have h0 : w.cell? ⟨b, o, none⟩ = some (.slice none 0 0) := (is3 hb hf).1
    have h2 : w.cell? ⟨b, o + 2, none⟩ = some (.int .i64 0) := (is3 hb hf).2.2
    have HR := hide (fun q => resize_4 (l := l) (hb.drewN q) hf he)
    clear hb hl hf he
    gi_wp2
    refine wpIn_region_quiet_lit rfl (by kernel_rfl) (by kernel_rfl) ?_
    repeat (first | (gi_big_quiet_step (fail)) | (refine BigFrame.wpQuietIn_want (fun _ _ _ _ => trivial) rfl ?_; intro K hK; gi_big_quiet_op; gi_big_quiet_call ((fail))))
    refine wpQuietIn_nil ?_
    rintro _ ⟨nq, rfl⟩
    gi_wp2_with (refine ⟨trivial, ?_⟩; gi_at_call 52; go_must ((with_reducible refine (callsIn_wide.2 ((Hid.out HR) nq)).mono ?_); rintro e W ⟨rfl, hR⟩; have HRoom : Hid (Room w b o cs (Sh.bare b o cs).has l W) := hide (by obtain ⟨g, n, t, rs, q1, q2, q3, q4⟩ := hR; exact ⟨g, n, t, rs, q1, q2, q3, ((Only.refl _ _).drewN nq).trans q4⟩); clear hR))
    clear HR h0 h2
    obtain ⟨g, n, t, rs, hD, hLT, hg, ho⟩ := HRoom.out
    have HD := hide hD
    have HLT := hide hLT
    have HG := hide hg
    have HO := hide ho
    clear hD hLT hg ho HRoom
    obtain ⟨m, hm⟩ : ∃ m, m = l.length := ⟨_, rfl⟩
    have HM := hide hm
    clear hm
    obtain ⟨h0, h1, h2⟩ := HD.out.cells
    rw [← HM.out] at h2
    have hlt := HLT.out
    rw [← HM.out] at hlt
    have hn := HD.out.le
    have hpn := HD.out.ring.lt m
    have h3 := HD.out.at_ hpn
    have hf := HD.out.row.frozen ((t + m) % n)
    have hf2 := HD.out.box.frozen (o + 2)
    have HE := hide (fun q => push_end HD.out HLT.out x q)
    have HA : Hid (∀ q : Nat, CallsIn Fence.wide (3 - 1) Tryz.prog 53 #[.pointer (some ⟨b, o, none⟩), .int .i64 (m : Int)] (W.drewN q) fun e w' => e = .returned (.int .i64 (((t + m) % n : Nat) : Int)) ∧ ∃ m', w' = (W.drewN q).drewN m') := hide (fun q => at_wide _ (HD.out.drewN q) m (by omega) _)
    rw [← HM.out] at HE
    obtain ⟨p, hp⟩ : ∃ p, p = (t + m) % n := ⟨_, rfl⟩
    rw [← hp] at hpn h3 hf HE HA
    obtain ⟨y, hy⟩ : ∃ y, y = rs.getD p (0 : Int) := ⟨_, rfl⟩
    rw [← hy] at h3
    have hpi : (p : Int) < n := by omega
    have hbg : ¬ g = b := fun e => HD.out.ne e.symm
    have hbg2 : ¬ b = g := HD.out.ne
    have hmi : (m : Int) ≤ 1000000 := by omega
    clear hp hy
    gi_wp2
    refine Round.wpIn_region_tail (F := Fence.wide) (Round.Grants.refl _ _ _) (by kernel_rfl) 12 rfl rfl (by kernel_rfl) (by kernel_rfl) (by kernel_rfl) (by kernel_rfl) (by kernel_rfl) (by kernel_rfl) ?_
    simp only [List.take, List.drop]
    repeat (first | (gi_big_quiet_step (fail)) | (refine BigFrame.wpQuietIn_want (fun _ _ _ _ => trivial) rfl ?_; intro K hK; gi_big_quiet_op; gi_big_quiet_call ((gi_at_call 53; exact CallsIn.quiet_of (HA.out _)))))
    refine wpQuietIn_nil ?_
    rintro _ ⟨nq, rfl⟩
    gi_wp2
    go_end0
    exact ⟨rfl, Turned.ring (HE.out nq).1 HB0.out HG.out (HO.out.trans' (HE.out nq).2 (fun i hi => by rcases hi with rfl | rfl; exact .inl HB0.out; exact HG.out))⟩
  | ring b' o' cs' g0 n0 t0 rs0 =>
    cases hp
    obtain ⟨h0, h1, h2⟩ := Dq.cells h
    have hn0 := Dq.le h
    have H := hide h
    by_cases hf : l.length = n0
    · have HR := hide (fun q => resize_more (Dq.drewN h q) hf (by omega))
      rw [hf] at h2
      clear hf h
      gi_wp2
      refine wpIn_region_quiet_lit rfl (by kernel_rfl) (by kernel_rfl) ?_
      repeat (first | (gi_big_quiet_step (fail)) | (refine BigFrame.wpQuietIn_want (fun _ _ _ _ => trivial) rfl ?_; intro K hK; gi_big_quiet_op; gi_big_quiet_call ((fail))))
      refine wpQuietIn_nil ?_
      rintro _ ⟨nq, rfl⟩
      gi_wp2_with (refine ⟨trivial, ?_⟩; gi_at_call 52; go_must ((with_reducible refine (callsIn_wide.2 ((Hid.out HR) nq)).mono ?_); rintro e W ⟨rfl, hR⟩; have HRoom : Hid (Room w b o cs (Sh.ring b o cs g0 n0 t0 rs0).has l W) := hide (by obtain ⟨g, n, t, rs, q1, q2, q3, q4⟩ := hR; exact ⟨g, n, t, rs, q1, q2, q3, ((Only.refl _ _).drewN nq).trans q4⟩); clear hR))
      all_goals
        clear HR h0 h1 h2 H
        obtain ⟨g, n, t, rs, hD, hLT, hg, ho⟩ := HRoom.out
        have HD := hide hD
        have HLT := hide hLT
        have HG := hide hg
        have HO := hide ho
        clear hD hLT hg ho HRoom
        obtain ⟨m, hm⟩ : ∃ m, m = l.length := ⟨_, rfl⟩
        have HM := hide hm
        clear hm
        obtain ⟨h0, h1, h2⟩ := HD.out.cells
        rw [← HM.out] at h2
        have hlt := HLT.out
        rw [← HM.out] at hlt
        have hn := HD.out.le
        have hpn := HD.out.ring.lt m
        have h3 := HD.out.at_ hpn
        have hf := HD.out.row.frozen ((t + m) % n)
        have hf2 := HD.out.box.frozen (o + 2)
        have HE := hide (fun q => push_end HD.out HLT.out x q)
        have HA : Hid (∀ q : Nat, CallsIn Fence.wide (3 - 1) Tryz.prog 53 #[.pointer (some ⟨b, o, none⟩), .int .i64 (m : Int)] (W.drewN q) fun e w' => e = .returned (.int .i64 (((t + m) % n : Nat) : Int)) ∧ ∃ m', w' = (W.drewN q).drewN m') := hide (fun q => at_wide _ (HD.out.drewN q) m (by omega) _)
        rw [← HM.out] at HE
        obtain ⟨p, hp⟩ : ∃ p, p = (t + m) % n := ⟨_, rfl⟩
        rw [← hp] at hpn h3 hf HE HA
        obtain ⟨y, hy⟩ : ∃ y, y = rs.getD p (0 : Int) := ⟨_, rfl⟩
        rw [← hy] at h3
        have hpi : (p : Int) < n := by omega
        have hbg : ¬ g = b := fun e => HD.out.ne e.symm
        have hbg2 : ¬ b = g := HD.out.ne
        have hmi : (m : Int) ≤ 1000000 := by omega
        clear hp hy
        gi_wp2
        refine Round.wpIn_region_tail (F := Fence.wide) (Round.Grants.refl _ _ _) (by kernel_rfl) 12 rfl rfl (by kernel_rfl) (by kernel_rfl) (by kernel_rfl) (by kernel_rfl) (by kernel_rfl) (by kernel_rfl) ?_
        simp only [List.take, List.drop]
        repeat (first | (gi_big_quiet_step (fail)) | (refine BigFrame.wpQuietIn_want (fun _ _ _ _ => trivial) rfl ?_; intro K hK; gi_big_quiet_op; gi_big_quiet_call ((gi_at_call 53; exact CallsIn.quiet_of (HA.out _)))))
        refine wpQuietIn_nil ?_
        rintro _ ⟨nq, rfl⟩
        gi_wp2
        go_end0
        exact ⟨rfl, Turned.ring (HE.out nq).1 HB0.out HG.out (HO.out.trans' (HE.out nq).2 (fun i hi => by rcases hi with rfl | rfl; exact .inl HB0.out; exact HG.out))⟩
    · have hc := (Dq.ring h).cnt
      obtain ⟨k, hk⟩ : ∃ k, k = l.length := ⟨_, rfl⟩
      have HK := hide hk
      rw [← hk] at h2 hf
      have hfi : ¬ (k : Int) = (n0 : Int) := by omega
      clear h hk
      gi_wp2
      refine wpIn_region_quiet_lit rfl (by kernel_rfl) (by kernel_rfl) ?_
      repeat (first | (gi_big_quiet_step (fail)) | (refine BigFrame.wpQuietIn_want (fun _ _ _ _ => trivial) rfl ?_; intro K hK; gi_big_quiet_op; gi_big_quiet_call ((fail))))
      refine wpQuietIn_nil ?_
      rintro _ ⟨nq, rfl⟩
      have HRoom : Hid (Room w b o cs (Sh.ring b o cs g0 n0 t0 rs0).has l (w.drewN nq)) := hide ⟨g0, n0, t0, rs0, Dq.drewN H.out nq, by have := HK.out; omega, .inl (.inr rfl), (Only.refl _ _).drewN nq⟩
      clear h0 h1 h2 H
      generalize w.drewN nq = W at *
      gi_wp2
      obtain ⟨g, n, t, rs, hD, hLT, hg, ho⟩ := HRoom.out
      have HD := hide hD
      have HLT := hide hLT
      have HG := hide hg
      have HO := hide ho
      clear hD hLT hg ho HRoom
      obtain ⟨m, hm⟩ : ∃ m, m = l.length := ⟨_, rfl⟩
      have HM := hide hm
      clear hm
      obtain ⟨h0, h1, h2⟩ := HD.out.cells
      rw [← HM.out] at h2
      have hlt := HLT.out
      rw [← HM.out] at hlt
      have hn := HD.out.le
      have hpn := HD.out.ring.lt m
      have h3 := HD.out.at_ hpn
      have hf := HD.out.row.frozen ((t + m) % n)
      have hf2 := HD.out.box.frozen (o + 2)
      have HE := hide (fun q => push_end HD.out HLT.out x q)
      have HA : Hid (∀ q : Nat, CallsIn Fence.wide (3 - 1) Tryz.prog 53 #[.pointer (some ⟨b, o, none⟩), .int .i64 (m : Int)] (W.drewN q) fun e w' => e = .returned (.int .i64 (((t + m) % n : Nat) : Int)) ∧ ∃ m', w' = (W.drewN q).drewN m') := hide (fun q => at_wide _ (HD.out.drewN q) m (by omega) _)
      rw [← HM.out] at HE
      obtain ⟨p, hp⟩ : ∃ p, p = (t + m) % n := ⟨_, rfl⟩
      rw [← hp] at hpn h3 hf HE HA
      obtain ⟨y, hy⟩ : ∃ y, y = rs.getD p (0 : Int) := ⟨_, rfl⟩
      rw [← hy] at h3
      have hpi : (p : Int) < n := by omega
      have hbg : ¬ g = b := fun e => HD.out.ne e.symm
      have hbg2 : ¬ b = g := HD.out.ne
      have hmi : (m : Int) ≤ 1000000 := by omega
      clear hp hy
      gi_wp2
      refine Round.wpIn_region_tail (F := Fence.wide) (Round.Grants.refl _ _ _) (by kernel_rfl) 12 rfl rfl (by kernel_rfl) (by kernel_rfl) (by kernel_rfl) (by kernel_rfl) (by kernel_rfl) (by kernel_rfl) ?_
      simp only [List.take, List.drop]
      repeat (first | (gi_big_quiet_step (fail)) | (refine BigFrame.wpQuietIn_want (fun _ _ _ _ => trivial) rfl ?_; intro K hK; gi_big_quiet_op; gi_big_quiet_call ((gi_at_call 53; exact CallsIn.quiet_of (HA.out _)))))
      refine wpQuietIn_nil ?_
      rintro _ ⟨nq, rfl⟩
      gi_wp2
      go_end0
      exact ⟨rfl, Turned.ring (HE.out nq).1 HB0.out HG.out (HO.out.trans' (HE.out nq).2 (fun i hi => by rcases hi with rfl | rfl; exact .inl HB0.out; exact HG.out))⟩
end Go.Proofs.YtkjhamcmhijhgaaGreat.DqI

/- What is at the bottom is taken; what is at the top. -/
namespace Go.Proofs.YtkjhamcmhijhgaaGreat.DqI
open Go.RowKit Go.Proofs.YtkjhamcmhijhgaaGreat.Dig Go.Proofs.YtkjhamcmhijhgaaGreat.Mem Go.Proofs.YtkjhamcmhijhgaaGreat.Dq Go.Proofs.YtkjhamcmhijhgaaGreat.Bit Go.Shelf
set_option linter.unusedVariables false
set_option linter.unusedSimpArgs false

theorem len_none {w : World} {s : Sh} (h : s.At w []) : Calls Tryz.prog 63 #[s.ptr] w fun e w' => e = .returned (.int .i64 0) ∧ w' = w := len_sh h
theorem pop_none {w : World} {s : Sh} (h : s.At w []) : Calls Tryz.prog 56 #[s.ptr] w fun e w' => e = .returned (.tuple #[(Value.int .i64 0), .bool false]) ∧ w' = w := by
  have HL := hide (len_none h)
  obtain ⟨q, hq⟩ := s.shape
  rw [hq] at HL ⊢
  clear h hq
  go_enter Tryz.func56, Tryz.ntmps56
  go_wp2_with (go_at_call 63; go_must ((with_reducible refine (Hid.out HL).mono ?_); rintro e w9 ⟨rfl, rfl⟩))
  refine bodyPost_ret (v := .tuple #[(Value.int .i64 0), .bool false]) (by simp [results, Tryz.results56, go_sem]) rfl ?_
  exact ⟨rfl, rfl⟩
theorem steal_none {w : World} {s : Sh} (h : s.At w []) : Calls Tryz.prog 58 #[s.ptr] w fun e w' => e = .returned (.tuple #[(Value.int .i64 0), .bool false]) ∧ w' = w := by
  have HL := hide (len_none h)
  obtain ⟨q, hq⟩ := s.shape
  rw [hq] at HL ⊢
  clear h hq
  go_enter Tryz.func58, Tryz.ntmps58
  go_wp2_with (go_at_call 63; go_must ((with_reducible refine (Hid.out HL).mono ?_); rintro e w9 ⟨rfl, rfl⟩))
  refine bodyPost_ret (v := .tuple #[(Value.int .i64 0), .bool false]) (by simp [results, Tryz.results58, go_sem]) rfl ?_
  exact ⟨rfl, rfl⟩
set_option maxHeartbeats 1000000 in
theorem pop_dq {w : World} {b o g n t : Nat} {cs : Array Value} {rs l : List Int} {x : Int} (h : Dq w b o cs g n t rs (l ++ [x])) :
    Calls Tryz.prog 56 #[.pointer (some ⟨b, o, none⟩)] w fun e w' => e = .returned (.tuple #[(Value.int .i64 x), .bool true]) ∧ Turned w (b, o, cs) (R2 b g) l w' := by
  obtain ⟨k, hk⟩ : ∃ k, k = l.length + 1 := ⟨_, rfl⟩
  have hkl : (l ++ [x]).length = k := by rw [hk]; simp
  have hc := h.ring.cnt
  have hn := h.le
  rw [hkl] at hc
  have HFT := hide h.fit
  obtain ⟨r1, r2⟩ := h.ring.pop (0 : Int)
  have c0 : w.cell? ⟨b, o + 2, none⟩ = some (.int .i64 (k : Int)) := by rw [← hkl]; exact h.cells.2.2
  have HL := hide (len_cell (k := (k : Int)) w c0)
  have HF := lift_dq w h l.length (by omega)
  have e0 : ((l.length : Nat) : Int) = (k : Int) - 1 := by omega
  rw [r2, e0, hkl] at HF
  have HLF := hide HF
  have key : ∀ w1 : World, Is w1 b (put3 cs o (.slice (some ⟨g, 0, none⟩) n n) (.int .i64 (t : Int)) (.int .i64 (k : Int))) → Is w1 g (cellsOf (rs.set ((t + l.length) % n) (0 : Int))) → Dq (w1.setCell ⟨b, o + 2, none⟩ (.int .i64 ((k : Int) - 1))) b o cs g n t (rs.set ((t + l.length) % n) (0 : Int)) l := fun w1 q1 q2 =>
    ⟨by rw [e0]; exact is3_set2 q1 _, h.fit, q2.other (p := ⟨b, o + 2, none⟩) h.ne _, h.ne, r1, h.le⟩
  have HK := hide key
  have hki : (k : Int) ≤ 1000000 := by omega
  have hk1 : 1 ≤ (k : Int) := by omega
  have hk0 : ¬ (k : Int) = 0 := by omega
  clear h hk hkl r1 r2 HF e0 key
  go_enter Tryz.func56, Tryz.ntmps56
  go_wp2_with (first
    | (go_at_call 63; go_must ((with_reducible refine (Hid.out HL).mono ?_); rintro e w9 ⟨rfl, rfl⟩; clear HL))
    | (go_at_call 75; go_must ((with_reducible refine (Hid.out HLF).mono ?_); rintro e w1 ⟨rfl, q1, q2, q3⟩; have c2 := (is3 q1 HFT.out).2.2; have f2 := q1.frozen (o + 2); have HD := hide (HK.out _ q1 q2); have HO := hide q3; clear q1 q2 q3 HLF))
    | (go_at_call 76; go_must ((with_reducible refine (shrink_dq HD.out).mono ?_); rintro e w2 ⟨rfl, q⟩; have HT := hide q; clear q)))
  refine bodyPost_ret (v := .tuple #[(Value.int .i64 x), .bool true]) (by simp [results, Tryz.results56, go_sem]) rfl ?_
  exact ⟨rfl, Turned.trans ((HO.out.mono (fun k q => .inr q)).setCell (p := ⟨b, o + 2, none⟩) (.inl (.inl rfl)) _) (fun k q => .inl q) HT.out⟩
set_option maxHeartbeats 1000000 in
theorem steal_dq {w : World} {b o g n t : Nat} {cs : Array Value} {rs l : List Int} {x : Int} (h : Dq w b o cs g n t rs (x :: l)) :
    Calls Tryz.prog 58 #[.pointer (some ⟨b, o, none⟩)] w fun e w' => e = .returned (.tuple #[(Value.int .i64 x), .bool true]) ∧ Turned w (b, o, cs) (R2 b g) l w' := by
  obtain ⟨k, hk⟩ : ∃ k, k = l.length + 1 := ⟨_, rfl⟩
  have hkl : (x :: l).length = k := by rw [hk]; simp
  have hc := h.ring.cnt
  have hn := h.le
  have ht := h.ring.top
  rw [hkl] at hc
  have HFT := hide h.fit
  obtain ⟨r1, r2⟩ := h.ring.steal (0 : Int)
  have c0 : w.cell? ⟨b, o + 2, none⟩ = some (.int .i64 (k : Int)) := by rw [← hkl]; exact h.cells.2.2
  have HL := hide (len_cell (k := (k : Int)) w c0)
  have HF := lift_dq w h 0 (by omega)
  have e0 : ((l.length : Nat) : Int) = (k : Int) - 1 := by omega
  rw [r2, hkl] at HF
  have HLF : Hid (Calls Tryz.prog 75 #[.pointer (some ⟨b, o, none⟩), .int .i64 0] w fun e w' => e = .returned (Value.int .i64 x) ∧
    Is w' b (put3 cs o (.slice (some ⟨g, 0, none⟩) n n) (.int .i64 (t : Int)) (.int .i64 (k : Int))) ∧ Is w' g (cellsOf (rs.set ((t + 0) % n) (0 : Int))) ∧ Only (fun k => k = g) w w') := hide HF
  obtain ⟨t', ht'⟩ : ∃ t', t' = (t + 1) % n := ⟨_, rfl⟩
  have HA : Hid (∀ w1 : World, Is w1 b (put3 cs o (.slice (some ⟨g, 0, none⟩) n n) (.int .i64 (t : Int)) (.int .i64 (k : Int))) → Calls Tryz.prog 53 #[.pointer (some ⟨b, o, none⟩), .int .i64 1] w1 fun e w' => e = .returned (.int .i64 (t' : Int)) ∧ ∃ m, w' = w1.drewN m) := hide (fun w1 q => by
    rw [ht']
    exact at_cells w1 (is3 q HFT.out).1 (is3 q HFT.out).2.1 ht hn 1 (by omega))
  have HK : Hid (∀ w1 : World, Is w1 b (put3 cs o (.slice (some ⟨g, 0, none⟩) n n) (.int .i64 (t : Int)) (.int .i64 (k : Int))) → Is w1 g (cellsOf (rs.set ((t + 0) % n) (0 : Int))) → Dq ((w1.setCell ⟨b, o + 1, none⟩ (.int .i64 (t' : Int))).setCell ⟨b, o + 2, none⟩ (.int .i64 ((k : Int) - 1))) b o cs g n t' (rs.set ((t + 0) % n) (0 : Int)) l) := hide (fun w1 q1 q2 =>
    ⟨by rw [e0]; exact is3_set2 (is3_set1 q1 _) _, h.fit, (q2.other (p := ⟨b, o + 1, none⟩) h.ne _).other (p := ⟨b, o + 2, none⟩) h.ne _, h.ne, by rw [ht']; exact r1, h.le⟩)
  have hki : (k : Int) ≤ 1000000 := by omega
  have hk1 : 1 ≤ (k : Int) := by omega
  have hk0 : ¬ (k : Int) = 0 := by omega
  clear h hk hkl r1 r2 HF e0 ht'
  go_enter Tryz.func58, Tryz.ntmps58
  go_wp2_with (first
    | (go_at_call 63; go_must ((with_reducible refine (Hid.out HL).mono ?_); rintro e w9 ⟨rfl, rfl⟩; clear HL))
    | (go_at_call 75; go_must ((with_reducible refine (Hid.out HLF).mono ?_); rintro e w1 ⟨rfl, q1, q2, q3⟩; have HI := hide q1; have HG := hide q2; have HO := hide q3; clear q1 q2 q3 HLF))
    | (go_at_call 53; go_must ((with_reducible refine ((Hid.out HA) _ HI.out).mono ?_); rintro e w2 ⟨rfl, m, rfl⟩; have c1 := (is3 (HI.out.drewN m) HFT.out).2.1; have c2 := (is3 (HI.out.drewN m) HFT.out).2.2; have f1 := (HI.out.drewN m).frozen (o + 1); have f2 := (HI.out.drewN m).frozen (o + 2); have HD := hide (HK.out _ (HI.out.drewN m) (HG.out.drewN m)); replace HO := hide (HO.out.drewN m); clear HI HG HA HK; generalize w1.drewN m = w2 at *))
    | (go_at_call 76; go_must ((with_reducible refine (shrink_dq HD.out).mono ?_); rintro e w3 ⟨rfl, q⟩; have HT := hide q; clear q)))
  refine bodyPost_ret (v := .tuple #[(Value.int .i64 x), .bool true]) (by simp [results, Tryz.results58, go_sem]) rfl ?_
  exact ⟨rfl, Turned.trans (((HO.out.mono (fun k q => .inr q)).setCell (p := ⟨b, o + 1, none⟩) (.inl (.inl rfl)) _).setCell (p := ⟨b, o + 2, none⟩) (.inl (.inl rfl)) _) (fun k q => .inl q) HT.out⟩
/-- .. however it lies. -/
theorem pop_sh {w : World} {s : Sh} {l : List Int} {x : Int} (h : s.At w (l ++ [x])) {b o : Nat} {cs : Array Value} (hp : s.place = some (b, o, cs)) : Calls Tryz.prog 56 #[.pointer (some ⟨b, o, none⟩)] w fun e w' => e = .returned (.tuple #[(Value.int .i64 x), .bool true]) ∧ Turned w (b, o, cs) s.has l w' := by
  cases s with
  | nil => cases hp
  | bare b' o' cs' => have e : l ++ [x] = [] := h.2.2; simp at e
  | ring b' o' cs' g n t rs => cases hp; exact pop_dq h
theorem steal_sh {w : World} {s : Sh} {l : List Int} {x : Int} (h : s.At w (x :: l)) {b o : Nat} {cs : Array Value} (hp : s.place = some (b, o, cs)) : Calls Tryz.prog 58 #[.pointer (some ⟨b, o, none⟩)] w fun e w' => e = .returned (.tuple #[(Value.int .i64 x), .bool true]) ∧ Turned w (b, o, cs) s.has l w' := by
  cases s with
  | nil => cases hp
  | bare b' o' cs' => have e : x :: l = [] := h.2.2; simp at e
  | ring b' o' cs' g n t rs => cases hp; exact steal_dq h
end Go.Proofs.YtkjhamcmhijhgaaGreat.DqI
