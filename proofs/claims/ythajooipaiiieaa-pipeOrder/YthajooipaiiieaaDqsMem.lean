/- A deque as it lies: a struct of its ring, the top's place and how many there are; Len, at, lift. -/
import Derived.Test.YthajooipaiiieaaDqRing
import Derived.Test.YthajooipaiiieaaDqKeep3
import Derived.Test.YthajooipaiiieaaRegionTail
import Derived.Deep.QuietTactic
import Derived.BigQuiet
import Derived.Deep.DeepMust
import Derived.Shelf.Abstract
import Derived.Shelf.RegionOpen
import Derived.OwnWalkIn
import Derived.TacticsInMore
import Derived.LoopNIn
import Derived.LoopIn
namespace Go.Proofs.Ythajooipaiiieaa.DqS
open Go.RowKit Go.Proofs.Ythajooipaiiieaa.Dig Go.Proofs.Ythajooipaiiieaa.Mem Go.Proofs.Ythajooipaiiieaa.Dq
set_option linter.unusedVariables false
set_option linter.unusedSimpArgs false

def cellsOf (rs : List (List UInt8)) : Array Value := (rs.map fun x : (List UInt8) => (Value.string ⟨x.toArray⟩)).toArray
theorem cells_at {rs : List (List UInt8)} {i : Nat} (hi : i < rs.length) : (cellsOf rs)[i]? = some (Value.string ⟨(rs.getD i ([] : List UInt8)).toArray⟩) := by
  simp [cellsOf, List.getD_eq_getElem?_getD, List.getElem?_eq_getElem hi]
theorem cells_set {rs : List (List UInt8)} {i : Nat} {x : (List UInt8)} : (cellsOf rs).setIfInBounds i (Value.string ⟨x.toArray⟩) = cellsOf (rs.set i x) := by
  apply Array.ext'
  simp [cellsOf, List.map_set]
/-- A deque whose ring is g: its three cells lie at o, in a block whose other cells are those of cs. -/
structure Dq (w : World) (b o : Nat) (cs : Array Value) (g n t : Nat) (rs l : List (List UInt8)) : Prop where
  box : Is w b (put3 cs o (.slice (some ⟨g, 0, none⟩) n n) (.int .i64 (t : Int)) (.int .i64 (l.length : Int)))
  fit : o + 3 ≤ cs.size
  row : Is w g (cellsOf rs)
  ne : b ≠ g
  ring : Ring ([] : List UInt8) n t rs l
  le : n ≤ 1000000
section
variable {w w' : World} {b o g n t : Nat} {cs : Array Value} {rs l : List (List UInt8)}
theorem Dq.keep {S : Nat → Prop} (h : Dq w b o cs g n t rs l) (ho : Only S w w') (h1 : ¬ S b) (h2 : ¬ S g) : Dq w' b o cs g n t rs l := ⟨h.box.keep ho h1, h.fit, h.row.keep ho h2, h.ne, h.ring, h.le⟩
theorem Dq.below (h : Dq w b o cs g n t rs l) (ho : Below w.heap.size w w') : Dq w' b o cs g n t rs l := h.keep (Only.of_below (S := fun _ => False) ho) (fun q => q) (fun q => q)
theorem Dq.drewN (h : Dq w b o cs g n t rs l) (m : Nat) : Dq (w.drewN m) b o cs g n t rs l := h.below (below_of_drewN m)
theorem Dq.off (h : Dq w b o cs g n t rs l) {row : Option Nat} (hg : w.grownBy w' row) (hr : ∀ r, row = some r → ∃ o : Obj, w.heap[r]? = some o ∧ o.isCells = false) : Dq w' b o cs g n t rs l := ⟨is_off h.box hg hr, h.fit, is_off h.row hg hr, h.ne, h.ring, h.le⟩
theorem Dq.cells (h : Dq w b o cs g n t rs l) : w.cell? ⟨b, o, none⟩ = some (.slice (some ⟨g, 0, none⟩) n n) ∧ w.cell? ⟨b, o + 1, none⟩ = some (.int .i64 (t : Int)) ∧ w.cell? ⟨b, o + 2, none⟩ = some (.int .i64 (l.length : Int)) := is3 h.box h.fit
theorem Dq.at_ (h : Dq w b o cs g n t rs l) {i : Nat} (hi : i < n) : w.cell? ⟨g, i, none⟩ = some (Value.string ⟨(rs.getD i ([] : List UInt8)).toArray⟩) := h.row.cell i (cells_at (by rw [h.ring.len]; exact hi))
theorem len_cell {k : Int} (w : World) (h : w.cell? ⟨b, o + 2, none⟩ = some (.int .i64 k)) : Calls Try.prog 37 #[.pointer (some ⟨b, o, none⟩)] w fun e w' => e = .returned (.int .i64 k) ∧ w' = w := by
  go_enter Try.func37, Try.ntmps37
  go_wp2
  go_ret
  exact ⟨rfl, rfl⟩
theorem len_nil (w : World) : Calls Try.prog 37 #[.pointer none] w fun e w' => e = .returned (.int .i64 0) ∧ w' = w := by
  go_enter Try.func37, Try.ntmps37
  go_wp2
  go_ret
  exact ⟨rfl, rfl⟩
theorem tmod_nat (a n : Nat) : ((a : Int)).tmod (n : Int) = ((a % n : Nat) : Int) := by
  rw [Int.tmod_eq_emod_of_nonneg (by omega)]
  rfl
/-- The place of a thing in its ring. -/
theorem at_cells (w : World) (h0 : w.cell? ⟨b, o, none⟩ = some (.slice (some ⟨g, 0, none⟩) n n)) (h1 : w.cell? ⟨b, o + 1, none⟩ = some (.int .i64 (t : Int))) (ht : t < n) (hn : n ≤ 1000000) (k : Nat) (hk : k ≤ n) :
    Calls Try.prog 44 #[.pointer (some ⟨b, o, none⟩), .int .i64 (k : Int)] w fun e w' => e = .returned (.int .i64 (((t + k) % n : Nat) : Int)) ∧ ∃ m, w' = w.drewN m := by
  obtain ⟨q, hq⟩ : ∃ q, q = (t + k) % n := ⟨_, rfl⟩
  have hm : ((t : Int) + (k : Int)).tmod (n : Int) = (q : Int) := by
    rw [hq, ← tmod_nat, Int.natCast_add]
  have hn0 : ¬ (n : Int) = 0 := by omega
  have hql : q < n := by rw [hq]; exact Nat.mod_lt _ (by omega)
  rw [← hq]
  clear hq
  go_enter Try.func44, Try.ntmps44
  go_wp2
  go_quiet (fail)
  go_wp2
  go_ret
  exact ⟨rfl, _, rfl⟩
theorem at_dq (w : World) (h : Dq w b o cs g n t rs l) (k : Nat) (hk : k ≤ n) : Calls Try.prog 44 #[.pointer (some ⟨b, o, none⟩), .int .i64 (k : Int)] w fun e w' => e = .returned (.int .i64 (((t + k) % n : Nat) : Int)) ∧ ∃ m, w' = w.drewN m :=
  at_cells w h.cells.1 h.cells.2.1 h.ring.top h.le k hk
theorem at_wide (w : World) (h : Dq w b o cs g n t rs l) (k : Nat) (hk : k ≤ n) (d : Nat) : CallsIn Fence.wide d Try.prog 44 #[.pointer (some ⟨b, o, none⟩), .int .i64 (k : Int)] w fun e w' => e = .returned (.int .i64 (((t + k) % n : Nat) : Int)) ∧ ∃ m, w' = w.drewN m := callsIn_wide.2 (at_dq w h k hk)
set_option maxRecDepth 100000 in
set_option maxHeartbeats 2000000 in
theorem lift_dq (w : World) (h : Dq w b o cs g n t rs l) (k : Nat) (hk : k ≤ n) : Calls Try.prog 45 #[.pointer (some ⟨b, o, none⟩), .int .i64 (k : Int)] w fun e w' => e = .returned (Value.string ⟨(rs.getD ((t + k) % n) ([] : List UInt8)).toArray⟩) ∧
    Is w' b (put3 cs o (.slice (some ⟨g, 0, none⟩) n n) (.int .i64 (t : Int)) (.int .i64 (l.length : Int))) ∧ Is w' g (cellsOf (rs.set ((t + k) % n) ([] : List UInt8))) ∧ Only (fun k => k = g) w w' := by
  obtain ⟨h0, h1, h2⟩ := h.cells
  have hn := h.le
  have hp := h.ring.lt k
  obtain ⟨p, hq⟩ : ∃ p, p = (t + k) % n := ⟨_, rfl⟩
  have HA : Hid (∀ W : World, Dq W b o cs g n t rs l → CallsIn Fence.wide (3 - 1) Try.prog 44 #[.pointer (some ⟨b, o, none⟩), .int .i64 (k : Int)] W fun e w' => e = .returned (.int .i64 (p : Int)) ∧ ∃ m', w' = W.drewN m') := hide (fun W hW => by rw [hq]; exact at_wide _ hW k hk _)
  rw [← hq] at hp ⊢
  obtain ⟨x, hx⟩ : ∃ x, x = rs.getD p ([] : List UInt8) := ⟨_, rfl⟩
  have h3 := h.at_ hp
  rw [← hx] at h3 ⊢
  have hf := h.row.frozen p
  have HD := hide h
  have hpn : (p : Int) < (n : Int) := by omega
  clear h hq hx hk
  refine (callsIn_wide (n := 3)).1 ?_
  refine callsIn_of_wp Try.func45 rfl trivial ?_ rfl
  simp only [Try.ntmps45, List.size_toArray, List.length_cons, List.length_nil, Nat.reduceAdd, Nat.reduceSub, Array.replicate_succ, Array.replicate_zero, List.push_toArray, List.append_toArray, List.nil_append, List.cons_append]
  gi_wp2
  refine wpIn_region_quiet_lit rfl (by kernel_rfl) (by kernel_rfl) ?_
  repeat (first | (gi_big_quiet_step (fail)) | (refine BigFrame.wpQuietIn_want (fun _ _ _ _ => trivial) rfl ?_; intro K hK; gi_big_quiet_op; gi_big_quiet_call ((gi_at_call 44; exact CallsIn.quiet_of (HA.out _ (HD.out.drewN _))))))
  refine wpQuietIn_nil ?_
  rintro _ ⟨nq, rfl⟩
  have HO := hide ((Only.refl (fun k => k = g) w).drewN nq)
  replace HD := hide (HD.out.drewN nq)
  replace hf := HD.out.row.frozen p
  clear h0 h1 h2 h3
  generalize w.drewN nq = W at *
  obtain ⟨h0, h1, h2⟩ := HD.out.cells
  have h3 := HD.out.at_ hp
  gi_wp2
  refine Round.wpIn_region_tail (F := Fence.wide) (Round.Grants.refl _ _ _) (by kernel_rfl) 9 rfl rfl (by kernel_rfl) (by kernel_rfl) (by kernel_rfl) (by kernel_rfl) (by kernel_rfl) (by kernel_rfl) ?_
  simp only [List.take, List.drop]
  repeat (first | (gi_big_quiet_step (fail)) | (refine BigFrame.wpQuietIn_want (fun _ _ _ _ => trivial) rfl ?_; intro K hK; gi_big_quiet_op; gi_big_quiet_call ((gi_at_call 44; exact CallsIn.quiet_of (HA.out _ (HD.out.drewN _))))))
  refine wpQuietIn_nil ?_
  rintro _ ⟨nq, rfl⟩
  gi_wp2
  have e : (Value.string ⟨([] : List UInt8).toArray⟩) = (Value.string ⟨#[]⟩) := rfl
  refine bodyPost_ret (results_tmp rfl _ _ _) rfl ?_
  refine ⟨rfl, (HD.out.box.drewN _).other (p := ⟨g, p, none⟩) (Ne.symm HD.out.ne) _, ?_, ?_⟩
  · rw [← cells_set, e]
    exact (HD.out.row.drewN _).set p _
  · exact (HO.out.drewN _).setCell (p := ⟨g, p, none⟩) (.inl rfl) _
end
/-- How a deque lies: not at all, with no ring, with one. -/
inductive Sh where
  | nil
  | bare (b o : Nat) (cs : Array Value)
  | ring (b o : Nat) (cs : Array Value) (g n t : Nat) (rs : List (List UInt8))
def Sh.ptr : Sh → Value
  | .nil => .pointer none
  | .bare b o _ => .pointer (some ⟨b, o, none⟩)
  | .ring b o _ _ _ _ _ => .pointer (some ⟨b, o, none⟩)
/-- Its place: the block, where in it, and the block's cells (its own three counting for nothing). -/
def Sh.place : Sh → Option (Nat × Nat × Array Value)
  | .nil => none
  | .bare b o cs => some (b, o, cs)
  | .ring b o cs _ _ _ _ => some (b, o, cs)
def Sh.has : Sh → Nat → Prop
  | .nil, _ => False
  | .bare b _ _, k => k = b
  | .ring b _ _ g _ _ _, k => k = b ∨ k = g
def Sh.At : Sh → World → List (List UInt8) → Prop
  | .nil, _, l => l = []
  | .bare b o cs, w, l => Is w b (put3 cs o (.slice none 0 0) (.int .i64 0) (.int .i64 0)) ∧ o + 3 ≤ cs.size ∧ l = []
  | .ring b o cs g n t rs, w, l => Dq w b o cs g n t rs l
section
variable {w w' : World} {s : Sh} {l : List (List UInt8)}
theorem Sh.keep {S : Nat → Prop} (h : s.At w l) (ho : Only S w w') (hs : ∀ k, s.has k → ¬ S k) : s.At w' l := by
  cases s with
  | nil => exact h
  | bare b o cs => exact ⟨h.1.keep ho (hs b rfl), h.2⟩
  | ring b o cs g n t rs => exact Dq.keep h ho (hs b (.inl rfl)) (hs g (.inr rfl))
theorem Sh.below (h : s.At w l) (ho : Below w.heap.size w w') : s.At w' l := Sh.keep h (Only.of_below (S := fun _ => False) ho) (fun _ _ q => q)
theorem Sh.off (h : s.At w l) {row : Option Nat} (hg : w.grownBy w' row) (hr : ∀ r, row = some r → ∃ o : Obj, w.heap[r]? = some o ∧ o.isCells = false) : s.At w' l := by
  cases s with
  | nil => exact h
  | bare b o cs => exact ⟨is_off h.1 hg hr, h.2⟩
  | ring b o cs g n t rs => exact Dq.off h hg hr
theorem Sh.lt (h : s.At w l) : ∀ k, s.has k → k < w.heap.size := fun k hk => by
  cases s with
  | nil => exact hk.elim
  | bare b o cs => cases hk; exact h.1.lt
  | ring b o cs g n t rs =>
    rcases hk with rfl | rfl
    · exact (show Dq w k o cs g n t rs l from h).box.lt
    · exact (show Dq w b o cs k n t rs l from h).row.lt
theorem Sh.le (h : s.At w l) : l.length ≤ 1000000 := by
  cases s with
  | nil => have : l = [] := h; subst this; simp
  | bare b o cs => have : l = [] := h.2.2; subst this; simp
  | ring b o cs g n t rs =>
    have h1 := (show Dq w b o cs g n t rs l from h).ring.cnt
    have h2 := (show Dq w b o cs g n t rs l from h).le
    omega
theorem Sh.shape (s : Sh) : ∃ q, s.ptr = .pointer q := by
  cases s <;> exact ⟨_, rfl⟩
theorem Sh.ptr_of {b o : Nat} {cs : Array Value} (h : s.place = some (b, o, cs)) : s.ptr = .pointer (some ⟨b, o, none⟩) := by
  cases s <;> cases h <;> rfl
/-- Its three cells. -/
theorem Sh.box (h : s.At w l) {b o : Nat} {cs : Array Value} (hp : s.place = some (b, o, cs)) : s.has b ∧ o + 3 ≤ cs.size ∧ ∃ c0 c1, Is w b (put3 cs o c0 c1 (.int .i64 (l.length : Int))) := by
  cases s with
  | nil => cases hp
  | bare b' o' cs' =>
    cases hp
    obtain ⟨h1, h2, rfl⟩ := h
    exact ⟨rfl, h2, _, _, h1⟩
  | ring b' o' cs' g n t rs =>
    cases hp
    exact ⟨.inl rfl, Dq.fit h, _, _, Dq.box h⟩
theorem len_sh (h : s.At w l) : Calls Try.prog 37 #[s.ptr] w fun e w' => e = .returned (.int .i64 (l.length : Int)) ∧ w' = w := by
  cases s with
  | nil => have : l = [] := h; subst this; exact len_nil w
  | bare b o cs => obtain ⟨h1, h2, rfl⟩ := h; exact len_cell w (is3 h1 h2).2.2
  | ring b o cs g n t rs => exact len_cell w (Dq.cells h).2.2
end
end Go.Proofs.Ythajooipaiiieaa.DqS
