/- Joined out of the texts DqsWk, DqsPl, DqsGo, RoundHeld, in that order. -/
import Derived.Test.YtkjhamcmhijhgaaGreatAll3
import Derived.Test.YtkjhamcmhijhgaaGreatAll4
import Derived.Test.YtkjhamcmhijhgaaGreatAll2
import Derived.Test.YtkjhamcmhijhgaaGreatAll1
import Derived.Deep.RegionHeld3
import Derived.OrdersIn
import Derived.ControlIn
/- The workers of a pool as they lie: a row of structs, each with a deque, the job that it holds, and two bits. -/
namespace Go.Proofs.YtkjhamcmhijhgaaGreat.DqS
open Go.RowKit Go.Proofs.YtkjhamcmhijhgaaGreat.Dig Go.Proofs.YtkjhamcmhijhgaaGreat.Mem Go.Proofs.YtkjhamcmhijhgaaGreat.Dq Go.Proofs.YtkjhamcmhijhgaaGreat.Bit Go.Proofs.YtkjhamcmhijhgaaGreat.Thing Go.Proofs.YtkjhamcmhijhgaaGreat.Pool Go.Shelf
set_option linter.unusedVariables false
set_option linter.unusedSimpArgs false

theorem is_cells {w : World} {b : Nat} {cs : Array Value} (h : Is w b cs) : ∃ o : Obj, w.heap[b]? = some o ∧ o.isCells = true := by
  obtain ⟨T, h⟩ := h
  exact ⟨_, h, rfl⟩
/-- A deque's ring, wherever its three cells lie. -/
inductive Rw where
  | bare
  | ring (g n t : Nat) (rs : List (List UInt8))
def Rw.c0 : Rw → Value
  | .bare => .slice none 0 0
  | .ring g n _ _ => .slice (some ⟨g, 0, none⟩) n n
def Rw.c1 : Rw → Value
  | .bare => .int .i64 0
  | .ring _ _ t _ => .int .i64 (t : Int)
def Rw.F : Rw → Nat → Prop
  | .bare, _ => False
  | .ring g _ _ _, k => k = g
def Rw.At : Rw → World → List (List UInt8) → Prop
  | .bare, _, l => l = []
  | .ring g n t rs, w, l => Is w g (cellsOf rs) ∧ Ring ([] : List UInt8) n t rs l ∧ n ≤ 1000000
def Rw.sh (b o : Nat) (cs : Array Value) : Rw → Sh
  | .bare => .bare b o cs
  | .ring g n t rs => .ring b o cs g n t rs
theorem put3_self {cs : Array Value} {o : Nat} {x y z : Value} (h0 : cs[o]? = some x) (h1 : cs[o + 1]? = some y) (h2 : cs[o + 2]? = some z) : put3 cs o x y z = cs := by
  apply Array.ext_getElem?
  intro i
  simp only [put3, Array.getElem?_setIfInBounds, Array.size_setIfInBounds]
  grind
section
variable {w w' : World} {b o : Nat} {cs : Array Value} {l : List (List UInt8)} {r : Rw}
theorem Rw.keep {S : Nat → Prop} (h : r.At w l) (ho : Only S w w') (hs : ∀ k, r.F k → ¬ S k) : r.At w' l := by
  cases r with
  | bare => exact h
  | ring g n t rs => exact ⟨h.1.keep ho (hs g rfl), h.2⟩
theorem Rw.lt (h : r.At w l) : ∀ k, r.F k → k < w.heap.size := fun k hk => by
  cases r with
  | bare => exact hk.elim
  | ring g n t rs => cases hk; exact h.1.lt
theorem Rw.cells (h : r.At w l) : ∀ k, r.F k → ∃ o : Obj, w.heap[k]? = some o ∧ o.isCells = true := fun k hk => by
  cases r with
  | bare => exact hk.elim
  | ring g n t rs => cases hk; exact is_cells h.1
theorem Rw.to (h : r.At w l) (hb : Is w b cs) (hf : o + 3 ≤ cs.size) (h0 : cs[o]? = some r.c0) (h1 : cs[o + 1]? = some r.c1) (h2 : cs[o + 2]? = some (.int .i64 (l.length : Int))) (hne : ¬ r.F b) : (r.sh b o cs).At w l ∧ (r.sh b o cs).place = some (b, o, cs) ∧ ∀ k, (r.sh b o cs).has k ↔ k = b ∨ r.F k := by
  cases r with
  | bare =>
    have e : l = [] := h
    subst e
    exact ⟨⟨(put3_self h0 h1 h2).symm ▸ hb, hf, rfl⟩, rfl, fun k => ⟨fun q => .inl q, fun q => q.elim id (fun q => q.elim)⟩⟩
  | ring g n t rs => exact ⟨⟨(put3_self h0 h1 h2).symm ▸ hb, hf, h.1, fun e => hne e, h.2.1, h.2.2⟩, rfl, fun k => Iff.rfl⟩
theorem Rw.of {s : Sh} (h : s.At w l) (hp : s.place = some (b, o, cs)) : ∃ r : Rw, r.At w l ∧ Is w b (put3 cs o r.c0 r.c1 (.int .i64 (l.length : Int))) ∧ ¬ r.F b ∧ ∀ k, r.F k → s.has k := by
  cases s with
  | nil => cases hp
  | bare b' o' cs' =>
    cases hp
    obtain ⟨h1, h2, rfl⟩ := h
    exact ⟨.bare, rfl, h1, fun q => q, fun k q => q.elim⟩
  | ring b' o' cs' g n t rs =>
    cases hp
    have h' : Dq w b o cs g n t rs l := h
    exact ⟨.ring g n t rs, ⟨h'.row, h'.ring, h'.le⟩, h'.box, h'.ne, fun k q => .inr q⟩
end
/-- A worker: its ring, its row, the job that it holds, whether it holds one, whether it is busy. -/
structure Wk where
  r : Rw
  l : List (List UInt8)
  x : (List UInt8)
  h : Bool
  u : Bool
def Wk.p (κ : Wk) : W1 (List UInt8) := ⟨κ.l, κ.x, κ.h⟩
def Wk.cells (κ : Wk) : List Value := [κ.r.c0, κ.r.c1, .int .i64 (κ.l.length : Int), (Value.string ⟨(κ.x).toArray⟩), .bool κ.h, .bool κ.u]
def flatL : List Wk → List Value
  | [] => []
  | κ :: ks => κ.cells ++ flatL ks
def flat (ks : List Wk) : Array Value := (flatL ks).toArray
theorem flatL_length (ks : List Wk) : (flatL ks).length = ks.length * 6 := by
  induction ks with
  | nil => rfl
  | cons κ ks ih => simp [flatL, Wk.cells, ih]; omega
theorem flat_size (ks : List Wk) : (flat ks).size = ks.length * 6 := by simp [flat, flatL_length]
theorem flatL_at : ∀ (ks : List Wk) (k i : Nat) (κ : Wk), ks[k]? = some κ → i < 6 → (flatL ks)[k * 6 + i]? = κ.cells[i]?
  | [], k, i, κ, h, _ => by simp at h
  | z :: ks, 0, i, κ, h, hi => by
    simp at h
    subst h
    rw [flatL, List.getElem?_append_left (by simp [Wk.cells]; omega)]
    simp
  | z :: ks, k + 1, i, κ, h, hi => by
    have := flatL_at ks k i κ (by simpa using h) hi
    rw [flatL, List.getElem?_append_right (by simp [Wk.cells]; omega)]
    rw [show ((k + 1) * 6 + i - z.cells.length) = k * 6 + i by simp [Wk.cells]; omega]
    exact this
theorem flat_at {ks : List Wk} {k i : Nat} {κ : Wk} (h : ks[k]? = some κ) (hi : i < 6) : (flat ks)[k * 6 + i]? = κ.cells[i]? := by
  simp [flat, flatL_at ks k i κ h hi]
theorem flatL_set : ∀ (ks : List Wk) (k i : Nat) (κ κ' : Wk) (v : Value), ks[k]? = some κ → i < 6 → κ'.cells = κ.cells.set i v → (flatL ks).set (k * 6 + i) v = flatL (ks.set k κ')
  | [], k, i, κ, κ', v, h, _, _ => by simp at h
  | z :: ks, 0, i, κ, κ', v, h, hi, e => by
    simp at h
    subst h
    rw [List.set_cons_zero, flatL, flatL, e, List.set_append_left _ _ (by simp [Wk.cells]; omega)]
    simp
  | z :: ks, k + 1, i, κ, κ', v, h, hi, e => by
    have := flatL_set ks k i κ κ' v (by simpa using h) hi e
    rw [List.set_cons_succ, flatL, flatL, ← this, List.set_append_right _ _ (by simp [Wk.cells]; omega)]
    rw [show ((k + 1) * 6 + i - z.cells.length) = k * 6 + i by simp [Wk.cells]; omega]
theorem flat_set {ks : List Wk} {k i : Nat} {κ κ' : Wk} {v : Value} (h : ks[k]? = some κ) (hi : i < 6) (e : κ'.cells = κ.cells.set i v) : (flat ks).setIfInBounds (k * 6 + i) v = flat (ks.set k κ') := by
  unfold flat
  rw [List.setIfInBounds_toArray, flatL_set ks k i κ κ' v h hi e]
theorem flat_put3 {ks : List Wk} {k : Nat} {κ : Wk} (h : ks[k]? = some κ) (r : Rw) (l : List (List UInt8)) : put3 (flat ks) (k * 6) r.c0 r.c1 (.int .i64 (l.length : Int)) = flat (ks.set k { κ with r := r, l := l }) := by
  have hk := (List.getElem?_eq_some_iff.1 h).1
  have hs := flat_size ks
  apply Array.ext_getElem?
  intro j
  by_cases hj : k * 6 ≤ j ∧ j < k * 6 + 6
  · obtain ⟨i, rfl⟩ : ∃ i, j = k * 6 + i := ⟨j - k * 6, by omega⟩
    have hi : i < 6 := by omega
    have h2 : (ks.set k { κ with r := r, l := l })[k]? = some { κ with r := r, l := l } := by simp [hk]
    rw [flat_at h2 hi]
    rcases Nat.lt_or_ge i 3 with q | q
    · obtain rfl | rfl | rfl : i = 0 ∨ i = 1 ∨ i = 2 := by omega
      · exact put3_0 (by omega)
      · exact put3_1 (by omega)
      · exact put3_2 (by omega)
    · rw [put3_off (by omega), flat_at h hi]
      obtain rfl | rfl | rfl : i = 3 ∨ i = 4 ∨ i = 5 := by omega
      all_goals rfl
  · rw [put3_off (by omega)]
    rcases Nat.lt_or_ge j (ks.length * 6) with q | q
    · obtain ⟨m, i, hi, rfl⟩ : ∃ m i, i < 6 ∧ j = m * 6 + i := ⟨j / 6, j % 6, Nat.mod_lt _ (by omega), by omega⟩
      have hm : m < ks.length := by omega
      have hne : m ≠ k := by omega
      obtain ⟨κm, hκ⟩ : ∃ κm, ks[m]? = some κm := ⟨ks[m], by simp [hm]⟩
      rw [flat_at hκ hi, flat_at (κ := κm) (by rw [List.getElem?_set_ne (Ne.symm hne)]; exact hκ) hi]
    · rw [Array.getElem?_eq_none (by omega), Array.getElem?_eq_none (by rw [flat_size, List.length_set]; exact q)]
/-- The workers' block, and the rings. -/
structure Ws (w : World) (b : Nat) (ks : List Wk) : Prop where
  box : Is w b (flat ks)
  rows : ∀ κ ∈ ks, κ.r.At w κ.l ∧ ¬ κ.r.F b
  sep : ks.Pairwise fun x y => ∀ g, x.r.F g → ¬ y.r.F g
def wsF (b : Nat) (ks : List Wk) (k : Nat) : Prop := k = b ∨ ∃ κ ∈ ks, κ.r.F k
def wsT (b : Nat) (ks : List Wk) : Th where
  P w := Ws w b ks
  F := wsF b ks
  keep h ho hs := ⟨h.box.keep ho (hs b (.inl rfl)), fun κ hκ => ⟨Rw.keep (h.rows κ hκ).1 ho (fun k hk => hs k (.inr ⟨κ, hκ, hk⟩)), (h.rows κ hκ).2⟩, h.sep⟩
  lt h k hk := by
    rcases hk with rfl | ⟨κ, hκ, hk⟩
    · exact h.box.lt
    · exact Rw.lt (h.rows κ hκ).1 k hk
section
variable {w w' : World} {b : Nat} {ks : List Wk} {k : Nat} {κ : Wk}
theorem Ws.keep (h : Ws w b ks) (hb : Below w.heap.size w w') : Ws w' b ks := (wsT b ks).keep (S := fun _ => False) h (Only.of_below hb) (fun _ _ q => q)
theorem Ws.cells (h : Ws w b ks) : ∀ j, wsF b ks j → ∃ o : Obj, w.heap[j]? = some o ∧ o.isCells = true := fun j hj => by
  rcases hj with rfl | ⟨κ, hκ, hk⟩
  · exact is_cells h.box
  · exact Rw.cells (h.rows κ hκ).1 j hk
theorem Ws.at (h : Ws w b ks) (hk : ks[k]? = some κ) : (w.cell? ⟨b, k * 6 + 3, none⟩ = some (Value.string ⟨(κ.x).toArray⟩) ∧ w.cell? ⟨b, k * 6 + 4, none⟩ = some (.bool κ.h) ∧ w.cell? ⟨b, k * 6 + 5, none⟩ = some (.bool κ.u)) ∧ ∀ i, w.frozen? ⟨b, i, none⟩ = false :=
  ⟨⟨h.box.cell _ (by rw [flat_at hk (by omega)]; rfl), h.box.cell _ (by rw [flat_at hk (by omega)]; rfl), h.box.cell _ (by rw [flat_at hk (by omega)]; rfl)⟩, fun i => h.box.frozen i⟩
/-- A worker's deque. -/
theorem Ws.sh (h : Ws w b ks) (hk : ks[k]? = some κ) : (κ.r.sh b (k * 6) (flat ks)).At w κ.l ∧ (κ.r.sh b (k * 6) (flat ks)).place = some (b, k * 6, flat ks) ∧ ∀ j, (κ.r.sh b (k * 6) (flat ks)).has j ↔ j = b ∨ κ.r.F j := by
  have hl := (List.getElem?_eq_some_iff.1 hk).1
  obtain ⟨h1, h2⟩ := h.rows κ (List.mem_of_getElem? hk)
  exact Rw.to h1 h.box (by rw [flat_size]; omega) (by have := flat_at (i := 0) hk (by omega); simpa [Wk.cells] using this) (by rw [flat_at hk (by omega)]; rfl) (by rw [flat_at hk (by omega)]; rfl) h2
/-- Another ring than the one that is turned. -/
theorem Ws.apart (h : Ws w b ks) (hk : ks[k]? = some κ) {j : Nat} {κ' : Wk} (hj : ks[j]? = some κ') (hne : j ≠ k) : ∀ g, κ'.r.F g → ¬ κ.r.F g := by
  have hs := h.sep
  rw [List.pairwise_iff_getElem] at hs
  obtain ⟨l1, e1⟩ := List.getElem?_eq_some_iff.1 hk
  obtain ⟨l2, e2⟩ := List.getElem?_eq_some_iff.1 hj
  intro g hg hg2
  rcases Nat.lt_or_gt_of_ne hne with q | q
  · exact hs j k l2 l1 q g (e2 ▸ hg) (e1 ▸ hg2)
  · exact hs k j l1 l2 q g (e1 ▸ hg2) (e2 ▸ hg)
/-- A worker's deque is turned. -/
theorem Ws.turn (h : Ws w b ks) (hk : ks[k]? = some κ) {l' : List (List UInt8)} (ht : Turned w (b, k * 6, flat ks) (κ.r.sh b (k * 6) (flat ks)).has l' w') :
    ∃ r', Ws w' b (ks.set k { κ with r := r', l := l' }) ∧ Only (wsF b ks) w w' ∧ ∀ j, wsF b (ks.set k { κ with r := r', l := l' }) j → wsF b ks j ∨ w.heap.size ≤ j := by
  obtain ⟨⟨s', q1, q2, q3⟩, q4⟩ := ht
  obtain ⟨r', p1, p2, p3, p4⟩ := Rw.of q1 q2
  obtain ⟨s1, s2, s3⟩ := h.sh hk
  have hlen := (List.getElem?_eq_some_iff.1 hk).1
  have hF : ∀ j, r'.F j → (κ.r.F j ∨ w.heap.size ≤ j) ∧ j ≠ b := fun j hj => by
    have hb : j ≠ b := fun e => p3 (e ▸ hj)
    rcases q3 j (p4 j hj) with q | q
    · rcases (s3 j).1 q with q | q
      · exact absurd q hb
      · exact ⟨.inl q, hb⟩
    · exact ⟨.inr q, hb⟩
  have hmem : ∀ j, κ.r.F j → wsF b ks j := fun j hj => .inr ⟨κ, List.mem_of_getElem? hk, hj⟩
  have hOnly : Only (fun j => j = b ∨ κ.r.F j) w w' := q4.mono (fun j hj => (s3 j).1 hj)
  have hother : ∀ (j : Nat) (κ' : Wk), ks[j]? = some κ' → j ≠ k → κ'.r.At w' κ'.l ∧ ¬ κ'.r.F b ∧ (∀ g, κ'.r.F g → ¬ r'.F g) := fun j κ' hj hne => by
    obtain ⟨g1, g2⟩ := h.rows κ' (List.mem_of_getElem? hj)
    have hap := h.apart hk hj hne
    refine ⟨Rw.keep g1 hOnly (fun g hg q => ?_), g2, fun g hg hg2 => ?_⟩
    · rcases q with rfl | q
      · exact g2 hg
      · exact hap g hg q
    · rcases (hF g hg2).1 with q | q
      · exact hap g hg q
      · have := Rw.lt g1 g hg; omega
  refine ⟨r', ⟨by rw [← flat_put3 hk]; exact p2, fun κ' hκ' => ?_, ?_⟩, hOnly.mono (fun j hj => hj.elim (fun e => .inl e) (fun q => hmem j q)), fun j hj => ?_⟩
  · obtain ⟨j, hj⟩ := List.getElem?_of_mem hκ'
    by_cases e : j = k
    · subst e
      rw [List.getElem?_set_self hlen] at hj
      cases hj
      exact ⟨p1, p3⟩
    · rw [List.getElem?_set_ne (Ne.symm e)] at hj
      obtain ⟨g1, g2, _⟩ := hother j κ' hj e
      exact ⟨g1, g2⟩
  · rw [List.pairwise_iff_getElem]
    intro i j hi hj hij g hg hg2
    simp only [List.length_set] at hi hj
    rw [List.getElem_set] at hg hg2
    split at hg
    · rename_i e
      subst e
      rw [if_neg (by omega)] at hg2
      exact (hother j _ (by simp [hj]) (by omega)).2.2 g hg2 hg
    · rename_i e
      split at hg2
      · rename_i e2
        subst e2
        exact (hother i _ (by simp [hi]) (by omega)).2.2 g hg hg2
      · have hs := h.sep
        rw [List.pairwise_iff_getElem] at hs
        exact hs i j hi hj hij g hg hg2
  · rcases hj with rfl | ⟨κ', hκ', hj⟩
    · exact .inl (.inl rfl)
    · obtain ⟨i, hi⟩ := List.getElem?_of_mem hκ'
      by_cases e : i = k
      · subst e
        rw [List.getElem?_set_self hlen] at hi
        cases hi
        rcases (hF j hj).1 with q | q
        · exact .inl (hmem j q)
        · exact .inr q
      · rw [List.getElem?_set_ne (Ne.symm e)] at hi
        exact .inl (.inr ⟨κ', List.mem_of_getElem? hi, hj⟩)
/-- One of a worker's other cells is turned. -/
theorem Ws.put (h : Ws w b ks) (hk : ks[k]? = some κ) (κ' : Wk) {i : Nat} {v : Value} (hi : i < 6) (e : κ'.cells = κ.cells.set i v) (hr : κ'.r = κ.r) (hl : κ'.l = κ.l) : Ws (w.setCell ⟨b, k * 6 + i, none⟩ v) b (ks.set k κ') ∧ ∀ j, wsF b (ks.set k κ') j → wsF b ks j := by
  have hlen := (List.getElem?_eq_some_iff.1 hk).1
  have hmem : ∀ x ∈ ks.set k κ', ∃ y ∈ ks, x.r = y.r ∧ x.l = y.l := fun x hx => by
    rcases List.mem_or_eq_of_mem_set hx with q | q
    · exact ⟨x, q, rfl, rfl⟩
    · subst q; exact ⟨κ, List.mem_of_getElem? hk, hr, hl⟩
  refine ⟨⟨by rw [← flat_set hk hi e]; exact h.box.set _ v, fun x hx => ?_, ?_⟩, fun j hj => ?_⟩
  · obtain ⟨y, hy, e1, e2⟩ := hmem x hx
    rw [e1, e2]
    obtain ⟨g1, g2⟩ := h.rows y hy
    exact ⟨Rw.keep g1 ((Only.refl (fun j => j = b) _).put _ _) (fun j hj q => g2 (q ▸ hj)), g2⟩
  · rw [List.pairwise_iff_getElem]
    intro i j hi hj hij
    simp only [List.length_set] at hi hj
    have hs := h.sep
    rw [List.pairwise_iff_getElem] at hs
    have := hs i j hi hj hij
    rw [List.getElem_set, List.getElem_set]
    obtain ⟨_, e1⟩ := List.getElem?_eq_some_iff.1 hk
    split <;> split <;> simp_all
  · rcases hj with rfl | ⟨x, hx, hj⟩
    · exact .inl rfl
    · obtain ⟨y, hy, e1, _⟩ := hmem x hx
      exact .inr ⟨y, hy, e1 ▸ hj⟩
end
end Go.Proofs.YtkjhamcmhijhgaaGreat.DqS

/- A pool as it lies; how many jobs wait, and how many are left. -/
namespace Go.Proofs.YtkjhamcmhijhgaaGreat.DqS
open Go.RowKit Go.Proofs.YtkjhamcmhijhgaaGreat.Dig Go.Proofs.YtkjhamcmhijhgaaGreat.Mem Go.Proofs.YtkjhamcmhijhgaaGreat.Dq Go.Proofs.YtkjhamcmhijhgaaGreat.Bit Go.Proofs.YtkjhamcmhijhgaaGreat.Thing Go.Proofs.YtkjhamcmhijhgaaGreat.Pool Go.Shelf
set_option linter.unusedVariables false
set_option linter.unusedSimpArgs false

/-- The pool's own cells. -/
def pcells (b n sb nx dn st : Nat) (v : Value) : Array Value := #[.slice (some ⟨b, 0, none⟩) n n, .pointer (some ⟨sb, 0, none⟩), .int .i64 (nx : Int), .int .i64 (dn : Int), .int .i64 (st : Int), v]
def wl (ks : List Wk) : List (W1 (List UInt8)) := ks.map Wk.p
theorem wl_length (ks : List Wk) : (wl ks).length = ks.length := by simp [wl]
theorem wl_at {ks : List Wk} {k : Nat} {κ : Wk} (h : ks[k]? = some κ) : (wl ks)[k]? = some κ.p := by simp [wl, h]
theorem wl_set (ks : List Wk) (k : Nat) (κ : Wk) : wl (ks.set k κ) = (wl ks).set k κ.p := by simp [wl, List.map_set]
section
variable {w : World} {p b sb nx dn st : Nat} {v : Value} {ks : List Wk}
theorem six {n : Nat} (h : Is w p (pcells b n sb nx dn st v)) : (w.cell? ⟨p, 0, none⟩ = some (.slice (some ⟨b, 0, none⟩) n n) ∧ w.cell? ⟨p, 1, none⟩ = some (.pointer (some ⟨sb, 0, none⟩)) ∧ w.cell? ⟨p, 2, none⟩ = some (.int .i64 (nx : Int)) ∧ w.cell? ⟨p, 3, none⟩ = some (.int .i64 (dn : Int)) ∧ w.cell? ⟨p, 4, none⟩ = some (.int .i64 (st : Int)) ∧ w.cell? ⟨p, 5, none⟩ = some v) ∧ ∀ i, w.frozen? ⟨p, i, none⟩ = false :=
  ⟨⟨h.cell 0 rfl, h.cell 1 rfl, h.cell 2 rfl, h.cell 3 rfl, h.cell 4 rfl, h.cell 5 rfl⟩, fun i => h.frozen i⟩
theorem wait_le {ks : List (W1 (List UInt8))} {k : Nat} : waitL (ks.take k) ≤ waitL ks := by
  unfold waitL
  conv => rhs; rw [← List.take_append_drop k ks]
  rw [List.map_append, List.sum_append]
  omega
theorem wait_succ {ks : List (W1 (List UInt8))} {k : Nat} {κ : W1 (List UInt8)} (h : ks[k]? = some κ) : waitL (ks.take (k + 1)) = waitL (ks.take k) + κ.l.length := by
  unfold waitL
  rw [List.take_add_one, h, List.map_append, List.sum_append]
  simp
set_option maxHeartbeats 1000000 in
theorem waiting_any (hp : Is w p (pcells b ks.length sb nx dn st v)) (hw : Ws w b ks) (hn : ks.length ≤ 64) (hl : waitL (wl ks) ≤ 1000000) : Calls Tryz.prog 45 #[.pointer (some ⟨p, 0, none⟩)] w fun e w' => e = .returned (.int .i64 (waitL (wl ks) : Int)) ∧ w' = w := by
  obtain ⟨⟨c0, _⟩, _⟩ := six hp
  have HLN : Hid (∀ k κ, ks[k]? = some κ → Calls Tryz.prog 71 #[.pointer (some ⟨b, k * 6, none⟩)] w fun e w' => e = .returned (.int .i64 (κ.l.length : Int)) ∧ w' = w) := hide (fun k κ hk => by
    obtain ⟨s1, s2, _⟩ := hw.sh hk
    have := len_sh s1
    rw [Sh.ptr_of s2] at this
    exact this)
  have HWL := hide (wl_length ks)
  have HT : Hid (∀ k κ, ks[k]? = some κ → waitL ((wl ks).take (k + 1)) = waitL ((wl ks).take k) + κ.l.length ∧ waitL ((wl ks).take (k + 1)) ≤ 1000000) := hide (fun k κ hk => ⟨wait_succ (wl_at hk), Nat.le_trans wait_le hl⟩)
  obtain ⟨n, hn'⟩ : ∃ n, n = ks.length := ⟨_, rfl⟩
  have HN := hide hn'
  rw [← hn'] at c0 hn
  clear hp hw hn' hl
  go_enter Tryz.func45, Tryz.ntmps45
  go_wp2
  go_loopw [3, 10] (fun a i wr => wr = w ∧ ∃ j : Nat, j ≤ n ∧ i = .int .i64 (j : Int) ∧ a = .int .i64 (waitL ((wl ks).take j) : Int)) (fun _ i _ => n - (intOf i).toNat)
  case atStart => exact ⟨rfl, 0, Nat.zero_le _, rfl, by simp [waitL]⟩
  case round =>
    obtain ⟨hw, j, hj, rfl, rfl⟩ := hrel
    replace hw := hw.symm
    subst hw
    by_cases hlt : j < n
    · obtain ⟨κ, hκ⟩ : ∃ κ, ks[j]? = some κ := ⟨ks[j]'(by rw [← HN.out]; exact hlt), by simp [← HN.out, hlt]⟩
      have HL := hide (HLN.out j κ hκ)
      obtain ⟨h1, h2⟩ := HT.out j κ hκ
      obtain ⟨q, hq⟩ : ∃ q, q = κ.l.length := ⟨_, rfl⟩
      obtain ⟨m, hm⟩ : ∃ m, m = waitL ((wl ks).take j) := ⟨_, rfl⟩
      rw [← hq] at HL h1
      rw [← hm] at h1 ⊢
      rw [h1] at h2
      have H1 := hide h1
      have hji : (j : Int) < n := by omega
      clear hκ h1 hq hm
      go_wp2_with (go_at_call 71; go_must ((with_reducible refine (Hid.out HL).mono ?_); rintro e w9 ⟨rfl, rfl⟩))
      go_roundw
      case rel => exact ⟨trivial, j + 1, by omega, by simp, by rw [H1.out]; simp⟩
      case measure => simp [intOf]; omega
    · obtain rfl : j = n := by omega
      have hji : ¬ (j : Int) < j := by omega
      have HE : Hid (waitL ((wl ks).take j) = waitL (wl ks)) := hide (by rw [List.take_of_length_le (by rw [HWL.out, ← HN.out]; exact Nat.le_refl _)])
      go_wp2
      go_ret
      rw [HE.out]
      exact ⟨rfl, rfl⟩
def heldL (ks : List (W1 (List UInt8))) : Nat := (ks.map fun κ => if κ.h = true then 1 else 0).sum
theorem held_le {ks : List (W1 (List UInt8))} : heldL ks ≤ ks.length := by
  unfold heldL
  induction ks with
  | nil => simp
  | cons κ ks ih => simp only [List.map_cons, List.sum_cons, List.length_cons]; split <;> omega
theorem held_succ {ks : List (W1 (List UInt8))} {k : Nat} {κ : W1 (List UInt8)} (h : ks[k]? = some κ) : heldL (ks.take (k + 1)) = heldL (ks.take k) + (if κ.h = true then 1 else 0) := by
  unfold heldL
  rw [List.take_add_one, h, List.map_append, List.sum_append]
  simp
set_option maxHeartbeats 1000000 in
theorem left_any (hp : Is w p (pcells b ks.length sb nx dn st v)) (hw : Ws w b ks) (hn : ks.length ≤ 64) (hl : waitL (wl ks) ≤ 1000000) : Calls Tryz.prog 27 #[.pointer (some ⟨p, 0, none⟩)] w fun e w' => e = .returned (.int .i64 (leftL (wl ks) : Int)) ∧ w' = w := by
  have HW := hide (waiting_any hp hw hn hl)
  obtain ⟨⟨c0, _⟩, _⟩ := six hp
  have HC : Hid (∀ k κ, ks[k]? = some κ → w.cell? ⟨b, k * 6 + 4, none⟩ = some (.bool κ.h)) := hide (fun k κ hk => (hw.at hk).1.2.1)
  have HWL := hide (wl_length ks)
  have HT : Hid (∀ k κ, ks[k]? = some κ → heldL ((wl ks).take (k + 1)) = heldL ((wl ks).take k) + (if κ.h = true then 1 else 0)) := hide (fun k κ hk => held_succ (wl_at hk))
  have HLE : Hid (∀ k, k ≤ 64 → heldL ((wl ks).take k) ≤ 64) := hide (fun k hk => Nat.le_trans held_le (by rw [List.length_take]; omega))
  have HLF : Hid (leftL (wl ks) = waitL (wl ks) + heldL (wl ks)) := hide rfl
  obtain ⟨n, hn'⟩ : ∃ n, n = ks.length := ⟨_, rfl⟩
  have HN := hide hn'
  rw [← hn'] at c0 hn
  obtain ⟨q, hq⟩ : ∃ q, q = waitL (wl ks) := ⟨_, rfl⟩
  rw [← hq] at HW HLF hl
  rw [HLF.out]
  clear hp hw hn' hq
  go_enter Tryz.func27, Tryz.ntmps27
  go_wp2_with (go_at_call 45; go_must ((with_reducible refine (Hid.out HW).mono ?_); rintro e w9 ⟨rfl, rfl⟩))
  go_loopw [3, 14] (fun a i wr => wr = w9 ∧ ∃ j : Nat, j ≤ n ∧ i = .int .i64 (j : Int) ∧ a = .int .i64 ((q : Int) + (heldL ((wl ks).take j) : Int))) (fun _ i _ => n - (intOf i).toNat)
  case atStart => exact ⟨rfl, 0, Nat.zero_le _, rfl, by simp [heldL]⟩
  case round =>
    obtain ⟨hw, j, hj, rfl, rfl⟩ := hrel
    replace hw := hw.symm
    subst hw
    by_cases hlt : j < n
    · obtain ⟨κ, hκ⟩ : ∃ κ, ks[j]? = some κ := ⟨ks[j]'(by rw [← HN.out]; exact hlt), by simp [← HN.out, hlt]⟩
      have hc := HC.out j κ hκ
      have h1 := HT.out j κ hκ
      have h2 := HLE.out j (by omega)
      obtain ⟨m, hm⟩ : ∃ m, m = heldL ((wl ks).take j) := ⟨_, rfl⟩
      rw [← hm] at h1 h2 ⊢
      obtain ⟨f, hf⟩ : ∃ f, f = κ.h := ⟨_, rfl⟩
      rw [← hf] at hc h1
      have hji : (j : Int) < n := by omega
      clear hκ hm hf HLE HC HT
      cases f with
      | true =>
        have H1 := hide h1
        clear h1
        go_wp2
        go_roundw
        case rel => exact ⟨trivial, j + 1, by omega, by simp, by rw [H1.out]; simp; omega⟩
        case measure => simp [intOf]; omega
      | false =>
        have H1 := hide h1
        clear h1
        go_wp2
        go_roundw
        case rel => exact ⟨trivial, j + 1, by omega, by simp, by rw [H1.out]; simp⟩
        case measure => simp [intOf]; omega
    · obtain rfl : j = n := by omega
      have hji : ¬ (j : Int) < j := by omega
      have HE : Hid (heldL ((wl ks).take j) = heldL (wl ks)) := hide (by rw [List.take_of_length_le (by rw [HWL.out, ← HN.out]; exact Nat.le_refl _)])
      clear HLE HC HT
      go_wp2
      go_ret
      rw [HE.out]
      exact ⟨by simp, rfl⟩
theorem left_nil (w : World) : Calls Tryz.prog 27 #[.pointer none] w fun e w' => e = .returned (.int .i64 0) ∧ w' = w := by
  go_enter Tryz.func27, Tryz.ntmps27
  go_wp2
  go_ret
  exact ⟨rfl, rfl⟩
theorem done_any {n : Nat} (hp : Is w p (pcells b n sb nx dn st v)) : Calls Tryz.prog 25 #[.pointer (some ⟨p, 0, none⟩)] w fun e w' => e = .returned (.int .i64 (dn : Int)) ∧ w' = w := by
  obtain ⟨⟨c0, c1, c2, c3, c4, c5⟩, _⟩ := six hp
  clear hp
  go_enter Tryz.func25, Tryz.ntmps25
  go_wp2
  go_ret
  exact ⟨rfl, rfl⟩
theorem done_nil (w : World) : Calls Tryz.prog 25 #[.pointer none] w fun e w' => e = .returned (.int .i64 0) ∧ w' = w := by
  go_enter Tryz.func25, Tryz.ntmps25
  go_wp2
  go_ret
  exact ⟨rfl, rfl⟩
theorem stolen_any {n : Nat} (hp : Is w p (pcells b n sb nx dn st v)) : Calls Tryz.prog 26 #[.pointer (some ⟨p, 0, none⟩)] w fun e w' => e = .returned (.int .i64 (st : Int)) ∧ w' = w := by
  obtain ⟨⟨c0, c1, c2, c3, c4, c5⟩, _⟩ := six hp
  clear hp
  go_enter Tryz.func26, Tryz.ntmps26
  go_wp2
  go_ret
  exact ⟨rfl, rfl⟩
theorem stolen_nil (w : World) : Calls Tryz.prog 26 #[.pointer none] w fun e w' => e = .returned (.int .i64 0) ∧ w' = w := by
  go_enter Tryz.func26, Tryz.ntmps26
  go_wp2
  go_ret
  exact ⟨rfl, rfl⟩
/-- A pool that no call made. -/
def unmade : Array Value := #[.slice none 0 0, .pointer none, .int .i64 0, .int .i64 0, .int .i64 0, .slice none 0 0]
theorem six0 (h : Is w p unmade) : w.cell? ⟨p, 0, none⟩ = some (.slice none 0 0) ∧ w.cell? ⟨p, 1, none⟩ = some (.pointer none) ∧ w.cell? ⟨p, 2, none⟩ = some (.int .i64 0) ∧ w.cell? ⟨p, 3, none⟩ = some (.int .i64 0) ∧ w.cell? ⟨p, 4, none⟩ = some (.int .i64 0) ∧ w.cell? ⟨p, 5, none⟩ = some (.slice none 0 0) :=
  ⟨h.cell 0 rfl, h.cell 1 rfl, h.cell 2 rfl, h.cell 3 rfl, h.cell 4 rfl, h.cell 5 rfl⟩
theorem done_un (h : Is w p unmade) : Calls Tryz.prog 25 #[.pointer (some ⟨p, 0, none⟩)] w fun e w' => e = .returned (.int .i64 0) ∧ w' = w := by
  obtain ⟨c0, c1, c2, c3, c4, c5⟩ := six0 h
  clear h
  go_enter Tryz.func25, Tryz.ntmps25
  go_wp2
  go_ret
  exact ⟨rfl, rfl⟩
theorem stolen_un (h : Is w p unmade) : Calls Tryz.prog 26 #[.pointer (some ⟨p, 0, none⟩)] w fun e w' => e = .returned (.int .i64 0) ∧ w' = w := by
  obtain ⟨c0, c1, c2, c3, c4, c5⟩ := six0 h
  clear h
  go_enter Tryz.func26, Tryz.ntmps26
  go_wp2
  go_ret
  exact ⟨rfl, rfl⟩
theorem waiting_un (h : Is w p unmade) : Calls Tryz.prog 45 #[.pointer (some ⟨p, 0, none⟩)] w fun e w' => e = .returned (.int .i64 0) ∧ w' = w := by
  obtain ⟨c0, c1, c2, c3, c4, c5⟩ := six0 h
  clear h
  go_enter Tryz.func45, Tryz.ntmps45
  go_wp2
  go_loopw [3, 10] (fun a i wr => wr = w ∧ a = .int .i64 0 ∧ i = .int .i64 0) (fun _ _ _ => 0)
  case atStart => exact ⟨rfl, rfl, rfl⟩
  case round =>
    obtain ⟨hw, rfl, rfl⟩ := hrel
    replace hw := hw.symm
    subst hw
    go_wp2
    go_ret
    exact ⟨rfl, rfl⟩
theorem left_un (h : Is w p unmade) : Calls Tryz.prog 27 #[.pointer (some ⟨p, 0, none⟩)] w fun e w' => e = .returned (.int .i64 0) ∧ w' = w := by
  have HW := hide (waiting_un h)
  obtain ⟨c0, c1, c2, c3, c4, c5⟩ := six0 h
  clear h
  go_enter Tryz.func27, Tryz.ntmps27
  go_wp2_with (go_at_call 45; go_must ((with_reducible refine (Hid.out HW).mono ?_); rintro e w9 ⟨rfl, rfl⟩))
  go_loopw [3, 14] (fun a i wr => wr = w9 ∧ a = .int .i64 0 ∧ i = .int .i64 0) (fun _ _ _ => 0)
  case atStart => exact ⟨rfl, rfl, rfl⟩
  case round =>
    obtain ⟨hw, rfl, rfl⟩ := hrel
    replace hw := hw.symm
    subst hw
    go_wp2
    go_ret
    exact ⟨rfl, rfl⟩
end
end Go.Proofs.YtkjhamcmhijhgaaGreat.DqS

/- The two functions that a pool's loops go through: the workers that are ready, and the others behind one, going round. -/
namespace Go.Proofs.YtkjhamcmhijhgaaGreat.DqS
open Go.RowKit Go.Proofs.YtkjhamcmhijhgaaGreat.Dig Go.Proofs.YtkjhamcmhijhgaaGreat.Mem Go.Proofs.YtkjhamcmhijhgaaGreat.Dq Go.Proofs.YtkjhamcmhijhgaaGreat.Bit Go.Proofs.YtkjhamcmhijhgaaGreat.Thing Go.Proofs.YtkjhamcmhijhgaaGreat.Pool Go.Shelf
set_option linter.unusedVariables false
set_option linter.unusedSimpArgs false
attribute [local go_sem] Oper.semAt_some

theorem ready_clo (q : Option Addr) (w : World) :
    Calls Tryz.prog 42 #[.pointer q] w fun e w' => e = .returned (.func (.func 66) #[] #[.pointer (some ⟨w.heap.size, 0, none⟩)]) ∧ w' = w.alloc (.cells #[.pointer q] 50) := by
  go_enter Tryz.func42, Tryz.ntmps42
  go_wp2
  go_ret
  exact ⟨rfl, rfl⟩
theorem others_clo (q : Option Addr) (k : Nat) (w : World) :
    Calls Tryz.prog 69 #[.pointer q, .int .i64 (k : Int)] w fun e w' => e = .returned (.func (.func 82) #[] #[.pointer (some ⟨w.heap.size, 0, none⟩), .pointer (some ⟨w.heap.size + 1, 0, none⟩)]) ∧ w' = (w.alloc (.cells #[.pointer q] 50)).alloc (.cells #[.int .i64 (k : Int)] 3) := by
  go_enter Tryz.func69, Tryz.ntmps69
  go_wp2
  go_ret
  exact ⟨rfl, rfl⟩
def encO (b k n : Nat) (x : Int) : Array Value := #[.pointer (some ⟨b, ((k + (x.toNat + 1)) % n) * 6, none⟩)]
def DueO (n : Nat) (pre : List Int) (x : Int) : Prop := ∃ d : Nat, x = (d : Int) ∧ d + 1 < n ∧ pre = upTo d
set_option maxRecDepth 100000 in
set_option maxHeartbeats 2000000 in
theorem othersc_led (B B2 p b k n : Nat) (hk : k < n) (hn : n ≤ 64) (I : List Int → World → Prop) (hI : ∀ pre W, I pre W → W.cell? ⟨B, 0, none⟩ = some (.pointer (some ⟨p, 0, none⟩)) ∧ W.cell? ⟨B2, 0, none⟩ = some (.int .i64 (k : Int)) ∧ W.cell? ⟨p, 0, none⟩ = some (.slice (some ⟨b, 0, none⟩) n n)) :
    Led Fence.wide 2 Tryz.prog 82 #[.pointer (some ⟨B, 0, none⟩), .pointer (some ⟨B2, 0, none⟩)] (encO b k n) I (DueO n) (fun xs => xs = upTo (n - 1)) (fun _ => True) := fun f J Jx W hJI hJ hJx hY h0 => by
  refine callsIn_of_wp Tryz.func82 rfl trivial ?_ rfl
  simp only [Tryz.ntmps82, List.size_toArray, List.length_cons, List.length_nil, Nat.reduceAdd, Nat.reduceSub, Array.replicate_succ, Array.replicate_zero, List.push_toArray, List.append_toArray, List.nil_append, List.cons_append]
  have HI := hide (fun pre W h => hI pre W (hJI pre W h))
  obtain ⟨k1, k2, k3⟩ := HI.out _ _ h0
  clear hI hJI
  gi_wp2
  clear k1 k2 k3
  gi_loopw [5] (fun i wr => ∃ d : Nat, d + 1 ≤ n ∧ i = .int .i64 ((d : Int) + 1) ∧ J (upTo d) wr) (fun i _ => n - (intOf i).toNat)
  case atStart => exact ⟨0, by omega, by simp, h0⟩
  case round =>
    obtain ⟨d, hd, rfl, hJs⟩ := hrel
    obtain ⟨k1, k2, k3⟩ := HI.out _ _ hJs
    by_cases hlt : d + 1 < n
    · have hy : ∀ q : Nat, ∃ fn tmps assign body, _ := fun q => hY _ (d : Int) (wr.drewN q) (abides hJ hJs (below_of_drewN q)) ⟨d, rfl, hlt, rfl⟩
      simp only [encO, Int.toNat_natCast] at hy
      obtain ⟨v, hv⟩ : ∃ v, v = (k + (d + 1)) % n := ⟨_, rfl⟩
      rw [← hv] at hy
      have hm : ((k : Int) + ((d : Int) + 1)).tmod (n : Int) = (v : Int) := by
        rw [hv, ← tmod_nat]; simp
      have hvn : v < n := by rw [hv]; exact Nat.mod_lt _ (by omega)
      have hvi : (v : Int) < n := by omega
      have hn0 : ¬ (n : Int) = 0 := by omega
      have hli : (d : Int) + 1 < n := by omega
      have HY := hide hy
      clear hy hv hJs
      gi_wp2
      refine Round.wpIn_region_tail (F := Fence.wide) (Round.Grants.refl _ _ _) (by kernel_rfl) 11 rfl rfl (by kernel_rfl) (by kernel_rfl) (by kernel_rfl) (by kernel_rfl) (by kernel_rfl) (by kernel_rfl) ?_
      simp only [List.take, List.drop]
      repeat (first | (gi_big_quiet_step (fail)) | (refine BigFrame.wpQuietIn_want (fun _ _ _ _ => trivial) rfl ?_; intro K hK; gi_big_quiet_op; gi_big_quiet_call ((fail))))
      refine wpQuietIn_nil ?_
      rintro _ ⟨nq, rfl⟩
      obtain ⟨fn, tmps, assign, body, hy, hR⟩ := HY.out nq
      gi_wp2
      refine hR.mono ?_
      rintro e W3 (⟨rfl, hJ3⟩ | ⟨rfl, hJx3⟩)
      · gi_wp2
        go_roundw
        case rel => exact ⟨d + 1, by omega, by simp, by rw [upTo_succ]; exact hJ3⟩
        case measure => simp [intOf]; omega
      · gi_wp2
        refine bodyPost_ret (results_none rfl _ _ _) rfl ?_
        exact ⟨⟨_, rfl⟩, .inr ⟨_, trivial, hJx3⟩⟩
    · obtain rfl : n = d + 1 := by omega
      clear k1 k2 k3
      gi_wp2
      go_end0
      exact ⟨⟨_, rfl⟩, .inl ⟨_, rfl, hJs⟩⟩
def encR (x : Int) : Array Value := #[.int .i64 x]
def DueR (ks : List (W1 (List UInt8))) (pre : List Int) (x : Int) : Prop := ∃ k : Nat, x = (k : Int) ∧ rdy ks k = true ∧ pre = readyTo ks k
set_option maxRecDepth 100000 in
set_option maxHeartbeats 4000000 in
theorem readyc_led (B p b sb nx dn st : Nat) (v : Value) (ks : List Wk) (hn : ks.length ≤ 64) (hl : waitL (wl ks) ≤ 1000000) (hu : ∀ κ ∈ ks, κ.u = false) (I : List Int → World → Prop) (hI : ∀ pre W, I pre W → W.cell? ⟨B, 0, none⟩ = some (.pointer (some ⟨p, 0, none⟩)) ∧ Is W p (pcells b ks.length sb nx dn st v) ∧ Ws W b ks) :
    Led Fence.wide 2 Tryz.prog 66 #[.pointer (some ⟨B, 0, none⟩)] encR I (DueR (wl ks)) (fun xs => xs = readyL (wl ks)) (fun _ => True) := fun f J Jx W hJI hJ hJx hY h0 => by
  refine callsIn_of_wp Tryz.func66 rfl trivial ?_ rfl
  simp only [Tryz.ntmps66, List.size_toArray, List.length_cons, List.length_nil, Nat.reduceAdd, Nat.reduceSub, Array.replicate_succ, Array.replicate_zero, List.push_toArray, List.append_toArray, List.nil_append, List.cons_append]
  have HI := hide (fun pre W h => hI pre W (hJI pre W h))
  obtain ⟨k1, k2, k3⟩ := HI.out _ _ h0
  have HW := hide (waiting_any k2 k3 hn hl)
  obtain ⟨⟨c0, _⟩, _⟩ := six k2
  have HWL := hide (wl_length ks)
  have HU := hide hu
  obtain ⟨n, hn'⟩ : ∃ n, n = ks.length := ⟨_, rfl⟩
  have HN := hide hn'
  rw [← hn'] at c0 hn
  obtain ⟨q, hq⟩ : ∃ q, q = waitL (wl ks) := ⟨_, rfl⟩
  have HQ := hide hq
  rw [← hq] at HW hl
  clear hI hJI hu k2 k3 hn' hq
  gi_wp2_with (refine ⟨trivial, ?_⟩; gi_at_call 45; go_must ((with_reducible refine (callsIn_wide.2 (Hid.out HW)).mono ?_); rintro e w1 ⟨rfl, rfl⟩))
  obtain ⟨sm, hsm⟩ : ∃ sm, sm = decide (0 < q) := ⟨_, rfl⟩
  rw [← hsm]
  have HR : Hid (∀ k κ, ks[k]? = some κ → rdy (wl ks) k = (κ.h || sm)) := hide (fun k κ hk => by
    unfold rdy
    rw [wl_at hk, ← HQ.out, ← hsm]
    rfl)
  clear hsm HW k1 c0 HQ
  gi_loopw [14] (fun i wr => ∃ k : Nat, k ≤ n ∧ i = .int .i64 (k : Int) ∧ J (readyTo (wl ks) k) wr) (fun i _ => n - (intOf i).toNat)
  case atStart => exact ⟨0, Nat.zero_le _, rfl, h0⟩
  case round =>
    obtain ⟨k, hk, rfl, hJs⟩ := hrel
    obtain ⟨k1, k2, k3⟩ := HI.out _ _ hJs
    obtain ⟨⟨c0, _⟩, _⟩ := six k2
    rw [← HN.out] at c0
    by_cases hlt : k < n
    · obtain ⟨κ, hκ⟩ : ∃ κ, ks[k]? = some κ := ⟨ks[k]'(by rw [← HN.out]; exact hlt), by simp [← HN.out, hlt]⟩
      obtain ⟨⟨_, c4, c5⟩, _⟩ := k3.at hκ
      have hr := HR.out k κ hκ
      rw [HU.out κ (List.mem_of_getElem? hκ)] at c5
      obtain ⟨h, hh⟩ : ∃ h, h = κ.h := ⟨_, rfl⟩
      rw [← hh] at c4 hr
      have hli : (k : Int) < n := by omega
      cases hrd : rdy (wl ks) k with
      | true =>
        rw [hrd] at hr
        have HS : Hid (readyTo (wl ks) (k + 1) = readyTo (wl ks) k ++ [(k : Int)]) := hide (by rw [readyTo_succ, hrd]; rfl)
        obtain ⟨fn, tmps, assign, body, hy, hR⟩ := hY _ (k : Int) wr hJs ⟨k, rfl, hrd, rfl⟩
        simp only [encR] at hy
        clear hκ hh hrd hJs k2 k3
        cases h with
        | true =>
          clear hr
          gi_wp2
          refine hR.mono ?_
          rintro e W3 (⟨rfl, hJ3⟩ | ⟨rfl, hJx3⟩)
          · gi_wp2
            go_roundw
            case rel => exact ⟨k + 1, by omega, by simp, by rw [HS.out]; exact hJ3⟩
            case measure => simp [intOf]; omega
          · gi_wp2
            refine bodyPost_ret (results_none rfl _ _ _) rfl ?_
            exact ⟨⟨_, rfl⟩, .inr ⟨_, trivial, hJx3⟩⟩
        | false =>
          obtain rfl : sm = true := by simpa using hr.symm
          clear hr
          gi_wp2
          refine hR.mono ?_
          rintro e W3 (⟨rfl, hJ3⟩ | ⟨rfl, hJx3⟩)
          · gi_wp2
            go_roundw
            case rel => exact ⟨k + 1, by omega, by simp, by rw [HS.out]; exact hJ3⟩
            case measure => simp [intOf]; omega
          · gi_wp2
            refine bodyPost_ret (results_none rfl _ _ _) rfl ?_
            exact ⟨⟨_, rfl⟩, .inr ⟨_, trivial, hJx3⟩⟩
      | false =>
        rw [hrd] at hr
        obtain ⟨rfl, rfl⟩ : h = false ∧ sm = false := by simpa using hr.symm
        have HS : Hid (readyTo (wl ks) (k + 1) = readyTo (wl ks) k) := hide (by rw [readyTo_succ, hrd]; simp)
        clear hκ hh hrd hr k2 k3
        gi_wp2
        all_goals
          refine ⟨fun f e => (by cases e), ?_⟩
          gi_wp2
          go_roundw
          case rel => exact ⟨k + 1, by omega, by simp, by rw [HS.out]; exact hJs⟩
          case measure => simp [intOf]; omega
    · obtain rfl : k = n := by omega
      have hli : ¬ (k : Int) < k := by omega
      have HE : Hid (readyTo (wl ks) k = readyL (wl ks)) := hide (by unfold readyL; rw [HWL.out, HN.out])
      rw [HE.out] at hJs
      clear k1 k2 k3
      gi_wp2
      go_end0
      exact ⟨⟨_, rfl⟩, .inl hJs⟩
end Go.Proofs.YtkjhamcmhijhgaaGreat.DqS

/- A region in a round of a range over a function that draws, and holds loads beside calls and stores: it goes as one outside of any round, its loads taken first. -/
namespace Go.Proofs.YtkjhamcmhijhgaaGreat.Round
open Go Go.RowKit
set_option linter.unusedVariables false
set_option linter.unusedSimpArgs false

section
variable {P : Program} {ops : Array Oper} {Q : Exit → Act → World → Prop} {md : Region.Mode} {n l : Nat}
theorem wpIn_round_of_wp {o : Oper} {a : Act} {w : World} {K : Act → World → Prop} (hnd : ∀ c, o.op ≠ .defer c) (h : o.wp P a w K Q) : o.wpIn (Fence.wide.inRound l) n P a w K Q := by
  unfold Oper.wp at h
  unfold Oper.wpIn
  refine ⟨fun _ _ => trivial, ?_⟩
  rw [Oper.semAt_eq _ _ _ hnd]
  generalize (execOp a.eval o).run P w = r at *
  cases r with
  | ok x w' =>
    cases x <;> simp only [Oper.upon] at h <;> simp only [Oper.uponIn]
    case value u => exact h
    case skip => exact h
    case defer d => exact h
    case enter f args => exact ⟨fun q => by simp [Fence.wide] at q, CallsIn.inRound l (callsIn_wide.2 h)⟩
    case row row args =>
      refine ⟨fun q => by simp [Fence.wide] at q, fun c cs _ => ?_⟩
      obtain ⟨v, w'', r, s⟩ := h c cs
      exact ⟨v, w'', r, stepsIn_wide.2 s⟩
  | halt x w' =>
    cases x <;> simp only [Oper.upon] at h <;> simp only [Oper.uponIn]
    case panic v => exact h
theorem any_round (hnd : noDefer ops = true) (hno : ¬ LetsOut Q) : ∀ (fuel : Nat) (listed : Array Bool) (a : Act) (w : World), wpAny P md ops Q fuel listed a w → wpAnyIn (Fence.wide.inRound l) n P md ops Q fuel listed a w
  | 0, _, _, _, h => h
  | fuel + 1, listed, a, w, h => ⟨h.1, fun i hi => by
    have h2 := h.2 i hi
    unfold wpOp at h2
    unfold wpOpIn
    split
    · rename_i ho
      simp only [ho] at h2
      exact any_round hnd hno fuel _ a w h2
    · rename_i o ho
      simp only [ho] at h2
      split
      · rename_i hw
        simp only [hw, if_true] at h2
        have h3 := h2.resolve_right (fun q => hno q.2)
        exact Oper.wpIn_mono (fun a' w' q => any_round hnd hno fuel _ a' w' q) (wpIn_round_of_wp (noDefer_spec hnd ho) h3)
      · rename_i hw
        simp only [hw] at h2
        exact ⟨fun _ _ => trivial, any_round hnd hno fuel _ _ w h2⟩⟩
theorem wpIn_round_held {id : Nat} {a : Act} {w : World} {S : World → Prop} (hm : P.follows .mixedOrders = true) (hnd : noDefer ops = true) (hno : ¬ LetsOut Q) (hS : S w.drew)
    (h : S w.drew → wpAnyH P .any ops Q S ops.size (Array.replicate ops.size false) a w.drew) : (Code.region id ops true).wpIn (Fence.wide.inRound l) n P Q a w :=
  wpIn_region_any hm (any_round hnd hno _ _ _ _ (wpAny_of_held _ _ _ _ (h hS)))
end
end Go.Proofs.YtkjhamcmhijhgaaGreat.Round
