/- Joined out of the texts PoolHalf, PoolHalves, RowArg, in that order. -/
import Derived.Test.YtkjhamcmhijhgaaAll13
import Derived.Test.YtkjhamcmhijhgaaAll1
import Derived.Test.YtkjhamcmhijhgaaAll3
/- Jobs that are halved: plain; what comes of one, how many come, whether there are few. -/
namespace Go.Proofs.Ytkjhamcmhijhgaa.Pool
open Go.RowKit Go.Proofs.Ytkjhamcmhijhgaa.Dig Go.Proofs.Ytkjhamcmhijhgaa.Mem Go.Proofs.Ytkjhamcmhijhgaa.Dq Go.Proofs.Ytkjhamcmhijhgaa.Thing Go.Proofs.Ytkjhamcmhijhgaa.Pick Go.Proofs.Ytkjhamcmhijhgaa.Sets
set_option linter.unusedVariables false
set_option linter.unusedSimpArgs false

def halfL (x : Int) : List Int := if x < 2 then [] else [x / 2, x - x / 2]
def jobs1 (x : Int) : Nat := if x < 2 then 1 else (2 * x - 1).toNat
def jobsL (l : List Int) : Nat := (l.map jobs1).sum
def SmallJ (x : Int) : Prop := x ≤ 20
theorem jobs1_eq (x : Int) : jobs1 x = 1 + ((halfL x).map jobs1).sum := by
  unfold halfL
  by_cases h : x < 2
  · simp [jobs1, h]
  · rw [if_neg h]
    simp only [List.map_cons, List.map_nil, List.sum_cons, List.sum_nil]
    unfold jobs1
    rw [if_neg h]
    split <;> split <;> omega
theorem jobs1_pos (x : Int) : 1 ≤ jobs1 x := by rw [jobs1_eq]; omega
theorem half_small (x : Int) (h : SmallJ x) : ∀ y ∈ halfL x, SmallJ y := fun y hy => by
  unfold halfL at hy
  unfold SmallJ at *
  split at hy
  · cases hy
  · simp at hy
    rcases hy with rfl | rfl <;> omega
theorem jobs1_le {x : Int} (h : SmallJ x) : jobs1 x ≤ 39 := by
  unfold SmallJ at h
  unfold jobs1
  split <;> omega
theorem jobsL_le {l : List Int} (h : ∀ x ∈ l, SmallJ x) : jobsL l ≤ 39 * l.length := by
  induction l with
  | nil => simp [jobsL]
  | cons x l ih =>
    have h1 := jobs1_le (h x (by simp))
    have h2 := ih (fun y hy => h y (by simp [hy]))
    unfold jobsL at *
    simp only [List.map_cons, List.sum_cons, List.length_cons]
    omega
def fewB (l : List Int) : Bool := decide (l.length ≤ 20) && l.all fun x => decide (x ≤ 20)
theorem fewB_iff {l : List Int} : fewB l = true ↔ l.length ≤ 20 ∧ ∀ x ∈ l, SmallJ x := by
  unfold fewB SmallJ
  simp
theorem half_wf2 {x : Int} (h : SmallJ x) : WfL (halfL x) := fun y hy => by
  unfold halfL at hy
  unfold SmallJ at h
  split at hy
  · cases hy
  · simp at hy
    rcases hy with rfl | rfl <;> exact wf_of_i64 (by omega) (by omega)
/-- What comes of a job. -/
theorem rof_any10 {x : Int} (h : SmallJ x) (w : World) : Calls Try.prog 13 #[.int .i64 x] w fun e w' => (∃ a c, e = .returned (.slice a (halfL x).length c) ∧ RowI w' a c (halfL x) ∧ ∀ z, a = some z → w.heap.size ≤ z.block) ∧ Below w.heap.size w w' := by
  have hw := half_wf2 h
  unfold SmallJ at h
  by_cases h2 : x < 2
  · have e : halfL x = [] := by unfold halfL; rw [if_pos h2]
    rw [e]
    clear e hw
    go_enter Try.func13, Try.ntmps13
    go_wp2
    go_ret
    exact ⟨⟨none, 0, rfl, DqI.rowi_nil _, fun z q => by cases q⟩, Below.refl _ _⟩
  · have e : halfL x = [x / 2, x - x / 2] := by unfold halfL; rw [if_neg h2]
    rw [e] at hw ⊢
    have hq : x.tdiv 2 = x / 2 := Int.tdiv_eq_ediv_of_nonneg (by omega)
    obtain ⟨y, hy⟩ : ∃ y, y = x / 2 := ⟨_, rfl⟩
    rw [← hy] at hq hw ⊢
    have hy2 : 1 ≤ y ∧ y ≤ 10 := by omega
    obtain ⟨y1, y2⟩ := hy2
    have HW := hide hw
    clear e hw hy
    go_enter Try.func13, Try.ntmps13
    go_wp2
    go_ret
    exact ⟨⟨some ⟨w.heap.size, 0, none⟩, 2, rfl, rowi_made w [y, x - y] 3 rfl rfl (by simp) HW.out, fun z q => by cases q; exact Nat.le_refl _⟩, (Below.refl _ _).alloc (Nat.le_refl _) _⟩
/-- Are there few? -/
theorem few_big (a : Option Addr) (m c : Nat) (h : 20 < m) (hm : m ≤ 9223372036854775807) (w : World) : Calls Try.prog 6 #[.slice a m c] w fun e w' => e = .returned (.bool false) ∧ w' = w := by
  have g : (20 : Int) < m := by omega
  go_enter Try.func6, Try.ntmps6
  go_wp2
  go_ret
  exact ⟨rfl, rfl⟩
set_option maxHeartbeats 1000000 in
theorem few_any {a : Option Addr} {c m : Nat} {l : List Int} {w : World} (h : RowI w a c l) (hm : m = l.length) (h20 : m ≤ 20) : Calls Try.prog 6 #[.slice a m c] w fun e w' => e = .returned (.bool (fewB l)) ∧ w' = w := by
  have H := hide h
  have HM := hide hm
  have g : ¬ (20 : Int) < m := by omega
  have HF : Hid (fewB l = l.all fun x => decide (x ≤ 20)) := hide (by unfold fewB; rw [decide_eq_true (by omega)]; rfl)
  clear h hm
  go_enter Try.func6, Try.ntmps6
  go_wp2
  go_loopw [3] (fun i wr => wr = w ∧ ∃ j : Nat, j ≤ m ∧ i = .int .i64 (j : Int) ∧ ∀ x ∈ l.take j, x ≤ 20) (fun i _ => m - (intOf i).toNat)
  case atStart => exact ⟨rfl, 0, Nat.zero_le _, rfl, by simp⟩
  case round =>
    obtain ⟨hw, j, hj, rfl, hall⟩ := hrel
    replace hw := hw.symm
    subst hw
    by_cases hlt : j < m
    · obtain ⟨b, off, rfl, hc⟩ := H.out.at (i := j) (by rw [← HM.out]; exact hlt)
      obtain ⟨x, hx⟩ : ∃ x, x = l.getD j 0 := ⟨_, rfl⟩
      rw [← hx] at hc
      have hxm : x ∈ l := by rw [hx, List.getD_eq_getElem?_getD, List.getElem?_eq_getElem (by rw [← HM.out]; exact hlt)]; exact List.getElem_mem _
      have HT : Hid (l.take (j + 1) = l.take j ++ [x]) := hide (by
        rw [List.take_add_one, hx, List.getD_eq_getElem?_getD, List.getElem?_eq_getElem (by rw [← HM.out]; exact hlt)]
        rfl)
      have hli : (j : Int) < m := by omega
      by_cases hbig : 20 < x
      · have HB : Hid (fewB l = false) := hide (by
          rw [HF.out]
          cases hq : l.all fun x => decide (x ≤ 20) with
          | false => rfl
          | true => have := List.all_eq_true.1 hq x hxm; rw [decide_eq_true_eq] at this; omega)
        clear hx hxm hall
        go_wp2
        go_ret
        rw [HB.out]
        exact ⟨rfl, rfl⟩
      · have HA := hide hall
        clear hx hxm hall
        go_wp2
        go_roundw
        case rel =>
          refine ⟨trivial, j + 1, by omega, by simp, ?_⟩
          rw [HT.out]
          intro y hy
          rcases List.mem_append.1 hy with q | q
          · exact HA.out y q
          · obtain rfl := List.mem_singleton.1 q
            omega
        case measure => simp [intOf]; omega
    · obtain rfl : j = m := by omega
      have hli : ¬ (j : Int) < j := by omega
      rw [List.take_of_length_le (by rw [HM.out]; exact Nat.le_refl _)] at hall
      have HB : Hid (fewB l = true) := hide (by rw [HF.out, List.all_eq_true]; intro x hx; exact decide_eq_true (hall x hx))
      clear hall
      go_wp2
      go_ret
      rw [HB.out]
      exact ⟨rfl, rfl⟩
theorem jobsL_succ {l : List Int} {j : Nat} {x : Int} (h : l.take (j + 1) = l.take j ++ [x]) : jobsL (l.take (j + 1)) = jobsL (l.take j) + jobs1 x := by
  rw [h]
  unfold jobsL
  simp
set_option maxHeartbeats 1000000 in
/-- How many jobs come. -/
theorem jobs_any {a : Option Addr} {c m : Nat} {l : List Int} {w : World} (h : RowI w a c l) (hm : m = l.length) (h20 : m ≤ 1000) (hs : ∀ x ∈ l, SmallJ x) : Calls Try.prog 14 #[.slice a m c] w fun e w' => e = .returned (.int .i64 (jobsL l : Int)) ∧ w' = w := by
  have H := hide h
  have HM := hide hm
  have HS := hide hs
  have HLE : Hid (∀ j, j ≤ 1000 → jobsL (l.take j) ≤ 39000) := hide (fun j hj => by
    have h1 := jobsL_le (l := l.take j) (fun x hx => hs x (List.mem_of_mem_take hx))
    rw [List.length_take] at h1
    omega)
  clear h hm hs
  go_enter Try.func14, Try.ntmps14
  go_wp2
  go_loopw [3, 4] (fun n i wr => wr = w ∧ ∃ j : Nat, j ≤ m ∧ i = .int .i64 (j : Int) ∧ n = .int .i64 (jobsL (l.take j) : Int)) (fun _ i _ => m - (intOf i).toNat)
  case atStart => exact ⟨rfl, 0, Nat.zero_le _, rfl, by simp [jobsL]⟩
  case round =>
    obtain ⟨hw, j, hj, rfl, rfl⟩ := hrel
    replace hw := hw.symm
    subst hw
    by_cases hlt : j < m
    · obtain ⟨b, off, rfl, hc⟩ := H.out.at (i := j) (by rw [← HM.out]; exact hlt)
      obtain ⟨x, hx⟩ : ∃ x, x = l.getD j 0 := ⟨_, rfl⟩
      rw [← hx] at hc
      have hxs : x ≤ 20 := HS.out x (by rw [hx, List.getD_eq_getElem?_getD, List.getElem?_eq_getElem (by rw [← HM.out]; exact hlt)]; exact List.getElem_mem _)
      have hsu := jobsL_succ (l := l) (j := j) (x := x) (by
        rw [List.take_add_one, hx, List.getD_eq_getElem?_getD, List.getElem?_eq_getElem (by rw [← HM.out]; exact hlt)]
        rfl)
      have hle := HLE.out j (by omega)
      obtain ⟨q, hq⟩ : ∃ q, q = jobsL (l.take j) := ⟨_, rfl⟩
      rw [← hq] at hsu hle ⊢
      have hli : (j : Int) < m := by omega
      by_cases h1 : 1 < x
      · have HN : Hid ((jobsL (l.take (j + 1)) : Int) = q + 1 + 2 * (x - 1)) := hide (by rw [hsu]; unfold jobs1; rw [if_neg (by omega)]; omega)
        clear hx hsu hq
        go_wp2
        go_roundw
        case rel => exact ⟨trivial, j + 1, by omega, by simp, by rw [HN.out]⟩
        case measure => simp [intOf]; omega
      · have HN : Hid ((jobsL (l.take (j + 1)) : Int) = q + 1) := hide (by rw [hsu]; unfold jobs1; rw [if_pos (by omega)]; omega)
        clear hx hsu hq
        go_wp2
        go_roundw
        case rel => exact ⟨trivial, j + 1, by omega, by simp, by rw [HN.out]⟩
        case measure => simp [intOf]; omega
    · obtain rfl : j = m := by omega
      have hli : ¬ (j : Int) < j := by omega
      have HE : Hid (jobsL (l.take j) = jobsL l) := hide (by rw [List.take_of_length_le (by rw [HM.out]; exact Nat.le_refl _)])
      go_wp2
      go_ret
      rw [HE.out]
      exact ⟨rfl, rfl⟩
theorem rowE_of {w : World} {a : Option Addr} {c : Nat} {l : List Int} (h : RowI w a c l) : DqI.RowE w a l := fun i hi => h.at hi
/-- What the law's start adds: all jobs small, and how much is to do. -/
theorem all_new (r : Nat) : DqI.AllG SmallJ (newS (0 : Int) r).ks := fun κ hκ => by
  obtain ⟨_, rfl⟩ := List.mem_replicate.1 (show κ ∈ List.replicate r _ from hκ)
  exact ⟨(fun x hx => absurd hx List.not_mem_nil), (fun q => absurd q Bool.false_ne_true)⟩
theorem all_addS {s : PS Int} (h : DqI.AllG SmallJ s.ks) {x : Int} (hx : SmallJ x) : DqI.AllG SmallJ (addS s x).ks := by
  unfold addS
  split
  · exact h
  · rename_i κ hκ
    obtain ⟨g1, g2⟩ := h κ (List.mem_of_getElem? hκ)
    refine DqI.allG_set (κ := ⟨κ.l ++ [x], κ.x, κ.h⟩) h ⟨fun y hy => ?_, g2⟩ _
    rcases List.mem_append.1 hy with q | q
    · exact g1 y q
    · obtain rfl := List.mem_singleton.1 q
      exact hx
theorem all_addL : ∀ (l : List Int) {s : PS Int}, DqI.AllG SmallJ s.ks → (∀ x ∈ l, SmallJ x) → DqI.AllG SmallJ (addL s l).ks
  | [], s, h, _ => h
  | x :: l, s, h, hl => by
    have e : addL s (x :: l) = addL (addS s x) l := rfl
    rw [e]
    exact all_addL l (all_addS h (hl x (by simp))) (fun y hy => hl y (by simp [hy]))
structure Started (r : Nat) (l : List Int) (s : PS Int) : Prop where
  len : s.ks.length = r
  dn : s.dn = []
  st : s.st = 0
  who : s.who = []
  todo : todo jobs1 s.ks = 2 * jobsL l
  sum : ∀ f : Int → Nat, sumL f s.ks = (l.map f).sum
  all : DqI.AllG SmallJ s.ks
theorem started (r : Nat) (hr : 0 < r) (l : List Int) (hl : ∀ x ∈ l, SmallJ x) : Started r l (addL (newS 0 r) l) := by
  have h0 : (newS (0 : Int) r).nx < (newS (0 : Int) r).ks.length := by simp [newS]; exact hr
  obtain ⟨_, a2, _, a4, a5, a6⟩ := addL_sum (fun _ => 1) l h0
  refine ⟨by rw [a2]; simp [newS], a4, a5, a6, ?_, fun f => ?_, all_addL l (all_new r) hl⟩
  · rw [addL_todo jobs1 l h0, (new_sum 0 jobs1 r).2.1, Nat.zero_add]
    rfl
  · rw [(addL_sum f l h0).1, (new_sum 0 f r).1, Nat.zero_add]
end Go.Proofs.Ytkjhamcmhijhgaa.Pool

/- A pool's jobs are halved by the law's own function. -/
namespace Go.Proofs.Ytkjhamcmhijhgaa.Pool
open Go.RowKit Go.Proofs.Ytkjhamcmhijhgaa.Dig Go.Proofs.Ytkjhamcmhijhgaa.Mem Go.Proofs.Ytkjhamcmhijhgaa.Dq Go.Proofs.Ytkjhamcmhijhgaa.Thing Go.Proofs.Ytkjhamcmhijhgaa.Pick Go.Proofs.Ytkjhamcmhijhgaa.Sets Go.Shelf
set_option linter.unusedVariables false
set_option linter.unusedSimpArgs false

theorem halves_any {x : Int} (h : SmallJ x) (k : Int) (w : World) : Calls Try.prog 20 #[.int .i64 k, .int .i64 x] w fun e w' => (∃ a c, e = .returned (.slice a (halfL x).length c) ∧ RowI w' a c (halfL x) ∧ ∀ z, a = some z → w.heap.size ≤ z.block) ∧ Below w.heap.size w w' := by
  have HO := hide (rof_any10 h w)
  obtain ⟨o, ho⟩ : ∃ o, o = halfL x := ⟨_, rfl⟩
  rw [← ho] at HO ⊢
  obtain ⟨m, hm⟩ : ∃ m, m = o.length := ⟨_, rfl⟩
  rw [← hm] at HO ⊢
  clear h ho hm
  go_enter Try.func20, Try.ntmps20
  go_wp2_with (go_at_call 13; go_must ((with_reducible refine (Hid.out HO).mono ?_); rintro e w1 ⟨⟨a, c, rfl, h1, h2⟩, h3⟩))
  go_ret
  exact ⟨⟨a, c, rfl, h1, h2⟩, h3⟩
theorem halfL_length (x : Int) : (halfL x).length ≤ 2 := by
  unfold halfL
  split <;> simp
theorem does_halves {w : World} (p : Nat) : DqI.Does w p (.func (.func 20) #[] #[]) halfL SmallJ (fun _ t => t = DqI.noT) := by
  intro dn t ts ks b sb nx st v k κ wy hd h hk hg hn hdn hl
  have hlen := halfL_length κ.x
  refine (DqI.work_do (Q := fun t' => t' = t) (o := halfL κ.x) h hk hn hdn (by omega) hl (enters_of Try.func20 (by kernel_rfl) rfl) (fun ts wy z => ?_)).mono ?_
  · have e : (#[.int .i64 (k : Int), .int .i64 κ.x] ++ #[] : Array Value) = #[.int .i64 (k : Int), .int .i64 κ.x] := by simp
    rw [e]
    refine (halves_any hg (k : Int) wy).mono ?_
    rintro e w' ⟨⟨a, c, rfl, h1, h2⟩, h3⟩
    exact ⟨a, c, t, rfl, hide (z.out.more h3 (rowE_of h1) (fun j ⟨_, x, e, ej⟩ => by subst ej; exact h2 x e)), rfl⟩
  · rintro e w' ⟨rfl, r', t', K, rfl⟩
    exact ⟨rfl, r', t', K, hd⟩
end Go.Proofs.Ytkjhamcmhijhgaa.Pool

/- An argument []int as a row that is read. -/
namespace Go.Proofs.Ytkjhamcmhijhgaa.Frame
open Go.RowKit Go.Proofs.Ytkjhamcmhijhgaa.Dig Go.Proofs.Ytkjhamcmhijhgaa.Dq
set_option linter.unusedVariables false

theorem IsRow.rowi {w : World} {a : Option Addr} {len cap : Nat} {zs : List Int} (h : IsRow .i64 w a len cap zs) (hl : len ≤ 1000000000000) : ∃ l : List Int, len = l.length ∧ RowI w a cap l := by
  obtain ⟨l, e, h1, h2, h3⟩ := h.list hl
  exact ⟨l, e, ⟨by rw [← e]; exact h.cap.1, h1, fun q => (h3 q).2⟩⟩
end Go.Proofs.Ytkjhamcmhijhgaa.Frame
