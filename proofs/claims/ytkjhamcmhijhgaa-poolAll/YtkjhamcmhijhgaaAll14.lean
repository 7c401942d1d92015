/- Joined out of the texts PoolHalf, PoolHalves, PoolTimes, RowArg, in that order. -/
import Derived.Test.YtkjhamcmhijhgaaAll13
import Derived.Test.YtkjhamcmhijhgaaAll8
import Derived.Test.YtkjhamcmhijhgaaAll7
import Derived.BigQuiet
import Derived.Test.YtkjhamcmhijhgaaAll1
import Derived.Test.YtkjhamcmhijhgaaAll3
/- Jobs that are halved: plain; what comes of one, how many come, whether there are few. -/
namespace Go.Proofs.Ytkjhamcmhijhgaa.Pool
open Go.RowKit Go.Proofs.Ytkjhamcmhijhgaa.Dig Go.Proofs.Ytkjhamcmhijhgaa.Mem Go.Proofs.Ytkjhamcmhijhgaa.Dq Go.Proofs.Ytkjhamcmhijhgaa.Thing Go.Proofs.Ytkjhamcmhijhgaa.Pick Go.Proofs.Ytkjhamcmhijhgaa.Sets
set_option linter.unusedVariables false
set_option linter.unusedSimpArgs false

def halfL (x : Int) : List Int := if x < 2 then [] else [x / 2, x - x / 2]
def jobs1 (x : Int) : Nat := if x < 2 then 1 else (2 * x - 1).toNat
def jobsL (l : List Int) : Nat := (l.map jobs1).sum
def SmallJ (x : Int) : Prop := x ≤ 20
theorem jobs1_eq (x : Int) : jobs1 x = 1 + ((halfL x).map jobs1).sum := by
  unfold halfL
  by_cases h : x < 2
  · simp [jobs1, h]
  · rw [if_neg h]
    simp only [List.map_cons, List.map_nil, List.sum_cons, List.sum_nil]
    unfold jobs1
    rw [if_neg h]
    split <;> split <;> omega
theorem jobs1_pos (x : Int) : 1 ≤ jobs1 x := by rw [jobs1_eq]; omega
theorem half_small (x : Int) (h : SmallJ x) : ∀ y ∈ halfL x, SmallJ y := fun y hy => by
  unfold halfL at hy
  unfold SmallJ at *
  split at hy
  · cases hy
  · simp at hy
    rcases hy with rfl | rfl <;> omega
theorem jobs1_le {x : Int} (h : SmallJ x) : jobs1 x ≤ 39 := by
  unfold SmallJ at h
  unfold jobs1
  split <;> omega
theorem jobsL_le {l : List Int} (h : ∀ x ∈ l, SmallJ x) : jobsL l ≤ 39 * l.length := by
  induction l with
  | nil => simp [jobsL]
  | cons x l ih =>
    have h1 := jobs1_le (h x (by simp))
    have h2 := ih (fun y hy => h y (by simp [hy]))
    unfold jobsL at *
    simp only [List.map_cons, List.sum_cons, List.length_cons]
    omega
def fewB (l : List Int) : Bool := decide (l.length ≤ 20) && l.all fun x => decide (x ≤ 20)
theorem fewB_iff {l : List Int} : fewB l = true ↔ l.length ≤ 20 ∧ ∀ x ∈ l, SmallJ x := by
  unfold fewB SmallJ
  simp
theorem half_wf2 {x : Int} (h : SmallJ x) : WfL (halfL x) := fun y hy => by
  unfold halfL at hy
  unfold SmallJ at h
  split at hy
  · cases hy
  · simp at hy
    rcases hy with rfl | rfl <;> exact wf_of_i64 (by omega) (by omega)
/-- What comes of a job. -/
theorem rof_any10 {x : Int} (h : SmallJ x) (w : World) : Calls Try.prog 13 #[.int .i64 x] w fun e w' => (∃ a c, e = .returned (.slice a (halfL x).length c) ∧ RowI w' a c (halfL x) ∧ ∀ z, a = some z → w.heap.size ≤ z.block) ∧ Below w.heap.size w w' := by
  have hw := half_wf2 h
  unfold SmallJ at h
  by_cases h2 : x < 2
  · have e : halfL x = [] := by unfold halfL; rw [if_pos h2]
    rw [e]
    clear e hw
    go_enter Try.func13, Try.ntmps13
    go_wp2
    go_ret
    exact ⟨⟨none, 0, rfl, DqI.rowi_nil _, fun z q => by cases q⟩, Below.refl _ _⟩
  · have e : halfL x = [x / 2, x - x / 2] := by unfold halfL; rw [if_neg h2]
    rw [e] at hw ⊢
    have hq : x.tdiv 2 = x / 2 := Int.tdiv_eq_ediv_of_nonneg (by omega)
    obtain ⟨y, hy⟩ : ∃ y, y = x / 2 := ⟨_, rfl⟩
    rw [← hy] at hq hw ⊢
    have hy2 : 1 ≤ y ∧ y ≤ 10 := by omega
    obtain ⟨y1, y2⟩ := hy2
    have HW := hide hw
    clear e hw hy
    go_enter Try.func13, Try.ntmps13
    go_wp2
    go_ret
    exact ⟨⟨some ⟨w.heap.size, 0, none⟩, 2, rfl, rowi_made w [y, x - y] 3 rfl rfl (by simp) HW.out, fun z q => by cases q; exact Nat.le_refl _⟩, (Below.refl _ _).alloc (Nat.le_refl _) _⟩
/-- Are there few? -/
theorem few_big (a : Option Addr) (m c : Nat) (h : 20 < m) (hm : m ≤ 9223372036854775807) (w : World) : Calls Try.prog 6 #[.slice a m c] w fun e w' => e = .returned (.bool false) ∧ w' = w := by
  have g : (20 : Int) < m := by omega
  go_enter Try.func6, Try.ntmps6
  go_wp2
  go_ret
  exact ⟨rfl, rfl⟩
set_option maxHeartbeats 1000000 in
theorem few_any {a : Option Addr} {c m : Nat} {l : List Int} {w : World} (h : RowI w a c l) (hm : m = l.length) (h20 : m ≤ 20) : Calls Try.prog 6 #[.slice a m c] w fun e w' => e = .returned (.bool (fewB l)) ∧ w' = w := by
  have H := hide h
  have HM := hide hm
  have g : ¬ (20 : Int) < m := by omega
  have HF : Hid (fewB l = l.all fun x => decide (x ≤ 20)) := hide (by unfold fewB; rw [decide_eq_true (by omega)]; rfl)
  clear h hm
  go_enter Try.func6, Try.ntmps6
  go_wp2
  go_loopw [3] (fun i wr => wr = w ∧ ∃ j : Nat, j ≤ m ∧ i = .int .i64 (j : Int) ∧ ∀ x ∈ l.take j, x ≤ 20) (fun i _ => m - (intOf i).toNat)
  case atStart => exact ⟨rfl, 0, Nat.zero_le _, rfl, by simp⟩
  case round =>
    obtain ⟨hw, j, hj, rfl, hall⟩ := hrel
    replace hw := hw.symm
    subst hw
    by_cases hlt : j < m
    · obtain ⟨b, off, rfl, hc⟩ := H.out.at (i := j) (by rw [← HM.out]; exact hlt)
      obtain ⟨x, hx⟩ : ∃ x, x = l.getD j 0 := ⟨_, rfl⟩
      rw [← hx] at hc
      have hxm : x ∈ l := by rw [hx, List.getD_eq_getElem?_getD, List.getElem?_eq_getElem (by rw [← HM.out]; exact hlt)]; exact List.getElem_mem _
      have HT : Hid (l.take (j + 1) = l.take j ++ [x]) := hide (by
        rw [List.take_add_one, hx, List.getD_eq_getElem?_getD, List.getElem?_eq_getElem (by rw [← HM.out]; exact hlt)]
        rfl)
      have hli : (j : Int) < m := by omega
      by_cases hbig : 20 < x
      · have HB : Hid (fewB l = false) := hide (by
          rw [HF.out]
          cases hq : l.all fun x => decide (x ≤ 20) with
          | false => rfl
          | true => have := List.all_eq_true.1 hq x hxm; rw [decide_eq_true_eq] at this; omega)
        clear hx hxm hall
        go_wp2
        go_ret
        rw [HB.out]
        exact ⟨rfl, rfl⟩
      · have HA := hide hall
        clear hx hxm hall
        go_wp2
        go_roundw
        case rel =>
          refine ⟨trivial, j + 1, by omega, by simp, ?_⟩
          rw [HT.out]
          intro y hy
          rcases List.mem_append.1 hy with q | q
          · exact HA.out y q
          · obtain rfl := List.mem_singleton.1 q
            omega
        case measure => simp [intOf]; omega
    · obtain rfl : j = m := by omega
      have hli : ¬ (j : Int) < j := by omega
      rw [List.take_of_length_le (by rw [HM.out]; exact Nat.le_refl _)] at hall
      have HB : Hid (fewB l = true) := hide (by rw [HF.out, List.all_eq_true]; intro x hx; exact decide_eq_true (hall x hx))
      clear hall
      go_wp2
      go_ret
      rw [HB.out]
      exact ⟨rfl, rfl⟩
theorem jobsL_succ {l : List Int} {j : Nat} {x : Int} (h : l.take (j + 1) = l.take j ++ [x]) : jobsL (l.take (j + 1)) = jobsL (l.take j) + jobs1 x := by
  rw [h]
  unfold jobsL
  simp
set_option maxHeartbeats 1000000 in
/-- How many jobs come. -/
theorem jobs_any {a : Option Addr} {c m : Nat} {l : List Int} {w : World} (h : RowI w a c l) (hm : m = l.length) (h20 : m ≤ 1000) (hs : ∀ x ∈ l, SmallJ x) : Calls Try.prog 14 #[.slice a m c] w fun e w' => e = .returned (.int .i64 (jobsL l : Int)) ∧ w' = w := by
  have H := hide h
  have HM := hide hm
  have HS := hide hs
  have HLE : Hid (∀ j, j ≤ 1000 → jobsL (l.take j) ≤ 39000) := hide (fun j hj => by
    have h1 := jobsL_le (l := l.take j) (fun x hx => hs x (List.mem_of_mem_take hx))
    rw [List.length_take] at h1
    omega)
  clear h hm hs
  go_enter Try.func14, Try.ntmps14
  go_wp2
  go_loopw [3, 4] (fun n i wr => wr = w ∧ ∃ j : Nat, j ≤ m ∧ i = .int .i64 (j : Int) ∧ n = .int .i64 (jobsL (l.take j) : Int)) (fun _ i _ => m - (intOf i).toNat)
  case atStart => exact ⟨rfl, 0, Nat.zero_le _, rfl, by simp [jobsL]⟩
  case round =>
    obtain ⟨hw, j, hj, rfl, rfl⟩ := hrel
    replace hw := hw.symm
    subst hw
    by_cases hlt : j < m
    · obtain ⟨b, off, rfl, hc⟩ := H.out.at (i := j) (by rw [← HM.out]; exact hlt)
      obtain ⟨x, hx⟩ : ∃ x, x = l.getD j 0 := ⟨_, rfl⟩
      rw [← hx] at hc
      have hxs : x ≤ 20 := HS.out x (by rw [hx, List.getD_eq_getElem?_getD, List.getElem?_eq_getElem (by rw [← HM.out]; exact hlt)]; exact List.getElem_mem _)
      have hsu := jobsL_succ (l := l) (j := j) (x := x) (by
        rw [List.take_add_one, hx, List.getD_eq_getElem?_getD, List.getElem?_eq_getElem (by rw [← HM.out]; exact hlt)]
        rfl)
      have hle := HLE.out j (by omega)
      obtain ⟨q, hq⟩ : ∃ q, q = jobsL (l.take j) := ⟨_, rfl⟩
      rw [← hq] at hsu hle ⊢
      have hli : (j : Int) < m := by omega
      by_cases h1 : 1 < x
      · have HN : Hid ((jobsL (l.take (j + 1)) : Int) = q + 1 + 2 * (x - 1)) := hide (by rw [hsu]; unfold jobs1; rw [if_neg (by omega)]; omega)
        clear hx hsu hq
        go_wp2
        go_roundw
        case rel => exact ⟨trivial, j + 1, by omega, by simp, by rw [HN.out]⟩
        case measure => simp [intOf]; omega
      · have HN : Hid ((jobsL (l.take (j + 1)) : Int) = q + 1) := hide (by rw [hsu]; unfold jobs1; rw [if_pos (by omega)]; omega)
        clear hx hsu hq
        go_wp2
        go_roundw
        case rel => exact ⟨trivial, j + 1, by omega, by simp, by rw [HN.out]⟩
        case measure => simp [intOf]; omega
    · obtain rfl : j = m := by omega
      have hli : ¬ (j : Int) < j := by omega
      have HE : Hid (jobsL (l.take j) = jobsL l) := hide (by rw [List.take_of_length_le (by rw [HM.out]; exact Nat.le_refl _)])
      go_wp2
      go_ret
      rw [HE.out]
      exact ⟨rfl, rfl⟩
theorem rowE_of {w : World} {a : Option Addr} {c : Nat} {l : List Int} (h : RowI w a c l) : DqI.RowE w a l := fun i hi => h.at hi
/-- What the law's start adds: all jobs small, and how much is to do. -/
theorem all_new (r : Nat) : DqI.AllG SmallJ (newS (0 : Int) r).ks := fun κ hκ => by
  obtain ⟨_, rfl⟩ := List.mem_replicate.1 (show κ ∈ List.replicate r _ from hκ)
  exact ⟨(fun x hx => absurd hx List.not_mem_nil), (fun q => absurd q Bool.false_ne_true)⟩
theorem all_addS {s : PS Int} (h : DqI.AllG SmallJ s.ks) {x : Int} (hx : SmallJ x) : DqI.AllG SmallJ (addS s x).ks := by
  unfold addS
  split
  · exact h
  · rename_i κ hκ
    obtain ⟨g1, g2⟩ := h κ (List.mem_of_getElem? hκ)
    refine DqI.allG_set (κ := ⟨κ.l ++ [x], κ.x, κ.h⟩) h ⟨fun y hy => ?_, g2⟩ _
    rcases List.mem_append.1 hy with q | q
    · exact g1 y q
    · obtain rfl := List.mem_singleton.1 q
      exact hx
theorem all_addL : ∀ (l : List Int) {s : PS Int}, DqI.AllG SmallJ s.ks → (∀ x ∈ l, SmallJ x) → DqI.AllG SmallJ (addL s l).ks
  | [], s, h, _ => h
  | x :: l, s, h, hl => by
    have e : addL s (x :: l) = addL (addS s x) l := rfl
    rw [e]
    exact all_addL l (all_addS h (hl x (by simp))) (fun y hy => hl y (by simp [hy]))
structure Started (r : Nat) (l : List Int) (s : PS Int) : Prop where
  len : s.ks.length = r
  dn : s.dn = []
  st : s.st = 0
  who : s.who = []
  todo : todo jobs1 s.ks = 2 * jobsL l
  sum : ∀ f : Int → Nat, sumL f s.ks = (l.map f).sum
  all : DqI.AllG SmallJ s.ks
theorem started (r : Nat) (hr : 0 < r) (l : List Int) (hl : ∀ x ∈ l, SmallJ x) : Started r l (addL (newS 0 r) l) := by
  have h0 : (newS (0 : Int) r).nx < (newS (0 : Int) r).ks.length := by simp [newS]; exact hr
  obtain ⟨_, a2, _, a4, a5, a6⟩ := addL_sum (fun _ => 1) l h0
  refine ⟨by rw [a2]; simp [newS], a4, a5, a6, ?_, fun f => ?_, all_addL l (all_new r) hl⟩
  · rw [addL_todo jobs1 l h0, (new_sum 0 jobs1 r).2.1, Nat.zero_add]
    rfl
  · rw [(addL_sum f l h0).1, (new_sum 0 f r).1, Nat.zero_add]
end Go.Proofs.Ytkjhamcmhijhgaa.Pool

/- A pool's jobs are halved by the law's own function. -/
namespace Go.Proofs.Ytkjhamcmhijhgaa.Pool
open Go.RowKit Go.Proofs.Ytkjhamcmhijhgaa.Dig Go.Proofs.Ytkjhamcmhijhgaa.Mem Go.Proofs.Ytkjhamcmhijhgaa.Dq Go.Proofs.Ytkjhamcmhijhgaa.Thing Go.Proofs.Ytkjhamcmhijhgaa.Pick Go.Proofs.Ytkjhamcmhijhgaa.Sets Go.Shelf
set_option linter.unusedVariables false
set_option linter.unusedSimpArgs false

theorem halves_any {x : Int} (h : SmallJ x) (k : Int) (w : World) : Calls Try.prog 20 #[.int .i64 k, .int .i64 x] w fun e w' => (∃ a c, e = .returned (.slice a (halfL x).length c) ∧ RowI w' a c (halfL x) ∧ ∀ z, a = some z → w.heap.size ≤ z.block) ∧ Below w.heap.size w w' := by
  have HO := hide (rof_any10 h w)
  obtain ⟨o, ho⟩ : ∃ o, o = halfL x := ⟨_, rfl⟩
  rw [← ho] at HO ⊢
  obtain ⟨m, hm⟩ : ∃ m, m = o.length := ⟨_, rfl⟩
  rw [← hm] at HO ⊢
  clear h ho hm
  go_enter Try.func20, Try.ntmps20
  go_wp2_with (go_at_call 13; go_must ((with_reducible refine (Hid.out HO).mono ?_); rintro e w1 ⟨⟨a, c, rfl, h1, h2⟩, h3⟩))
  go_ret
  exact ⟨⟨a, c, rfl, h1, h2⟩, h3⟩
theorem halfL_length (x : Int) : (halfL x).length ≤ 2 := by
  unfold halfL
  split <;> simp
theorem does_halves {w : World} (p : Nat) : DqI.Does w p (.func (.func 20) #[] #[]) halfL SmallJ (fun _ t => t = DqI.noT) := by
  intro dn t ts ks b sb nx st v k κ wy hd h hk hg hn hdn hl
  have hlen := halfL_length κ.x
  refine (DqI.work_do (Q := fun t' => t' = t) (o := halfL κ.x) h hk hn hdn (by omega) hl (enters_of Try.func20 (by kernel_rfl) rfl) (fun ts wy z => ?_)).mono ?_
  · have e : (#[.int .i64 (k : Int), .int .i64 κ.x] ++ #[] : Array Value) = #[.int .i64 (k : Int), .int .i64 κ.x] := by simp
    rw [e]
    refine (halves_any hg (k : Int) wy).mono ?_
    rintro e w' ⟨⟨a, c, rfl, h1, h2⟩, h3⟩
    exact ⟨a, c, t, rfl, hide (z.out.more h3 (rowE_of h1) (fun j ⟨_, x, e, ej⟩ => by subst ej; exact h2 x e)), rfl⟩
  · rintro e w' ⟨rfl, r', t', K, rfl⟩
    exact ⟨rfl, r', t', K, hd⟩
end Go.Proofs.Ytkjhamcmhijhgaa.Pool

/- The law's count of two rows: each number as often in the one as in the other. -/
namespace Go.Proofs.Ytkjhamcmhijhgaa.Pool
open Go.RowKit Go.Proofs.Ytkjhamcmhijhgaa.Dig Go.Proofs.Ytkjhamcmhijhgaa.Mem Go.Proofs.Ytkjhamcmhijhgaa.Dq Go.Proofs.Ytkjhamcmhijhgaa.Pick Go.Proofs.Ytkjhamcmhijhgaa.Sets
set_option linter.unusedVariables false
set_option linter.unusedSimpArgs false

def cntL (v : Int) (l : List Int) : Nat := (l.map fun x => if x = v then 1 else 0).sum
theorem cnt_app (v : Int) (l m : List Int) : cntL v (l ++ m) = cntL v l + cntL v m := by simp [cntL]
theorem cnt_take {v : Int} {l : List Int} {j : Nat} (h : j < l.length) : cntL v (l.take (j + 1)) = cntL v (l.take j) + if l.getD j 0 = v then 1 else 0 := by
  rw [List.take_add_one, cnt_app, List.getD_eq_getElem?_getD, List.getElem?_eq_getElem h]
  simp [cntL]
theorem cnt_le (v : Int) (l : List Int) : cntL v l ≤ l.length := by
  unfold cntL
  induction l with
  | nil => simp
  | cons x l ih => simp only [List.map_cons, List.sum_cons, List.length_cons]; split <;> omega
theorem cnt_part (v : Int) (l : List Int) (j : Nat) : cntL v (l.take j) ≤ cntL v l := by
  conv => rhs; rw [← List.take_append_drop j l]
  rw [cnt_app]; omega
set_option maxHeartbeats 2000000 in
set_option maxRecDepth 20000 in
theorem times_any (a b : Option Addr) (c d n : Nat) (la lb : List Int) (w : World) (ha : RowI w a c la) (hb : RowI w b d lb) (h1 : n = la.length) (h2 : n = lb.length) (hm : n ≤ 1000) (heq : ∀ v, cntL v la = cntL v lb) :
    Calls Try.prog 19 #[.slice a n c, .slice b n d] w fun e w' => e = .returned (.bool true) ∧ Below w.heap.size w w' := by
  have HA := hide ha
  have HB := hide hb
  have HN := hide h1
  have HM := hide h2
  have HEQ := hide heq
  have HLA : Hid (la.length ≤ 1000) := hide (by omega)
  have HLB : Hid (lb.length ≤ 1000) := hide (by omega)
  have HWF : Hid (∀ x ∈ la ++ lb, (Lit.int .i64 x).wf = true) := fun x hx => (List.mem_append.1 hx).elim (ha.wf x) (hb.wf x)
  have HO1 : Hid (Dig.Own 3 .i64 w.heap.size (w.alloc (.cells #[] 3)) (.slice (some ⟨w.heap.size, 0, none⟩) 0 0) []) := Dig.Own.empty _ _ _ _ _ rfl (Nat.le_refl _)
  have HBA : Hid (Below w.heap.size w (w.alloc (.cells #[] 3))) := (Below.refl _ _).alloc (Nat.le_refl _) _
  obtain ⟨ab, hab⟩ : ∃ ab, ab = la ++ lb := ⟨_, rfl⟩
  obtain ⟨N, hNN⟩ : ∃ N, N = ab.length := ⟨_, rfl⟩
  have HLAB : Hid (ab.length ≤ 2000) := hide (by rw [hab, List.length_append]; omega)
  obtain ⟨S, hS⟩ : ∃ S, S = setL ltI ab := ⟨_, rfl⟩
  obtain ⟨m, hmS⟩ : ∃ m, m = S.length := ⟨_, rfl⟩
  have hms : m ≤ 2000 := by have := setL_length (lt := ltI) ab; have := HLAB.out; rw [← hS] at *; omega
  have HAB := hide hab
  have HNN := hide hNN
  have HS := hide hS
  have HMS := hide hmS
  clear ha hb h1 h2 heq hab hNN hS hmS
  go_enter Try.func19, Try.ntmps19
  go_wp2_with (first
    | (at_builtin; (refine app_rowi (w0 := w) rfl _ _ rfl w.heap.size v1 la rfl HO2.out b d n lb rfl HM.out (HB.out.keep HB1.out) (by have := HLA.out; have := HLB.out; omega) HZ1.out HB1.out ?_); intro v2 w2 hown2 hb2 hs2; unfold Dig.Own at hown2; rw [← HAB.out] at hown2; have hf2 := Sets.own_form hown2; rw [← HNN.out] at hf2; obtain ⟨a3, c3, rfl⟩ := hf2; have HR3 := hide (rowv_of_own (l := ab) hown2 (by have := HLAB.out; omega) (by rw [HAB.out]; exact HWF.out)).2; have HB2 := hide hb2; clear hown2 hb2 hs2)
    | (at_builtin; (refine app_rowi (w0 := w) rfl _ _ rfl w.heap.size (.slice (some ⟨w.heap.size, 0, none⟩) 0 0) [] rfl HO1.out a c n la rfl HN.out (HA.out.keep HBA.out) (by have := HLA.out; simp; omega) (by simp) HBA.out ?_); intro v1 w1 hown1 hb1 hs1; have HO2 : Hid (Dig.Own 3 .i64 w.heap.size w1 v1 la) := hown1; have HB1 := hide hb1; have HZ1 := hide hb1.size; clear hown1 hb1 hs1)
    | (go_at_call 37; go_must ((refine (show Calls Try.prog 37 #[.slice a3 N c3] _ _ from by rw [HNN.out]; exact rof_any a3 c3 ab _ HR3.out (by have := HLAB.out; omega)).mono ?_); rw [← HS.out, ← HMS.out]; rintro e w4 ⟨⟨a4, c4, rfl, hr4⟩, hb4⟩; have HR4 := hide hr4.i; have HB4 := hide (HB2.out.trans (hb4.mono HB2.out.size)); clear hr4 hb4)))
  have HSZ := hide HB4.out.size
  go_loopw [6] (fun kv wr => ∃ k, k ≤ m ∧ kv = .int .i64 (k : Int) ∧ Hid (Below w4.heap.size w4 wr)) (fun kv _ => m - (intOf kv).toNat)
  case atStart => exact ⟨0, by omega, rfl, hide (Below.refl _ _)⟩
  case round =>
    obtain ⟨k, hk, rfl, hbel⟩ := hrel
    by_cases hlt : k < m
    · obtain ⟨b1, o1, rfl, hc0⟩ := HR4.out.at (show k < S.length by rw [← HMS.out]; exact hlt)
      obtain ⟨y, hy⟩ : ∃ y, y = S.getD k 0 := ⟨_, rfl⟩
      rw [← hy] at hc0
      clear hy
      have HCY : Hid (∀ W, Below w4.heap.size w4 W → W.cell? ⟨b1, o1 + k, none⟩ = some (.int .i64 y)) := hide (fun W hb => (hb.cell (p := ⟨b1, o1 + k, none⟩) (lt_of_cell hc0)).trans hc0)
      clear hc0
      have hkm : (k : Int) < m := by omega
      go_wp2
      go_loopw [7, 8] (fun nv jv wr => ∃ j cj : Nat, j ≤ n ∧ jv = .int .i64 (j : Int) ∧ nv = .int .i64 (cj : Int) ∧ Hid (cj = cntL y (la.take j)) ∧ Hid (Below w4.heap.size w4 wr)) (fun _ jv _ => n - (intOf jv).toNat)
      case atStart => exact ⟨0, 0, by omega, rfl, rfl, hide rfl, hbel⟩
      case round =>
        obtain ⟨j, cj, hj, rfl, rfl, hcj, hbw⟩ := hrel
        have hcy := HCY.out _ hbw.out
        by_cases hlj : j < n
        · obtain ⟨b2, o2, rfl, hcx⟩ := ((HA.out.keep HB4.out).keep hbw.out).at (show j < la.length by rw [← HN.out]; exact hlj)
          have HT := hide (cnt_take (v := y) (show j < la.length by rw [← HN.out]; exact hlj))
          obtain ⟨x, hx⟩ : ∃ x, x = la.getD j 0 := ⟨_, rfl⟩
          rw [← hx] at hcx HT
          have hcb : cj ≤ 1000 := by
            have h1 := cnt_le y (la.take j)
            have h2 := hcj.out
            rw [List.length_take] at h1
            omega
          have hli : (j : Int) < n := by omega
          clear hx
          by_cases hxy : x = y
          · have g1 : (x == y) = true := by simp [hxy]
            have HT2 : Hid (cj + 1 = cntL y (la.take (j + 1))) := hide (by have := HT.out; rw [if_pos hxy] at this; rw [this, ← hcj.out])
            clear hxy HT
            go_wp2
            go_quiet (fail)
            go_wp2
            go_roundw
            case rel => exact ⟨j + 1, cj + 1, by omega, by simp, by simp, HT2, hide (hbw.out.trans ⟨rfl, rfl, rfl, Nat.le_refl _, fun _ _ => rfl⟩)⟩
            case measure => simp [intOf]; omega
          · have g1 : (x == y) = false := by simp [hxy]
            have HT2 : Hid (cj = cntL y (la.take (j + 1))) := hide (by have := HT.out; rw [if_neg hxy] at this; rw [this, ← hcj.out, Nat.add_zero])
            clear hxy HT
            go_wp2
            go_quiet (fail)
            go_wp2
            go_roundw
            case rel => exact ⟨j + 1, cj, by omega, by simp, rfl, HT2, hide (hbw.out.trans ⟨rfl, rfl, rfl, Nat.le_refl _, fun _ _ => rfl⟩)⟩
            case measure => simp [intOf]; omega
        · obtain rfl : j = n := by omega
          have hlj2 : ¬ (j : Int) < j := by omega
          have D0 : Hid (cj + cntL y (lb.take 0) = cntL y la) := hide (by
            have := hcj.out
            rw [HN.out, List.take_length] at this
            rw [this]; rfl)
          clear hcj
          go_wp2
          go_loopw [7, 9] (fun nv jv wr => ∃ i di : Nat, i ≤ j ∧ jv = .int .i64 (i : Int) ∧ nv = .int .i64 (di : Int) ∧ Hid (di + cntL y (lb.take i) = cntL y la) ∧ Hid (Below w4.heap.size w4 wr)) (fun _ jv _ => j - (intOf jv).toNat)
          case atStart => exact ⟨0, cj, by omega, rfl, rfl, D0, hbw⟩
          case round =>
            obtain ⟨i, di, hi, rfl, rfl, hdi, hbv⟩ := hrel
            clear hcy D0
            have hcy := HCY.out _ hbv.out
            by_cases hli : i < j
            · obtain ⟨b2, o2, rfl, hcx⟩ := ((HB.out.keep HB4.out).keep hbv.out).at (show i < lb.length by rw [← HM.out]; exact hli)
              have HT := hide (cnt_take (v := y) (show i < lb.length by rw [← HM.out]; exact hli))
              obtain ⟨x, hx⟩ : ∃ x, x = lb.getD i 0 := ⟨_, rfl⟩
              rw [← hx] at hcx HT
              have hdb : di ≤ 1000 := by
                have h1 := cnt_le y la
                have h2 := hdi.out
                have h3 := HLA.out
                omega
              have hii : (i : Int) < j := by omega
              clear hx
              by_cases hxy : x = y
              · have g1 : (x == y) = true := by simp [hxy]
                have h1 := HT.out
                rw [if_pos hxy] at h1
                have h2 := cnt_part y lb (i + 1)
                have h3 := hdi.out
                have h4 := HEQ.out y
                obtain ⟨dj, rfl⟩ : ∃ dj, di = dj + 1 := ⟨di - 1, by omega⟩
                have HT2 : Hid (dj + cntL y (lb.take (i + 1)) = cntL y la) := hide (by omega)
                clear hxy HT h1 h2 h3 h4
                go_wp2
                go_quiet (fail)
                go_wp2
                go_roundw
                case rel => exact ⟨i + 1, dj, by omega, by simp, by simp; try omega, HT2, hide (hbv.out.trans ⟨rfl, rfl, rfl, Nat.le_refl _, fun _ _ => rfl⟩)⟩
                case measure => simp [intOf]; omega
              · have g1 : (x == y) = false := by simp [hxy]
                have h1 := HT.out
                rw [if_neg hxy] at h1
                have HT2 : Hid (di + cntL y (lb.take (i + 1)) = cntL y la) := hide (by have := hdi.out; omega)
                clear hxy HT h1
                go_wp2
                go_quiet (fail)
                go_wp2
                go_roundw
                case rel => exact ⟨i + 1, di, by omega, by simp, rfl, HT2, hide (hbv.out.trans ⟨rfl, rfl, rfl, Nat.le_refl _, fun _ _ => rfl⟩)⟩
                case measure => simp [intOf]; omega
            · obtain rfl : i = j := by omega
              obtain rfl : di = 0 := by
                have h1 := hdi.out
                rw [HM.out, List.take_length] at h1
                have := HEQ.out y
                omega
              have hii : ¬ (i : Int) < i := by omega
              go_wp2
              go_roundw
              case rel => exact ⟨k + 1, by omega, by simp, hbv⟩
              case measure => simp [intOf]; omega
    · obtain rfl : k = m := by omega
      have hkm : ¬ (k : Int) < k := by omega
      go_wp2
      go_ret
      exact ⟨rfl, HB4.out.trans (hbel.out.mono HSZ.out)⟩
end Go.Proofs.Ytkjhamcmhijhgaa.Pool

/- An argument []int as a row that is read. -/
namespace Go.Proofs.Ytkjhamcmhijhgaa.Frame
open Go.RowKit Go.Proofs.Ytkjhamcmhijhgaa.Dig Go.Proofs.Ytkjhamcmhijhgaa.Dq
set_option linter.unusedVariables false

theorem IsRow.rowi {w : World} {a : Option Addr} {len cap : Nat} {zs : List Int} (h : IsRow .i64 w a len cap zs) (hl : len ≤ 1000000000000) : ∃ l : List Int, len = l.length ∧ RowI w a cap l := by
  obtain ⟨l, e, h1, h2, h3⟩ := h.list hl
  exact ⟨l, e, ⟨by rw [← e]; exact h.cap.1, h1, fun q => (h3 q).2⟩⟩
end Go.Proofs.Ytkjhamcmhijhgaa.Frame
