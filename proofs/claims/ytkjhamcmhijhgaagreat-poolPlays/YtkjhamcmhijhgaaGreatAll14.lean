/- Joined out of the texts PoolHalf, PoolHalves, RowArg, PoolRef0, PoolRefNew, PoolRefNo, PoolRefHold, in that order. -/
import Derived.Test.YtkjhamcmhijhgaaGreatAll13
import Derived.Test.YtkjhamcmhijhgaaGreatAll1
import Derived.Test.YtkjhamcmhijhgaaGreatAll3
import Derived.Maps.AppendAt
import Derived.Laws.AppendOwnNone
import Derived.Laws.OwnMore
import Derived.Laws.MakeOwn
/- Jobs that are halved: plain; what comes of one, how many come, whether there are few. -/
namespace Go.Proofs.YtkjhamcmhijhgaaGreat.Pool
open Go.RowKit Go.Proofs.YtkjhamcmhijhgaaGreat.Dig Go.Proofs.YtkjhamcmhijhgaaGreat.Mem Go.Proofs.YtkjhamcmhijhgaaGreat.Dq Go.Proofs.YtkjhamcmhijhgaaGreat.Thing Go.Proofs.YtkjhamcmhijhgaaGreat.Pick Go.Proofs.YtkjhamcmhijhgaaGreat.Sets
set_option linter.unusedVariables false
set_option linter.unusedSimpArgs false

def halfL (x : Int) : List Int := if x < 2 then [] else [x / 2, x - x / 2]
def jobs1 (x : Int) : Nat := if x < 2 then 1 else (2 * x - 1).toNat
def jobsL (l : List Int) : Nat := (l.map jobs1).sum
def SmallJ (x : Int) : Prop := x ≤ 20
theorem jobs1_eq (x : Int) : jobs1 x = 1 + ((halfL x).map jobs1).sum := by
  unfold halfL
  by_cases h : x < 2
  · simp [jobs1, h]
  · rw [if_neg h]
    simp only [List.map_cons, List.map_nil, List.sum_cons, List.sum_nil]
    unfold jobs1
    rw [if_neg h]
    split <;> split <;> omega
theorem jobs1_pos (x : Int) : 1 ≤ jobs1 x := by rw [jobs1_eq]; omega
theorem half_small (x : Int) (h : SmallJ x) : ∀ y ∈ halfL x, SmallJ y := fun y hy => by
  unfold halfL at hy
  unfold SmallJ at *
  split at hy
  · cases hy
  · simp at hy
    rcases hy with rfl | rfl <;> omega
theorem jobs1_le {x : Int} (h : SmallJ x) : jobs1 x ≤ 39 := by
  unfold SmallJ at h
  unfold jobs1
  split <;> omega
theorem jobsL_le {l : List Int} (h : ∀ x ∈ l, SmallJ x) : jobsL l ≤ 39 * l.length := by
  induction l with
  | nil => simp [jobsL]
  | cons x l ih =>
    have h1 := jobs1_le (h x (by simp))
    have h2 := ih (fun y hy => h y (by simp [hy]))
    unfold jobsL at *
    simp only [List.map_cons, List.sum_cons, List.length_cons]
    omega
def fewB (l : List Int) : Bool := decide (l.length ≤ 20) && l.all fun x => decide (x ≤ 20)
theorem fewB_iff {l : List Int} : fewB l = true ↔ l.length ≤ 20 ∧ ∀ x ∈ l, SmallJ x := by
  unfold fewB SmallJ
  simp
theorem half_wf2 {x : Int} (h : SmallJ x) : WfL (halfL x) := fun y hy => by
  unfold halfL at hy
  unfold SmallJ at h
  split at hy
  · cases hy
  · simp at hy
    rcases hy with rfl | rfl <;> exact wf_of_i64 (by omega) (by omega)
/-- What comes of a job. -/
theorem rof_any10 {x : Int} (h : SmallJ x) (w : World) : Calls Tryz.prog 35 #[.int .i64 x] w fun e w' => (∃ a c, e = .returned (.slice a (halfL x).length c) ∧ RowI w' a c (halfL x) ∧ ∀ z, a = some z → w.heap.size ≤ z.block) ∧ Below w.heap.size w w' := by
  have hw := half_wf2 h
  unfold SmallJ at h
  by_cases h2 : x < 2
  · have e : halfL x = [] := by unfold halfL; rw [if_pos h2]
    rw [e]
    clear e hw
    go_enter Tryz.func35, Tryz.ntmps35
    go_wp2
    go_ret
    exact ⟨⟨none, 0, rfl, DqI.rowi_nil _, fun z q => by cases q⟩, Below.refl _ _⟩
  · have e : halfL x = [x / 2, x - x / 2] := by unfold halfL; rw [if_neg h2]
    rw [e] at hw ⊢
    have hq : x.tdiv 2 = x / 2 := Int.tdiv_eq_ediv_of_nonneg (by omega)
    obtain ⟨y, hy⟩ : ∃ y, y = x / 2 := ⟨_, rfl⟩
    rw [← hy] at hq hw ⊢
    have hy2 : 1 ≤ y ∧ y ≤ 10 := by omega
    obtain ⟨y1, y2⟩ := hy2
    have HW := hide hw
    clear e hw hy
    go_enter Tryz.func35, Tryz.ntmps35
    go_wp2
    go_ret
    exact ⟨⟨some ⟨w.heap.size, 0, none⟩, 2, rfl, rowi_made w [y, x - y] 3 rfl rfl (by simp) HW.out, fun z q => by cases q; exact Nat.le_refl _⟩, (Below.refl _ _).alloc (Nat.le_refl _) _⟩
/-- Are there few? -/
theorem few_big (a : Option Addr) (m c : Nat) (h : 20 < m) (hm : m ≤ 9223372036854775807) (w : World) : Calls Tryz.prog 4 #[.slice a m c] w fun e w' => e = .returned (.bool false) ∧ w' = w := by
  have g : (20 : Int) < m := by omega
  go_enter Tryz.func4, Tryz.ntmps4
  go_wp2
  go_ret
  exact ⟨rfl, rfl⟩
set_option maxHeartbeats 1000000 in
theorem few_any {a : Option Addr} {c m : Nat} {l : List Int} {w : World} (h : RowI w a c l) (hm : m = l.length) (h20 : m ≤ 20) : Calls Tryz.prog 4 #[.slice a m c] w fun e w' => e = .returned (.bool (fewB l)) ∧ w' = w := by
  have H := hide h
  have HM := hide hm
  have g : ¬ (20 : Int) < m := by omega
  have HF : Hid (fewB l = l.all fun x => decide (x ≤ 20)) := hide (by unfold fewB; rw [decide_eq_true (by omega)]; rfl)
  clear h hm
  go_enter Tryz.func4, Tryz.ntmps4
  go_wp2
  go_loopw [3] (fun i wr => wr = w ∧ ∃ j : Nat, j ≤ m ∧ i = .int .i64 (j : Int) ∧ ∀ x ∈ l.take j, x ≤ 20) (fun i _ => m - (intOf i).toNat)
  case atStart => exact ⟨rfl, 0, Nat.zero_le _, rfl, by simp⟩
  case round =>
    obtain ⟨hw, j, hj, rfl, hall⟩ := hrel
    replace hw := hw.symm
    subst hw
    by_cases hlt : j < m
    · obtain ⟨b, off, rfl, hc⟩ := H.out.at (i := j) (by rw [← HM.out]; exact hlt)
      obtain ⟨x, hx⟩ : ∃ x, x = l.getD j 0 := ⟨_, rfl⟩
      rw [← hx] at hc
      have hxm : x ∈ l := by rw [hx, List.getD_eq_getElem?_getD, List.getElem?_eq_getElem (by rw [← HM.out]; exact hlt)]; exact List.getElem_mem _
      have HT : Hid (l.take (j + 1) = l.take j ++ [x]) := hide (by
        rw [List.take_add_one, hx, List.getD_eq_getElem?_getD, List.getElem?_eq_getElem (by rw [← HM.out]; exact hlt)]
        rfl)
      have hli : (j : Int) < m := by omega
      by_cases hbig : 20 < x
      · have HB : Hid (fewB l = false) := hide (by
          rw [HF.out]
          cases hq : l.all fun x => decide (x ≤ 20) with
          | false => rfl
          | true => have := List.all_eq_true.1 hq x hxm; rw [decide_eq_true_eq] at this; omega)
        clear hx hxm hall
        go_wp2
        go_ret
        rw [HB.out]
        exact ⟨rfl, rfl⟩
      · have HA := hide hall
        clear hx hxm hall
        go_wp2
        go_roundw
        case rel =>
          refine ⟨trivial, j + 1, by omega, by simp, ?_⟩
          rw [HT.out]
          intro y hy
          rcases List.mem_append.1 hy with q | q
          · exact HA.out y q
          · obtain rfl := List.mem_singleton.1 q
            omega
        case measure => simp [intOf]; omega
    · obtain rfl : j = m := by omega
      have hli : ¬ (j : Int) < j := by omega
      rw [List.take_of_length_le (by rw [HM.out]; exact Nat.le_refl _)] at hall
      have HB : Hid (fewB l = true) := hide (by rw [HF.out, List.all_eq_true]; intro x hx; exact decide_eq_true (hall x hx))
      clear hall
      go_wp2
      go_ret
      rw [HB.out]
      exact ⟨rfl, rfl⟩
theorem jobsL_succ {l : List Int} {j : Nat} {x : Int} (h : l.take (j + 1) = l.take j ++ [x]) : jobsL (l.take (j + 1)) = jobsL (l.take j) + jobs1 x := by
  rw [h]
  unfold jobsL
  simp
set_option maxHeartbeats 1000000 in
/-- How many jobs come. -/
theorem jobs_any {a : Option Addr} {c m : Nat} {l : List Int} {w : World} (h : RowI w a c l) (hm : m = l.length) (h20 : m ≤ 1000) (hs : ∀ x ∈ l, SmallJ x) : Calls Tryz.prog 19 #[.slice a m c] w fun e w' => e = .returned (.int .i64 (jobsL l : Int)) ∧ w' = w := by
  have H := hide h
  have HM := hide hm
  have HS := hide hs
  have HLE : Hid (∀ j, j ≤ 1000 → jobsL (l.take j) ≤ 39000) := hide (fun j hj => by
    have h1 := jobsL_le (l := l.take j) (fun x hx => hs x (List.mem_of_mem_take hx))
    rw [List.length_take] at h1
    omega)
  clear h hm hs
  go_enter Tryz.func19, Tryz.ntmps19
  go_wp2
  go_loopw [3, 4] (fun n i wr => wr = w ∧ ∃ j : Nat, j ≤ m ∧ i = .int .i64 (j : Int) ∧ n = .int .i64 (jobsL (l.take j) : Int)) (fun _ i _ => m - (intOf i).toNat)
  case atStart => exact ⟨rfl, 0, Nat.zero_le _, rfl, by simp [jobsL]⟩
  case round =>
    obtain ⟨hw, j, hj, rfl, rfl⟩ := hrel
    replace hw := hw.symm
    subst hw
    by_cases hlt : j < m
    · obtain ⟨b, off, rfl, hc⟩ := H.out.at (i := j) (by rw [← HM.out]; exact hlt)
      obtain ⟨x, hx⟩ : ∃ x, x = l.getD j 0 := ⟨_, rfl⟩
      rw [← hx] at hc
      have hxs : x ≤ 20 := HS.out x (by rw [hx, List.getD_eq_getElem?_getD, List.getElem?_eq_getElem (by rw [← HM.out]; exact hlt)]; exact List.getElem_mem _)
      have hsu := jobsL_succ (l := l) (j := j) (x := x) (by
        rw [List.take_add_one, hx, List.getD_eq_getElem?_getD, List.getElem?_eq_getElem (by rw [← HM.out]; exact hlt)]
        rfl)
      have hle := HLE.out j (by omega)
      obtain ⟨q, hq⟩ : ∃ q, q = jobsL (l.take j) := ⟨_, rfl⟩
      rw [← hq] at hsu hle ⊢
      have hli : (j : Int) < m := by omega
      by_cases h1 : 1 < x
      · have HN : Hid ((jobsL (l.take (j + 1)) : Int) = q + 1 + 2 * (x - 1)) := hide (by rw [hsu]; unfold jobs1; rw [if_neg (by omega)]; omega)
        clear hx hsu hq
        go_wp2
        go_roundw
        case rel => exact ⟨trivial, j + 1, by omega, by simp, by rw [HN.out]⟩
        case measure => simp [intOf]; omega
      · have HN : Hid ((jobsL (l.take (j + 1)) : Int) = q + 1) := hide (by rw [hsu]; unfold jobs1; rw [if_pos (by omega)]; omega)
        clear hx hsu hq
        go_wp2
        go_roundw
        case rel => exact ⟨trivial, j + 1, by omega, by simp, by rw [HN.out]⟩
        case measure => simp [intOf]; omega
    · obtain rfl : j = m := by omega
      have hli : ¬ (j : Int) < j := by omega
      have HE : Hid (jobsL (l.take j) = jobsL l) := hide (by rw [List.take_of_length_le (by rw [HM.out]; exact Nat.le_refl _)])
      go_wp2
      go_ret
      rw [HE.out]
      exact ⟨rfl, rfl⟩
theorem rowE_of {w : World} {a : Option Addr} {c : Nat} {l : List Int} (h : RowI w a c l) : DqI.RowE w a l := fun i hi => h.at hi
/-- What the law's start adds: all jobs small, and how much is to do. -/
theorem all_new (r : Nat) : DqI.AllG SmallJ (newS (0 : Int) r).ks := fun κ hκ => by
  obtain ⟨_, rfl⟩ := List.mem_replicate.1 (show κ ∈ List.replicate r _ from hκ)
  exact ⟨(fun x hx => absurd hx List.not_mem_nil), (fun q => absurd q Bool.false_ne_true)⟩
theorem all_addS {s : PS Int} (h : DqI.AllG SmallJ s.ks) {x : Int} (hx : SmallJ x) : DqI.AllG SmallJ (addS s x).ks := by
  unfold addS
  split
  · exact h
  · rename_i κ hκ
    obtain ⟨g1, g2⟩ := h κ (List.mem_of_getElem? hκ)
    refine DqI.allG_set (κ := ⟨κ.l ++ [x], κ.x, κ.h⟩) h ⟨fun y hy => ?_, g2⟩ _
    rcases List.mem_append.1 hy with q | q
    · exact g1 y q
    · obtain rfl := List.mem_singleton.1 q
      exact hx
theorem all_addL : ∀ (l : List Int) {s : PS Int}, DqI.AllG SmallJ s.ks → (∀ x ∈ l, SmallJ x) → DqI.AllG SmallJ (addL s l).ks
  | [], s, h, _ => h
  | x :: l, s, h, hl => by
    have e : addL s (x :: l) = addL (addS s x) l := rfl
    rw [e]
    exact all_addL l (all_addS h (hl x (by simp))) (fun y hy => hl y (by simp [hy]))
structure Started (r : Nat) (l : List Int) (s : PS Int) : Prop where
  len : s.ks.length = r
  dn : s.dn = []
  st : s.st = 0
  who : s.who = []
  todo : todo jobs1 s.ks = 2 * jobsL l
  sum : ∀ f : Int → Nat, sumL f s.ks = (l.map f).sum
  all : DqI.AllG SmallJ s.ks
theorem started (r : Nat) (hr : 0 < r) (l : List Int) (hl : ∀ x ∈ l, SmallJ x) : Started r l (addL (newS 0 r) l) := by
  have h0 : (newS (0 : Int) r).nx < (newS (0 : Int) r).ks.length := by simp [newS]; exact hr
  obtain ⟨_, a2, _, a4, a5, a6⟩ := addL_sum (fun _ => 1) l h0
  refine ⟨by rw [a2]; simp [newS], a4, a5, a6, ?_, fun f => ?_, all_addL l (all_new r) hl⟩
  · rw [addL_todo jobs1 l h0, (new_sum 0 jobs1 r).2.1, Nat.zero_add]
    rfl
  · rw [(addL_sum f l h0).1, (new_sum 0 f r).1, Nat.zero_add]
end Go.Proofs.YtkjhamcmhijhgaaGreat.Pool

/- A pool's jobs are halved by the law's own function. -/
namespace Go.Proofs.YtkjhamcmhijhgaaGreat.Pool
open Go.RowKit Go.Proofs.YtkjhamcmhijhgaaGreat.Dig Go.Proofs.YtkjhamcmhijhgaaGreat.Mem Go.Proofs.YtkjhamcmhijhgaaGreat.Dq Go.Proofs.YtkjhamcmhijhgaaGreat.Thing Go.Proofs.YtkjhamcmhijhgaaGreat.Pick Go.Proofs.YtkjhamcmhijhgaaGreat.Sets Go.Shelf
set_option linter.unusedVariables false
set_option linter.unusedSimpArgs false

theorem halves_any {x : Int} (h : SmallJ x) (k : Int) (w : World) : Calls Tryz.prog 11 #[.int .i64 k, .int .i64 x] w fun e w' => (∃ a c, e = .returned (.slice a (halfL x).length c) ∧ RowI w' a c (halfL x) ∧ ∀ z, a = some z → w.heap.size ≤ z.block) ∧ Below w.heap.size w w' := by
  have HO := hide (rof_any10 h w)
  obtain ⟨o, ho⟩ : ∃ o, o = halfL x := ⟨_, rfl⟩
  rw [← ho] at HO ⊢
  obtain ⟨m, hm⟩ : ∃ m, m = o.length := ⟨_, rfl⟩
  rw [← hm] at HO ⊢
  clear h ho hm
  go_enter Tryz.func11, Tryz.ntmps11
  go_wp2_with (go_at_call 35; go_must ((with_reducible refine (Hid.out HO).mono ?_); rintro e w1 ⟨⟨a, c, rfl, h1, h2⟩, h3⟩))
  go_ret
  exact ⟨⟨a, c, rfl, h1, h2⟩, h3⟩
theorem halfL_length (x : Int) : (halfL x).length ≤ 2 := by
  unfold halfL
  split <;> simp
theorem does_halves {w : World} (p : Nat) : DqI.Does w p (.func (.func 11) #[] #[]) halfL SmallJ (fun _ t => t = DqI.noT) := by
  intro dn t ts ks b sb nx st v k κ wy hd h hk hg hn hdn hl
  have hlen := halfL_length κ.x
  refine (DqI.work_do (Q := fun t' => t' = t) (o := halfL κ.x) h hk hn hdn (by omega) hl (enters_of Tryz.func11 (by kernel_rfl) rfl) (fun ts wy z => ?_)).mono ?_
  · have e : (#[.int .i64 (k : Int), .int .i64 κ.x] ++ #[] : Array Value) = #[.int .i64 (k : Int), .int .i64 κ.x] := by simp
    rw [e]
    refine (halves_any hg (k : Int) wy).mono ?_
    rintro e w' ⟨⟨a, c, rfl, h1, h2⟩, h3⟩
    exact ⟨a, c, t, rfl, hide (z.out.more h3 (rowE_of h1) (fun j ⟨_, x, e, ej⟩ => by subst ej; exact h2 x e)), rfl⟩
  · rintro e w' ⟨rfl, r', t', K, rfl⟩
    exact ⟨rfl, r', t', K, hd⟩
end Go.Proofs.YtkjhamcmhijhgaaGreat.Pool

/- An argument []int as a row that is read. -/
namespace Go.Proofs.YtkjhamcmhijhgaaGreat.Frame
open Go.RowKit Go.Proofs.YtkjhamcmhijhgaaGreat.Dig Go.Proofs.YtkjhamcmhijhgaaGreat.Dq
set_option linter.unusedVariables false

theorem IsRow.rowi {w : World} {a : Option Addr} {len cap : Nat} {zs : List Int} (h : IsRow .i64 w a len cap zs) (hl : len ≤ 1000000000000) : ∃ l : List Int, len = l.length ∧ RowI w a cap l := by
  obtain ⟨l, e, h1, h2, h3⟩ := h.list hl
  exact ⟨l, e, ⟨by rw [← e]; exact h.cap.1, h1, fun q => (h3 q).2⟩⟩
end Go.Proofs.YtkjhamcmhijhgaaGreat.Frame

/- The document's pool in memory: a struct of eleven cells, whose rows are read alone; rows of rows, of bools; append to one's own row of any such. -/
namespace Go.Proofs.YtkjhamcmhijhgaaGreat.PRef
open Go.RowKit Go.Proofs.YtkjhamcmhijhgaaGreat.Dig Go.Proofs.YtkjhamcmhijhgaaGreat.Mem Go.Proofs.YtkjhamcmhijhgaaGreat.Dq Go.Proofs.YtkjhamcmhijhgaaGreat.Thing Go.Proofs.YtkjhamcmhijhgaaGreat.Pick Go.Proofs.YtkjhamcmhijhgaaGreat.Sets Go.Proofs.YtkjhamcmhijhgaaGreat.Pool
set_option linter.unusedVariables false
set_option linter.unusedSimpArgs false

theorem Tryz.infoPInt : (Tryz.prog.info? 3).map (fun i => (i.zero, i.size, i.bytes)) = some (some (.int .i64 0), 1, 8) := by kernel_rfl
theorem Tryz.infoPInts : (Tryz.prog.info? 22).map (fun i => (i.zero, i.size, i.bytes)) = some (some (.slice none 0 0), 1, 24) := by kernel_rfl
theorem Tryz.infoPBool : (Tryz.prog.info? 4).map (fun i => (i.zero, i.size, i.bytes)) = some (some (.bool false), 1, 1) := by kernel_rfl
section
variable {w w' W : World} {x y t : Th} {ts : List Th} {base m m' : Nat} {e : TypeId} {v v' : Value} {xs xs' : List Value}
theorem grow1 (h : Kn w (ownT base e v m xs :: ts) W) (ho : w'.ownsRow base e 1 v' m' xs') (hg : W.grownBy w' v.ownBlock) (hat : v'.ownBlock = v.ownBlock ∨ v'.ownBlock = some W.heap.size) :
    Kn w (ownT base e v' m' xs' :: ts) w' :=
  h.turn (t := ownT base e v m xs) (t' := ownT base e v' m' xs') ho ⟨hg.os, hg.tape, hg.output, hg.size, fun k hk hn => hg.block k hk (fun e => hn e.symm)⟩ (fun k hk => by
    have hk' : v'.ownBlock = some k := hk
    rcases hat with q | q
    · exact .inl (by show v.ownBlock = some k; rw [← q]; exact hk')
    · rw [q] at hk'
      exact .inr (Nat.le_of_eq (Option.some.inj hk')))
/-- One's own row, of which nothing is there yet. -/
theorem own0 (h : Kn w ts W) (T : TypeId) (hb : base ≤ W.heap.size) {g : Nat} (hg : g = W.heap.size) : Kn w (ownT base T (.slice (some ⟨g, 0, none⟩) 0 0) 0 [] :: ts) (W.alloc (.cells #[] T)) := by
  subst hg
  exact h.more ((Below.refl _ _).alloc (Nat.le_refl _) _) (t' := ownT base T (.slice (some ⟨W.heap.size, 0, none⟩) 0 0) 0 []) (World.ownsRow_made W #[] 0 hb (by unfold maxLen; omega) rfl) (fun k hk => by cases hk; exact Nat.le_refl _)
theorem box0 (h : Kn w ts W) (cs : Array Value) (T : TypeId) {g : Nat} (hg : g = W.heap.size) : Kn w (boxT g cs :: ts) (W.alloc (.cells cs T)) :=
  h.more ((Below.refl _ _).alloc (Nat.le_refl _) _) (t' := boxT g cs) (Is.made _ _ _ hg) (fun k hk => by cases hk; exact Nat.le_of_eq hg.symm)
theorem own_some {n : Nat} (h : W.ownsRow base e 1 v n xs) (hn : 0 < n) : ∃ g c, v = .slice (some ⟨g, 0, none⟩) n c := by
  rcases h.2 with ⟨_, h0⟩ | ⟨g, cap, cur, hv, _⟩
  · omega
  · exact ⟨g, cap, hv⟩
theorem own_cell {g c n : Nat} (h : W.ownsRow base e 1 (.slice (some ⟨g, 0, none⟩) n c) n xs) {k : Nat} {u : Value} (hk : xs[k]? = some u) : W.cell? ⟨g, k, none⟩ = some u := by
  have hl := h.1
  have : k < xs.length := by
    rcases Nat.lt_or_ge k xs.length with q | q
    · exact q
    · rw [List.getElem?_eq_none q] at hk; cases hk
  rw [h.cellAt k (by omega)]; exact hk
theorem put11 {b : Nat} {u0 u1 u2 u3 u4 u5 u6 u7 u8 u9 u10 : Value} (h : Kn w (boxT b #[u0, u1, u2, u3, u4, u5, u6, u7, u8, u9, u10] :: ts) W) (v0 v1 v2 v3 v4 v5 v6 v7 v8 v9 v10 : Value) :
    Kn w (boxT b #[v0, v1, v2, v3, v4, v5, v6, v7, v8, v9, v10] :: ts) (((((((((((W.setCell ⟨b, 0, none⟩ v0).setCell ⟨b, 1, none⟩ v1).setCell ⟨b, 2, none⟩ v2).setCell ⟨b, 3, none⟩ v3).setCell ⟨b, 4, none⟩ v4).setCell ⟨b, 5, none⟩ v5).setCell ⟨b, 6, none⟩ v6).setCell ⟨b, 7, none⟩ v7).setCell ⟨b, 8, none⟩ v8).setCell ⟨b, 9, none⟩ v9).setCell ⟨b, 10, none⟩ v10) :=
  h.turn (t := boxT b _) (t' := boxT b #[v0, v1, v2, v3, v4, v5, v6, v7, v8, v9, v10]) ((((((((((((h.hd.set 0 v0).set 1 v1).set 2 v2).set 3 v3).set 4 v4).set 5 v5).set 6 v6).set 7 v7).set 8 v8).set 9 v9).set 10 v10).eq (by simp)) (((((((((((((Only.refl _ _).put 0 _).put 1 _).put 2 _).put 3 _).put 4 _).put 5 _).put 6 _).put 7 _).put 8 _).put 9 _).put 10 _)) (fun _ e => .inl e)
/-- One's own row lies in no box. -/
theorem sep_box {n g c b : Nat} {cs : Array Value} (h : Kn w (ownT base e (.slice (some ⟨g, 0, none⟩) n c) m xs :: ts) W) (hb : boxT b cs ∈ ts) : ¬ g = b ∧ ¬ b = g := by
  have := (List.pairwise_cons.1 h.sep).1 _ hb g rfl
  exact ⟨this, fun q => this q.symm⟩
theorem sep_own {n n' g g' c c' : Nat} {e' : TypeId} {b' : Nat} {m' : Nat} {ys : List Value} (h : Kn w (ownT base e (.slice (some ⟨g, 0, none⟩) n c) m xs :: ts) W) (hb : ownT b' e' (.slice (some ⟨g', 0, none⟩) n' c') m' ys ∈ ts) : ¬ g = g' ∧ ¬ g' = g := by
  have := (List.pairwise_cons.1 h.sep).1 _ hb g rfl
  exact ⟨fun q => this (by rw [q]; rfl), fun q => this (by rw [q]; rfl)⟩
theorem only11 {b : Nat} (W : World) (v0 v1 v2 v3 v4 v5 v6 v7 v8 v9 v10 : Value) : Only (fun k => k = b) W (((((((((((W.setCell ⟨b, 0, none⟩ v0).setCell ⟨b, 1, none⟩ v1).setCell ⟨b, 2, none⟩ v2).setCell ⟨b, 3, none⟩ v3).setCell ⟨b, 4, none⟩ v4).setCell ⟨b, 5, none⟩ v5).setCell ⟨b, 6, none⟩ v6).setCell ⟨b, 7, none⟩ v7).setCell ⟨b, 8, none⟩ v8).setCell ⟨b, 9, none⟩ v9).setCell ⟨b, 10, none⟩ v10) :=
  ((((((((((((Only.refl _ _).put 0 _).put 1 _).put 2 _).put 3 _).put 4 _).put 5 _).put 6 _).put 7 _).put 8 _).put 9 _).put 10 _)
theorem putBox {b : Nat} {cs : Array Value} (h : Kn w (boxT b cs :: ts) W) (i : Nat) (u : Value) {cs' : Array Value} (hc : cs.setIfInBounds i u = cs') : Kn w (boxT b cs' :: ts) (W.setCell ⟨b, i, none⟩ u) :=
  h.turn (t := boxT b cs) (t' := boxT b cs') ((h.hd.set i u).eq hc) ((Only.refl _ _).put i _) (fun _ e => .inl e)
/-- A cell of one's own row is written. -/
theorem ownPut {g c : Nat} (h : Kn w (ownT base e (.slice (some ⟨g, 0, none⟩) m c) m xs :: ts) W) (j : Nat) (u : Value) : Kn w (ownT base e (.slice (some ⟨g, 0, none⟩) m c) m (xs.set j u) :: ts) (W.setCell ⟨g, j, none⟩ u) := by
  obtain ⟨h1, h2⟩ := World.ownsRow.stored (show W.ownsRow base e 1 (.slice (some ⟨g, 0, none⟩) m c) m xs from h.hd) j u
  exact h.turn (t := ownT base e (.slice (some ⟨g, 0, none⟩) m c) m xs) (t' := ownT base e (.slice (some ⟨g, 0, none⟩) m c) m (xs.set j u)) h1 ⟨h2.os, h2.tape, h2.output, h2.size, fun k hk hn => h2.block k hk (fun e => hn (by show _ = some k; rw [e]; rfl))⟩ (fun k hk => .inl hk)
end
/-- A slice that reads values of one cell each. -/
structure CellsR (w : World) (a : Option Addr) (c : Nat) (xs : List Value) : Prop where
  cap : xs.length ≤ c
  nil : a = none → c = 0
  at_ : ∀ i u, xs[i]? = some u → ∃ b off, a = some ⟨b, off, none⟩ ∧ w.cell? ⟨b, off + i, none⟩ = some u
theorem CellsR.keep {w w' : World} {a : Option Addr} {c : Nat} {xs : List Value} (h : CellsR w a c xs) (hb : Below w.heap.size w w') : CellsR w' a c xs := ⟨h.cap, h.nil, fun i u hu => by
  obtain ⟨b, off, e, hc⟩ := h.at_ i u hu
  exact ⟨b, off, e, (hb.cell (p := ⟨b, off + i, none⟩) (lt_of_cell hc)).trans hc⟩⟩
theorem CellsR.of_own {w : World} {base n c : Nat} {e : TypeId} {a : Option Addr} {xs : List Value} (h : w.ownsRow base e 1 (.slice a n c) n xs) : CellsR w a c xs := by
  have hl := h.1
  rcases h.2 with ⟨hv, h0⟩ | ⟨g, cap, cur, hv, hg, hh, hc1, hc2, hc3, hc4⟩
  · have : xs = [] := List.eq_nil_of_length_eq_zero (by omega)
    subst this
    cases hv
    exact ⟨Nat.zero_le _, fun _ => rfl, fun i u hu => by simp at hu⟩
  · cases hv
    refine ⟨by omega, (fun q => by cases q), fun i u hu => ⟨g, 0, rfl, ?_⟩⟩
    have hi : i < xs.length := by
      rcases Nat.lt_or_ge i xs.length with q | q
      · exact q
      · rw [List.getElem?_eq_none q] at hu; cases hu
    rw [Nat.zero_add, h.cellAt i (by omega)]
    exact hu
theorem CellsR.of_row {w : World} {a : Option Addr} {c : Nat} {l : List Int} (h : RowI w a c l) : CellsR w a c (l.map (Value.int .i64)) := ⟨by rw [List.length_map]; exact h.cap, h.nil, fun i u hu => by
  rw [List.getElem?_map] at hu
  have hi : i < l.length := by
    rcases Nat.lt_or_ge i l.length with q | q
    · exact q
    · rw [List.getElem?_eq_none q] at hu; cases hu
  obtain ⟨b, off, e, hc⟩ := h.at hi
  refine ⟨b, off, e, ?_⟩
  rw [hc, ← hu]
  simp [List.getD_eq_getElem?_getD, List.getElem?_eq_getElem hi]⟩
/-- append of what is read to one's own row. -/
theorem app_cells {w : World} {ops : Array Oper} {rest : List Oper} {o : Oper} {a : Act} {Q : Exit → Act → World → Prop} (T e : TypeId) {z : Value} {by_ : Nat} (hT : Tryz.prog.underlying T = some (.slice e)) (hI : (Tryz.prog.info? e).map (fun i => (i.zero, i.size, i.bytes)) = some (some z, 1, by_)) (hzs : z.cells.size = 1) (hby : by_ ≤ 1000) (hgd : o.guard = none) (s x : Operand)
    (ho : o.op = .call { callee := .builtin .append, args := #[s, x], argTypes := #[T, T] }) (base : Nat) (v : Value) (n : Nat) (xs : List Value) (hs : a.eval s = v) (hown : w.ownsRow base e 1 v n xs)
    (ao : Option Addr) (c m : Nat) (news : List Value) (hx : a.eval x = .slice ao m c) (hm : m = news.length) (hr : CellsR w ao c news) (h1 : ∀ u ∈ news, u.oneCell' = true) (hb : n + news.length ≤ 1000000) (hbase : base ≤ w.heap.size)
    (h : ∀ v' w', w'.ownsRow base e 1 v' (n + news.length) (xs ++ news) → w.grownBy w' v.ownBlock → (v'.ownBlock = v.ownBlock ∨ v'.ownBlock = some w.heap.size) → wpList Tryz.prog ops Q rest (a.put o.dst v') w') : wpList Tryz.prog ops Q (o :: rest) a w := by
  obtain ⟨i0, hi, hz0, hz1, hz2⟩ := info_parts hI
  subst hm
  cases ao with
  | none =>
    have hr0 : news = [] := by
      cases news with
      | nil => rfl
      | cons y r => obtain ⟨b, off, e', _⟩ := hr.at_ 0 y rfl; cases e'
    subst hr0
    have hc : c = 0 := hr.nil rfl
    subst hc
    exact wpList_append_own_none hgd s x T ho base e i0 1 hT hi v n xs hs hown hx (h v w (by simpa using hown) ⟨rfl, rfl, rfl, Nat.le_refl _, fun _ _ _ => rfl⟩ (.inl rfl))
  | some ad =>
    refine wpList_append_own_at w hgd s x T ho base e i0 z 1 by_ hT hi hz0 hz1 hz2 hzs (by decide) v n xs hs hown ad news.length c news hx (by simp) ?_ h1 (by unfold maxLen; omega) ?_ hbase ?_
    · intro j u hu
      obtain ⟨b, off, hab, hc⟩ := hr.at_ j u hu
      obtain rfl := Option.some.inj hab
      rw [Addr.add_lit, hc]
    · exact Nat.le_trans (Nat.mul_le_mul hb hby) (by decide)
    · intro v' w' hown' hgrow _ hat
      exact h v' w' hown' hgrow hat
/-- A slice value. -/
structure SL where
  a : Option Addr
  n : Nat
  c : Nat
abbrev SL.v (s : SL) : Value := .slice s.a s.n s.c
/-- Lists, each read at a slice. -/
def ReadR (w : World) (ds : List SL) (ls : List (List Int)) : Prop := ds.length = ls.length ∧ ∀ (i : Nat) (d : SL) (l : List Int), ds[i]? = some d → ls[i]? = some l → d.n = l.length ∧ RowI w d.a d.c l
section
variable {w w' : World} {ds : List SL} {ls : List (List Int)}
theorem ReadR.keep (h : ReadR w ds ls) (hb : Below w.heap.size w w') : ReadR w' ds ls := ⟨h.1, fun i d l h1 h2 => ⟨(h.2 i d l h1 h2).1, (h.2 i d l h1 h2).2.keep hb⟩⟩
theorem ReadR.set (h : ReadR w ds ls) {d : SL} {l : List Int} (hn : d.n = l.length) (hr : RowI w d.a d.c l) (k : Nat) : ReadR w (ds.set k d) (ls.set k l) := by
  refine ⟨by rw [List.length_set, List.length_set]; exact h.1, fun i d' l' h1 h2 => ?_⟩
  rw [List.getElem?_set] at h1 h2
  by_cases e : k = i
  · rw [if_pos e] at h1 h2
    split at h1
    · split at h2
      · cases h1; cases h2; exact ⟨hn, hr⟩
      · cases h2
    · cases h1
  · rw [if_neg e] at h1 h2
    exact h.2 i d' l' h1 h2
theorem ReadR.get (h : ReadR w ds ls) {k : Nat} {l : List Int} (hk : ls[k]? = some l) : ∃ d, ds[k]? = some d ∧ d.n = l.length ∧ RowI w d.a d.c l := by
  have hlt : k < ds.length := by
    rw [h.1]
    rcases Nat.lt_or_ge k ls.length with q | q
    · exact q
    · rw [List.getElem?_eq_none q] at hk; cases hk
  exact ⟨ds[k], List.getElem?_eq_getElem hlt, h.2 k _ l (List.getElem?_eq_getElem hlt) hk⟩
end
/-- The document's struct. -/
structure RV where
  l : SL
  c : Int
  n : Nat
  u : Nat
  rows : SL
  held : SL
  holds : SL
  done : SL
  st : Nat
  nx : Nat
  who : SL
  ds : List SL
/-- The document's pool in memory stands for the plain one. -/
structure RP (w : World) (v : RV) (L : List Int) (c : Int) (n : Nat) (s : PS Int) : Prop where
  l : v.l.n = L.length ∧ RowI w v.l.a v.l.c L
  scr : v.c = c ∧ v.n = n ∧ v.u = min n L.length
  rows : v.rows.n = s.ks.length ∧ CellsR w v.rows.a v.rows.c (v.ds.map SL.v) ∧ ReadR w v.ds (s.ks.map fun κ => κ.l)
  held : v.held.n = s.ks.length ∧ RowI w v.held.a v.held.c (s.ks.map fun κ => κ.x)
  holds : v.holds.n = s.ks.length ∧ CellsR w v.holds.a v.holds.c (s.ks.map fun κ => Value.bool κ.h)
  done : v.done.n = s.dn.length ∧ RowI w v.done.a v.done.c s.dn
  num : v.st = s.st ∧ v.nx = s.nx
  who : v.who.n = s.who.length ∧ RowI w v.who.a v.who.c s.who
theorem RP.keep {w w' : World} {v : RV} {L : List Int} {c : Int} {n : Nat} {s : PS Int} (h : RP w v L c n s) (hb : Below w.heap.size w w') : RP w' v L c n s :=
  ⟨⟨h.l.1, h.l.2.keep hb⟩, h.scr, ⟨h.rows.1, h.rows.2.1.keep hb, h.rows.2.2.keep hb⟩, ⟨h.held.1, h.held.2.keep hb⟩, ⟨h.holds.1, h.holds.2.keep hb⟩, ⟨h.done.1, h.done.2.keep hb⟩, h.num, ⟨h.who.1, h.who.2.keep hb⟩⟩
/-- The same, whatever is written into the blocks of A. -/
def RPA (A : Nat → Prop) (w : World) (v : RV) (L : List Int) (c : Int) (n : Nat) (s : PS Int) : Prop := ∀ W, Only A w W → RP W v L c n s
section
variable {A B : Nat → Prop} {w w' W : World} {v : RV} {L : List Int} {c : Int} {n : Nat} {s : PS Int} {ts : List Th} {t : Th}
theorem RPA.rp (h : RPA A w v L c n s) : RP w v L c n s := h w (Only.refl _ _)
theorem RPA.only (h : RPA A w v L c n s) (ho : Only A w w') : RPA A w' v L c n s := fun W h2 => h W (ho.trans h2)
theorem RPA.keep (h : RPA A w v L c n s) (hb : Below w.heap.size w w') : RPA A w' v L c n s := h.only (Only.of_below hb)
theorem RPA.less (h : RPA A w v L c n s) (hs : ∀ k, B k → A k) : RPA B w v L c n s := fun W ho => h W (ho.mono hs)
theorem past (h : Kn w ts W) (hA : ∀ k, A k → k < w.heap.size) (ho : Only A W w') (ht : t ∈ ts) : t.P w' := t.keep (h.has t ht).1 ho (fun k hk q => by have := (h.has t ht).2 k hk; have := hA k q; omega)
theorem only_past (h : Kn w ts W) (ho : Only A W w') : Only A w w' := (Only.of_below h.below).trans ho
end
theorem _root_.Go.Proofs.YtkjhamcmhijhgaaGreat.Mem.Is.eleven {w : World} {b : Nat} {v0 v1 v2 v3 v4 v5 v6 v7 v8 v9 v10 : Value} (h : Is w b #[v0, v1, v2, v3, v4, v5, v6, v7, v8, v9, v10]) :
    (w.cell? ⟨b, 0, none⟩ = some v0 ∧ w.cell? ⟨b, 1, none⟩ = some v1 ∧ w.cell? ⟨b, 2, none⟩ = some v2 ∧ w.cell? ⟨b, 3, none⟩ = some v3 ∧ w.cell? ⟨b, 4, none⟩ = some v4 ∧ w.cell? ⟨b, 5, none⟩ = some v5 ∧ w.cell? ⟨b, 6, none⟩ = some v6 ∧ w.cell? ⟨b, 7, none⟩ = some v7 ∧ w.cell? ⟨b, 8, none⟩ = some v8 ∧ w.cell? ⟨b, 9, none⟩ = some v9 ∧ w.cell? ⟨b, 10, none⟩ = some v10) ∧
    ∀ i, w.frozen? ⟨b, i, none⟩ = false :=
  ⟨⟨h.cell 0 rfl, h.cell 1 rfl, h.cell 2 rfl, h.cell 3 rfl, h.cell 4 rfl, h.cell 5 rfl, h.cell 6 rfl, h.cell 7 rfl, h.cell 8 rfl, h.cell 9 rfl, h.cell 10 rfl⟩, fun i => h.frozen i⟩
theorem map_keep {β : Type} {ks : List (W1 Int)} {k : Nat} {κ κ' : W1 Int} (hk : ks[k]? = some κ) (f : W1 Int → β) (hf : f κ' = f κ) : (ks.set k κ').map f = ks.map f := by
  rw [List.map_set, hf]
  apply List.ext_getElem?
  intro i
  rw [List.getElem?_set]
  split
  · rename_i e
    subst e
    rw [if_pos (by rw [List.length_map]; exact (List.getElem?_eq_some_iff.1 hk).1), List.getElem?_map, hk]
    rfl
  · rfl
theorem own_ints {W : World} {base n c : Nat} {a : Option Addr} {l : List Int} {xs : List Value} (h : W.ownsRow base 3 1 (.slice a n c) n xs) (hx : xs = l.map (Value.int .i64)) (hw : ∀ x ∈ l, (Lit.int .i64 x).wf = true) (hl : l.length ≤ 1000000) : n = l.length ∧ RowI W a c l := by
  subst hx
  have hn : n = l.length := by have := h.1; simp at this; omega
  subst hn
  obtain ⟨a, c3, e, hr, _⟩ := OwnI.row (l := l) h (by omega) hw
  cases e
  exact ⟨rfl, hr⟩
end Go.Proofs.YtkjhamcmhijhgaaGreat.PRef

/- The document's New. -/
namespace Go.Proofs.YtkjhamcmhijhgaaGreat.PRef
open Go.RowKit Go.Proofs.YtkjhamcmhijhgaaGreat.Dig Go.Proofs.YtkjhamcmhijhgaaGreat.Mem Go.Proofs.YtkjhamcmhijhgaaGreat.Dq Go.Proofs.YtkjhamcmhijhgaaGreat.Thing Go.Proofs.YtkjhamcmhijhgaaGreat.Pick Go.Proofs.YtkjhamcmhijhgaaGreat.Sets Go.Proofs.YtkjhamcmhijhgaaGreat.Pool
set_option linter.unusedVariables false
set_option linter.unusedSimpArgs false

theorem mk_any (T e : TypeId) {z : Value} {by_ : Nat} (hT : Tryz.prog.underlying T = some (.slice e)) (hI : (Tryz.prog.info? e).map (fun i => (i.zero, i.size, i.bytes)) = some (some z, 1, by_)) (hzc : z.cells = #[z]) (hby : by_ ≤ 1000) (n : Nat) (hn : n ≤ 1000000) : ∀ w : World, (Instr.makeSlice T (.int .i64 (n : Int)) (.int .i64 (n : Int))).run Tryz.prog w = .ok (.slice (some ⟨w.heap.size, 0, none⟩) n n) (w.alloc (.cells (List.replicate n z).toArray e)) := by
  intro w
  obtain ⟨i0, hi, hz0, hz1, hz2⟩ := info_parts hI
  have h1 : by_ * n ≤ 1000000000 := Nat.le_trans (Nat.mul_le_mul hby hn) (by decide)
  have h1' : ((by_ * n : Nat) : Int) ≤ 1000000000 := by omega
  rw [Int.natCast_mul] at h1'
  have hr := run_makeSlice (P := Tryz.prog) w T e i0 z hT hi hz0 .i64 .i64 (n : Int) (n : Int) (by omega) (Int.le_refl _) (by rw [hz1]; simp; omega) (by rw [hz2]; omega) (by omega)
  simp only [Int.toNat_natCast] at hr
  rw [hz1, Nat.mul_one, madeCells_one _ hzc] at hr
  exact hr
theorem made_cells {w : World} {b : Nat} {z : Value} {n : Nat} (h : Is w b (List.replicate n z).toArray) : CellsR w (some ⟨b, 0, none⟩) n (List.replicate n z) := ⟨by simp, (fun e => by cases e), fun i u hu => ⟨b, 0, rfl, by rw [Nat.zero_add]; exact h.cell i (by rw [List.getElem?_toArray]; exact hu)⟩⟩
theorem made_row {w : World} {b : Nat} {n : Nat} (h : Is w b (List.replicate n (Value.int .i64 0)).toArray) (hn : n ≤ 1000000) : RowI w (some ⟨b, 0, none⟩) n (List.replicate n 0) := ⟨by simp, ⟨by simp; omega, fun i hi => ⟨b, 0, rfl, by
    rw [List.length_replicate] at hi
    rw [Nat.zero_add, h.cell i (v := .int .i64 0) (by simp [hi])]
    simp [List.getD_eq_getElem?_getD, hi], by
    show (Lit.int .i64 ((List.replicate n 0).getD i 0)).wf = true
    rw [List.length_replicate] at hi
    have e : (List.replicate n (0 : Int)).getD i 0 = 0 := by simp [List.getD_eq_getElem?_getD, hi]
    rw [e]
    exact wf_of_i64 (by omega) (by omega)⟩⟩, fun e => by cases e⟩
theorem rp_new {W : World} {r b1 b2 b3 : Nat} {la : Option Addr} {m lp : Nat} {L : List Int} {c : Int} (h1 : Is W b1 (Array.replicate r (Value.slice none 0 0))) (h2 : Is W b2 (Array.replicate r (Value.int .i64 0))) (h3 : Is W b3 (Array.replicate r (Value.bool false))) (hm : m = L.length) (hr : r ≤ 64) (hl : RowI W la lp L) :
    RP W ⟨⟨la, m, lp⟩, c, 0, 0, ⟨some ⟨b1, 0, none⟩, r, r⟩, ⟨some ⟨b2, 0, none⟩, r, r⟩, ⟨some ⟨b3, 0, none⟩, r, r⟩, ⟨none, 0, 0⟩, 0, 0, ⟨none, 0, 0⟩, List.replicate r ⟨none, 0, 0⟩⟩ L c 0 (newS 0 r) := by
  rw [← List.toArray_replicate] at h1 h2 h3
  have hnil : RowI W none 0 [] := ⟨Nat.le_refl _, ⟨by simp, fun i hi => absurd hi (by simp)⟩, fun _ => rfl⟩
  refine ⟨⟨hm, hl⟩, ⟨rfl, rfl, by simp⟩, ⟨by simp [newS], ?_, ?_⟩, ⟨by simp [newS], ?_⟩, ⟨by simp [newS], ?_⟩, ⟨rfl, hnil⟩, ⟨rfl, rfl⟩, ⟨rfl, hnil⟩⟩
  · have := made_cells h1
    simpa using this
  · refine ⟨by simp [newS], fun i d l q1 q2 => ?_⟩
    simp only [newS, List.map_replicate, List.getElem?_replicate] at q1 q2
    split at q1
    · rename_i hi
      rw [if_pos hi] at q2
      cases q1; cases q2
      exact ⟨rfl, hnil⟩
    · cases q1
  · have := made_row h2 (by omega)
    simpa [newS] using this
  · have := made_cells h3
    simpa [newS] using this
theorem keep_in {w1 W : World} {b lo : Nat} {cs : Array Value} (h : Is w1 b cs) (ho : Only (fun k => ¬ (lo ≤ k ∧ k < w1.heap.size)) w1 W) (hlo : lo ≤ b) : Is W b cs := h.keep ho (fun q => q ⟨hlo, h.lt⟩)
set_option maxRecDepth 20000 in
set_option maxHeartbeats 4000000 in
theorem rnew_ok {w : World} {la : Option Addr} {m lp : Nat} {L : List Int} {c : Int} (hl : RowI w la lp L) (hm : m = L.length) {r : Nat} (h1 : 1 ≤ r) (h2 : r ≤ 64) :
    Calls Tryz.prog 8 #[.int .i64 (r : Int), .agg #[.slice la m lp, .int .i64 c, .int .i64 0, .int .i64 0]] w fun e w' => ∃ v', e = .returned (.tuple #[.agg #[.slice v'.l.a v'.l.n v'.l.c, .int .i64 v'.c, .int .i64 (v'.n : Int), .int .i64 (v'.u : Int), .slice v'.rows.a v'.rows.n v'.rows.c, .slice v'.held.a v'.held.n v'.held.c, .slice v'.holds.a v'.holds.n v'.holds.c, .slice v'.done.a v'.done.n v'.done.c, .int .i64 (v'.st : Int), .int .i64 (v'.nx : Int), .slice v'.who.a v'.who.n v'.who.c], .int .i64 0]) ∧ Hid (∀ W', Only (fun k => ¬ (w.heap.size ≤ k ∧ k < w'.heap.size)) w' W' → RowI W' la lp L → RP W' v' L c 0 (newS 0 r)) ∧ Below w.heap.size w w' := by
  have mk1 := mk_any 33 22 Tryz.underlying33 Tryz.infoPInts rfl (by decide) r (by omega)
  have mk2 := mk_any 22 3 Tryz.underlying22 Tryz.infoPInt rfl (by decide) r (by omega)
  have mk3 := mk_any 34 4 Tryz.underlying34 Tryz.infoPBool rfl (by decide) r (by omega)
  have HL := hide hl
  have HM := hide hm
  have hr2 : r ≤ 64 := h2
  have g1 : ¬ (r : Int) < 1 := by omega
  have g2 : ¬ (64 : Int) < (r : Int) := by omega
  clear hl hm
  go_enter Tryz.func8, Tryz.ntmps8
  go_wp2
  go_region
  all_goals
    go_wp2
    first
    | (refine bodyPost_ret (v := .tuple #[.agg #[.slice la m lp, .int .i64 c, .int .i64 0, .int .i64 0, .slice (some ⟨w.heap.size + 1 + 1, 0, none⟩) r r, .slice (some ⟨w.heap.size + 1 + 1 + 1, 0, none⟩) r r, .slice (some ⟨w.heap.size + 1 + 1 + 1 + 1, 0, none⟩) r r, .slice none 0 0, .int .i64 0, .int .i64 0, .slice none 0 0], .int .i64 0]) ?_ rfl ?_; (focus (simp [results, Tryz.results8, go_sem]; done)); exact ⟨⟨⟨la, m, lp⟩, c, 0, 0, ⟨some ⟨w.heap.size + 1 + 1, 0, none⟩, r, r⟩, ⟨some ⟨w.heap.size + 1 + 1 + 1, 0, none⟩, r, r⟩, ⟨some ⟨w.heap.size + 1 + 1 + 1 + 1, 0, none⟩, r, r⟩, ⟨none, 0, 0⟩, 0, 0, ⟨none, 0, 0⟩, List.replicate r ⟨none, 0, 0⟩⟩, rfl, hide (fun W' ho hl => rp_new (keep_in (by first | exact (Is.made _ _ _ (by simp)).drew | exact ((Is.made _ _ _ (by simp)).alloc _).drew | exact (((Is.made _ _ _ (by simp)).alloc _).alloc _).drew) ho (by omega)) (keep_in (by first | exact (Is.made _ _ _ (by simp)).drew | exact ((Is.made _ _ _ (by simp)).alloc _).drew | exact (((Is.made _ _ _ (by simp)).alloc _).alloc _).drew) ho (by omega)) (keep_in (by first | exact (Is.made _ _ _ (by simp)).drew | exact ((Is.made _ _ _ (by simp)).alloc _).drew | exact (((Is.made _ _ _ (by simp)).alloc _).alloc _).drew) ho (by omega)) HM.out hr2 hl), by (repeat (first | exact Below.refl _ _ | apply Below.drew | (refine Below.alloc ?_ (by simp; try omega) _)))⟩)
    | (refine bodyPost_ret (v := .tuple #[.agg #[.slice la m lp, .int .i64 c, .int .i64 0, .int .i64 0, .slice (some ⟨w.heap.size + 1 + 1, 0, none⟩) r r, .slice (some ⟨w.heap.size + 1 + 1 + 1 + 1, 0, none⟩) r r, .slice (some ⟨w.heap.size + 1 + 1 + 1, 0, none⟩) r r, .slice none 0 0, .int .i64 0, .int .i64 0, .slice none 0 0], .int .i64 0]) ?_ rfl ?_; (focus (simp [results, Tryz.results8, go_sem]; done)); exact ⟨⟨⟨la, m, lp⟩, c, 0, 0, ⟨some ⟨w.heap.size + 1 + 1, 0, none⟩, r, r⟩, ⟨some ⟨w.heap.size + 1 + 1 + 1 + 1, 0, none⟩, r, r⟩, ⟨some ⟨w.heap.size + 1 + 1 + 1, 0, none⟩, r, r⟩, ⟨none, 0, 0⟩, 0, 0, ⟨none, 0, 0⟩, List.replicate r ⟨none, 0, 0⟩⟩, rfl, hide (fun W' ho hl => rp_new (keep_in (by first | exact (Is.made _ _ _ (by simp)).drew | exact ((Is.made _ _ _ (by simp)).alloc _).drew | exact (((Is.made _ _ _ (by simp)).alloc _).alloc _).drew) ho (by omega)) (keep_in (by first | exact (Is.made _ _ _ (by simp)).drew | exact ((Is.made _ _ _ (by simp)).alloc _).drew | exact (((Is.made _ _ _ (by simp)).alloc _).alloc _).drew) ho (by omega)) (keep_in (by first | exact (Is.made _ _ _ (by simp)).drew | exact ((Is.made _ _ _ (by simp)).alloc _).drew | exact (((Is.made _ _ _ (by simp)).alloc _).alloc _).drew) ho (by omega)) HM.out hr2 hl), by (repeat (first | exact Below.refl _ _ | apply Below.drew | (refine Below.alloc ?_ (by simp; try omega) _)))⟩)
    | (refine bodyPost_ret (v := .tuple #[.agg #[.slice la m lp, .int .i64 c, .int .i64 0, .int .i64 0, .slice (some ⟨w.heap.size + 1 + 1 + 1, 0, none⟩) r r, .slice (some ⟨w.heap.size + 1 + 1, 0, none⟩) r r, .slice (some ⟨w.heap.size + 1 + 1 + 1 + 1, 0, none⟩) r r, .slice none 0 0, .int .i64 0, .int .i64 0, .slice none 0 0], .int .i64 0]) ?_ rfl ?_; (focus (simp [results, Tryz.results8, go_sem]; done)); exact ⟨⟨⟨la, m, lp⟩, c, 0, 0, ⟨some ⟨w.heap.size + 1 + 1 + 1, 0, none⟩, r, r⟩, ⟨some ⟨w.heap.size + 1 + 1, 0, none⟩, r, r⟩, ⟨some ⟨w.heap.size + 1 + 1 + 1 + 1, 0, none⟩, r, r⟩, ⟨none, 0, 0⟩, 0, 0, ⟨none, 0, 0⟩, List.replicate r ⟨none, 0, 0⟩⟩, rfl, hide (fun W' ho hl => rp_new (keep_in (by first | exact (Is.made _ _ _ (by simp)).drew | exact ((Is.made _ _ _ (by simp)).alloc _).drew | exact (((Is.made _ _ _ (by simp)).alloc _).alloc _).drew) ho (by omega)) (keep_in (by first | exact (Is.made _ _ _ (by simp)).drew | exact ((Is.made _ _ _ (by simp)).alloc _).drew | exact (((Is.made _ _ _ (by simp)).alloc _).alloc _).drew) ho (by omega)) (keep_in (by first | exact (Is.made _ _ _ (by simp)).drew | exact ((Is.made _ _ _ (by simp)).alloc _).drew | exact (((Is.made _ _ _ (by simp)).alloc _).alloc _).drew) ho (by omega)) HM.out hr2 hl), by (repeat (first | exact Below.refl _ _ | apply Below.drew | (refine Below.alloc ?_ (by simp; try omega) _)))⟩)
    | (refine bodyPost_ret (v := .tuple #[.agg #[.slice la m lp, .int .i64 c, .int .i64 0, .int .i64 0, .slice (some ⟨w.heap.size + 1 + 1 + 1, 0, none⟩) r r, .slice (some ⟨w.heap.size + 1 + 1 + 1 + 1, 0, none⟩) r r, .slice (some ⟨w.heap.size + 1 + 1, 0, none⟩) r r, .slice none 0 0, .int .i64 0, .int .i64 0, .slice none 0 0], .int .i64 0]) ?_ rfl ?_; (focus (simp [results, Tryz.results8, go_sem]; done)); exact ⟨⟨⟨la, m, lp⟩, c, 0, 0, ⟨some ⟨w.heap.size + 1 + 1 + 1, 0, none⟩, r, r⟩, ⟨some ⟨w.heap.size + 1 + 1 + 1 + 1, 0, none⟩, r, r⟩, ⟨some ⟨w.heap.size + 1 + 1, 0, none⟩, r, r⟩, ⟨none, 0, 0⟩, 0, 0, ⟨none, 0, 0⟩, List.replicate r ⟨none, 0, 0⟩⟩, rfl, hide (fun W' ho hl => rp_new (keep_in (by first | exact (Is.made _ _ _ (by simp)).drew | exact ((Is.made _ _ _ (by simp)).alloc _).drew | exact (((Is.made _ _ _ (by simp)).alloc _).alloc _).drew) ho (by omega)) (keep_in (by first | exact (Is.made _ _ _ (by simp)).drew | exact ((Is.made _ _ _ (by simp)).alloc _).drew | exact (((Is.made _ _ _ (by simp)).alloc _).alloc _).drew) ho (by omega)) (keep_in (by first | exact (Is.made _ _ _ (by simp)).drew | exact ((Is.made _ _ _ (by simp)).alloc _).drew | exact (((Is.made _ _ _ (by simp)).alloc _).alloc _).drew) ho (by omega)) HM.out hr2 hl), by (repeat (first | exact Below.refl _ _ | apply Below.drew | (refine Below.alloc ?_ (by simp; try omega) _)))⟩)
    | (refine bodyPost_ret (v := .tuple #[.agg #[.slice la m lp, .int .i64 c, .int .i64 0, .int .i64 0, .slice (some ⟨w.heap.size + 1 + 1 + 1 + 1, 0, none⟩) r r, .slice (some ⟨w.heap.size + 1 + 1, 0, none⟩) r r, .slice (some ⟨w.heap.size + 1 + 1 + 1, 0, none⟩) r r, .slice none 0 0, .int .i64 0, .int .i64 0, .slice none 0 0], .int .i64 0]) ?_ rfl ?_; (focus (simp [results, Tryz.results8, go_sem]; done)); exact ⟨⟨⟨la, m, lp⟩, c, 0, 0, ⟨some ⟨w.heap.size + 1 + 1 + 1 + 1, 0, none⟩, r, r⟩, ⟨some ⟨w.heap.size + 1 + 1, 0, none⟩, r, r⟩, ⟨some ⟨w.heap.size + 1 + 1 + 1, 0, none⟩, r, r⟩, ⟨none, 0, 0⟩, 0, 0, ⟨none, 0, 0⟩, List.replicate r ⟨none, 0, 0⟩⟩, rfl, hide (fun W' ho hl => rp_new (keep_in (by first | exact (Is.made _ _ _ (by simp)).drew | exact ((Is.made _ _ _ (by simp)).alloc _).drew | exact (((Is.made _ _ _ (by simp)).alloc _).alloc _).drew) ho (by omega)) (keep_in (by first | exact (Is.made _ _ _ (by simp)).drew | exact ((Is.made _ _ _ (by simp)).alloc _).drew | exact (((Is.made _ _ _ (by simp)).alloc _).alloc _).drew) ho (by omega)) (keep_in (by first | exact (Is.made _ _ _ (by simp)).drew | exact ((Is.made _ _ _ (by simp)).alloc _).drew | exact (((Is.made _ _ _ (by simp)).alloc _).alloc _).drew) ho (by omega)) HM.out hr2 hl), by (repeat (first | exact Below.refl _ _ | apply Below.drew | (refine Below.alloc ?_ (by simp; try omega) _)))⟩)
    | (refine bodyPost_ret (v := .tuple #[.agg #[.slice la m lp, .int .i64 c, .int .i64 0, .int .i64 0, .slice (some ⟨w.heap.size + 1 + 1 + 1 + 1, 0, none⟩) r r, .slice (some ⟨w.heap.size + 1 + 1 + 1, 0, none⟩) r r, .slice (some ⟨w.heap.size + 1 + 1, 0, none⟩) r r, .slice none 0 0, .int .i64 0, .int .i64 0, .slice none 0 0], .int .i64 0]) ?_ rfl ?_; (focus (simp [results, Tryz.results8, go_sem]; done)); exact ⟨⟨⟨la, m, lp⟩, c, 0, 0, ⟨some ⟨w.heap.size + 1 + 1 + 1 + 1, 0, none⟩, r, r⟩, ⟨some ⟨w.heap.size + 1 + 1 + 1, 0, none⟩, r, r⟩, ⟨some ⟨w.heap.size + 1 + 1, 0, none⟩, r, r⟩, ⟨none, 0, 0⟩, 0, 0, ⟨none, 0, 0⟩, List.replicate r ⟨none, 0, 0⟩⟩, rfl, hide (fun W' ho hl => rp_new (keep_in (by first | exact (Is.made _ _ _ (by simp)).drew | exact ((Is.made _ _ _ (by simp)).alloc _).drew | exact (((Is.made _ _ _ (by simp)).alloc _).alloc _).drew) ho (by omega)) (keep_in (by first | exact (Is.made _ _ _ (by simp)).drew | exact ((Is.made _ _ _ (by simp)).alloc _).drew | exact (((Is.made _ _ _ (by simp)).alloc _).alloc _).drew) ho (by omega)) (keep_in (by first | exact (Is.made _ _ _ (by simp)).drew | exact ((Is.made _ _ _ (by simp)).alloc _).drew | exact (((Is.made _ _ _ (by simp)).alloc _).alloc _).drew) ho (by omega)) HM.out hr2 hl), by (repeat (first | exact Below.refl _ _ | apply Below.drew | (refine Below.alloc ?_ (by simp; try omega) _)))⟩)
end Go.Proofs.YtkjhamcmhijhgaaGreat.PRef

/- The document's New: too few or too many workers. -/
namespace Go.Proofs.YtkjhamcmhijhgaaGreat.PRef
open Go.RowKit Go.Proofs.YtkjhamcmhijhgaaGreat.Dig Go.Proofs.YtkjhamcmhijhgaaGreat.Mem Go.Proofs.YtkjhamcmhijhgaaGreat.Dq Go.Proofs.YtkjhamcmhijhgaaGreat.Thing Go.Proofs.YtkjhamcmhijhgaaGreat.Pick Go.Proofs.YtkjhamcmhijhgaaGreat.Sets Go.Proofs.YtkjhamcmhijhgaaGreat.Pool
set_option linter.unusedVariables false
set_option linter.unusedSimpArgs false

set_option maxRecDepth 20000 in
set_option maxHeartbeats 2000000 in
theorem rnew_no {w : World} {la : Option Addr} {m lp : Nat} {c z : Int} (h : z < 1 ∨ 64 < z) :
    Calls Tryz.prog 8 #[.int .i64 z, .agg #[.slice la m lp, .int .i64 c, .int .i64 0, .int .i64 0]] w fun e w' => e = .returned (.tuple #[.agg #[.slice none 0 0, .int .i64 0, .int .i64 0, .int .i64 0, .slice none 0 0, .slice none 0 0, .slice none 0 0, .slice none 0 0, .int .i64 0, .int .i64 0, .slice none 0 0], .int .i64 7]) ∧ Below w.heap.size w w' := by
  by_cases h1 : z < 1
  · clear h
    go_enter Tryz.func8, Tryz.ntmps8
    go_wp2
    refine bodyPost_ret (v := .tuple #[.agg #[.slice none 0 0, .int .i64 0, .int .i64 0, .int .i64 0, .slice none 0 0, .slice none 0 0, .slice none 0 0, .slice none 0 0, .int .i64 0, .int .i64 0, .slice none 0 0], .int .i64 7]) (by simp [results, Tryz.results8, go_sem]) rfl ?_
    exact ⟨rfl, by (repeat (first | exact Below.refl _ _ | (refine Below.setCell ?_ (by simp) _) | (refine Below.alloc ?_ (by simp) _)))⟩
  · have h2 : 64 < z := by omega
    clear h
    go_enter Tryz.func8, Tryz.ntmps8
    go_wp2
    refine bodyPost_ret (v := .tuple #[.agg #[.slice none 0 0, .int .i64 0, .int .i64 0, .int .i64 0, .slice none 0 0, .slice none 0 0, .slice none 0 0, .slice none 0 0, .int .i64 0, .int .i64 0, .slice none 0 0], .int .i64 7]) (by simp [results, Tryz.results8, go_sem]) rfl ?_
    exact ⟨rfl, by (repeat (first | exact Below.refl _ _ | (refine Below.setCell ?_ (by simp) _) | (refine Below.alloc ?_ (by simp) _)))⟩
end Go.Proofs.YtkjhamcmhijhgaaGreat.PRef

/- The document's hold. -/
namespace Go.Proofs.YtkjhamcmhijhgaaGreat.PRef
open Go.RowKit Go.Proofs.YtkjhamcmhijhgaaGreat.Dig Go.Proofs.YtkjhamcmhijhgaaGreat.Mem Go.Proofs.YtkjhamcmhijhgaaGreat.Dq Go.Proofs.YtkjhamcmhijhgaaGreat.Thing Go.Proofs.YtkjhamcmhijhgaaGreat.Pick Go.Proofs.YtkjhamcmhijhgaaGreat.Sets Go.Proofs.YtkjhamcmhijhgaaGreat.Pool
set_option linter.unusedVariables false
set_option linter.unusedSimpArgs false

set_option maxRecDepth 20000 in
set_option maxHeartbeats 4000000 in
theorem hold_any {A : Nat → Prop} {w : World} {v : RV} {L : List Int} {c : Int} {n : Nat} {s : PS Int} (h : Hid (RPA A w v L c n s)) (hA : ∀ k, A k → k < w.heap.size) {k : Nat} {κ : W1 Int} (hk : s.ks[k]? = some κ) {x : Int} (hj : (Lit.int .i64 x).wf = true) (b : Bool) (h64 : s.ks.length ≤ 64) :
    Calls Tryz.prog 61 #[.agg #[.slice v.l.a v.l.n v.l.c, .int .i64 v.c, .int .i64 (v.n : Int), .int .i64 (v.u : Int), .slice v.rows.a v.rows.n v.rows.c, .slice v.held.a v.held.n v.held.c, .slice v.holds.a v.holds.n v.holds.c, .slice v.done.a v.done.n v.done.c, .int .i64 (v.st : Int), .int .i64 (v.nx : Int), .slice v.who.a v.who.n v.who.c], .int .i64 (k : Int), .int .i64 x, .bool b] w fun e w' => ∃ v', e = .returned (.agg #[.slice v'.l.a v'.l.n v'.l.c, .int .i64 v'.c, .int .i64 (v'.n : Int), .int .i64 (v'.u : Int), .slice v'.rows.a v'.rows.n v'.rows.c, .slice v'.held.a v'.held.n v'.held.c, .slice v'.holds.a v'.holds.n v'.holds.c, .slice v'.done.a v'.done.n v'.done.c, .int .i64 (v'.st : Int), .int .i64 (v'.nx : Int), .slice v'.who.a v'.who.n v'.who.c]) ∧ Hid (RPA A w' v' L c n { s with ks := s.ks.set k { κ with x := x, h := b } }) ∧ Below w.heap.size w w' := by
  have hklt : k < s.ks.length := (List.getElem?_eq_some_iff.1 hk).1
  obtain ⟨hn1, hr1⟩ := h.out.rp.held
  obtain ⟨hn2, hr2⟩ := h.out.rp.holds
  have HC1 : Hid (CellsR w v.held.a v.held.c ((s.ks.map fun κ => κ.x).map (Value.int .i64))) := hide (CellsR.of_row hr1)
  have HC2 := hide hr2
  have HN1 : Hid (v.held.n = ((s.ks.map fun κ => κ.x).map (Value.int .i64)).length) := hide (by rw [List.length_map, List.length_map]; exact hn1)
  have HN2 : Hid (v.holds.n = (s.ks.map fun κ => Value.bool κ.h).length) := hide (by rw [List.length_map]; exact hn2)
  have HK1 : Hid (((s.ks.map fun κ => κ.x).map (Value.int .i64))[k]? = some (.int .i64 κ.x)) := hide (by rw [List.getElem?_map, List.getElem?_map, hk]; rfl)
  have HK2 : Hid ((s.ks.map fun κ => Value.bool κ.h)[k]? = some (.bool κ.h)) := hide (by rw [List.getElem?_map, hk]; rfl)
  have HB1 : Hid (((s.ks.map fun κ => κ.x).map (Value.int .i64)).length ≤ 64) := hide (by rw [List.length_map, List.length_map]; exact h64)
  have HB2 : Hid ((s.ks.map fun κ => Value.bool κ.h).length ≤ 64) := hide (by rw [List.length_map]; exact h64)
  have hkn1 : k < v.held.n := by omega
  have hkn2 : k < v.holds.n := by omega
  have hki1 : (k : Int) < v.held.n := by omega
  have hki2 : (k : Int) < v.holds.n := by omega
  have K0 : Hid (Kn w [ownT w.heap.size 3 (.slice (some ⟨w.heap.size + 1 + 1, 0, none⟩) 0 0) 0 [], boxT (w.heap.size + 1) #[.slice none 0 0, .int .i64 0, .int .i64 0, .int .i64 0, .slice none 0 0, .slice none 0 0, .slice none 0 0, .slice none 0 0, .int .i64 0, .int .i64 0, .slice none 0 0], boxT w.heap.size #[.slice v.l.a v.l.n v.l.c, .int .i64 v.c, .int .i64 (v.n : Int), .int .i64 (v.u : Int), .slice v.rows.a v.rows.n v.rows.c, .slice v.held.a v.held.n v.held.c, .slice v.holds.a v.holds.n v.holds.c, .slice v.done.a v.done.n v.done.c, .int .i64 (v.st : Int), .int .i64 (v.nx : Int), .slice v.who.a v.who.n v.who.c]] (((w.alloc (.cells #[.slice v.l.a v.l.n v.l.c, .int .i64 v.c, .int .i64 (v.n : Int), .int .i64 (v.u : Int), .slice v.rows.a v.rows.n v.rows.c, .slice v.held.a v.held.n v.held.c, .slice v.holds.a v.holds.n v.holds.c, .slice v.done.a v.done.n v.done.c, .int .i64 (v.st : Int), .int .i64 (v.nx : Int), .slice v.who.a v.who.n v.who.c] 36)).alloc (.cells #[.slice none 0 0, .int .i64 0, .int .i64 0, .int .i64 0, .slice none 0 0, .slice none 0 0, .slice none 0 0, .slice none 0 0, .int .i64 0, .int .i64 0, .slice none 0 0] 36)).alloc (.cells #[] 3))) :=
    hide (own0 (box0 (box0 (Kn.start w) _ _ rfl) _ _ (by simp)) _ (by simp; omega) (by simp))
  have HFIN : Hid (∀ W g g' c' c'' cs, Kn w [boxT (w.heap.size + 1) cs, ownT w.heap.size 4 (.slice (some ⟨g', 0, none⟩) v.holds.n c'') v.holds.n ((s.ks.map fun κ => Value.bool κ.h).set k (.bool b)), ownT w.heap.size 3 (.slice (some ⟨g, 0, none⟩) v.held.n c') v.held.n (((s.ks.map fun κ => κ.x).map (Value.int .i64)).set k (.int .i64 x))] W → RPA A W { v with held := ⟨some ⟨g, 0, none⟩, v.held.n, c'⟩, holds := ⟨some ⟨g', 0, none⟩, v.holds.n, c''⟩ } L c n { s with ks := s.ks.set k { κ with x := x, h := b } }) := hide (fun W1 g g' c' c'' cs hK W hOn => by
    have h0 := h.out W (only_past hK hOn)
    have ho := own_ints (l := (s.ks.set k { κ with x := x, h := b }).map fun κ => κ.x) (past hK hA hOn (.tail _ (.tail _ (.head _)))) (by rw [List.map_set, List.map_set]) (fun y hy => by
      rw [List.map_set] at hy
      rcases List.mem_or_eq_of_mem_set hy with q | q
      · exact hr1.wf y q
      · rw [q]; exact hj) (by rw [List.length_map, List.length_set]; omega)
    have hc : CellsR W (some ⟨g', 0, none⟩) c'' ((s.ks.set k { κ with x := x, h := b }).map fun κ => Value.bool κ.h) := by
      have := CellsR.of_own (past hK hA hOn (.tail _ (.head _)))
      rw [List.map_set]; exact this
    refine ⟨h0.l, h0.scr, ⟨?_, ?_⟩, ⟨?_, ho.2⟩, ⟨?_, hc⟩, h0.done, h0.num, h0.who⟩
    · show v.rows.n = (s.ks.set k _).length
      rw [List.length_set]; exact h0.rows.1
    · obtain ⟨q1, q2⟩ := h0.rows.2
      refine ⟨q1, ?_⟩
      show ReadR W v.ds ((s.ks.set k { κ with x := x, h := b }).map fun κ => κ.l)
      rw [map_keep (κ' := { κ with x := x, h := b }) hk (fun κ => κ.l) rfl]; exact q2
    · show v.held.n = (s.ks.set k _).length
      rw [List.length_set]; exact hn1
    · show v.holds.n = (s.ks.set k _).length
      rw [List.length_set]; exact hn2)
  clear h hA hk hr1 hr2 hn1 hn2 hklt
  go_enter Tryz.func61, Tryz.ntmps61
  go_wp2_with (at_builtin; go_must (first
    | (refine app_cells 22 3 Tryz.underlying22 Tryz.infoPInt rfl (by decide) rfl _ _ rfl w.heap.size (.slice (some ⟨w.heap.size + 1 + 1, 0, none⟩) 0 0) 0 [] rfl (Kn.hd K0.out) v.held.a v.held.c v.held.n ((s.ks.map fun κ => κ.x).map (Value.int .i64)) rfl HN1.out (HC1.out.keep K0.out.below) (fun u hu => by obtain ⟨n, _, rfl⟩ := List.mem_map.1 hu; rfl) (by have := HB1.out; omega) K0.out.below.size ?_; intro v7 w7 hown7 hg7 hat7; rw [Nat.zero_add, List.nil_append, ← HN1.out] at hown7; obtain ⟨g7, c7, rfl⟩ := own_some hown7 (Nat.lt_of_le_of_lt (Nat.zero_le _) hkn1); have K7 := hide ((grow1 K0.out hown7 hg7 hat7).perm (List.perm_middle (l₁ := [_, _]))); have K8 := hide (own0 (base := w.heap.size) (putBox K7.out 5 (.slice (some ⟨g7, 0, none⟩) v.held.n c7) rfl) 4 (by have := K7.out.below.size; simp; omega) (g := w7.heap.size) (by simp)); have a0 := (Kn.hd K7.out).cell 5 rfl; have af := (Kn.hd K7.out).frozen 5; have a6 := (DqI.Kn.hd2 K8.out).cell 6 rfl; have hz7 := lt_of_cell a0; clear hown7 hg7 hat7)
    | (refine app_cells 34 4 Tryz.underlying34 Tryz.infoPBool rfl (by decide) rfl _ _ rfl w.heap.size (.slice (some ⟨w7.heap.size, 0, none⟩) 0 0) 0 [] rfl (Kn.hd K8.out) v.holds.a v.holds.c v.holds.n (s.ks.map fun κ => Value.bool κ.h) rfl HN2.out (HC2.out.keep K8.out.below) (fun u hu => by obtain ⟨n, _, rfl⟩ := List.mem_map.1 hu; rfl) (by have := HB2.out; omega) K8.out.below.size ?_; intro v9 w9 hown9 hg9 hat9; rw [Nat.zero_add, List.nil_append, ← HN2.out] at hown9; obtain ⟨g9, c9, rfl⟩ := own_some hown9 (Nat.lt_of_le_of_lt (Nat.zero_le _) hkn2); have K9 := hide (grow1 K8.out hown9 hg9 hat9); have K9p := K9.out.perm (List.perm_middle (l₁ := [_, _])); obtain ⟨n1, n2⟩ := sep_box (b := w.heap.size) K9.out (.head _); obtain ⟨n3, n4⟩ := sep_box (b := w.heap.size + 1) K9.out (.tail _ (.tail _ (.head _))); obtain ⟨n5, n6⟩ := sep_own K9.out (.tail _ (.head _)); obtain ⟨n7, n8⟩ := sep_box (b := w.heap.size) K9p (.tail _ (.head _)); obtain ⟨n9, n10⟩ := sep_box (b := w.heap.size + 1) K9p (.tail _ (.tail _ (.head _))); have c7k := own_cell (DqI.Kn.hd3 K9.out) HK1.out; have f7k := World.ownsRow.frozenAt (DqI.Kn.hd3 K9.out) k; have c9k := own_cell (Kn.hd K9.out) HK2.out; have f9k := World.ownsRow.frozenAt (Kn.hd K9.out) k; obtain ⟨⟨p0, p1, p2, p3, p4, p5, p6, p7, p8, p9, p10⟩, pf⟩ := (DqI.Kn.hd2 K9.out).eleven; have pf6 := pf 6; obtain ⟨⟨q0, q1, q2, q3, q4, q5, q6, q7, q8, q9, q10⟩, qf⟩ := (DqI.Kn.hd4 K9.out).eleven; have f0 := qf 0; have f1 := qf 1; have f2 := qf 2; have f3 := qf 3; have f4 := qf 4; have f5 := qf 5; have f6 := qf 6; have f7 := qf 7; have f8 := qf 8; have f9 := qf 9; have f10 := qf 10; clear qf pf K9p hown9 hg9 hat9)))
  have K13 := hide (put11 ((ownPut ((ownPut ((putBox K9.out.swap 6 (.slice (some ⟨g9, 0, none⟩) v.holds.n c9) rfl).perm (List.perm_middle (l₁ := [_, _]))) k (.int .i64 x)).perm (List.perm_middle (l₁ := [_, _]))) k (.bool b)).perm (List.perm_middle (l₁ := [_, _, _]))) (.slice v.l.a v.l.n v.l.c) (.int .i64 v.c) (.int .i64 (v.n : Int)) (.int .i64 (v.u : Int)) (.slice v.rows.a v.rows.n v.rows.c) (.slice (some ⟨g7, 0, none⟩) v.held.n c7) (.slice (some ⟨g9, 0, none⟩) v.holds.n c9) (.slice v.done.a v.done.n v.done.c) (.int .i64 (v.st : Int)) (.int .i64 (v.nx : Int)) (.slice v.who.a v.who.n v.who.c))
  obtain ⟨⟨r0, r1, r2, r3, r4, r5, r6, r7, r8, r9, r10⟩, _⟩ := (Kn.hd K13.out).eleven
  have HR := hide (HFIN.out _ _ _ _ _ _ (K13.out.sub (.cons_cons _ (.cons_cons _ (.cons_cons _ (List.nil_sublist _))))))
  refine bodyPost_ret (v := .agg #[.slice v.l.a v.l.n v.l.c, .int .i64 v.c, .int .i64 (v.n : Int), .int .i64 (v.u : Int), .slice v.rows.a v.rows.n v.rows.c, .slice (some ⟨g7, 0, none⟩) v.held.n c7, .slice (some ⟨g9, 0, none⟩) v.holds.n c9, .slice v.done.a v.done.n v.done.c, .int .i64 (v.st : Int), .int .i64 (v.nx : Int), .slice v.who.a v.who.n v.who.c]) (by simp [results, Tryz.results61, go_sem, r0, r1, r2, r3, r4, r5, r6, r7, r8, r9, r10]) rfl ?_
  exact ⟨_, rfl, HR, K13.out.below⟩
end Go.Proofs.YtkjhamcmhijhgaaGreat.PRef
