/- Joined out of the texts SetRef, PickPlain, DqKeep, Things, PickMem, PickProg, PickRef, in that order. -/
import Derived.Test.YtkjdjmcecjaolaaAll3
import Derived.Deep.LoopGhost
import Derived.Test.YtkjdjmcecjaolaaAll1
import Derived.RangeFuncBox
import Derived.RangeFuncNested
import Derived.Deep.RegionHeld
import Derived.Test.YtkjdjmcecjaolaaAll2
import Derived.Deep.DeepMust
import Derived.BigQuiet
import Derived.Deep.RegionHeld3
/- The document's set of a row: the least that is not taken, again and again. -/
namespace Go.Proofs.Ytkjdjmcecjaolaa.Sets
open Go.RowKit Go.Proofs.Ytkjdjmcecjaolaa.Dig Go.Proofs.Ytkjdjmcecjaolaa.Mem
set_option linter.unusedVariables false
set_option linter.unusedSimpArgs false

/-- The least that is not among the first k is the next one. -/
theorem next_least {l : List Int} {k : Nat} {b : Int} (hb : b ∈ l) (hn : b ∉ (setL ltI l).take k) (hm : ∀ x ∈ l, x ∉ (setL ltI l).take k → b ≤ x) :
    k < (setL ltI l).length ∧ (setL ltI l).take k ++ [b] = (setL ltI l).take (k + 1) := by
  obtain ⟨s, hs⟩ : ∃ s, s = setL ltI l := ⟨_, rfl⟩
  have hr := rising_setL totI l
  have hmem := mem_setL totI l
  rw [← hs] at hn hm hr hmem ⊢
  have hbs : b ∈ s := (hmem b).2 hb
  rw [← List.take_append_drop k s] at hbs
  have hbd : b ∈ s.drop k := (List.mem_append.1 hbs).resolve_left hn
  have hlt : k < s.length := by
    rcases Nat.lt_or_ge k s.length with q | q
    · exact q
    · rw [List.drop_eq_nil_of_le q] at hbd; simp at hbd
  refine ⟨hlt, ?_⟩
  have hd := List.drop_eq_getElem_cons hlt
  rw [← List.take_append_drop k s] at hr
  obtain ⟨_, hr2, hr3⟩ := rising_append.1 hr
  have hx : s[k] ∉ s.take k := fun q => by
    have hin : s[k] ∈ s.drop k := by rw [hd]; exact List.mem_cons_self
    have := hr3 _ q s[k] hin
    rw [totI.irr] at this; cases this
  have h1 := hm s[k] ((hmem _).1 (List.getElem_mem hlt)) hx
  have h2 : s[k] ≤ b := by
    rw [hd] at hbd hr2
    rcases List.mem_cons.1 hbd with e | q
    · omega
    · have := (rising_cons.1 hr2).1 b q
      simp [ltI] at this
      omega
  have e : s[k] = b := by omega
  rw [List.take_add_one, List.getElem?_eq_getElem hlt, e]
  rfl
theorem none_left {l : List Int} {k : Nat} (h : ∀ x ∈ l, x ∈ (setL ltI l).take k) (hk : k ≤ (setL ltI l).length) : k = (setL ltI l).length := by
  rcases Nat.lt_or_ge k (setL ltI l).length with q | q
  · exfalso
    have hr := rising_setL totI l
    have hd := List.drop_eq_getElem_cons q
    have hx := h _ ((mem_setL totI l _).1 (List.getElem_mem q))
    rw [← List.take_append_drop k (setL ltI l)] at hr
    have hin : (setL ltI l)[k] ∈ (setL ltI l).drop k := by rw [hd]; exact List.mem_cons_self
    have := (rising_append.1 hr).2.2 _ hx _ hin
    rw [totI.irr] at this; cases this
  · omega
def OfR (w : World) (s : List Int) (ov nv : Value) (wr : World) : Prop :=
  ∃ (k : Nat), k ≤ s.length ∧ nv = .int .i64 (k : Int) ∧ Hid (wr.ownsRow w.heap.size 3 1 ov k ((s.take k).map (Value.int .i64))) ∧ Hid (Below w.heap.size w wr)
def InR (l out : List Int) (n : Nat) (bv fv kv : Value) : Prop :=
  ∃ (j : Nat), j ≤ n ∧ kv = .int .i64 (j : Int) ∧ ((fv = .bool false ∧ bv = .int .i64 0 ∧ Hid (∀ i, i < j → l.getD i 0 ∈ out)) ∨ ∃ b, fv = .bool true ∧ bv = .int .i64 b ∧ Hid (b ∈ l ∧ b ∉ out ∧ ∀ i, i < j → l.getD i 0 ∉ out → b ≤ l.getD i 0))
set_option maxHeartbeats 2000000 in
set_option maxRecDepth 20000 in
theorem rof_fresh (a : Option Addr) (c : Nat) (l : List Int) (w : World) (h : RowV w a c l) (hm : l.length ≤ 10000) :
    Calls Try.prog 22 #[.slice a l.length c] w fun e w' => (∃ a' c', e = .returned (.slice a' (setL ltI l).length c') ∧ RowV w' a' c' (setL ltI l) ∧ ∀ x, a' = some x → w.heap.size ≤ x.block) ∧ Below w.heap.size w w' := by
  obtain ⟨i0, hi, hz0, hz1, hz2⟩ := info_parts Try.infoSetInt
  have HA := hide h
  have hsl := setL_length (lt := ltI) l
  have HNL := hide (fun k => none_left (l := l) (k := k))
  have HNX := hide (fun k b => next_least (l := l) (k := k) (b := b))
  have HW : Hid (∀ x ∈ setL ltI l, (Lit.int .i64 x).wf = true) := fun x hx => h.wf x ((mem_setL totI l x).1 hx)
  obtain ⟨s, hs⟩ : ∃ s, s = setL ltI l := ⟨_, rfl⟩
  rw [← hs] at hsl HNL HNX HW ⊢
  obtain ⟨n, hn⟩ : ∃ n, n = l.length := ⟨_, rfl⟩
  rw [← hn] at hsl hm ⊢
  have HN := hide hn
  clear hs hn h
  go_enter Try.func22, Try.ntmps22
  go_wp2
  go_loopw [3, 4] (fun ov nv wr => OfR w s ov nv wr) (fun _ nv _ => n + 1 - (intOf nv).toNat)
  case atStart => exact ⟨0, by omega, rfl, World.ownsRow_nil _ _ _ _, Below.refl _ _⟩
  case round =>
    obtain ⟨k, hk, rfl, hown, hbel⟩ := hrel
    obtain ⟨W, hW⟩ : ∃ W, W = wr := ⟨_, rfl⟩
    subst hW
    obtain ⟨oa, oc, rfl⟩ := own_form hown.out
    have hkn : (k : Int) ≤ (n : Int) := by omega
    have HO : Hid (RowV W oa oc (s.take k)) := by
      have ho := hown.out
      have e : (s.take k).length = k := by rw [List.length_take]; omega
      exact (rowv_of_own (l := s.take k) (n := k) (by rw [e]; exact ho) (by omega) (fun x hx => HW.out x (List.mem_of_mem_take hx))).2
    have HHAS : Hid (∀ x : Int, Calls Try.prog 37 #[.slice oa k oc, .int .i64 x] W fun e w' => e = .returned (.bool (decide (x ∈ s.take k))) ∧ w' = W) := fun x => by
      have := rhas_any oa oc (s.take k) x W HO.out
      rw [show (s.take k).length = k by rw [List.length_take]; omega] at this
      exact this
    have I0 : Hid (InR l (s.take k) n (.int .i64 0) (.bool false) (.int .i64 0)) := ⟨0, by omega, rfl, .inl ⟨rfl, rfl, fun i hi => by omega⟩⟩
    go_wp2
    go_loopw [5, 6, 7] (fun bv fv kv wr => InR l (s.take k) n bv fv kv ∧ wr = W) (fun _ _ kv _ => n - (intOf kv).toNat)
    case atStart => exact ⟨I0.out, rfl⟩
    case round =>
      obtain ⟨⟨j, hj, rfl, hin⟩, hwr⟩ := hrel
      replace hwr := hwr.symm
      subst hwr
      by_cases hlt : j < n
      · have hj2 : j < l.length := by rw [← HN.out]; exact hlt
        obtain ⟨b1, o1, rfl, hc1⟩ := (HA.out.keep (hbel.out.mono (Nat.le_refl _))).at hj2
        have hxl : l.getD j 0 ∈ l := by rw [List.getD_eq_getElem?_getD, List.getElem?_eq_getElem hj2]; exact List.getElem_mem hj2
        obtain ⟨x, hx⟩ : ∃ x, x = l.getD j 0 := ⟨_, rfl⟩
        rw [← hx] at hc1 hxl
        have HX := hide hx
        have HXL := hide hxl
        clear hx hxl hj2
        have step : ∀ (p : Int → Prop), (∀ i, i < j → p (l.getD i 0)) → p x → ∀ i, i < j + 1 → p (l.getD i 0) := fun p h1 h2 i hi => by
          by_cases e : i = j
          · rw [e, ← HX.out]; exact h2
          · exact h1 i (by omega)
        have STEP := hide step
        clear step
        obtain ⟨q, hq⟩ : ∃ q, Hid (decide (x ∈ s.take k) = q) := ⟨_, rfl⟩
        cases q with
        | true =>
          have HQ : Hid (x ∈ s.take k) := hide (of_decide_eq_true hq.out)
          rcases hin with ⟨rfl, rfl, hall⟩ | ⟨b, rfl, rfl, hb⟩
          · have R : Hid (InR l (s.take k) n (.int .i64 0) (.bool false) (.int .i64 ((j : Int) + 1))) := ⟨j + 1, by omega, by simp, .inl ⟨rfl, rfl, STEP.out (fun y => y ∈ s.take k) hall.out HQ.out⟩⟩
            go_wp2_with (go_at_call 37; go_must ((with_reducible refine (HHAS.out x).mono ?_); rw [hq.out]; rintro e w8 ⟨rfl, hw8⟩; replace hw8 := hw8.symm; subst hw8))
            go_roundw
            case rel => exact ⟨R.out, trivial⟩
            case measure => simp [intOf]; omega
          · have R : Hid (InR l (s.take k) n (.int .i64 b) (.bool true) (.int .i64 ((j : Int) + 1))) := ⟨j + 1, by omega, by simp, .inr ⟨b, rfl, rfl, hb.out.1, hb.out.2.1, STEP.out (fun y => y ∉ s.take k → b ≤ y) hb.out.2.2 (fun h => absurd HQ.out h)⟩⟩
            go_wp2_with (go_at_call 37; go_must ((with_reducible refine (HHAS.out x).mono ?_); rw [hq.out]; rintro e w8 ⟨rfl, hw8⟩; replace hw8 := hw8.symm; subst hw8))
            go_roundw
            case rel => exact ⟨R.out, trivial⟩
            case measure => simp [intOf]; omega
        | false =>
          have HQ : Hid (x ∉ s.take k) := hide (of_decide_eq_false hq.out)
          rcases hin with ⟨rfl, rfl, hall⟩ | ⟨b, rfl, rfl, hb⟩
          · have R : Hid (InR l (s.take k) n (.int .i64 x) (.bool true) (.int .i64 ((j : Int) + 1))) := ⟨j + 1, by omega, by simp, .inr ⟨x, rfl, rfl, HXL.out, HQ.out, STEP.out (fun y => y ∉ s.take k → x ≤ y) (fun i hi h => absurd (hall.out i hi) h) (fun _ => Int.le_refl _)⟩⟩
            go_wp2_with (go_at_call 37; go_must ((with_reducible refine (HHAS.out x).mono ?_); rw [hq.out]; rintro e w8 ⟨rfl, hw8⟩; replace hw8 := hw8.symm; subst hw8))
            go_roundw
            case rel => exact ⟨R.out, trivial⟩
            case measure => simp [intOf]; omega
          · by_cases hxb : x < b
            · have R : Hid (InR l (s.take k) n (.int .i64 x) (.bool true) (.int .i64 ((j : Int) + 1))) := ⟨j + 1, by omega, by simp, .inr ⟨x, rfl, rfl, HXL.out, HQ.out, STEP.out (fun y => y ∉ s.take k → x ≤ y) (fun i hi h => by have := hb.out.2.2 i hi h; omega) (fun _ => Int.le_refl _)⟩⟩
              go_wp2_with (go_at_call 37; go_must ((with_reducible refine (HHAS.out x).mono ?_); rw [hq.out]; rintro e w8 ⟨rfl, hw8⟩; replace hw8 := hw8.symm; subst hw8))
              go_roundw
              case rel => exact ⟨R.out, trivial⟩
              case measure => simp [intOf]; omega
            · have R : Hid (InR l (s.take k) n (.int .i64 b) (.bool true) (.int .i64 ((j : Int) + 1))) := ⟨j + 1, by omega, by simp, .inr ⟨b, rfl, rfl, hb.out.1, hb.out.2.1, STEP.out (fun y => y ∉ s.take k → b ≤ y) hb.out.2.2 (fun _ => by omega)⟩⟩
              go_wp2_with (go_at_call 37; go_must ((with_reducible refine (HHAS.out x).mono ?_); rw [hq.out]; rintro e w8 ⟨rfl, hw8⟩; replace hw8 := hw8.symm; subst hw8))
              go_roundw
              case rel => exact ⟨R.out, trivial⟩
              case measure => simp [intOf]; omega
      · obtain rfl : j = n := by omega
        have hmemj : ∀ (p : Int → Prop), (∀ i, i < j → p (l.getD i 0)) → ∀ x ∈ l, p x := fun p h x hx => by
          obtain ⟨i, hi, e⟩ := List.getElem_of_mem hx
          have := h i (by rw [HN.out]; exact hi)
          rw [List.getD_eq_getElem?_getD, List.getElem?_eq_getElem hi] at this
          rw [← e]; exact this
        have HMJ := hide hmemj
        clear hmemj
        rcases hin with ⟨rfl, rfl, hall⟩ | ⟨b, rfl, rfl, hb⟩
        · have hks : k = s.length := HNL.out k (HMJ.out _ hall.out) hk
          have HF : Hid (RowV W oa oc s ∧ k = s.length) := ⟨by have := HO.out; rw [hks, List.take_length] at this; exact this, hks⟩
          go_wp2
          go_ret
          exact ⟨⟨oa, oc, by rw [HF.out.2]; rfl, HF.out.1, fun x e => by subst e; exact (World.ownsRow.lt hown.out x.block rfl).1⟩, hbel.out⟩
        · obtain ⟨hk2, hnx⟩ := HNX.out k b hb.out.1 hb.out.2.1 (HMJ.out (fun y => y ∉ s.take k → b ≤ y) hb.out.2.2)
          have HNXT := hide hnx
          have hrow := hown.out
          have hsz2 := hbel.out.size
          clear hnx
          go_wp2_with (at_builtin; go_loud (refine wpList_append_own _ rfl _ _ 23 rfl w.heap.size 3 i0 (.int .i64 0) 1 8 Try.underlying23 hi hz0 hz1 hz2 rfl (by decide) _ _ _ rfl (hrow.alloc _) ⟨W.heap.size, 0, none⟩ 1 1 [.int .i64 b] rfl rfl (one_new _ _ _) (by simp [Value.oneCell']) (by unfold maxLen; omega) (by omega) (by simp; omega) ?_); intro v1 w1 hown1 hgrow1 _; have HOWN1 := hide hown1; have HB1 := hide ((hbel.out.alloc hsz2 (.cells #[.int .i64 b] 3)).grown hgrow1 (by simp; omega) (fun q e => (World.ownsRow.lt hown.out q e).1)); clear hown1 hgrow1)
          go_roundw
          case rel => exact ⟨k + 1, by omega, by simp, by have := HOWN1.out; rw [← HNXT.out, List.map_append]; exact this, HB1.out⟩
          case measure => simp [intOf]; omega
theorem rof_any (a : Option Addr) (c : Nat) (l : List Int) (w : World) (h : RowV w a c l) (hm : l.length ≤ 10000) :
    Calls Try.prog 22 #[.slice a l.length c] w fun e w' => (∃ a' c', e = .returned (.slice a' (setL ltI l).length c') ∧ RowV w' a' c' (setL ltI l)) ∧ Below w.heap.size w w' := by
  refine (rof_fresh a c l w h hm).mono ?_
  rintro e w' ⟨⟨a', c', rfl, h1, _⟩, h2⟩
  exact ⟨⟨a', c', rfl, h1⟩, h2⟩
end Go.Proofs.Ytkjdjmcecjaolaa.Sets

/- Who goes next, as plain functions: which one of the ready is told, by how many picks were used; and what one step answers. -/
namespace Go.Proofs.Ytkjdjmcecjaolaa.Pick
open Go.Proofs.Ytkjdjmcecjaolaa.Sets
set_option linter.unusedVariables false
set_option linter.unusedSimpArgs false

/-- The place of the one that is told, of m ready ones. -/
def place (L : List Int) (n m : Nat) : Nat := ((L.getD n 0) % (m : Int)).toNat
/-- The one that is told. -/
def told (L : List Int) (n : Nat) (l : List Int) : Int := (setL ltI l).getD (place L n (setL ltI l).length) 0
def over (c : Int) (n : Nat) : Bool := decide (0 ≤ c) && decide (c ≤ (n : Int))
/-- One step: who is told, which error, how many steps there are behind it. -/
def stepS (L : List Int) (c : Int) (n : Nat) (l : List Int) : Int × Int × Nat := if over c n = true then (0, 8, n) else if l = [] then (0, 10, n) else (told L n l, 0, n + 1)
theorem place_lt (L : List Int) (n : Nat) {m : Nat} (hm : 0 < m) : place L n m < m := by
  unfold place
  have h1 := Int.emod_nonneg (L.getD n 0) (show (m : Int) ≠ 0 by omega)
  have h2 := Int.emod_lt_of_pos (L.getD n 0) (show (0 : Int) < m by omega)
  omega
theorem place_int (L : List Int) (n : Nat) {m : Nat} (hm : 0 < m) : ((place L n m : Nat) : Int) = (L.getD n 0) % (m : Int) := by
  unfold place
  have h1 := Int.emod_nonneg (L.getD n 0) (show (m : Int) ≠ 0 by omega)
  omega
/-- Go's remainder, and the length more where it is below 0. -/
theorem tmod_place (x : Int) {m : Nat} (hm : 0 < m) : (if x.tmod (m : Int) < 0 then x.tmod (m : Int) + (m : Int) else x.tmod (m : Int)) = x % (m : Int) := by
  have h1 := Int.emod_nonneg x (show (m : Int) ≠ 0 by omega)
  have h2 := Int.emod_lt_of_pos x (show (0 : Int) < m by omega)
  rw [Int.tmod_eq_emod]
  split <;> split <;> omega
theorem setL_ne {l : List Int} (h : l ≠ []) : 0 < (setL ltI l).length := by
  cases l with
  | nil => exact absurd rfl h
  | cons x l =>
    have := (mem_setL totI (x :: l) x).2 (by simp)
    exact List.length_pos_of_mem this
theorem setL_nil : setL ltI ([] : List Int) = [] := by
  apply List.eq_nil_of_length_eq_zero
  have := setL_length (lt := ltI) ([] : List Int)
  simpa using this
theorem told_mem (L : List Int) (n : Nat) {l : List Int} (h : l ≠ []) : told L n l ∈ l := by
  have h1 := place_lt L n (setL_ne h)
  unfold told
  rw [List.getD_eq_getElem?_getD, List.getElem?_eq_getElem h1]
  exact (mem_setL totI l _).1 (List.getElem_mem h1)
/-- Where there is no pick any more: the least. -/
theorem place_none {L : List Int} {n : Nat} (h : L.length ≤ n) (m : Nat) : place L n m = 0 := by
  unfold place
  rw [List.getD_eq_getElem?_getD, List.getElem?_eq_none h]
  simp
end Go.Proofs.Ytkjdjmcecjaolaa.Pick

/- What a loop over a function keeps: boxes of variables, and what was there; and where one block may turn. -/
namespace Go.Proofs.Ytkjdjmcecjaolaa.Dq
open Go.RowKit Go.Proofs.Ytkjdjmcecjaolaa.Mem
set_option linter.unusedVariables false
set_option linter.unusedSimpArgs false

/-- A block of cells, while one that is no cells turns. -/
theorem is_off {W V : World} {b : Nat} {cs : Array Value} (h : Is W b cs) {row : Option Nat} (hg : W.grownBy V row) (hr : ∀ r, row = some r → ∃ o : Obj, W.heap[r]? = some o ∧ o.isCells = false) : Is V b cs :=
  h.keep (S := fun k => row = some k) ⟨hg.os, hg.tape, hg.output, hg.size, fun k hk hn => hg.block k hk (fun e => hn e.symm)⟩ (fun q => by
    obtain ⟨T, hT⟩ := h
    obtain ⟨o, h1, h2⟩ := hr _ q
    rw [hT] at h1; cases h1; cases h2)
theorem only_off {S : Nat → Prop} {w W V : World} {B : Nat} (h : Only S w W) (hB : w.heap.size ≤ B) {row : Option Nat} (hg : W.grownBy V row) (hr : ∀ r, row = some r → B ≤ r ∧ ∃ o : Obj, W.heap[r]? = some o ∧ o.isCells = false) : Only S w V :=
  h.trans' (S' := fun k => row = some k) ⟨hg.os, hg.tape, hg.output, hg.size, fun k hk hn => hg.block k hk (fun e => hn e.symm)⟩ (fun i e => .inr (Nat.le_trans hB (hr i e).1))
/-- What a loop keeps that turns blocks of S. -/
structure Fo (S : Nat → Prop) (w : World) (bs : List (Nat × Array Value)) (W : World) : Prop where
  only : Only S w W
  boxes : ∀ r ∈ bs, Is W r.1 r.2
section
variable {S : Nat → Prop} {w W V : World} {bs bs' : List (Nat × Array Value)}
theorem Fo.start (S : Nat → Prop) (w : World) : Fo S w [] w := ⟨Only.refl _ _, by simp⟩
theorem Fo.cell (h : Fo S w bs W) {b : Nat} {c : Array Value} (hb : (b, c) ∈ bs) (i : Nat) {v : Value} (hv : c[i]? = some v) : W.cell? ⟨b, i, none⟩ = some v ∧ W.frozen? ⟨b, i, none⟩ = false := ⟨(h.boxes _ hb).cell i hv, (h.boxes _ hb).frozen i⟩
theorem Fo.one (h : Fo S w bs W) {b : Nat} {v : Value} (hb : (b, #[v]) ∈ bs) : W.cell? ⟨b, 0, none⟩ = some v ∧ W.frozen? ⟨b, 0, none⟩ = false := h.cell hb 0 rfl
theorem Fo.off {B : Nat} (h : Fo S w bs W) (hB : w.heap.size ≤ B) {row : Option Nat} (hg : W.grownBy V row) (hr : ∀ r, row = some r → B ≤ r ∧ ∃ o : Obj, W.heap[r]? = some o ∧ o.isCells = false) : Fo S w bs V :=
  ⟨only_off h.only hB hg hr, fun r hr' => is_off (h.boxes r hr') hg (fun q e => (hr q e).2)⟩
theorem Fo.keep (h : Fo S w bs W) (hb : Below W.heap.size W V) : Fo S w bs V := ⟨h.only.trans (Only.of_below hb), fun r hr => (h.boxes r hr).below hb⟩
theorem Fo.push (h : Fo S w bs W) (cs : Array Value) (T : TypeId) {b : Nat} (hb : b = W.heap.size) : Fo S w ((b, cs) :: bs) (W.alloc (.cells cs T)) :=
  ⟨h.only.alloc _, fun r hr => by
    rcases List.mem_cons.1 hr with rfl | q
    · exact Is.made W cs T hb
    · exact (h.boxes r q).alloc _⟩
theorem Fo.sub (h : Fo S w bs W) (hs : ∀ r ∈ bs', r ∈ bs) : Fo S w bs' W := ⟨h.only, fun r hr => h.boxes r (hs r hr)⟩
/-- A cell of a box is turned. -/
theorem Fo.set {b i : Nat} {c : Array Value} {u : Value} (h : Fo S w ((b, c) :: bs) W) (hb : S b ∨ w.heap.size ≤ b) (hn : ∀ r ∈ bs, r.1 ≠ b) : Fo S w ((b, c.setIfInBounds i u) :: bs) (W.setCell ⟨b, i, none⟩ u) :=
  ⟨h.only.setCell (p := ⟨b, i, none⟩) hb u, fun r hr => by
    rcases List.mem_cons.1 hr with rfl | q
    · exact (h.boxes (b, c) (by simp)).set i u
    · exact (h.boxes r (List.mem_cons_of_mem _ q)).other (p := ⟨b, i, none⟩) (Ne.symm (hn r q)) u⟩
theorem Fo.drewN (h : Fo S w bs W) (m : Nat) : Fo S w bs (W.drewN m) := ⟨h.only.drewN m, fun r hr => (h.boxes r hr).drewN m⟩
/-- From w on nothing older than B has turned. -/
theorem _root_.Go.Proofs.Ytkjdjmcecjaolaa.Mem.Only.of_below' {B : Nat} (h : Below B W V) : Only (fun k => B ≤ k) W V := ⟨h.os, h.tape, h.output, h.size, fun k hk hn => h.block k (Nat.lt_of_not_le hn)⟩
theorem keeps_below (B : Nat) (hb : Below W.heap.size W V) : KeepsFrom B W V := ⟨hb.size, fun k o _ hk _ => (hb.block k (Array.getElem?_eq_some_iff.1 hk).1).trans hk⟩
theorem below_of_drewN (m : Nat) : Below w.heap.size w (w.drewN m) := ⟨rfl, rfl, rfl, Nat.le_refl _, fun _ _ => rfl⟩
theorem grown_of_below (h : Below W.heap.size W V) : W.grownBy V none := ⟨h.os, h.tape, h.output, h.size, fun k hk _ => h.block k hk⟩
theorem abides {B : Nat} {J : List Int → World → Prop} (hJ : AbidesFrom B J) {s : List Int} (h : J s W) (hb : Below W.heap.size W V) : J s V := hJ s W V none h (grown_of_below hb) (fun q e => by cases e)
end
end Go.Proofs.Ytkjdjmcecjaolaa.Dq

/- What a law knows between two calls: things that it has made, no two of which share a block, each with what may turn it. -/
namespace Go.Proofs.Ytkjdjmcecjaolaa.Thing
open Go.RowKit Go.Proofs.Ytkjdjmcecjaolaa.Dig Go.Proofs.Ytkjdjmcecjaolaa.Mem Go.Proofs.Ytkjdjmcecjaolaa.Dq
set_option linter.unusedVariables false
set_option linter.unusedSimpArgs false

/-- A thing: what is so of the world, and the blocks that it hangs on. -/
structure Th where
  P : World → Prop
  F : Nat → Prop
  keep : ∀ {w w' : World} {S : Nat → Prop}, P w → Only S w w' → (∀ k, F k → ¬ S k) → P w'
  lt : ∀ {w : World}, P w → ∀ k, F k → k < w.heap.size
def Sep (x y : Th) : Prop := ∀ k, x.F k → ¬ y.F k
theorem Sep.symm {x y : Th} (h : Sep x y) : Sep y x := fun k h1 h2 => h k h2 h1
/-- From w on: nothing older has turned; the things are there, made since w, and share no block. -/
structure Kn (w : World) (ts : List Th) (wx : World) : Prop where
  below : Below w.heap.size w wx
  has : ∀ t ∈ ts, t.P wx ∧ ∀ k, t.F k → w.heap.size ≤ k
  sep : ts.Pairwise Sep
section
variable {w wx w' : World} {ts ts' : List Th} {t t' : Th}
theorem Kn.start (w : World) : Kn w [] w := ⟨Below.refl _ _, by simp, by simp⟩
theorem Kn.hd (h : Kn w (t :: ts) wx) : t.P wx := (h.has t (by simp)).1
theorem Kn.get (h : Kn w ts wx) (ht : t ∈ ts) : t.P wx := (h.has t ht).1
theorem Kn.keep (h : Kn w ts wx) (hb : Below wx.heap.size wx w') : Kn w ts w' :=
  ⟨h.below.trans (hb.mono h.below.size), fun t ht => ⟨t.keep (h.has t ht).1 (Only.of_below (S := fun _ => False) hb) (fun _ _ q => q), (h.has t ht).2⟩, h.sep⟩
theorem Kn.drewN (h : Kn w ts wx) (m : Nat) : Kn w ts (wx.drewN m) := h.keep (below_of_drewN m)
theorem Kn.sub (h : Kn w ts wx) (hs : ts'.Sublist ts) : Kn w ts' wx := ⟨h.below, fun t ht => h.has t (hs.subset ht), h.sep.sublist hs⟩
theorem Kn.perm (h : Kn w ts wx) (hs : ts.Perm ts') : Kn w ts' wx := ⟨h.below, fun t ht => h.has t (hs.mem_iff.2 ht), (hs.pairwise_iff (fun {a b} q => Sep.symm q)).1 h.sep⟩
theorem Kn.swap {a b : Th} (h : Kn w (a :: b :: ts) wx) : Kn w (b :: a :: ts) wx := h.perm (List.Perm.swap b a ts)
theorem Kn.tail (h : Kn w (t :: ts) wx) : Kn w ts wx := h.sub (List.sublist_cons_self _ _)
/-- The first thing is turned. -/
theorem Kn.turn (h : Kn w (t :: ts) wx) (hp : t'.P w') (ho : Only t.F wx w') (hf : ∀ k, t'.F k → t.F k ∨ wx.heap.size ≤ k) : Kn w (t' :: ts) w' := by
  have hge := (h.has t (by simp)).2
  have hs := List.pairwise_cons.1 h.sep
  refine ⟨h.below.only ho hge h.below.size, fun x hx => ?_, List.pairwise_cons.2 ⟨fun x hx k h1 h2 => ?_, hs.2⟩⟩
  · rcases List.mem_cons.1 hx with rfl | q
    · refine ⟨hp, fun k hk => ?_⟩
      rcases hf k hk with q | q
      · exact hge k q
      · exact Nat.le_trans h.below.size q
    · exact ⟨x.keep (h.has x (List.mem_cons_of_mem _ q)).1 ho (fun k h1 h2 => hs.1 x q k h2 h1), (h.has x (List.mem_cons_of_mem _ q)).2⟩
  · rcases hf k h1 with q | q
    · exact hs.1 x hx k q h2
    · have := x.lt (h.has x (List.mem_cons_of_mem _ hx)).1 k h2
      omega
/-- One more, made meanwhile. -/
theorem Kn.more (h : Kn w ts wx) (hb : Below wx.heap.size wx w') (hp : t'.P w') (hf : ∀ k, t'.F k → wx.heap.size ≤ k) : Kn w (t' :: ts) w' := by
  have h' := h.keep hb
  refine ⟨h'.below, fun x hx => ?_, List.pairwise_cons.2 ⟨fun x hx k h1 h2 => ?_, h.sep⟩⟩
  · rcases List.mem_cons.1 hx with rfl | q
    · exact ⟨hp, fun k hk => Nat.le_trans h.below.size (hf k hk)⟩
    · exact h'.has x q
  · have := x.lt (h.has x hx).1 k h2
    have := hf k h1
    omega
/-- A thing seen otherwise. -/
theorem Kn.as (h : Kn w (t :: ts) wx) (hp : t.P wx → t'.P wx) (hf : ∀ k, t'.F k → t.F k) : Kn w (t' :: ts) wx :=
  h.turn (hp h.hd) (Only.refl _ _) (fun k q => .inl (hf k q))
end
/-- A row of numbers that is read. -/
def rowT (a : Option Addr) (c : Nat) (m : List Int) : Th where
  P w := RowI w a c m
  F k := 0 < m.length ∧ ∃ x, a = some x ∧ x.block = k
  keep h ho hs := ⟨h.cap, h.rd.only' ho (fun hl x e => hs x.block ⟨hl, x, e, rfl⟩), h.nil⟩
  lt h k hk := by
    obtain ⟨hl, x, e, rfl⟩ := hk
    exact Rd.lt h.rd hl x e
/-- A block of cells. -/
def boxT (b : Nat) (cs : Array Value) : Th where
  P w := Is w b cs
  F k := k = b
  keep h ho hs := h.keep ho (hs b rfl)
  lt h k hk := by cases hk; exact h.lt
/-- A row of the call's own. -/
def ownT (base : Nat) (e : TypeId) (v : Value) (n : Nat) (xs : List Value) : Th where
  P w := w.ownsRow base e 1 v n xs
  F k := v.ownBlock = some k
  keep {w w' S} h ho hs := by
    refine ⟨h.1, ?_⟩
    rcases h.2 with hn | ⟨g, cap, cur, rfl, hg, hh, r⟩
    · exact .inl hn
    · have hlt : g < w.heap.size := by
        rcases Nat.lt_or_ge g w.heap.size with q | q
        · exact q
        · simp [Array.getElem?_eq_none q] at hh
      exact .inr ⟨g, cap, cur, rfl, hg, by rw [ho.block g hlt (hs g rfl)]; exact hh, r⟩
  lt h k hk := (World.ownsRow.lt h k hk).2
end Go.Proofs.Ytkjdjmcecjaolaa.Thing

/- A script as it lies, and what each call of it does but for New and Step. -/
namespace Go.Proofs.Ytkjdjmcecjaolaa.Pick
open Go.RowKit Go.Proofs.Ytkjdjmcecjaolaa.Dig Go.Proofs.Ytkjdjmcecjaolaa.Mem Go.Proofs.Ytkjdjmcecjaolaa.Dq Go.Proofs.Ytkjdjmcecjaolaa.Thing Go.Proofs.Ytkjdjmcecjaolaa.Sets
set_option linter.unusedVariables false
set_option linter.unusedSimpArgs false

/-- A script that a call made: its picks, the step at which all is cancelled, how many steps there were. -/
structure Scr (w : World) (b : Nat) (pa : Option Addr) (pc : Nat) (L : List Int) (c : Int) (n : Nat) : Prop where
  box : Is w b #[.slice pa L.length pc, .int .i64 c, .int .i64 (n : Int), .bool true]
  row : RowI w pa pc L
  ne : 0 < L.length → ∀ x, pa = some x → x.block ≠ b
def scrT (b : Nat) (pa : Option Addr) (pc : Nat) (L : List Int) (c : Int) (n : Nat) : Th where
  P w := Scr w b pa pc L c n
  F k := k = b ∨ (0 < L.length ∧ ∃ x, pa = some x ∧ x.block = k)
  keep h ho hs := ⟨h.box.keep ho (hs b (.inl rfl)), ⟨h.row.cap, h.row.rd.only' ho (fun hl x e => hs x.block (.inr ⟨hl, x, e, rfl⟩)), h.row.nil⟩, h.ne⟩
  lt h k hk := by
    rcases hk with rfl | ⟨hl, x, e, rfl⟩
    · exact h.box.lt
    · exact Rd.lt h.row.rd hl x e
section
variable {w w' : World} {b n : Nat} {pa : Option Addr} {pc : Nat} {L : List Int} {c : Int}
theorem Scr.keep (h : Scr w b pa pc L c n) (hb : Below w.heap.size w w') : Scr w' b pa pc L c n :=
  (scrT b pa pc L c n).keep (S := fun _ => False) h (Only.of_below hb) (fun _ _ q => q)
/-- One step more. -/
theorem Scr.more (h : Scr w b pa pc L c n) (m : Nat) : Scr (w.setCell ⟨b, 2, none⟩ (.int .i64 (m : Int))) b pa pc L c m :=
  ⟨h.box.set 2 (.int .i64 (m : Int)), ⟨h.row.cap, h.row.rd.only' (S := fun k => k = b) ((Only.refl _ _).put 2 _) (fun hl x e => h.ne hl x e), h.row.nil⟩, h.ne⟩
theorem over_any (h : Scr w b pa pc L c n) : Calls Try.prog 39 #[.pointer (some ⟨b, 0, none⟩)] w fun e w' => e = .returned (.bool (over c n)) ∧ ∃ q, w' = w.drewN q := by
  obtain ⟨⟨c0, c1, c2, c3⟩, _⟩ := h.box.four
  clear h
  unfold over
  by_cases h1 : 0 ≤ c
  · by_cases h2 : c ≤ (n : Int)
    · rw [decide_eq_true h1, decide_eq_true h2]
      have d1 : decide (0 ≤ c) = true := decide_eq_true h1
      have d2 : decide (c ≤ (n : Int)) = true := decide_eq_true h2
      go_enter Try.func39, Try.ntmps39
      go_wp2
      go_quiet (fail)
      go_wp2
      go_ret
      exact ⟨rfl, _, rfl⟩
    · rw [decide_eq_true h1, decide_eq_false h2]
      have d1 : decide (0 ≤ c) = true := decide_eq_true h1
      have d2 : decide (c ≤ (n : Int)) = false := decide_eq_false h2
      go_enter Try.func39, Try.ntmps39
      go_wp2
      go_quiet (fail)
      go_wp2
      go_ret
      exact ⟨rfl, _, rfl⟩
  · rw [decide_eq_false h1]
    have d1 : decide (0 ≤ c) = false := decide_eq_false h1
    go_enter Try.func39, Try.ntmps39
    go_wp2
    go_quiet (fail)
    go_wp2
    go_ret
    exact ⟨rfl, _, rfl⟩
theorem over_nil (w : World) : Calls Try.prog 39 #[.pointer none] w fun e w' => e = .returned (.bool false) ∧ ∃ q, w' = w.drewN q := by
  go_enter Try.func39, Try.ntmps39
  go_wp2
  go_quiet (fail)
  go_wp2
  go_ret
  exact ⟨rfl, _, rfl⟩
theorem steps_any (h : Scr w b pa pc L c n) : Calls Try.prog 17 #[.pointer (some ⟨b, 0, none⟩)] w fun e w' => e = .returned (.int .i64 (n : Int)) ∧ w' = w := by
  obtain ⟨⟨c0, c1, c2, c3⟩, _⟩ := h.box.four
  clear h
  go_enter Try.func17, Try.ntmps17
  go_wp2
  go_ret
  exact ⟨rfl, rfl⟩
theorem steps_nil (w : World) : Calls Try.prog 17 #[.pointer none] w fun e w' => e = .returned (.int .i64 0) ∧ w' = w := by
  go_enter Try.func17, Try.ntmps17
  go_wp2
  go_ret
  exact ⟨rfl, rfl⟩
theorem used_any (h : Scr w b pa pc L c n) : Calls Try.prog 18 #[.pointer (some ⟨b, 0, none⟩)] w fun e w' => e = .returned (.int .i64 (min n L.length : Nat)) ∧ ∃ q, w' = w.drewN q := by
  obtain ⟨⟨c0, c1, c2, c3⟩, _⟩ := h.box.four
  clear h
  obtain ⟨m, hm⟩ : ∃ m, m = L.length := ⟨_, rfl⟩
  rw [← hm] at c0 ⊢
  clear hm
  by_cases h : ¬ m < n
  · have d1 : ¬ (m : Int) < (n : Int) := by omega
    have d3 : min (n : Int) (m : Int) = (n : Int) := by omega
    rw [show min n m = n by omega]
    go_enter Try.func18, Try.ntmps18
    go_wp2
    go_quiet (fail)
    go_wp2
    go_ret
    exact ⟨rfl, _, rfl⟩
  · have d1 : (m : Int) < (n : Int) := by omega
    have d2 : m < n := by omega
    have d3 : min (n : Int) (m : Int) = (m : Int) := by omega
    clear h
    rw [show min n m = m by omega]
    go_enter Try.func18, Try.ntmps18
    go_wp2
    go_quiet (fail)
    go_wp2
    go_ret
    exact ⟨rfl, _, rfl⟩
theorem used_nil (w : World) : Calls Try.prog 18 #[.pointer none] w fun e w' => e = .returned (.int .i64 0) ∧ ∃ q, w' = w.drewN q := by
  go_enter Try.func18, Try.ntmps18
  go_wp2
  go_ret
  exact ⟨rfl, 0, rfl⟩
theorem next_any (h : Scr w b pa pc L c n) : Calls Try.prog 42 #[.pointer (some ⟨b, 0, none⟩)] w fun e w' => e = .returned (.int .i64 (L.getD n 0)) ∧ ∃ q, w' = w.drewN q := by
  obtain ⟨⟨c0, c1, c2, c3⟩, _⟩ := h.box.four
  by_cases hlt : n < L.length
  · obtain ⟨b1, o1, rfl, hc⟩ := h.row.at hlt
    obtain ⟨z, hz⟩ : ∃ z, z = L.getD n 0 := ⟨_, rfl⟩
    obtain ⟨m, hm⟩ : ∃ m, m = L.length := ⟨_, rfl⟩
    rw [← hm] at c0 hlt
    rw [← hz] at hc ⊢
    have d1 : (n : Int) < (m : Int) := by omega
    have d2 : decide ((n : Int) < (m : Int)) = true := decide_eq_true d1
    have l1 := h.row.rd.1
    rw [← hm] at l1
    clear h hm hz
    go_enter Try.func42, Try.ntmps42
    go_wp2
    go_quiet (fail)
    go_wp2
    go_quiet (fail)
    go_wp2
    go_ret
    exact ⟨rfl, _, World.drewN_drewN _ _ _⟩
  · have e : L.getD n 0 = 0 := by rw [List.getD_eq_getElem?_getD, List.getElem?_eq_none (by omega)]; rfl
    rw [e]
    obtain ⟨m, hm⟩ : ∃ m, m = L.length := ⟨_, rfl⟩
    rw [← hm] at c0 hlt
    have d1 : ¬ (n : Int) < (m : Int) := by omega
    have d2 : decide ((n : Int) < (m : Int)) = false := decide_eq_false d1
    clear h hm e
    go_enter Try.func42, Try.ntmps42
    go_wp2
    go_quiet (fail)
    go_wp2
    go_ret
    exact ⟨rfl, _, rfl⟩
end
theorem mod_any (x : Int) (m : Nat) (w : World) (hx : (Lit.int .i64 x).wf = true) (hm : 0 < m) (hm2 : m ≤ 1000000) {z : Int} (hz : x % (m : Int) = z) : Calls Try.prog 41 #[.int .i64 x, .int .i64 (m : Int)] w fun e w' => e = .returned (.int .i64 z) ∧ w' = w := by
  have hb := bounds_i64 hx
  obtain ⟨q1, q2⟩ := hb
  have hp := tmod_place x hm
  rw [hz] at hp
  have g0 : ¬ ((m : Int) = 0) := by omega
  have a1 : -(m : Int) < x.tmod (m : Int) ∧ x.tmod (m : Int) < (m : Int) := by
    have h1 := Int.emod_nonneg x (show (m : Int) ≠ 0 by omega)
    have h2 := Int.emod_lt_of_pos x (show (0 : Int) < m by omega)
    rw [Int.tmod_eq_emod]
    split <;> omega
  obtain ⟨a2, a3⟩ := a1
  have g3 : IntKind.i64.wrap (x.tmod (m : Int)) = x.tmod (m : Int) := IntWalk.i64_in _ (by omega)
  by_cases h0 : x.tmod (m : Int) < 0
  · rw [if_pos h0] at hp
    clear hx hz
    go_enter Try.func41, Try.ntmps41
    go_wp2
    go_ret
    rw [← hp]
    exact ⟨rfl, rfl⟩
  · rw [if_neg h0] at hp
    clear hx hz
    go_enter Try.func41, Try.ntmps41
    go_wp2
    go_ret
    rw [← hp]
    exact ⟨rfl, rfl⟩
end Go.Proofs.Ytkjdjmcecjaolaa.Pick

/- The program's New and Step. -/
namespace Go.Proofs.Ytkjdjmcecjaolaa.Pick
open Go.RowKit Go.Proofs.Ytkjdjmcecjaolaa.Dig Go.Proofs.Ytkjdjmcecjaolaa.Mem Go.Proofs.Ytkjdjmcecjaolaa.Dq Go.Proofs.Ytkjdjmcecjaolaa.Thing Go.Proofs.Ytkjdjmcecjaolaa.Sets
set_option linter.unusedVariables false
set_option linter.unusedSimpArgs false

theorem row_v {w : World} {a : Option Addr} {c : Nat} {l : List Int} (h : RowI w a c l) : RowV w a c l := ⟨h.cap, h.rd, h.nil⟩
theorem row_i {w : World} {a : Option Addr} {c : Nat} {l : List Int} (h : RowV w a c l) : RowI w a c l := ⟨h.cap, h.rd, h.nil⟩
theorem new_any {w : World} {a : Option Addr} {m p : Nat} {L : List Int} (c : Int) (h : RowI w a p L) (hm : m = L.length) (hL : L.length ≤ 1000000) : Calls Try.prog 10 #[.slice a m p, .int .i64 c] w fun e w' =>
    ∃ b pa pc, e = .returned (.pointer (some ⟨b, 0, none⟩)) ∧ Scr w' b pa pc L c 0 ∧ (∀ k, (scrT b pa pc L c 0).F k → w.heap.size ≤ k) ∧ Below w.heap.size w w' := by
  subst hm
  have HC := hide (clone_fresh a p L w (row_v h) hL)
  obtain ⟨m, hm⟩ : ∃ m, m = L.length := ⟨_, rfl⟩
  have HM := hide hm
  rw [← hm] at HC ⊢
  clear h hm
  go_enter Try.func10, Try.ntmps10
  go_wp2_with (go_at_call 23; go_must ((with_reducible refine (Hid.out HC).mono ?_); rintro e w2 ⟨⟨pa, pc, rfl, hr, hf⟩, hb⟩; have HR := hide hr; have HF := hide hf; have HB := hide hb; clear hr hf hb))
  go_ret
  refine ⟨w2.heap.size, pa, pc, rfl, ⟨?_, row_i (HR.out.keep ((Below.refl _ _).alloc (Nat.le_refl _) _)), fun hl x e q => ?_⟩, fun k hk => ?_, HB.out.alloc HB.out.size _⟩
  · rw [← HM.out]
    exact Is.made _ _ _ rfl
  · have := Rd.lt HR.out.rd hl x e
    omega
  · rcases hk with rfl | ⟨_, x, e, rfl⟩
    · exact HB.out.size
    · exact HF.out x e
section
variable {w : World} {b n : Nat} {pa : Option Addr} {pc : Nat} {L : List Int} {c : Int}
theorem pstep_nil (w : World) (r : Value) : Calls Try.prog 25 #[.pointer none, r] w fun e w' => e = .returned (.tuple #[.int .i64 0, .int .i64 1]) ∧ w' = w := by
  go_enter Try.func25, Try.ntmps25
  go_wp2
  refine bodyPost_ret (v := .tuple #[.int .i64 0, .int .i64 1]) (by simp [results, Try.results25, go_sem]) rfl ?_
  exact ⟨rfl, rfl⟩
theorem pstep_un {w : World} {b : Nat} {v0 v1 v2 : Value} (h : Is w b #[v0, v1, v2, .bool false]) (r : Value) : Calls Try.prog 25 #[.pointer (some ⟨b, 0, none⟩), r] w fun e w' => e = .returned (.tuple #[.int .i64 0, .int .i64 1]) ∧ w' = w := by
  obtain ⟨⟨c0, c1, c2, c3⟩, _⟩ := h.four
  clear h
  go_enter Try.func25, Try.ntmps25
  go_wp2
  refine bodyPost_ret (v := .tuple #[.int .i64 0, .int .i64 1]) (by simp [results, Try.results25, go_sem]) rfl ?_
  exact ⟨rfl, rfl⟩
theorem pstep_over (h : Scr w b pa pc L c n) (ho : over c n = true) (r : Value) : Calls Try.prog 25 #[.pointer (some ⟨b, 0, none⟩), r] w fun e w' => e = .returned (.tuple #[.int .i64 0, .int .i64 8]) ∧ ∃ q, w' = w.drewN q := by
  have HO := hide (over_any h)
  rw [ho] at HO
  obtain ⟨⟨c0, c1, c2, c3⟩, _⟩ := h.box.four
  clear h ho
  go_enter Try.func25, Try.ntmps25
  go_wp2_with (go_at_call 39; go_must ((with_reducible refine (Hid.out HO).mono ?_); rintro e w2 ⟨rfl, q, rfl⟩))
  refine bodyPost_ret (v := .tuple #[.int .i64 0, .int .i64 8]) (by simp [results, Try.results25, go_sem]) rfl ?_
  exact ⟨rfl, _, rfl⟩
theorem pstep_none (h : Scr w b pa pc L c n) (ho : over c n = false) (ra : Option Addr) (rc : Nat) : Calls Try.prog 25 #[.pointer (some ⟨b, 0, none⟩), .slice ra 0 rc] w fun e w' => e = .returned (.tuple #[.int .i64 0, .int .i64 10]) ∧ ∃ q, w' = w.drewN q := by
  have HO := hide (over_any h)
  rw [ho] at HO
  obtain ⟨⟨c0, c1, c2, c3⟩, _⟩ := h.box.four
  clear h ho
  go_enter Try.func25, Try.ntmps25
  go_wp2_with (go_at_call 39; go_must ((with_reducible refine (Hid.out HO).mono ?_); rintro e w2 ⟨rfl, q, rfl⟩))
  refine bodyPost_ret (v := .tuple #[.int .i64 0, .int .i64 10]) (by simp [results, Try.results25, go_sem]) rfl ?_
  exact ⟨rfl, _, rfl⟩
/-- What is known within the step: the set of the ready lies in a box. -/
structure MidS (w : World) (b n qb sl sc : Nat) (pa : Option Addr) (pc : Nat) (L : List Int) (c : Int) (sa : Option Addr) (s : List Int) (W : World) : Prop where
  scr : Scr W b pa pc L c n
  set : RowV W sa sc s
  box : Is W qb #[.slice sa sl sc]
  only : Only (fun k => k = b) w W
theorem MidS.keep {w W W' : World} {b n qb sl sc : Nat} {pa : Option Addr} {pc : Nat} {L : List Int} {c : Int} {sa : Option Addr} {s : List Int} (h : MidS w b n qb sl sc pa pc L c sa s W) (hb : Below W.heap.size W W') : MidS w b n qb sl sc pa pc L c sa s W' :=
  ⟨h.scr.keep hb, h.set.keep hb, h.box.below hb, h.only.trans (Only.of_below hb)⟩
theorem MidS.more {w W : World} {b n qb sl sc : Nat} {pa : Option Addr} {pc : Nat} {L : List Int} {c : Int} {sa : Option Addr} {s : List Int} (h : MidS w b n qb sl sc pa pc L c sa s W) (hq : ¬ qb = b) (hs : ∀ x, sa = some x → x.block ≠ b) : MidS w b (n + 1) qb sl sc pa pc L c sa s (W.setCell ⟨b, 2, none⟩ (.int .i64 ((n : Int) + 1))) :=
  ⟨by simpa using h.scr.more (n + 1), ⟨h.set.cap, h.set.rd.only' (S := fun k => k = b) ((Only.refl _ _).put 2 _) (fun _ x e => hs x e), h.set.nil⟩, h.box.other (Ne.symm hq) _, h.only.put 2 _⟩
set_option maxHeartbeats 4000000 in
theorem pstep_ok (h : Scr w b pa pc L c n) (ho : over c n = false) (hn : n ≤ 1000000) {ra : Option Addr} {rc k : Nat} {l : List Int} (hl : l ≠ []) (hk : k = l.length) (hk2 : l.length ≤ 1000000) (hr : RowI w ra rc l) :
    Calls Try.prog 25 #[.pointer (some ⟨b, 0, none⟩), .slice ra k rc] w fun e w' => e = .returned (.tuple #[.int .i64 (told L n l), .int .i64 0]) ∧ Scr w' b pa pc L c (n + 1) ∧ Only (fun k => k = b) w w' := by
  have HO := hide (over_any h)
  rw [ho] at HO
  have hs := setL_ne hl
  have hj := place_lt L n hs
  have hji := place_int L n hs
  have hsl2 := setL_length (lt := ltI) l
  have HT0 : told L n l = (setL ltI l).getD (place L n (setL ltI l).length) 0 := rfl
  have hk0 : 0 < k := by rw [hk]; cases l with | nil => exact absurd rfl hl | cons y l => simp
  obtain ⟨s, hs'⟩ : ∃ s, s = setL ltI l := ⟨_, rfl⟩
  rw [← hs'] at HT0 hj hji hs hsl2
  obtain ⟨sl, hsl⟩ : ∃ sl, sl = s.length := ⟨_, rfl⟩
  rw [← hsl] at HT0 hj hji hs hsl2
  obtain ⟨j, hj'⟩ : ∃ j, j = place L n sl := ⟨_, rfl⟩
  rw [← hj'] at HT0 hj hji
  obtain ⟨t, ht⟩ : ∃ t, t = s.getD j 0 := ⟨_, rfl⟩
  rw [← ht] at HT0
  have HT := hide HT0.symm
  have HOF : Hid (∀ q, Calls Try.prog 40 #[.slice ra k rc] (w.drewN q) fun e w' => ∃ sa sc, e = .returned (.agg #[.slice sa sl sc]) ∧ RowV w' sa sc s ∧ (∀ x, sa = some x → 0 < sl → w.heap.size ≤ x.block) ∧ Below w.heap.size w w') := hide (fun q => by
    have := of_any ra rc l (w.drewN q) (row_v (hr.keep (below_of_drewN q))) hk2
    rw [← hs', ← hk] at this
    refine this.mono ?_
    rintro e w' ⟨v, rfl, ⟨a', c', rfl, g1⟩, g2, g3⟩
    rw [← hsl] at g2 ⊢
    exact ⟨a', c', rfl, g1, fun x e hx => by subst e; exact g2 x.block x.off x.spot _ _ rfl hx, (below_of_drewN q).trans g3⟩)
  have HAT : Hid (∀ W a' c', RowV W a' c' s → ∃ b off, a' = some ⟨b, off, none⟩ ∧ W.cell? ⟨b, off + j, none⟩ = some (.int .i64 t)) := hide (fun W a' c' q => by
    obtain ⟨b, off, e, hc⟩ := q.at (i := j) (by omega)
    rw [← ht] at hc
    exact ⟨b, off, e, hc⟩)
  obtain ⟨x, hx⟩ : ∃ x, x = L.getD n 0 := ⟨_, rfl⟩
  have hwf : (Lit.int .i64 x).wf = true := by
    rw [hx]
    by_cases q : n < L.length
    · exact h.row.wf _ (by rw [List.getD_eq_getElem?_getD, List.getElem?_eq_getElem q]; exact List.getElem_mem _)
    · rw [List.getD_eq_getElem?_getD, List.getElem?_eq_none (by omega)]; rfl
  rw [← hx] at hji
  have HNX : Hid (∀ W sa sc qb, MidS w b n qb sl sc pa pc L c sa s W → Calls Try.prog 42 #[.pointer (some ⟨b, 0, none⟩)] W fun e w' => e = .returned (.int .i64 x) ∧ MidS w b n qb sl sc pa pc L c sa s w') := hide (fun W sa sc qb g => by
    have := next_any g.scr
    rw [← hx] at this
    refine this.mono ?_
    rintro e w' ⟨rfl, q, rfl⟩
    exact ⟨rfl, g.keep (below_of_drewN q)⟩)
  have HLN : Hid (∀ W sa sc qb, MidS w b n qb sl sc pa pc L c sa s W → Calls Try.prog 43 #[.agg #[.slice sa sl sc]] W fun e w' => e = .returned (.int .i64 (sl : Int)) ∧ MidS w b n qb sl sc pa pc L c sa s w') := hide (fun W sa sc qb g => by
    have := len_any (.agg #[.slice sa sl sc]) s W ⟨sa, sc, by rw [hsl], g.set⟩
    rw [← hsl] at this
    refine this.mono ?_
    rintro e w' ⟨rfl, hb⟩
    exact ⟨rfl, g.keep hb⟩)
  have HLI : Hid (∀ W sa sc qb, MidS w b (n + 1) qb sl sc pa pc L c sa s W → Calls Try.prog 44 #[.agg #[.slice sa sl sc]] W fun e w' => (∃ a' c', e = .returned (.slice a' sl c') ∧ RowV w' a' c' s) ∧ MidS w b (n + 1) qb sl sc pa pc L c sa s w') := hide (fun W sa sc qb g => by
    have := list_any (.agg #[.slice sa sl sc]) s W ⟨sa, sc, by rw [hsl], g.set⟩ (by omega)
    rw [← hsl] at this
    refine this.mono ?_
    rintro e w' ⟨⟨a', c', rfl, h1⟩, hb⟩
    exact ⟨⟨a', c', rfl, h1⟩, g.keep hb⟩)
  have HMD := hide (fun W => mod_any x sl W hwf hs (by omega) hji.symm)
  have HS0 := hide h
  have hb0 := h.box.lt
  obtain ⟨⟨c0, c1, c2, c3⟩, _⟩ := h.box.four
  have g0 : ((k : Int) == 0) = false := by simp; omega
  have g1 : (j : Int) < (sl : Int) := by omega
  have HSL := hide hs
  clear h ho hr hl hk hk2 hs' hsl ht HT0 hj' hx hji hsl2 hwf
  go_enter Try.func25, Try.ntmps25
  go_wp2_with (first
    | (go_at_call 39; go_must ((with_reducible refine (Hid.out HO).mono ?_); rintro e w2 ⟨rfl, q, rfl⟩))
    | (go_at_call 40; go_must ((with_reducible refine (Hid.out HOF q).mono ?_); rintro e w2 ⟨sa, sc, rfl, hr2, hf2, hb2⟩; have HR2 := hide hr2; have HF2 := hide hf2; have HB2 := hide hb2; clear hr2 hf2 hb2)))
  obtain ⟨qb, hqb⟩ : ∃ qb, qb = w2.heap.size := ⟨_, rfl⟩
  have M0 : Hid (MidS w b n qb sl sc pa pc L c sa s (w2.alloc (.cells #[.slice sa sl sc] 86))) := hide ⟨(HS0.out.keep HB2.out).keep ((Below.refl _ _).alloc (Nat.le_refl _) _), HR2.out.keep ((Below.refl _ _).alloc (Nat.le_refl _) _), Is.made _ _ _ hqb, (Only.of_below HB2.out).alloc _⟩
  have hqb2 : ¬ qb = b := by have := HB2.out.size; omega
  have hsab : ∀ x, sa = some x → x.block ≠ b := fun x e q => by have := HF2.out x e HSL.out; omega
  have HSAB := hide hsab
  rw [← hqb]
  generalize (w2.alloc (.cells #[.slice sa sl sc] 86)) = W3 at *
  clear hqb HR2 HF2 HB2 c0 c1 c2 c3 hsab HOF HO
  have hbx : W3.cell? ⟨qb, 0, none⟩ = some (.slice sa sl sc) := M0.out.box.cell 0 rfl
  have K := hide (M0.out.keep (W' := W3.drew) (Below.refl _ _).drew)
  go_region_held3 (fun w' => w'.cell? ⟨qb, 0, none⟩ = some (.slice sa sl sc)) (first | assumption | go_keep)
    (first
    | (go_at_call 42; ((with_reducible refine (Hid.out HNX _ sa sc qb K.out).mono ?_); rintro e w5 ⟨rfl, hm⟩; replace K := hide hm; have hbx5 := hm.box.cell 0 rfl; clear hm))
    | (go_at_call 43; ((with_reducible refine (Hid.out HLN _ sa sc qb K.out).mono ?_); rintro e w6 ⟨rfl, hm⟩; replace K := hide hm; have hbx6 := hm.box.cell 0 rfl; clear hm))
    | (go_at_call 41; ((with_reducible refine (Hid.out HMD _).mono ?_); rintro e w7 ⟨rfl, rfl⟩)))
  clear hbx5 hbx6
  obtain ⟨⟨c0, c1, c2, c3⟩, f0, f1, f2, f3⟩ := K.out.scr.box.four
  have hbx7 := K.out.box.cell 0 rfl
  have K9 := hide (K.out.more hqb2 HSAB.out)
  clear K c0 c1 c3 f0 f1 f3
  go_simp
  go_wp2_with (go_at_call 44; ((with_reducible refine (Hid.out HLI _ sa sc qb K9.out).mono ?_); rintro e w8 ⟨⟨la, lc, rfl, hr8⟩, hm⟩; have KE := hide hm; obtain ⟨lb, lo, rfl, hlc⟩ := HAT.out _ _ _ hr8; clear hm hr8 hbx7))
  refine bodyPost_ret (v := .tuple #[.int .i64 t, .int .i64 0]) (by simp [results, Try.results25, go_sem]) rfl ?_
  exact ⟨by rw [HT.out], KE.out.scr, KE.out.only⟩
end
end Go.Proofs.Ytkjdjmcecjaolaa.Pick

/- The document's Cancelled and Step, over a struct of the picks, the step at which all is cancelled, how many steps there were, and how many picks were used. -/
namespace Go.Proofs.Ytkjdjmcecjaolaa.Pick
open Go.RowKit Go.Proofs.Ytkjdjmcecjaolaa.Dig Go.Proofs.Ytkjdjmcecjaolaa.Mem Go.Proofs.Ytkjdjmcecjaolaa.Dq Go.Proofs.Ytkjdjmcecjaolaa.Sets
set_option linter.unusedVariables false
set_option linter.unusedSimpArgs false

/-- A struct of the document's. -/
abbrev rv (a : Option Addr) (m p : Nat) (c : Int) (n u : Nat) : Array Value := #[.slice a m p, .int .i64 c, .int .i64 (n : Int), .int .i64 (u : Int)]
theorem _root_.Go.Proofs.Ytkjdjmcecjaolaa.Dq.RowI.v {w : World} {a : Option Addr} {c : Nat} {l : List Int} (h : RowI w a c l) : RowV w a c l := ⟨h.cap, h.rd, h.nil⟩
theorem _root_.Go.Proofs.Ytkjdjmcecjaolaa.Sets.RowV.i {w : World} {a : Option Addr} {c : Nat} {l : List Int} (h : RowV w a c l) : RowI w a c l := ⟨h.cap, h.rd, h.nil⟩
section
variable (w : World) (a : Option Addr) (m p : Nat) (c : Int) (n u : Nat)
theorem rover_any {d : Bool} (hd : over c n = d) : Calls Try.prog 49 #[.agg (rv a m p c n u)] w fun e w' => e = .returned (.bool d) ∧ Below w.heap.size w w' := by
  unfold rv
  subst hd
  unfold over
  by_cases h1 : 0 ≤ c
  · by_cases h2 : c ≤ (n : Int)
    · rw [decide_eq_true h1, decide_eq_true h2]
      go_enter Try.func49, Try.ntmps49
      go_wp2
      go_ret
      exact ⟨rfl, (Below.refl _ _).alloc (Nat.le_refl _) _⟩
    · rw [decide_eq_true h1, decide_eq_false h2]
      go_enter Try.func49, Try.ntmps49
      go_wp2
      go_ret
      exact ⟨rfl, (Below.refl _ _).alloc (Nat.le_refl _) _⟩
  · rw [decide_eq_false h1]
    go_enter Try.func49, Try.ntmps49
    go_wp2
    go_ret
    exact ⟨rfl, (Below.refl _ _).alloc (Nat.le_refl _) _⟩
set_option maxHeartbeats 1000000 in
theorem rstep_over (h : over c n = true) (r : Value) : Calls Try.prog 30 #[.agg (rv a m p c n u), r] w fun e w' => e = .returned (.tuple #[.agg (rv a m p c n u), .int .i64 0, .int .i64 8]) ∧ Below w.heap.size w w' := by
  have HR := hide (fun W => rover_any W a m p c n u h)
  unfold rv at *
  clear h
  go_enter Try.func30, Try.ntmps30
  go_wp2_with (go_at_call 49; go_must ((refine (Hid.out HR _).mono ?_); rintro e w3 ⟨rfl, hb3⟩; obtain ⟨i1, i2, hb, hz⟩ := two_boxes hb3; have I1 := hide i1; have I2 := hide i2; have HB := hide hb; obtain ⟨⟨p0, p1, p2, p3⟩, f0, f1, f2, f3⟩ := i1.four; obtain ⟨⟨q0, q1, q2, q3⟩, g0, g1, g2, g3⟩ := i2.four; clear i1 i2 hb hb3))
  refine bodyPost_ret (v := .tuple #[.agg #[.slice a m p, .int .i64 c, .int .i64 (n : Int), .int .i64 (u : Int)], .int .i64 0, .int .i64 8]) (by simp [results, Try.results30, go_sem, p0, p1, p2, p3, q0, q1, q2, q3, hz]) rfl ?_
  exact ⟨rfl, ((((HB.out.setCell (p := ⟨_, _, none⟩) (by simp) _).setCell (p := ⟨_, _, none⟩) (by simp) _).setCell (p := ⟨_, _, none⟩) (by simp) _).setCell (p := ⟨_, _, none⟩) (by simp) _)⟩
set_option maxHeartbeats 1000000 in
theorem rstep_none (h : over c n = false) (ra : Option Addr) (rc : Nat) (hr : RowI w ra rc []) : Calls Try.prog 30 #[.agg (rv a m p c n u), .slice ra 0 rc] w fun e w' => e = .returned (.tuple #[.agg (rv a m p c n u), .int .i64 0, .int .i64 10]) ∧ Below w.heap.size w w' := by
  have HR := hide (fun W => rover_any W a m p c n u h)
  have HO : Hid (∀ W, Below w.heap.size w W → Calls Try.prog 22 #[.slice ra 0 rc] W fun e w' => (∃ a' c', e = .returned (.slice a' 0 c') ∧ RowV w' a' c' [] ∧ ∀ x, a' = some x → W.heap.size ≤ x.block) ∧ Below W.heap.size W w') := hide (fun W hb => by
    have := rof_fresh ra rc [] W (hr.keep hb).v (by simp)
    rw [setL_nil] at this
    exact this)
  unfold rv at *
  clear h hr
  go_enter Try.func30, Try.ntmps30
  go_wp2_with (first | (go_at_call 49; go_must ((refine (Hid.out HR _).mono ?_); rintro e w3 ⟨rfl, hb3⟩; obtain ⟨i1, i2, hb, hz⟩ := two_boxes hb3; have I1 := hide i1; have I2 := hide i2; have HB := hide hb; clear i1 i2 hb hb3)) | (go_at_call 22; go_must ((refine (Hid.out HO _ HB.out).mono ?_); rintro e w4 ⟨⟨sa, sc, rfl, hr4, hf4⟩, hb4⟩; have HR4 := hide hr4; have HF4 := hide hf4; have I3 := hide (I1.out.below hb4); have I4 := hide (I2.out.below hb4); have HB4 := hide (HB.out.trans (hb4.mono HB.out.size)); obtain ⟨⟨p0, p1, p2, p3⟩, f0, f1, f2, f3⟩ := I3.out.four; obtain ⟨⟨q0, q1, q2, q3⟩, g0, g1, g2, g3⟩ := I4.out.four; clear hr4 hb4 hf4)))
  refine bodyPost_ret (v := .tuple #[.agg #[.slice a m p, .int .i64 c, .int .i64 (n : Int), .int .i64 (u : Int)], .int .i64 0, .int .i64 10]) (by simp [results, Try.results30, go_sem, p0, p1, p2, p3, q0, q1, q2, q3, hz]) rfl ?_
  exact ⟨rfl, ((((HB4.out.setCell (p := ⟨_, _, none⟩) (by simp) _).setCell (p := ⟨_, _, none⟩) (by simp) _).setCell (p := ⟨_, _, none⟩) (by simp) _).setCell (p := ⟨_, _, none⟩) (by simp) _)⟩
set_option maxHeartbeats 2000000 in
/-- No pick is left: the least one is told. -/
theorem rstep_least (h : over c n = false) (hn : n ≤ 1000000) {L : List Int} (hm : m = L.length) (hmn : m ≤ n) (hm2 : m ≤ 1000000) (ra : Option Addr) (rc : Nat) (l : List Int) (hl : l ≠ []) (hl2 : l.length ≤ 1000) {k : Nat} (hk : k = l.length) (hr : RowI w ra rc l) : Calls Try.prog 30 #[.agg (rv a m p c n m), .slice ra k rc] w fun e w' => e = .returned (.tuple #[.agg #[.slice a m p, .int .i64 c, .int .i64 ((n : Int) + 1), .int .i64 (m : Int)], .int .i64 (told L n l), .int .i64 0]) ∧ Below w.heap.size w w' := by
  have HR := hide (fun W => rover_any W a m p c n m h)
  have hs := setL_ne hl
  have HT0 : told L n l = (setL ltI l).getD 0 0 := by unfold told; rw [place_none (by omega)]
  obtain ⟨s, hs'⟩ : ∃ s, s = setL ltI l := ⟨_, rfl⟩
  obtain ⟨sl, hsl⟩ : ∃ sl, sl = s.length := ⟨_, rfl⟩
  obtain ⟨t, ht⟩ : ∃ t, t = s.getD 0 0 := ⟨_, rfl⟩
  rw [← hs', ← ht] at HT0
  rw [← hs', ← hsl] at hs
  have HT := hide HT0.symm
  have HO : Hid (∀ W, Below w.heap.size w W → Calls Try.prog 22 #[.slice ra k rc] W fun e w' => (∃ a' c', e = .returned (.slice a' sl c') ∧ RowV w' a' c' s ∧ ∀ x, a' = some x → W.heap.size ≤ x.block) ∧ Below W.heap.size W w') := hide (fun W hb => by
    have := rof_fresh ra rc l W (hr.keep hb).v (Nat.le_trans hl2 (by decide))
    rw [← hs', ← hsl, ← hk] at this
    exact this)
  have HAT : Hid (∀ W a' c', RowV W a' c' s → ∃ b off, a' = some ⟨b, off, none⟩ ∧ W.cell? ⟨b, off, none⟩ = some (.int .i64 t)) := hide (fun W a' c' q => by
    obtain ⟨b, off, e, hc⟩ := q.at (i := 0) (by omega)
    rw [← ht] at hc
    exact ⟨b, off, e, hc⟩)
  have g0 : ((sl : Int) == 0) = false := by simp; omega
  have g1 : (0 : Int) < (sl : Int) := by omega
  have g2 : decide ((m : Int) ≤ (m : Int)) = true := by simp
  have g3 : ¬ (m : Int) < (m : Int) := by omega
  unfold rv at *
  clear h hr hl hl2 hk hs' hsl ht HT0 hm hmn
  go_enter Try.func30, Try.ntmps30
  go_wp2_with (first | (go_at_call 49; go_must ((refine (Hid.out HR _).mono ?_); rintro e w3 ⟨rfl, hb3⟩; obtain ⟨i1, i2, hb, hz⟩ := two_boxes hb3; have I1 := hide i1; have I2 := hide i2; have HB := hide hb; clear i1 i2 hb hb3)) | (go_at_call 22; go_must ((refine (Hid.out HO _ HB.out).mono ?_); rintro e w4 ⟨⟨sa, sc, rfl, hr4, hf4⟩, hb4⟩; have HR4 := hide hr4; have HF4 := hide hf4; have I3 := hide (I1.out.below hb4); have I4 := hide (I2.out.below hb4); have HB4 := hide (HB.out.trans (hb4.mono HB.out.size)); obtain ⟨⟨p0, p1, p2, p3⟩, f0, f1, f2, f3⟩ := I3.out.four; obtain ⟨⟨q0, q1, q2, q3⟩, g0, g1, g2, g3⟩ := I4.out.four; clear hr4 hb4 hf4)))
  obtain ⟨sb, so, rfl, hcell⟩ := HAT.out _ _ _ HR4.out
  have hsb := lt_of_cell hcell
  have n0 := HF4.out _ rfl
  have n1 : ¬ sb = w.heap.size := by simp at n0; omega
  have n2 : ¬ sb = w.heap.size + 1 := by simp at n0; omega
  go_region
  all_goals
    go_wp2
    refine bodyPost_ret (v := .tuple #[.agg #[.slice a m p, .int .i64 c, .int .i64 ((n : Int) + 1), .int .i64 (m : Int)], .int .i64 t, .int .i64 0]) (by simp [results, Try.results30, go_sem, p0, p1, p2, p3, q0, q1, q2, q3, hz]) rfl ?_
    refine ⟨by rw [HT.out], ?_⟩
    repeat (first | with_reducible exact HB4.out | (with_reducible refine Below.setCell (p := ⟨_, _, none⟩) ?_ (by simp) _) | with_reducible apply Below.drew)
set_option maxHeartbeats 4000000 in
/-- A pick is used. -/
theorem rstep_pick (h : over c n = false) (hn : n ≤ 1000000) {L : List Int} (hm : m = L.length) (hmn : n < m) (hm2 : m ≤ 1000000) (hL : RowI w a p L) (ra : Option Addr) (rc : Nat) (l : List Int) (hl : l ≠ []) (hl2 : l.length ≤ 1000) {k : Nat} (hk : k = l.length) (hr : RowI w ra rc l) : Calls Try.prog 30 #[.agg (rv a m p c n n), .slice ra k rc] w fun e w' => e = .returned (.tuple #[.agg #[.slice a m p, .int .i64 c, .int .i64 ((n : Int) + 1), .int .i64 ((n : Int) + 1)], .int .i64 (told L n l), .int .i64 0]) ∧ Below w.heap.size w w' := by
  have HR := hide (fun W => rover_any W a m p c n n h)
  have hs := setL_ne hl
  have HT0 : told L n l = (setL ltI l).getD (place L n (setL ltI l).length) 0 := rfl
  have hj := place_lt L n hs
  have hji := place_int L n hs
  have htm := tmod_place (L.getD n 0) hs
  have hsl2 := setL_length (lt := ltI) l
  obtain ⟨s, hs'⟩ : ∃ s, s = setL ltI l := ⟨_, rfl⟩
  rw [← hs'] at HT0 hj hji htm hs hsl2
  obtain ⟨sl, hsl⟩ : ∃ sl, sl = s.length := ⟨_, rfl⟩
  rw [← hsl] at HT0 hj hji htm hs hsl2
  obtain ⟨j, hj'⟩ : ∃ j, j = place L n sl := ⟨_, rfl⟩
  rw [← hj'] at HT0 hj hji
  obtain ⟨t, ht⟩ : ∃ t, t = s.getD j 0 := ⟨_, rfl⟩
  rw [← ht] at HT0
  have HT := hide HT0.symm
  have HO : Hid (∀ W, Below w.heap.size w W → Calls Try.prog 22 #[.slice ra k rc] W fun e w' => (∃ a' c', e = .returned (.slice a' sl c') ∧ RowV w' a' c' s ∧ ∀ x, a' = some x → W.heap.size ≤ x.block) ∧ Below W.heap.size W w') := hide (fun W hb => by
    have := rof_fresh ra rc l W (hr.keep hb).v (Nat.le_trans hl2 (by decide))
    rw [← hs', ← hsl, ← hk] at this
    exact this)
  have HAT : Hid (∀ W a' c', RowV W a' c' s → ∃ b off, a' = some ⟨b, off, none⟩ ∧ W.cell? ⟨b, off + j, none⟩ = some (.int .i64 t)) := hide (fun W a' c' q => by
    obtain ⟨b, off, e, hc⟩ := q.at (i := j) (by omega)
    rw [← ht] at hc
    exact ⟨b, off, e, hc⟩)
  obtain ⟨lb, lo, rfl, hlc⟩ := hL.at (i := n) (by omega)
  have hwf := hL.wf (L.getD n 0) (by rw [List.getD_eq_getElem?_getD, List.getElem?_eq_getElem (by omega)]; exact List.getElem_mem _)
  obtain ⟨x, hx⟩ : ∃ x, x = L.getD n 0 := ⟨_, rfl⟩
  rw [← hx] at hlc hji htm hwf
  obtain ⟨q1', q2'⟩ := bounds_i64 hwf
  have hlb := lt_of_cell hlc
  have HLC : Hid (∀ W, Below w.heap.size w W → W.cell? ⟨lb, lo + n, none⟩ = some (.int .i64 x)) := hide (fun W hb => (hb.cell (p := ⟨lb, lo + n, none⟩) hlb).trans hlc)
  have hlbw : ¬ lb = w.heap.size := by simp at hlb; omega
  have hlbw1 : ¬ lb = w.heap.size + 1 := by simp at hlb; omega
  have z0 : ¬ ((sl : Int) = 0) := by omega
  have g0 : ((sl : Int) == 0) = false := by simp; omega
  have g1 : (n : Int) < (m : Int) := by omega
  have g2 : decide ((m : Int) ≤ (n : Int)) = false := by simp; omega
  have g3 : ¬ (m : Int) ≤ (n : Int) := by omega
  have a1 : -(sl : Int) < x.tmod (sl : Int) ∧ x.tmod (sl : Int) < (sl : Int) := by
    have h1 := Int.emod_nonneg x (show (sl : Int) ≠ 0 by omega)
    have h2 := Int.emod_lt_of_pos x (show (0 : Int) < sl by omega)
    rw [Int.tmod_eq_emod]
    split <;> omega
  obtain ⟨a2, a3⟩ := a1
  rw [← hji] at htm
  have hji2 : (j : Int) < (sl : Int) := by omega
  have w1 : IntKind.i64.wrap (x.tmod (sl : Int)) = x.tmod (sl : Int) := IntWalk.i64_in _ (by omega)
  have w2 : wrap64 (j : Int) = (j : Int) := by rw [← IntWalk.i64_left]; exact IntWalk.i64_in _ (by omega)
  unfold rv at *
  clear h hr hl hl2 hk hs' hsl ht HT0 hm hmn hx hwf hlc hj' hji hL hsl2
  by_cases hneg : x.tmod (sl : Int) < 0
  · rw [if_pos hneg] at htm
    go_enter Try.func30, Try.ntmps30
    go_wp2_with (first | (go_at_call 49; go_must ((refine (Hid.out HR _).mono ?_); rintro e w3 ⟨rfl, hb3⟩; obtain ⟨i1, i2, hb, hz⟩ := two_boxes hb3; have I1 := hide i1; have I2 := hide i2; have HB := hide hb; clear i1 i2 hb hb3)) | ((go_at_call 22; go_must ((refine (Hid.out HO _ HB.out).mono ?_); rintro e w4 ⟨⟨sa, sc, rfl, hr4, hf4⟩, hb4⟩; have HR4 := hide hr4; have HF4 := hide hf4; have I3 := hide (I1.out.below hb4); have I4 := hide (I2.out.below hb4); have HB4 := hide (HB.out.trans (hb4.mono HB.out.size)); obtain ⟨⟨p0, p1, p2, p3⟩, f0, f1, f2, f3⟩ := I3.out.four; obtain ⟨⟨q0, q1, q2, q3⟩, g0, g1, g2, g3⟩ := I4.out.four; clear hr4 hb4 hf4)); obtain ⟨sb, so, rfl, hcell⟩ := HAT.out _ _ _ HR4.out; have hlcell := HLC.out _ HB4.out; have n0 := HF4.out _ rfl; have n1 : ¬ sb = w.heap.size := (by simp at n0; omega); have n2 : ¬ sb = w.heap.size + 1 := (by simp at n0; omega); clear n0))
    go_region
    all_goals
      go_wp2
      refine bodyPost_ret (v := .tuple #[.agg #[.slice (some ⟨lb, lo, none⟩) m p, .int .i64 c, .int .i64 ((n : Int) + 1), .int .i64 ((n : Int) + 1)], .int .i64 t, .int .i64 0]) (by simp [results, Try.results30, go_sem, p0, p1, p2, p3, q0, q1, q2, q3, hz]) rfl ?_
      refine ⟨by rw [HT.out], ?_⟩
      repeat (first | with_reducible exact HB4.out | (with_reducible refine Below.setCell (p := ⟨_, _, none⟩) ?_ (by simp) _) | with_reducible apply Below.drew)
  · rw [if_neg hneg] at htm
    go_enter Try.func30, Try.ntmps30
    go_wp2_with (first | (go_at_call 49; go_must ((refine (Hid.out HR _).mono ?_); rintro e w3 ⟨rfl, hb3⟩; obtain ⟨i1, i2, hb, hz⟩ := two_boxes hb3; have I1 := hide i1; have I2 := hide i2; have HB := hide hb; clear i1 i2 hb hb3)) | ((go_at_call 22; go_must ((refine (Hid.out HO _ HB.out).mono ?_); rintro e w4 ⟨⟨sa, sc, rfl, hr4, hf4⟩, hb4⟩; have HR4 := hide hr4; have HF4 := hide hf4; have I3 := hide (I1.out.below hb4); have I4 := hide (I2.out.below hb4); have HB4 := hide (HB.out.trans (hb4.mono HB.out.size)); obtain ⟨⟨p0, p1, p2, p3⟩, f0, f1, f2, f3⟩ := I3.out.four; obtain ⟨⟨q0, q1, q2, q3⟩, g0, g1, g2, g3⟩ := I4.out.four; clear hr4 hb4 hf4)); obtain ⟨sb, so, rfl, hcell⟩ := HAT.out _ _ _ HR4.out; have hlcell := HLC.out _ HB4.out; have n0 := HF4.out _ rfl; have n1 : ¬ sb = w.heap.size := (by simp at n0; omega); have n2 : ¬ sb = w.heap.size + 1 := (by simp at n0; omega); clear n0))
    go_region
    all_goals
      go_wp2
      refine bodyPost_ret (v := .tuple #[.agg #[.slice (some ⟨lb, lo, none⟩) m p, .int .i64 c, .int .i64 ((n : Int) + 1), .int .i64 ((n : Int) + 1)], .int .i64 t, .int .i64 0]) (by simp [results, Try.results30, go_sem, p0, p1, p2, p3, q0, q1, q2, q3, hz]) rfl ?_
      refine ⟨by rw [HT.out], ?_⟩
      repeat (first | with_reducible exact HB4.out | (with_reducible refine Below.setCell (p := ⟨_, _, none⟩) ?_ (by simp) _) | with_reducible apply Below.drew)
end
end Go.Proofs.Ytkjdjmcecjaolaa.Pick
