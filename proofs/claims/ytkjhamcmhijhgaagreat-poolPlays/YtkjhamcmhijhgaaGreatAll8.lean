/- Joined out of the texts SetOwn, SetRef, PickRef, PickStep, RowApp, PickEnv, SetBox, in that order. -/
import Derived.Test.YtkjhamcmhijhgaaGreatAll7
import Derived.Deep.LoopGhost
import Derived.Test.YtkjhamcmhijhgaaGreatAll4
import Derived.Test.YtkjhamcmhijhgaaGreatAll3
import Derived.Deep.DeepMust
import Derived.Deep.RegionLaw
import Derived.Maps.AppendAt
import Derived.Test.YtkjhamcmhijhgaaGreatAll1
import Derived.RangeFuncBox
import Derived.RangeFuncNested
/- A row of the call's own, as a row that is read. -/
namespace Go.Proofs.YtkjhamcmhijhgaaGreat.Sets
open Go.RowKit Go.Proofs.YtkjhamcmhijhgaaGreat.Dig Go.Proofs.YtkjhamcmhijhgaaGreat.Mem
set_option linter.unusedVariables false
set_option linter.unusedSimpArgs false

/-- A row that is owned, read. -/
theorem rowv_of_own {w : World} {base : Nat} {a : Option Addr} {n c : Nat} {l : List Int} (h : w.ownsRow base 3 1 (.slice a n c) l.length (l.map (Value.int .i64))) (hl : l.length ≤ 1000000) (hw : ∀ n ∈ l, (Lit.int .i64 n).wf = true) : n = l.length ∧ RowV w a c l := by
  obtain ⟨a', c', e, hr⟩ := own_rowv h (by omega) hw
  injection e with e1 e2 e3
  subst e1; subst e2; subst e3
  exact ⟨rfl, hr⟩
theorem own_form {w : World} {base e : TypeId} {v : Value} {n : Nat} {xs : List Value} (h : w.ownsRow base e 1 v n xs) : ∃ a c, v = .slice a n c := by
  rcases h.2 with ⟨rfl, h0⟩ | ⟨g, cap, cur, rfl, _⟩
  · have : n = 0 := by omega
    exact ⟨none, 0, by rw [this]⟩
  · exact ⟨_, _, rfl⟩
theorem fresh_own {w : World} {base e : TypeId} {a : Option Addr} {n m c : Nat} {xs : List Value} (h : w.ownsRow base e 1 (.slice a n c) n xs) : FreshV base (.agg #[.slice a m c]) := fun b o sp n' c' q _ => by
  injection q with q
  simp at q
  obtain ⟨rfl, rfl, rfl⟩ := q
  exact (World.ownsRow.lt h b rfl).1
end Go.Proofs.YtkjhamcmhijhgaaGreat.Sets

/- The document's set of a row: the least that is not taken, again and again. -/
namespace Go.Proofs.YtkjhamcmhijhgaaGreat.Sets
open Go.RowKit Go.Proofs.YtkjhamcmhijhgaaGreat.Dig Go.Proofs.YtkjhamcmhijhgaaGreat.Mem
set_option linter.unusedVariables false
set_option linter.unusedSimpArgs false

/-- The least that is not among the first k is the next one. -/
theorem next_least {l : List Int} {k : Nat} {b : Int} (hb : b ∈ l) (hn : b ∉ (setL ltI l).take k) (hm : ∀ x ∈ l, x ∉ (setL ltI l).take k → b ≤ x) :
    k < (setL ltI l).length ∧ (setL ltI l).take k ++ [b] = (setL ltI l).take (k + 1) := by
  obtain ⟨s, hs⟩ : ∃ s, s = setL ltI l := ⟨_, rfl⟩
  have hr := rising_setL totI l
  have hmem := mem_setL totI l
  rw [← hs] at hn hm hr hmem ⊢
  have hbs : b ∈ s := (hmem b).2 hb
  rw [← List.take_append_drop k s] at hbs
  have hbd : b ∈ s.drop k := (List.mem_append.1 hbs).resolve_left hn
  have hlt : k < s.length := by
    rcases Nat.lt_or_ge k s.length with q | q
    · exact q
    · rw [List.drop_eq_nil_of_le q] at hbd; simp at hbd
  refine ⟨hlt, ?_⟩
  have hd := List.drop_eq_getElem_cons hlt
  rw [← List.take_append_drop k s] at hr
  obtain ⟨_, hr2, hr3⟩ := rising_append.1 hr
  have hx : s[k] ∉ s.take k := fun q => by
    have hin : s[k] ∈ s.drop k := by rw [hd]; exact List.mem_cons_self
    have := hr3 _ q s[k] hin
    rw [totI.irr] at this; cases this
  have h1 := hm s[k] ((hmem _).1 (List.getElem_mem hlt)) hx
  have h2 : s[k] ≤ b := by
    rw [hd] at hbd hr2
    rcases List.mem_cons.1 hbd with e | q
    · omega
    · have := (rising_cons.1 hr2).1 b q
      simp [ltI] at this
      omega
  have e : s[k] = b := by omega
  rw [List.take_add_one, List.getElem?_eq_getElem hlt, e]
  rfl
theorem none_left {l : List Int} {k : Nat} (h : ∀ x ∈ l, x ∈ (setL ltI l).take k) (hk : k ≤ (setL ltI l).length) : k = (setL ltI l).length := by
  rcases Nat.lt_or_ge k (setL ltI l).length with q | q
  · exfalso
    have hr := rising_setL totI l
    have hd := List.drop_eq_getElem_cons q
    have hx := h _ ((mem_setL totI l _).1 (List.getElem_mem q))
    rw [← List.take_append_drop k (setL ltI l)] at hr
    have hin : (setL ltI l)[k] ∈ (setL ltI l).drop k := by rw [hd]; exact List.mem_cons_self
    have := (rising_append.1 hr).2.2 _ hx _ hin
    rw [totI.irr] at this; cases this
  · omega
def OfR (w : World) (s : List Int) (ov nv : Value) (wr : World) : Prop :=
  ∃ (k : Nat), k ≤ s.length ∧ nv = .int .i64 (k : Int) ∧ Hid (wr.ownsRow w.heap.size 3 1 ov k ((s.take k).map (Value.int .i64))) ∧ Hid (Below w.heap.size w wr)
def InR (l out : List Int) (n : Nat) (bv fv kv : Value) : Prop :=
  ∃ (j : Nat), j ≤ n ∧ kv = .int .i64 (j : Int) ∧ ((fv = .bool false ∧ bv = .int .i64 0 ∧ Hid (∀ i, i < j → l.getD i 0 ∈ out)) ∨ ∃ b, fv = .bool true ∧ bv = .int .i64 b ∧ Hid (b ∈ l ∧ b ∉ out ∧ ∀ i, i < j → l.getD i 0 ∉ out → b ≤ l.getD i 0))
set_option maxHeartbeats 2000000 in
set_option maxRecDepth 20000 in
theorem rof_fresh (a : Option Addr) (c : Nat) (l : List Int) (w : World) (h : RowV w a c l) (hm : l.length ≤ 10000) :
    Calls Tryz.prog 60 #[.slice a l.length c] w fun e w' => (∃ a' c', e = .returned (.slice a' (setL ltI l).length c') ∧ RowV w' a' c' (setL ltI l) ∧ ∀ x, a' = some x → w.heap.size ≤ x.block) ∧ Below w.heap.size w w' := by
  obtain ⟨i0, hi, hz0, hz1, hz2⟩ := info_parts Tryz.infoSetInt
  have HA := hide h
  have hsl := setL_length (lt := ltI) l
  have HNL := hide (fun k => none_left (l := l) (k := k))
  have HNX := hide (fun k b => next_least (l := l) (k := k) (b := b))
  have HW : Hid (∀ x ∈ setL ltI l, (Lit.int .i64 x).wf = true) := fun x hx => h.wf x ((mem_setL totI l x).1 hx)
  obtain ⟨s, hs⟩ : ∃ s, s = setL ltI l := ⟨_, rfl⟩
  rw [← hs] at hsl HNL HNX HW ⊢
  obtain ⟨n, hn⟩ : ∃ n, n = l.length := ⟨_, rfl⟩
  rw [← hn] at hsl hm ⊢
  have HN := hide hn
  clear hs hn h
  go_enter Tryz.func60, Tryz.ntmps60
  go_wp2
  go_loopw [3, 4] (fun ov nv wr => OfR w s ov nv wr) (fun _ nv _ => n + 1 - (intOf nv).toNat)
  case atStart => exact ⟨0, by omega, rfl, World.ownsRow_nil _ _ _ _, Below.refl _ _⟩
  case round =>
    obtain ⟨k, hk, rfl, hown, hbel⟩ := hrel
    obtain ⟨W, hW⟩ : ∃ W, W = wr := ⟨_, rfl⟩
    subst hW
    obtain ⟨oa, oc, rfl⟩ := own_form hown.out
    have hkn : (k : Int) ≤ (n : Int) := by omega
    have HO : Hid (RowV W oa oc (s.take k)) := by
      have ho := hown.out
      have e : (s.take k).length = k := by rw [List.length_take]; omega
      exact (rowv_of_own (l := s.take k) (n := k) (by rw [e]; exact ho) (by omega) (fun x hx => HW.out x (List.mem_of_mem_take hx))).2
    have HHAS : Hid (∀ x : Int, Calls Tryz.prog 78 #[.slice oa k oc, .int .i64 x] W fun e w' => e = .returned (.bool (decide (x ∈ s.take k))) ∧ w' = W) := fun x => by
      have := rhas_any oa oc (s.take k) x W HO.out
      rw [show (s.take k).length = k by rw [List.length_take]; omega] at this
      exact this
    have I0 : Hid (InR l (s.take k) n (.int .i64 0) (.bool false) (.int .i64 0)) := ⟨0, by omega, rfl, .inl ⟨rfl, rfl, fun i hi => by omega⟩⟩
    go_wp2
    go_loopw [5, 6, 7] (fun bv fv kv wr => InR l (s.take k) n bv fv kv ∧ wr = W) (fun _ _ kv _ => n - (intOf kv).toNat)
    case atStart => exact ⟨I0.out, rfl⟩
    case round =>
      obtain ⟨⟨j, hj, rfl, hin⟩, hwr⟩ := hrel
      replace hwr := hwr.symm
      subst hwr
      by_cases hlt : j < n
      · have hj2 : j < l.length := by rw [← HN.out]; exact hlt
        obtain ⟨b1, o1, rfl, hc1⟩ := (HA.out.keep (hbel.out.mono (Nat.le_refl _))).at hj2
        have hxl : l.getD j 0 ∈ l := by rw [List.getD_eq_getElem?_getD, List.getElem?_eq_getElem hj2]; exact List.getElem_mem hj2
        obtain ⟨x, hx⟩ : ∃ x, x = l.getD j 0 := ⟨_, rfl⟩
        rw [← hx] at hc1 hxl
        have HX := hide hx
        have HXL := hide hxl
        clear hx hxl hj2
        have step : ∀ (p : Int → Prop), (∀ i, i < j → p (l.getD i 0)) → p x → ∀ i, i < j + 1 → p (l.getD i 0) := fun p h1 h2 i hi => by
          by_cases e : i = j
          · rw [e, ← HX.out]; exact h2
          · exact h1 i (by omega)
        have STEP := hide step
        clear step
        obtain ⟨q, hq⟩ : ∃ q, Hid (decide (x ∈ s.take k) = q) := ⟨_, rfl⟩
        cases q with
        | true =>
          have HQ : Hid (x ∈ s.take k) := hide (of_decide_eq_true hq.out)
          rcases hin with ⟨rfl, rfl, hall⟩ | ⟨b, rfl, rfl, hb⟩
          · have R : Hid (InR l (s.take k) n (.int .i64 0) (.bool false) (.int .i64 ((j : Int) + 1))) := ⟨j + 1, by omega, by simp, .inl ⟨rfl, rfl, STEP.out (fun y => y ∈ s.take k) hall.out HQ.out⟩⟩
            go_wp2_with (go_at_call 78; go_must ((with_reducible refine (HHAS.out x).mono ?_); rw [hq.out]; rintro e w8 ⟨rfl, hw8⟩; replace hw8 := hw8.symm; subst hw8))
            go_roundw
            case rel => exact ⟨R.out, trivial⟩
            case measure => simp [intOf]; omega
          · have R : Hid (InR l (s.take k) n (.int .i64 b) (.bool true) (.int .i64 ((j : Int) + 1))) := ⟨j + 1, by omega, by simp, .inr ⟨b, rfl, rfl, hb.out.1, hb.out.2.1, STEP.out (fun y => y ∉ s.take k → b ≤ y) hb.out.2.2 (fun h => absurd HQ.out h)⟩⟩
            go_wp2_with (go_at_call 78; go_must ((with_reducible refine (HHAS.out x).mono ?_); rw [hq.out]; rintro e w8 ⟨rfl, hw8⟩; replace hw8 := hw8.symm; subst hw8))
            go_roundw
            case rel => exact ⟨R.out, trivial⟩
            case measure => simp [intOf]; omega
        | false =>
          have HQ : Hid (x ∉ s.take k) := hide (of_decide_eq_false hq.out)
          rcases hin with ⟨rfl, rfl, hall⟩ | ⟨b, rfl, rfl, hb⟩
          · have R : Hid (InR l (s.take k) n (.int .i64 x) (.bool true) (.int .i64 ((j : Int) + 1))) := ⟨j + 1, by omega, by simp, .inr ⟨x, rfl, rfl, HXL.out, HQ.out, STEP.out (fun y => y ∉ s.take k → x ≤ y) (fun i hi h => absurd (hall.out i hi) h) (fun _ => Int.le_refl _)⟩⟩
            go_wp2_with (go_at_call 78; go_must ((with_reducible refine (HHAS.out x).mono ?_); rw [hq.out]; rintro e w8 ⟨rfl, hw8⟩; replace hw8 := hw8.symm; subst hw8))
            go_roundw
            case rel => exact ⟨R.out, trivial⟩
            case measure => simp [intOf]; omega
          · by_cases hxb : x < b
            · have R : Hid (InR l (s.take k) n (.int .i64 x) (.bool true) (.int .i64 ((j : Int) + 1))) := ⟨j + 1, by omega, by simp, .inr ⟨x, rfl, rfl, HXL.out, HQ.out, STEP.out (fun y => y ∉ s.take k → x ≤ y) (fun i hi h => by have := hb.out.2.2 i hi h; omega) (fun _ => Int.le_refl _)⟩⟩
              go_wp2_with (go_at_call 78; go_must ((with_reducible refine (HHAS.out x).mono ?_); rw [hq.out]; rintro e w8 ⟨rfl, hw8⟩; replace hw8 := hw8.symm; subst hw8))
              go_roundw
              case rel => exact ⟨R.out, trivial⟩
              case measure => simp [intOf]; omega
            · have R : Hid (InR l (s.take k) n (.int .i64 b) (.bool true) (.int .i64 ((j : Int) + 1))) := ⟨j + 1, by omega, by simp, .inr ⟨b, rfl, rfl, hb.out.1, hb.out.2.1, STEP.out (fun y => y ∉ s.take k → b ≤ y) hb.out.2.2 (fun _ => by omega)⟩⟩
              go_wp2_with (go_at_call 78; go_must ((with_reducible refine (HHAS.out x).mono ?_); rw [hq.out]; rintro e w8 ⟨rfl, hw8⟩; replace hw8 := hw8.symm; subst hw8))
              go_roundw
              case rel => exact ⟨R.out, trivial⟩
              case measure => simp [intOf]; omega
      · obtain rfl : j = n := by omega
        have hmemj : ∀ (p : Int → Prop), (∀ i, i < j → p (l.getD i 0)) → ∀ x ∈ l, p x := fun p h x hx => by
          obtain ⟨i, hi, e⟩ := List.getElem_of_mem hx
          have := h i (by rw [HN.out]; exact hi)
          rw [List.getD_eq_getElem?_getD, List.getElem?_eq_getElem hi] at this
          rw [← e]; exact this
        have HMJ := hide hmemj
        clear hmemj
        rcases hin with ⟨rfl, rfl, hall⟩ | ⟨b, rfl, rfl, hb⟩
        · have hks : k = s.length := HNL.out k (HMJ.out _ hall.out) hk
          have HF : Hid (RowV W oa oc s ∧ k = s.length) := ⟨by have := HO.out; rw [hks, List.take_length] at this; exact this, hks⟩
          go_wp2
          go_ret
          exact ⟨⟨oa, oc, by rw [HF.out.2]; rfl, HF.out.1, fun x e => by subst e; exact (World.ownsRow.lt hown.out x.block rfl).1⟩, hbel.out⟩
        · obtain ⟨hk2, hnx⟩ := HNX.out k b hb.out.1 hb.out.2.1 (HMJ.out (fun y => y ∉ s.take k → b ≤ y) hb.out.2.2)
          have HNXT := hide hnx
          have hrow := hown.out
          have hsz2 := hbel.out.size
          clear hnx
          go_wp2_with (at_builtin; go_loud (refine wpList_append_own _ rfl _ _ 22 rfl w.heap.size 3 i0 (.int .i64 0) 1 8 Tryz.underlying22 hi hz0 hz1 hz2 rfl (by decide) _ _ _ rfl (hrow.alloc _) ⟨W.heap.size, 0, none⟩ 1 1 [.int .i64 b] rfl rfl (one_new _ _ _) (by simp [Value.oneCell']) (by unfold maxLen; omega) (by omega) (by simp; omega) ?_); intro v1 w1 hown1 hgrow1 _; have HOWN1 := hide hown1; have HB1 := hide ((hbel.out.alloc hsz2 (.cells #[.int .i64 b] 3)).grown hgrow1 (by simp; omega) (fun q e => (World.ownsRow.lt hown.out q e).1)); clear hown1 hgrow1)
          go_roundw
          case rel => exact ⟨k + 1, by omega, by simp, by have := HOWN1.out; rw [← HNXT.out, List.map_append]; exact this, HB1.out⟩
          case measure => simp [intOf]; omega
theorem rof_any (a : Option Addr) (c : Nat) (l : List Int) (w : World) (h : RowV w a c l) (hm : l.length ≤ 10000) :
    Calls Tryz.prog 60 #[.slice a l.length c] w fun e w' => (∃ a' c', e = .returned (.slice a' (setL ltI l).length c') ∧ RowV w' a' c' (setL ltI l)) ∧ Below w.heap.size w w' := by
  refine (rof_fresh a c l w h hm).mono ?_
  rintro e w' ⟨⟨a', c', rfl, h1, _⟩, h2⟩
  exact ⟨⟨a', c', rfl, h1⟩, h2⟩
end Go.Proofs.YtkjhamcmhijhgaaGreat.Sets

/- The document's Cancelled and Step, over a struct of the picks, the step at which all is cancelled, how many steps there were, and how many picks were used. -/
namespace Go.Proofs.YtkjhamcmhijhgaaGreat.Pick
open Go.RowKit Go.Proofs.YtkjhamcmhijhgaaGreat.Dig Go.Proofs.YtkjhamcmhijhgaaGreat.Mem Go.Proofs.YtkjhamcmhijhgaaGreat.Dq Go.Proofs.YtkjhamcmhijhgaaGreat.Sets
set_option linter.unusedVariables false
set_option linter.unusedSimpArgs false

/-- A struct of the document's. -/
abbrev rv (a : Option Addr) (m p : Nat) (c : Int) (n u : Nat) : Array Value := #[.slice a m p, .int .i64 c, .int .i64 (n : Int), .int .i64 (u : Int)]
theorem _root_.Go.Proofs.YtkjhamcmhijhgaaGreat.Dq.RowI.v {w : World} {a : Option Addr} {c : Nat} {l : List Int} (h : RowI w a c l) : RowV w a c l := ⟨h.cap, h.rd, h.nil⟩
theorem _root_.Go.Proofs.YtkjhamcmhijhgaaGreat.Sets.RowV.i {w : World} {a : Option Addr} {c : Nat} {l : List Int} (h : RowV w a c l) : RowI w a c l := ⟨h.cap, h.rd, h.nil⟩
section
variable (w : World) (a : Option Addr) (m p : Nat) (c : Int) (n u : Nat)
theorem rover_any {d : Bool} (hd : over c n = d) : Calls Tryz.prog 59 #[.agg (rv a m p c n u)] w fun e w' => e = .returned (.bool d) ∧ Below w.heap.size w w' := by
  unfold rv
  subst hd
  unfold over
  by_cases h1 : 0 ≤ c
  · by_cases h2 : c ≤ (n : Int)
    · rw [decide_eq_true h1, decide_eq_true h2]
      go_enter Tryz.func59, Tryz.ntmps59
      go_wp2
      go_ret
      exact ⟨rfl, (Below.refl _ _).alloc (Nat.le_refl _) _⟩
    · rw [decide_eq_true h1, decide_eq_false h2]
      go_enter Tryz.func59, Tryz.ntmps59
      go_wp2
      go_ret
      exact ⟨rfl, (Below.refl _ _).alloc (Nat.le_refl _) _⟩
  · rw [decide_eq_false h1]
    go_enter Tryz.func59, Tryz.ntmps59
    go_wp2
    go_ret
    exact ⟨rfl, (Below.refl _ _).alloc (Nat.le_refl _) _⟩
set_option maxHeartbeats 1000000 in
theorem rstep_over (h : over c n = true) (r : Value) : Calls Tryz.prog 37 #[.agg (rv a m p c n u), r] w fun e w' => e = .returned (.tuple #[.agg (rv a m p c n u), .int .i64 0, .int .i64 8]) ∧ Below w.heap.size w w' := by
  have HR := hide (fun W => rover_any W a m p c n u h)
  unfold rv at *
  clear h
  go_enter Tryz.func37, Tryz.ntmps37
  go_wp2_with (go_at_call 59; go_must ((refine (Hid.out HR _).mono ?_); rintro e w3 ⟨rfl, hb3⟩; obtain ⟨i1, i2, hb, hz⟩ := two_boxes hb3; have I1 := hide i1; have I2 := hide i2; have HB := hide hb; obtain ⟨⟨p0, p1, p2, p3⟩, f0, f1, f2, f3⟩ := i1.four; obtain ⟨⟨q0, q1, q2, q3⟩, g0, g1, g2, g3⟩ := i2.four; clear i1 i2 hb hb3))
  refine bodyPost_ret (v := .tuple #[.agg #[.slice a m p, .int .i64 c, .int .i64 (n : Int), .int .i64 (u : Int)], .int .i64 0, .int .i64 8]) (by simp [results, Tryz.results37, go_sem, p0, p1, p2, p3, q0, q1, q2, q3, hz]) rfl ?_
  exact ⟨rfl, ((((HB.out.setCell (p := ⟨_, _, none⟩) (by simp) _).setCell (p := ⟨_, _, none⟩) (by simp) _).setCell (p := ⟨_, _, none⟩) (by simp) _).setCell (p := ⟨_, _, none⟩) (by simp) _)⟩
set_option maxHeartbeats 1000000 in
theorem rstep_none (h : over c n = false) (ra : Option Addr) (rc : Nat) (hr : RowI w ra rc []) : Calls Tryz.prog 37 #[.agg (rv a m p c n u), .slice ra 0 rc] w fun e w' => e = .returned (.tuple #[.agg (rv a m p c n u), .int .i64 0, .int .i64 10]) ∧ Below w.heap.size w w' := by
  have HR := hide (fun W => rover_any W a m p c n u h)
  have HO : Hid (∀ W, Below w.heap.size w W → Calls Tryz.prog 60 #[.slice ra 0 rc] W fun e w' => (∃ a' c', e = .returned (.slice a' 0 c') ∧ RowV w' a' c' [] ∧ ∀ x, a' = some x → W.heap.size ≤ x.block) ∧ Below W.heap.size W w') := hide (fun W hb => by
    have := rof_fresh ra rc [] W (hr.keep hb).v (by simp)
    rw [setL_nil] at this
    exact this)
  unfold rv at *
  clear h hr
  go_enter Tryz.func37, Tryz.ntmps37
  go_wp2_with (first | (go_at_call 59; go_must ((refine (Hid.out HR _).mono ?_); rintro e w3 ⟨rfl, hb3⟩; obtain ⟨i1, i2, hb, hz⟩ := two_boxes hb3; have I1 := hide i1; have I2 := hide i2; have HB := hide hb; clear i1 i2 hb hb3)) | (go_at_call 60; go_must ((refine (Hid.out HO _ HB.out).mono ?_); rintro e w4 ⟨⟨sa, sc, rfl, hr4, hf4⟩, hb4⟩; have HR4 := hide hr4; have HF4 := hide hf4; have I3 := hide (I1.out.below hb4); have I4 := hide (I2.out.below hb4); have HB4 := hide (HB.out.trans (hb4.mono HB.out.size)); obtain ⟨⟨p0, p1, p2, p3⟩, f0, f1, f2, f3⟩ := I3.out.four; obtain ⟨⟨q0, q1, q2, q3⟩, g0, g1, g2, g3⟩ := I4.out.four; clear hr4 hb4 hf4)))
  refine bodyPost_ret (v := .tuple #[.agg #[.slice a m p, .int .i64 c, .int .i64 (n : Int), .int .i64 (u : Int)], .int .i64 0, .int .i64 10]) (by simp [results, Tryz.results37, go_sem, p0, p1, p2, p3, q0, q1, q2, q3, hz]) rfl ?_
  exact ⟨rfl, ((((HB4.out.setCell (p := ⟨_, _, none⟩) (by simp) _).setCell (p := ⟨_, _, none⟩) (by simp) _).setCell (p := ⟨_, _, none⟩) (by simp) _).setCell (p := ⟨_, _, none⟩) (by simp) _)⟩
set_option maxHeartbeats 2000000 in
/-- No pick is left: the least one is told. -/
theorem rstep_least (h : over c n = false) (hn : n ≤ 1000000) {L : List Int} (hm : m = L.length) (hmn : m ≤ n) (hm2 : m ≤ 1000000) (ra : Option Addr) (rc : Nat) (l : List Int) (hl : l ≠ []) (hl2 : l.length ≤ 1000) {k : Nat} (hk : k = l.length) (hr : RowI w ra rc l) : Calls Tryz.prog 37 #[.agg (rv a m p c n m), .slice ra k rc] w fun e w' => e = .returned (.tuple #[.agg #[.slice a m p, .int .i64 c, .int .i64 ((n : Int) + 1), .int .i64 (m : Int)], .int .i64 (told L n l), .int .i64 0]) ∧ Below w.heap.size w w' := by
  have HR := hide (fun W => rover_any W a m p c n m h)
  have hs := setL_ne hl
  have HT0 : told L n l = (setL ltI l).getD 0 0 := by unfold told; rw [place_none (by omega)]
  obtain ⟨s, hs'⟩ : ∃ s, s = setL ltI l := ⟨_, rfl⟩
  obtain ⟨sl, hsl⟩ : ∃ sl, sl = s.length := ⟨_, rfl⟩
  obtain ⟨t, ht⟩ : ∃ t, t = s.getD 0 0 := ⟨_, rfl⟩
  rw [← hs', ← ht] at HT0
  rw [← hs', ← hsl] at hs
  have HT := hide HT0.symm
  have HO : Hid (∀ W, Below w.heap.size w W → Calls Tryz.prog 60 #[.slice ra k rc] W fun e w' => (∃ a' c', e = .returned (.slice a' sl c') ∧ RowV w' a' c' s ∧ ∀ x, a' = some x → W.heap.size ≤ x.block) ∧ Below W.heap.size W w') := hide (fun W hb => by
    have := rof_fresh ra rc l W (hr.keep hb).v (Nat.le_trans hl2 (by decide))
    rw [← hs', ← hsl, ← hk] at this
    exact this)
  have HAT : Hid (∀ W a' c', RowV W a' c' s → ∃ b off, a' = some ⟨b, off, none⟩ ∧ W.cell? ⟨b, off, none⟩ = some (.int .i64 t)) := hide (fun W a' c' q => by
    obtain ⟨b, off, e, hc⟩ := q.at (i := 0) (by omega)
    rw [← ht] at hc
    exact ⟨b, off, e, hc⟩)
  have g0 : ((sl : Int) == 0) = false := by simp; omega
  have g1 : (0 : Int) < (sl : Int) := by omega
  have g2 : decide ((m : Int) ≤ (m : Int)) = true := by simp
  have g3 : ¬ (m : Int) < (m : Int) := by omega
  unfold rv at *
  clear h hr hl hl2 hk hs' hsl ht HT0 hm hmn
  go_enter Tryz.func37, Tryz.ntmps37
  go_wp2_with (first | (go_at_call 59; go_must ((refine (Hid.out HR _).mono ?_); rintro e w3 ⟨rfl, hb3⟩; obtain ⟨i1, i2, hb, hz⟩ := two_boxes hb3; have I1 := hide i1; have I2 := hide i2; have HB := hide hb; clear i1 i2 hb hb3)) | (go_at_call 60; go_must ((refine (Hid.out HO _ HB.out).mono ?_); rintro e w4 ⟨⟨sa, sc, rfl, hr4, hf4⟩, hb4⟩; have HR4 := hide hr4; have HF4 := hide hf4; have I3 := hide (I1.out.below hb4); have I4 := hide (I2.out.below hb4); have HB4 := hide (HB.out.trans (hb4.mono HB.out.size)); obtain ⟨⟨p0, p1, p2, p3⟩, f0, f1, f2, f3⟩ := I3.out.four; obtain ⟨⟨q0, q1, q2, q3⟩, g0, g1, g2, g3⟩ := I4.out.four; clear hr4 hb4 hf4)))
  obtain ⟨sb, so, rfl, hcell⟩ := HAT.out _ _ _ HR4.out
  have hsb := lt_of_cell hcell
  have n0 := HF4.out _ rfl
  have n1 : ¬ sb = w.heap.size := by simp at n0; omega
  have n2 : ¬ sb = w.heap.size + 1 := by simp at n0; omega
  go_region
  all_goals
    go_wp2
    refine bodyPost_ret (v := .tuple #[.agg #[.slice a m p, .int .i64 c, .int .i64 ((n : Int) + 1), .int .i64 (m : Int)], .int .i64 t, .int .i64 0]) (by simp [results, Tryz.results37, go_sem, p0, p1, p2, p3, q0, q1, q2, q3, hz]) rfl ?_
    refine ⟨by rw [HT.out], ?_⟩
    repeat (first | with_reducible exact HB4.out | (with_reducible refine Below.setCell (p := ⟨_, _, none⟩) ?_ (by simp) _) | with_reducible apply Below.drew)
set_option maxHeartbeats 4000000 in
/-- A pick is used. -/
theorem rstep_pick (h : over c n = false) (hn : n ≤ 1000000) {L : List Int} (hm : m = L.length) (hmn : n < m) (hm2 : m ≤ 1000000) (hL : RowI w a p L) (ra : Option Addr) (rc : Nat) (l : List Int) (hl : l ≠ []) (hl2 : l.length ≤ 1000) {k : Nat} (hk : k = l.length) (hr : RowI w ra rc l) : Calls Tryz.prog 37 #[.agg (rv a m p c n n), .slice ra k rc] w fun e w' => e = .returned (.tuple #[.agg #[.slice a m p, .int .i64 c, .int .i64 ((n : Int) + 1), .int .i64 ((n : Int) + 1)], .int .i64 (told L n l), .int .i64 0]) ∧ Below w.heap.size w w' := by
  have HR := hide (fun W => rover_any W a m p c n n h)
  have hs := setL_ne hl
  have HT0 : told L n l = (setL ltI l).getD (place L n (setL ltI l).length) 0 := rfl
  have hj := place_lt L n hs
  have hji := place_int L n hs
  have htm := tmod_place (L.getD n 0) hs
  have hsl2 := setL_length (lt := ltI) l
  obtain ⟨s, hs'⟩ : ∃ s, s = setL ltI l := ⟨_, rfl⟩
  rw [← hs'] at HT0 hj hji htm hs hsl2
  obtain ⟨sl, hsl⟩ : ∃ sl, sl = s.length := ⟨_, rfl⟩
  rw [← hsl] at HT0 hj hji htm hs hsl2
  obtain ⟨j, hj'⟩ : ∃ j, j = place L n sl := ⟨_, rfl⟩
  rw [← hj'] at HT0 hj hji
  obtain ⟨t, ht⟩ : ∃ t, t = s.getD j 0 := ⟨_, rfl⟩
  rw [← ht] at HT0
  have HT := hide HT0.symm
  have HO : Hid (∀ W, Below w.heap.size w W → Calls Tryz.prog 60 #[.slice ra k rc] W fun e w' => (∃ a' c', e = .returned (.slice a' sl c') ∧ RowV w' a' c' s ∧ ∀ x, a' = some x → W.heap.size ≤ x.block) ∧ Below W.heap.size W w') := hide (fun W hb => by
    have := rof_fresh ra rc l W (hr.keep hb).v (Nat.le_trans hl2 (by decide))
    rw [← hs', ← hsl, ← hk] at this
    exact this)
  have HAT : Hid (∀ W a' c', RowV W a' c' s → ∃ b off, a' = some ⟨b, off, none⟩ ∧ W.cell? ⟨b, off + j, none⟩ = some (.int .i64 t)) := hide (fun W a' c' q => by
    obtain ⟨b, off, e, hc⟩ := q.at (i := j) (by omega)
    rw [← ht] at hc
    exact ⟨b, off, e, hc⟩)
  obtain ⟨lb, lo, rfl, hlc⟩ := hL.at (i := n) (by omega)
  have hwf := hL.wf (L.getD n 0) (by rw [List.getD_eq_getElem?_getD, List.getElem?_eq_getElem (by omega)]; exact List.getElem_mem _)
  obtain ⟨x, hx⟩ : ∃ x, x = L.getD n 0 := ⟨_, rfl⟩
  rw [← hx] at hlc hji htm hwf
  obtain ⟨q1', q2'⟩ := bounds_i64 hwf
  have hlb := lt_of_cell hlc
  have HLC : Hid (∀ W, Below w.heap.size w W → W.cell? ⟨lb, lo + n, none⟩ = some (.int .i64 x)) := hide (fun W hb => (hb.cell (p := ⟨lb, lo + n, none⟩) hlb).trans hlc)
  have hlbw : ¬ lb = w.heap.size := by simp at hlb; omega
  have hlbw1 : ¬ lb = w.heap.size + 1 := by simp at hlb; omega
  have z0 : ¬ ((sl : Int) = 0) := by omega
  have g0 : ((sl : Int) == 0) = false := by simp; omega
  have g1 : (n : Int) < (m : Int) := by omega
  have g2 : decide ((m : Int) ≤ (n : Int)) = false := by simp; omega
  have g3 : ¬ (m : Int) ≤ (n : Int) := by omega
  have a1 : -(sl : Int) < x.tmod (sl : Int) ∧ x.tmod (sl : Int) < (sl : Int) := by
    have h1 := Int.emod_nonneg x (show (sl : Int) ≠ 0 by omega)
    have h2 := Int.emod_lt_of_pos x (show (0 : Int) < sl by omega)
    rw [Int.tmod_eq_emod]
    split <;> omega
  obtain ⟨a2, a3⟩ := a1
  rw [← hji] at htm
  have hji2 : (j : Int) < (sl : Int) := by omega
  have w1 : IntKind.i64.wrap (x.tmod (sl : Int)) = x.tmod (sl : Int) := IntWalk.i64_in _ (by omega)
  have w2 : wrap64 (j : Int) = (j : Int) := by rw [← IntWalk.i64_left]; exact IntWalk.i64_in _ (by omega)
  unfold rv at *
  clear h hr hl hl2 hk hs' hsl ht HT0 hm hmn hx hwf hlc hj' hji hL hsl2
  by_cases hneg : x.tmod (sl : Int) < 0
  · rw [if_pos hneg] at htm
    go_enter Tryz.func37, Tryz.ntmps37
    go_wp2_with (first | (go_at_call 59; go_must ((refine (Hid.out HR _).mono ?_); rintro e w3 ⟨rfl, hb3⟩; obtain ⟨i1, i2, hb, hz⟩ := two_boxes hb3; have I1 := hide i1; have I2 := hide i2; have HB := hide hb; clear i1 i2 hb hb3)) | ((go_at_call 60; go_must ((refine (Hid.out HO _ HB.out).mono ?_); rintro e w4 ⟨⟨sa, sc, rfl, hr4, hf4⟩, hb4⟩; have HR4 := hide hr4; have HF4 := hide hf4; have I3 := hide (I1.out.below hb4); have I4 := hide (I2.out.below hb4); have HB4 := hide (HB.out.trans (hb4.mono HB.out.size)); obtain ⟨⟨p0, p1, p2, p3⟩, f0, f1, f2, f3⟩ := I3.out.four; obtain ⟨⟨q0, q1, q2, q3⟩, g0, g1, g2, g3⟩ := I4.out.four; clear hr4 hb4 hf4)); obtain ⟨sb, so, rfl, hcell⟩ := HAT.out _ _ _ HR4.out; have hlcell := HLC.out _ HB4.out; have n0 := HF4.out _ rfl; have n1 : ¬ sb = w.heap.size := (by simp at n0; omega); have n2 : ¬ sb = w.heap.size + 1 := (by simp at n0; omega); clear n0))
    go_region
    all_goals
      go_wp2
      refine bodyPost_ret (v := .tuple #[.agg #[.slice (some ⟨lb, lo, none⟩) m p, .int .i64 c, .int .i64 ((n : Int) + 1), .int .i64 ((n : Int) + 1)], .int .i64 t, .int .i64 0]) (by simp [results, Tryz.results37, go_sem, p0, p1, p2, p3, q0, q1, q2, q3, hz]) rfl ?_
      refine ⟨by rw [HT.out], ?_⟩
      repeat (first | with_reducible exact HB4.out | (with_reducible refine Below.setCell (p := ⟨_, _, none⟩) ?_ (by simp) _) | with_reducible apply Below.drew)
  · rw [if_neg hneg] at htm
    go_enter Tryz.func37, Tryz.ntmps37
    go_wp2_with (first | (go_at_call 59; go_must ((refine (Hid.out HR _).mono ?_); rintro e w3 ⟨rfl, hb3⟩; obtain ⟨i1, i2, hb, hz⟩ := two_boxes hb3; have I1 := hide i1; have I2 := hide i2; have HB := hide hb; clear i1 i2 hb hb3)) | ((go_at_call 60; go_must ((refine (Hid.out HO _ HB.out).mono ?_); rintro e w4 ⟨⟨sa, sc, rfl, hr4, hf4⟩, hb4⟩; have HR4 := hide hr4; have HF4 := hide hf4; have I3 := hide (I1.out.below hb4); have I4 := hide (I2.out.below hb4); have HB4 := hide (HB.out.trans (hb4.mono HB.out.size)); obtain ⟨⟨p0, p1, p2, p3⟩, f0, f1, f2, f3⟩ := I3.out.four; obtain ⟨⟨q0, q1, q2, q3⟩, g0, g1, g2, g3⟩ := I4.out.four; clear hr4 hb4 hf4)); obtain ⟨sb, so, rfl, hcell⟩ := HAT.out _ _ _ HR4.out; have hlcell := HLC.out _ HB4.out; have n0 := HF4.out _ rfl; have n1 : ¬ sb = w.heap.size := (by simp at n0; omega); have n2 : ¬ sb = w.heap.size + 1 := (by simp at n0; omega); clear n0))
    go_region
    all_goals
      go_wp2
      refine bodyPost_ret (v := .tuple #[.agg #[.slice (some ⟨lb, lo, none⟩) m p, .int .i64 c, .int .i64 ((n : Int) + 1), .int .i64 ((n : Int) + 1)], .int .i64 t, .int .i64 0]) (by simp [results, Tryz.results37, go_sem, p0, p1, p2, p3, q0, q1, q2, q3, hz]) rfl ?_
      refine ⟨by rw [HT.out], ?_⟩
      repeat (first | with_reducible exact HB4.out | (with_reducible refine Below.setCell (p := ⟨_, _, none⟩) ?_ (by simp) _) | with_reducible apply Below.drew)
end
end Go.Proofs.YtkjhamcmhijhgaaGreat.Pick

/- One step, by the program and by the document, whatever the state: what stepS says. -/
namespace Go.Proofs.YtkjhamcmhijhgaaGreat.Pick
open Go.RowKit Go.Proofs.YtkjhamcmhijhgaaGreat.Dig Go.Proofs.YtkjhamcmhijhgaaGreat.Mem Go.Proofs.YtkjhamcmhijhgaaGreat.Dq Go.Proofs.YtkjhamcmhijhgaaGreat.Thing Go.Proofs.YtkjhamcmhijhgaaGreat.Sets
set_option linter.unusedVariables false
set_option linter.unusedSimpArgs false

theorem only_drewN (S : Nat → Prop) (w : World) (q : Nat) : Only S w (w.drewN q) := (Only.refl _ _).drewN q
/-- Who is told, which error, how many steps there are behind it: named. -/
structure StepIs (L : List Int) (c : Int) (n : Nat) (l : List Int) (x e : Int) (n' : Nat) : Prop where
  is : stepS L c n l = (x, e, n')
theorem StepIs.ex (L : List Int) (c : Int) (n : Nat) (l : List Int) : ∃ x e n', StepIs L c n l x e n' := ⟨_, _, _, ⟨rfl⟩⟩
theorem StepIs.le {L : List Int} {c : Int} {n : Nat} {l : List Int} {x e : Int} {n' : Nat} (h : StepIs L c n l x e n') : n ≤ n' ∧ n' ≤ n + 1 := by
  have h := h.is
  unfold stepS at h
  split at h
  · simp at h; omega
  · split at h
    · simp at h; omega
    · simp at h; omega
section
variable {w : World} {b n : Nat} {pa : Option Addr} {pc : Nat} {L : List Int} {c : Int} {ra : Option Addr} {rc k : Nat} {l : List Int} {x e : Int} {n' : Nat}
theorem pstep_any (h : Scr w b pa pc L c n) (hn : n ≤ 1000000) (hk : k = l.length) (hk2 : l.length ≤ 1000000) (hr : RowI w ra rc l) (hs : StepIs L c n l x e n') :
    Calls Tryz.prog 30 #[.pointer (some ⟨b, 0, none⟩), .slice ra k rc] w fun r w' => r = .returned (.tuple #[.int .i64 x, .int .i64 e]) ∧ Scr w' b pa pc L c n' ∧ Only (fun k => k = b) w w' := by
  have hs := hs.is
  unfold stepS at hs
  cases ho : over c n with
  | true =>
    rw [if_pos ho] at hs
    simp at hs
    obtain ⟨rfl, rfl, rfl⟩ := hs
    refine (pstep_over h ho _).mono ?_
    rintro r w' ⟨rfl, q, rfl⟩
    exact ⟨rfl, h.keep (below_of_drewN q), only_drewN _ _ q⟩
  | false =>
    rw [if_neg (by simp [ho])] at hs
    by_cases hl : l = []
    · rw [if_pos hl] at hs
      simp at hs
      obtain ⟨rfl, rfl, rfl⟩ := hs
      subst hl
      subst hk
      refine (pstep_none h ho ra rc).mono ?_
      rintro r w' ⟨rfl, q, rfl⟩
      exact ⟨rfl, h.keep (below_of_drewN q), only_drewN _ _ q⟩
    · rw [if_neg hl] at hs
      simp at hs
      obtain ⟨rfl, rfl, rfl⟩ := hs
      exact pstep_ok h ho hn hl hk hk2 hr
theorem rstep_any (w : World) {a : Option Addr} {m p : Nat} (hn : n ≤ 1000000) (hm : m = L.length) (hm2 : m ≤ 1000000) (hL : RowI w a p L) (hk : k = l.length) (hk2 : l.length ≤ 1000) (hr : RowI w ra rc l) (hs : StepIs L c n l x e n') {u u' : Nat} (hu : u = min n m) (hu' : u' = min n' m) :
    Calls Tryz.prog 37 #[.agg (rv a m p c n u), .slice ra k rc] w fun r w' => r = .returned (.tuple #[.agg (rv a m p c n' u'), .int .i64 x, .int .i64 e]) ∧ Below w.heap.size w w' := by
  have hs := hs.is
  unfold stepS at hs
  cases ho : over c n with
  | true =>
    rw [if_pos ho] at hs
    simp at hs
    obtain ⟨rfl, rfl, rfl⟩ := hs
    obtain rfl : u' = u := by omega
    exact rstep_over w a m p c n u' ho _
  | false =>
    rw [if_neg (by simp [ho])] at hs
    by_cases hl : l = []
    · rw [if_pos hl] at hs
      simp at hs
      obtain ⟨rfl, rfl, rfl⟩ := hs
      obtain rfl : u' = u := by omega
      subst hl
      subst hk
      exact rstep_none w a m p c n u' ho ra rc hr
    · rw [if_neg hl] at hs
      simp at hs
      obtain ⟨rfl, rfl, rfl⟩ := hs
      by_cases hmn : n < m
      · have e1 : u = n := by omega
        have e2 : u' = n + 1 := by omega
        rw [e1, e2]
        have := rstep_pick w a m p c n ho hn hm hmn hm2 hL ra rc l hl hk2 hk hr
        simpa [rv] using this
      · have e1 : u = m := by omega
        have e2 : u' = m := by omega
        rw [e1, e2]
        have := rstep_least w a m p c n ho hn hm (by omega) hm2 ra rc l hl hk2 hk hr
        simpa [rv] using this
end
end Go.Proofs.YtkjhamcmhijhgaaGreat.Pick

/- append to a row of numbers of the call's own, within a region that draws; a row that is laid. -/
namespace Go.Proofs.YtkjhamcmhijhgaaGreat.Dq
open Go.RowKit Go.Proofs.YtkjhamcmhijhgaaGreat.Dig Go.Proofs.YtkjhamcmhijhgaaGreat.Mem
set_option linter.unusedVariables false
set_option linter.unusedSimpArgs false

def WfL (l : List Int) : Prop := ∀ x ∈ l, (Lit.int .i64 x).wf = true
/-- A row of numbers is laid. -/
theorem rowi_made (wx : World) (zs : List Int) (T : TypeId) {p n : Nat} (hp : p = wx.heap.size) (hn : n = zs.length) (hl : zs.length ≤ 100) (hw : WfL zs) : RowI (wx.alloc (.cells (zs.map (Value.int .i64)).toArray T)) (some ⟨p, 0, none⟩) n zs :=
  ⟨by omega, ⟨by omega, fun i hi => ⟨p, 0, rfl, (Is.made wx _ T hp).cell _ (by simp [List.getD_eq_getElem?_getD, List.getElem?_eq_getElem hi]), by
    show (Lit.int .i64 (zs.getD i 0)).wf = true
    rw [List.getD_eq_getElem?_getD, List.getElem?_eq_getElem hi]
    exact hw _ (List.getElem_mem hi)⟩⟩, fun e => by cases e⟩
theorem OwnI.empty {base b : Nat} {w : World} (hb : b = w.heap.size) (hB : base ≤ w.heap.size) : OwnI base (w.alloc (.cells #[] 3)) (.slice (some ⟨b, 0, none⟩) 0 0) [] := by
  subst hb
  exact World.ownsRow_made (e := 3) (size := 1) w #[] 0 hB (by unfold maxLen; omega) rfl
theorem OwnI.keep {base : Nat} {w w' : World} {v : Value} {l : List Int} (h : OwnI base w v l) (hb : Below w.heap.size w w') : OwnI base w' v l := owns_below h hb
/-- append of a row that is read, at a step of a region that draws. -/
theorem step_app_rowi {w w0 : World} {ops : Array Oper} {o : Oper} {a : Act} {K : Act → World → Prop} {Q : Exit → Act → World → Prop} {E : Prop} (hgd : o.guard = none) (s x : Operand)
    (ho : o.op = .call { callee := .builtin .append, args := #[s, x], argTypes := #[22, 22] }) (base : Nat) (v : Value) (l : List Int) (hs : a.eval s = v) (hown : OwnI base w v l)
    (ao : Option Addr) (c m : Nat) (r : List Int) (hx : a.eval x = .slice ao m c) (hm : m = r.length) (hr : RowI w ao c r) (hb : l.length + r.length ≤ 1000000) (hbase : base ≤ w.heap.size) (hbel : Below base w0 w)
    (h : ∀ v' w', OwnI base w' v' (l ++ r) → Below base w0 w' → w.heap.size ≤ w'.heap.size → K (a.put o.dst v') w') :
    if Region.wanted o (yielded ops a.tmps) = true then Oper.wp Tryz.prog o a w K Q else E := by
  have hw : Region.wanted o (yielded ops a.tmps) = true := by simp [Region.wanted, hgd]
  rw [if_pos hw]
  obtain ⟨i0, hi, hz0, hz1, hz2⟩ := info_parts Tryz.infoInt
  subst hm
  cases ao with
  | none =>
    have hr0 : r = [] := by
      cases r with
      | nil => rfl
      | cons y r => obtain ⟨b, off, e', _⟩ := hr.at (i := 0) (by simp); cases e'
    subst hr0
    have hc : c = 0 := hr.nil rfl
    subst hc
    have hrun := run_append_owned_none (P := Tryz.prog) (w := w) base 22 o.type 3 i0 1 Tryz.underlying22 hi v l.length _ hown
    simp only [List.length_nil] at hx
    unfold Oper.wp
    simp [execOp, ho, resolve, invoke, builtin, hs, hx, hrun, Result.andThen]
    exact h v w (by simpa using hown) hbel (Nat.le_refl _)
  | some ad =>
    refine wp_append_own w s x 22 ho base 3 i0 (.int .i64 0) 1 8 Tryz.underlying22 hi hz0 hz1 hz2 rfl (by decide) v l.length (l.map (Value.int .i64)) hs hown ad r.length c (r.map (Value.int .i64)) hx (by simp) ?_ ?_ (by unfold maxLen; omega) (by omega) hbase ?_
    · intro j u hu
      rw [List.getElem?_map] at hu
      have hj : j < r.length := by
        rcases Nat.lt_or_ge j r.length with q | q
        · exact q
        · rw [List.getElem?_eq_none q] at hu; simp at hu
      obtain ⟨b, off, hab, hc⟩ := hr.at hj
      obtain rfl := Option.some.inj hab
      rw [Addr.add_lit, hc, ← hu]
      simp [List.getD_eq_getElem?_getD, List.getElem?_eq_getElem hj]
    · intro u hu
      obtain ⟨n, _, rfl⟩ := List.mem_map.1 hu
      rfl
    · intro v' w' hown' hgrow _
      refine h v' w' ?_ (hbel.grown hgrow hbase (fun k hk => (World.ownsRow.lt hown k hk).1)) hgrow.size
      unfold OwnI
      rw [List.length_append, List.map_append]
      exact hown'
/-- append of a row that is read, at a step of a region that draws: nothing else than the own row has turned. -/
theorem step_app_g {w : World} {ops : Array Oper} {o : Oper} {a : Act} {K : Act → World → Prop} {Q : Exit → Act → World → Prop} {E : Prop} (hgd : o.guard = none) (s x : Operand)
    (ho : o.op = .call { callee := .builtin .append, args := #[s, x], argTypes := #[22, 22] }) (base : Nat) (v : Value) (l : List Int) (hs : a.eval s = v) (hown : OwnI base w v l)
    (ao : Option Addr) (c m : Nat) (r : List Int) (hx : a.eval x = .slice ao m c) (hm : m = r.length) (hr : RowI w ao c r) (hb : l.length + r.length ≤ 1000000) (hbase : base ≤ w.heap.size)
    (h : ∀ v' w', OwnI base w' v' (l ++ r) → w.grownBy w' v.ownBlock → K (a.put o.dst v') w') :
    if Region.wanted o (yielded ops a.tmps) = true then Oper.wp Tryz.prog o a w K Q else E := by
  have hw : Region.wanted o (yielded ops a.tmps) = true := by simp [Region.wanted, hgd]
  rw [if_pos hw]
  obtain ⟨i0, hi, hz0, hz1, hz2⟩ := info_parts Tryz.infoInt
  subst hm
  cases ao with
  | none =>
    have hr0 : r = [] := by
      cases r with
      | nil => rfl
      | cons y r => obtain ⟨b, off, e', _⟩ := hr.at (i := 0) (by simp); cases e'
    subst hr0
    have hc : c = 0 := hr.nil rfl
    subst hc
    have hrun := run_append_owned_none (P := Tryz.prog) (w := w) base 22 o.type 3 i0 1 Tryz.underlying22 hi v l.length _ hown
    simp only [List.length_nil] at hx
    unfold Oper.wp
    simp [execOp, ho, resolve, invoke, builtin, hs, hx, hrun, Result.andThen]
    exact h v w (by simpa using hown) ⟨rfl, rfl, rfl, Nat.le_refl _, fun _ _ _ => rfl⟩
  | some ad =>
    refine wp_append_own w s x 22 ho base 3 i0 (.int .i64 0) 1 8 Tryz.underlying22 hi hz0 hz1 hz2 rfl (by decide) v l.length (l.map (Value.int .i64)) hs hown ad r.length c (r.map (Value.int .i64)) hx (by simp) ?_ ?_ (by unfold maxLen; omega) (by omega) hbase ?_
    · intro j u hu
      rw [List.getElem?_map] at hu
      have hj : j < r.length := by
        rcases Nat.lt_or_ge j r.length with q | q
        · exact q
        · rw [List.getElem?_eq_none q] at hu; simp at hu
      obtain ⟨b, off, hab, hc⟩ := hr.at hj
      obtain rfl := Option.some.inj hab
      rw [Addr.add_lit, hc, ← hu]
      simp [List.getD_eq_getElem?_getD, List.getElem?_eq_getElem hj]
    · intro u hu
      obtain ⟨n, _, rfl⟩ := List.mem_map.1 hu
      rfl
    · intro v' w' hown' hgrow _
      refine h v' w' ?_ hgrow
      unfold OwnI
      rw [List.length_append, List.map_append]
      exact hown'
/-- What is known of memory in the region: from W on nothing older has turned; the own row; the row of the one number, if it lies already. -/
structure StepK (W : World) (v : Value) (l : List Int) (wx : World) : Prop where
  own : OwnI W.heap.size wx v l
  below : Below W.heap.size W wx
theorem StepK.alloc {W : World} {v : Value} {l : List Int} {wx : World} (h : StepK W v l wx) (o : Obj) : StepK W v l (wx.alloc o) := ⟨owns_below h.own ((Below.refl _ _).alloc (Nat.le_refl _) _), h.below.alloc h.below.size _⟩
theorem StepK.next {W : World} {v v' : Value} {l l' : List Int} {wx wy : World} (h : StepK W v l wx) (ho : OwnI W.heap.size wy v' l') (hg : wx.grownBy wy v.ownBlock) : StepK W v' l' wy := ⟨ho, h.below.grown hg h.below.size (fun k hk => (World.ownsRow.lt h.own k hk).1)⟩
theorem rowi_grown {w w' : World} {a : Option Addr} {c : Nat} {l : List Int} {row : Option Nat} (h : RowI w a c l) (hg : w.grownBy w' row) (hn : ∀ x, a = some x → row ≠ some x.block) : RowI w' a c l :=
  ⟨h.cap, h.rd.only' (S := fun k => row = some k) ⟨hg.os, hg.tape, hg.output, hg.size, fun k hk hn => hg.block k hk (fun e => hn e.symm)⟩ (fun _ x ex q => hn x ex q), h.nil⟩
end Go.Proofs.YtkjhamcmhijhgaaGreat.Dq

/- What a law knows of its script, beside other things; works. -/
namespace Go.Proofs.YtkjhamcmhijhgaaGreat.Pick
open Go.RowKit Go.Proofs.YtkjhamcmhijhgaaGreat.Dig Go.Proofs.YtkjhamcmhijhgaaGreat.Mem Go.Proofs.YtkjhamcmhijhgaaGreat.Dq Go.Proofs.YtkjhamcmhijhgaaGreat.Thing Go.Proofs.YtkjhamcmhijhgaaGreat.Sets
set_option linter.unusedVariables false
set_option linter.unusedSimpArgs false

theorem wfl_of {l : List Int} (h : l.all (fun x => (Lit.int .i64 x).wf) = true) : WfL l := fun x hx => List.all_eq_true.1 h x hx
def SE (w : World) (b : Nat) (L : List Int) (c : Int) (n : Nat) (ts : List Th) (wx : World) : Prop := ∃ pa pc, Kn w (scrT b pa pc L c n :: ts) wx
section
variable {w wx w' : World} {b n : Nat} {L : List Int} {c : Int} {ts ts' : List Th} {ra : Option Addr} {rc k : Nat} {l : List Int} {x e : Int} {n' : Nat}
theorem SE.kn (h : SE w b L c n ts wx) : Kn w ts wx := let ⟨_, _, h⟩ := h; h.tail
theorem SE.below (h : SE w b L c n ts wx) : Below w.heap.size w wx := h.kn.below
theorem SE.keep (h : SE w b L c n ts wx) (hb : Below wx.heap.size wx w') : SE w b L c n ts w' := let ⟨p, q, h⟩ := h; ⟨p, q, h.keep hb⟩
theorem SE.drewN (h : SE w b L c n ts wx) (q : Nat) : SE w b L c n ts (wx.drewN q) := h.keep (below_of_drewN q)
theorem SE.sub (h : SE w b L c n ts wx) (hs : ts'.Sublist ts) : SE w b L c n ts' wx := let ⟨p, q, h⟩ := h; ⟨p, q, h.sub (hs.cons_cons _)⟩
theorem SE.more {t : Th} (h : SE w b L c n ts wx) (hb : Below wx.heap.size wx w') (hp : t.P w') (hf : ∀ k, t.F k → wx.heap.size ≤ k) : SE w b L c n (t :: ts) w' := let ⟨p, q, h⟩ := h; ⟨p, q, (h.more hb hp hf).swap⟩
theorem SE.turn {t t' : Th} (h : SE w b L c n (t :: ts) wx) (hp : t'.P w') (ho : Only t.F wx w') (hf : ∀ k, t'.F k → t.F k ∨ wx.heap.size ≤ k) : SE w b L c n (t' :: ts) w' := let ⟨p, q, h⟩ := h; ⟨p, q, (h.swap.turn hp ho hf).swap⟩
theorem SE.perm (h : SE w b L c n ts wx) (hs : ts.Perm ts') : SE w b L c n ts' wx := let ⟨p, q, h⟩ := h; ⟨p, q, h.perm (hs.cons _)⟩
theorem newE (h : Hid (Kn w ts wx)) {a : Option Addr} {m p : Nat} (hr : RowI wx a p L) (hm : m = L.length) (hL : L.length ≤ 1000000) (c : Int) : Calls Tryz.prog 6 #[.slice a m p, .int .i64 c] wx fun e w' => ∃ b, e = .returned (.pointer (some ⟨b, 0, none⟩)) ∧ Hid (SE w b L c 0 ts w') := by
  refine (new_any c hr hm hL).mono ?_
  rintro e w' ⟨b, pa, pc, rfl, h1, h2, h3⟩
  exact ⟨b, rfl, pa, pc, h.out.more h3 h1 h2⟩
theorem stepE (h : Hid (SE w b L c n ts wx)) (hn : n ≤ 1000000) (hk : k = l.length) (hk2 : l.length ≤ 1000000) (hr : RowI wx ra rc l) (hs : StepIs L c n l x e n') :
    Calls Tryz.prog 30 #[.pointer (some ⟨b, 0, none⟩), .slice ra k rc] wx fun r w' => r = .returned (.tuple #[.int .i64 x, .int .i64 e]) ∧ Hid (SE w b L c n' ts w') := by
  obtain ⟨pa, pc, h⟩ := h.out
  refine (pstep_any h.hd hn hk hk2 hr hs).mono ?_
  rintro r w' ⟨rfl, h1, h2⟩
  exact ⟨rfl, pa, pc, h.turn (t' := scrT b pa pc L c n') h1 (h2.mono (fun k e => .inl e)) (fun k hk => .inl hk)⟩
theorem overE (h : Hid (SE w b L c n ts wx)) {d : Bool} (hd : d = over c n) : Calls Tryz.prog 46 #[.pointer (some ⟨b, 0, none⟩)] wx fun e w' => e = .returned (.bool d) ∧ ∃ q, w' = wx.drewN q := by
  subst hd
  obtain ⟨pa, pc, h⟩ := h.out
  exact over_any h.hd
theorem stepsE (h : Hid (SE w b L c n ts wx)) {z : Int} (hz : z = n) : Calls Tryz.prog 21 #[.pointer (some ⟨b, 0, none⟩)] wx fun e w' => e = .returned (.int .i64 z) ∧ w' = wx := by
  subst hz
  obtain ⟨pa, pc, h⟩ := h.out
  exact steps_any h.hd
end
end Go.Proofs.YtkjhamcmhijhgaaGreat.Pick

/- What a loop over a function keeps: boxes of variables, and one of them that holds a row of the call's own. -/
namespace Go.Proofs.YtkjhamcmhijhgaaGreat.Sets
open Go.RowKit Go.Proofs.YtkjhamcmhijhgaaGreat.Mem
set_option linter.unusedVariables false
set_option linter.unusedSimpArgs false

structure LI {α : Type} (e tP : TypeId) (enc : α → Value) (w : World) (bs : List (Nat × TypeId × Value)) (P : Nat) (v : Value) (l : List α) (W : World) : Prop where
  boxes : ∀ p ∈ bs, Boxed W p.1 p.2.1 p.2.2 ∧ p.2.1 ≠ e ∧ p.1 ≠ P
  box : Boxed W P tP v
  own : W.ownsRow w.heap.size e 1 v l.length (l.map enc)
  ne : tP ≠ e
  ge : w.heap.size ≤ P
  below : Below w.heap.size w W
section
variable {α : Type} {e tP : TypeId} {enc : α → Value} {w W W' : World} {bs : List (Nat × TypeId × Value)} {P : Nat} {v : Value} {l : List α}
theorem boxed_below {B : Nat} {t : TypeId} {u : Value} (h : Boxed W B t u) (hb : Below W.heap.size W W') : Boxed W' B t u := (hb.block B h.lt).trans h
theorem boxed_turn {B : Nat} {t : TypeId} {u : Value} {row : Option Nat} (h : Boxed W B t u) (hg : W.grownBy W' row) (hr : ∀ r, row = some r → ∃ o : Obj, W.heap[r]? = some o ∧ o.isCells = false) : Boxed W' B t u :=
  h.kept hg (fun e' => by obtain ⟨o, ho, hc⟩ := hr B e'.symm; rw [show W.heap[B]? = _ from h] at ho; cases ho; cases hc)
theorem owns_turn {base : Nat} {n : Nat} {xs : List Value} {row : Option Nat} (h : W.ownsRow base e 1 v n xs) (hg : W.grownBy W' row) (hr : ∀ r, row = some r → ∃ o : Obj, W.heap[r]? = some o ∧ o.isCells = false) : W'.ownsRow base e 1 v n xs := by
  refine h.kept hg ?_
  rcases h.2 with ⟨rfl, _⟩ | ⟨g, cap, cur, rfl, _, hgb, _⟩
  · exact .inl rfl
  · refine .inr fun e' => ?_
    obtain ⟨o, ho, hc⟩ := hr g (by simpa [Value.ownBlock] using e'.symm)
    rw [hgb] at ho; cases ho; cases hc
theorem owns_below {base : Nat} {n : Nat} {xs : List Value} (h : W.ownsRow base e 1 v n xs) (hb : Below W.heap.size W W') : W'.ownsRow base e 1 v n xs := by
  refine ⟨h.1, ?_⟩
  rcases h.2 with hn | ⟨g, cap, cur, rfl, hg, hh, r⟩
  · exact .inl hn
  · have hlt : g < W.heap.size := by
      rcases Nat.lt_or_ge g W.heap.size with q | q
      · exact q
      · simp [Array.getElem?_eq_none q] at hh
    exact .inr ⟨g, cap, cur, rfl, hg, by rw [hb.block g hlt]; exact hh, r⟩
theorem keepsFrom_below (B : Nat) (hb : Below W.heap.size W W') : KeepsFrom B W W' := ⟨hb.size, fun k o _ hk _ => (hb.block k (Array.getElem?_eq_some_iff.1 hk).1).trans hk⟩
theorem LI.turn {B : Nat} {row : Option Nat} (h : LI e tP enc w bs P v l W) (hB : w.heap.size ≤ B) (hg : W.grownBy W' row) (hr : ∀ r, row = some r → B ≤ r ∧ ∃ o : Obj, W.heap[r]? = some o ∧ o.isCells = false) : LI e tP enc w bs P v l W' :=
  ⟨fun p hp => ⟨boxed_turn (h.boxes p hp).1 hg (fun r q => (hr r q).2), (h.boxes p hp).2⟩, boxed_turn h.box hg (fun r q => (hr r q).2), owns_turn h.own hg (fun r q => (hr r q).2), h.ne, h.ge, h.below.grown hg h.below.size (fun k q => Nat.le_trans hB (hr k q).1)⟩
theorem LI.keep (h : LI e tP enc w bs P v l W) (hb : Below W.heap.size W W') : LI e tP enc w bs P v l W' :=
  ⟨fun p hp => ⟨boxed_below (h.boxes p hp).1 hb, (h.boxes p hp).2⟩, boxed_below h.box hb, owns_below h.own hb, h.ne, h.ge, h.below.trans (hb.mono h.below.size)⟩
theorem LI.drewN (h : LI e tP enc w bs P v l W) (q : Nat) : LI e tP enc w bs P v l (W.drewN q) := h.keep ⟨rfl, rfl, rfl, Nat.le_refl _, fun _ _ => rfl⟩
theorem LI.alloc (h : LI e tP enc w bs P v l W) (o : Obj) : LI e tP enc w bs P v l (W.alloc o) := h.keep ((Below.refl _ _).alloc (Nat.le_refl _) _)
/-- A store into one of the other boxes. -/
theorem LI.store {B : Nat} {t : TypeId} {u : Value} (h : LI e tP enc w ((B, t, u) :: bs) P v l W) (hB : w.heap.size ≤ B) (hbs : ∀ p ∈ bs, p.1 ≠ B) (u' : Value) : LI e tP enc w ((B, t, u') :: bs) P v l (W.setCell ⟨B, 0, none⟩ u') := by
  have h0 := h.boxes (B, t, u) (by simp)
  refine ⟨fun p hp => ?_, h.box.other (Ne.symm h0.2.2) u', h.own.kept (grownBy_setCell' W B u') (.inr (h0.1.not_row h0.2.1 h.own).symm), h.ne, h.ge, h.below.setCell (p := ⟨B, 0, none⟩) hB u'⟩
  rcases List.mem_cons.1 hp with rfl | q
  · exact ⟨h0.1.set u', h0.2⟩
  · have h1 := h.boxes p (List.mem_cons_of_mem _ q)
    exact ⟨h1.1.other (hbs p q) u', h1.2⟩
/-- The row's box behind an append, and behind the store of what it gave. -/
theorem LI.push {W1 : World} {v' : Value} {m : Nat} {ys : List Value} {l' : List α} {tmp : Obj} (h : LI e tP enc w bs P v l W) (hown : W1.ownsRow w.heap.size e 1 v' m ys) (hm : m = l'.length) (hys : ys = l'.map enc) (hgrow : (W.alloc tmp).grownBy W1 v.ownBlock) :
    Boxed W1 P tP v ∧ LI e tP enc w bs P v' l' (W1.setCell ⟨P, 0, none⟩ v') ∧ KeepsOthers W (W1.setCell ⟨P, 0, none⟩ v') ∧ Below w.heap.size W (W1.setCell ⟨P, 0, none⟩ v') := by
  subst hm; subst hys
  obtain ⟨h1, h2, h3, h4, h5⟩ := h.box.appended h.ne h.own h.below.size h.ge hown hgrow
  refine ⟨h1, ⟨fun p hp => ?_, h2, h3, h.ne, h.ge, h.below.trans h5⟩, h4, h5⟩
  have hp' := h.boxes p hp
  exact ⟨((hp'.1.alloc tmp).kept hgrow (hp'.1.not_row hp'.2.1 h.own)).other hp'.2.2 v', hp'.2⟩
/-- .. with no block laid for what is appended. -/
theorem LI.push' {W1 : World} {v' : Value} {m : Nat} {ys : List Value} {l' : List α} (h : LI e tP enc w bs P v l W) (hown : W1.ownsRow w.heap.size e 1 v' m ys) (hm : m = l'.length) (hys : ys = l'.map enc) (hgrow : W.grownBy W1 v.ownBlock) (hB : ∀ b, v.ownBlock = some b → w.heap.size ≤ b) :
    Boxed W1 P tP v ∧ LI e tP enc w bs P v' l' (W1.setCell ⟨P, 0, none⟩ v') ∧ Below w.heap.size W (W1.setCell ⟨P, 0, none⟩ v') := by
  subst hm; subst hys
  have hv1 : Boxed W1 P tP v := h.box.kept hgrow (h.box.not_row h.ne h.own)
  have hb : Below w.heap.size W (W1.setCell ⟨P, 0, none⟩ v') := ((Below.refl w.heap.size W).grown hgrow h.below.size hB).setCell (p := ⟨P, 0, none⟩) h.ge v'
  refine ⟨hv1, ⟨fun p hp => ?_, hv1.set v', hown.kept (grownBy_setCell' W1 P v') (.inr (hv1.not_row h.ne hown).symm), h.ne, h.ge, h.below.trans hb⟩, hb⟩
  have hp' := h.boxes p hp
  exact ⟨(hp'.1.kept hgrow (hp'.1.not_row hp'.2.1 h.own)).other hp'.2.2 v', hp'.2⟩
end
end Go.Proofs.YtkjhamcmhijhgaaGreat.Sets
