/- Joined out of the texts PickStep, RowApp, PickEnv, OwnKit, in that order. -/
import Derived.Test.YtkjdjmcecjaolaaAll4
import Derived.Test.YtkjdjmcecjaolaaAll2
import Derived.Deep.RegionLaw
import Derived.Deep.DeepMust
import Derived.Maps.AppendAt
import Derived.Test.YtkjdjmcecjaolaaAll3
import Derived.Test.YtkjdjmcecjaolaaAll1
import Derived.Laws.AppendOwnNone
import Derived.Laws.OwnMore
/- One step, by the program and by the document, whatever the state: what stepS says. -/
namespace Go.Proofs.Ytkjdjmcecjaolaa.Pick
open Go.RowKit Go.Proofs.Ytkjdjmcecjaolaa.Dig Go.Proofs.Ytkjdjmcecjaolaa.Mem Go.Proofs.Ytkjdjmcecjaolaa.Dq Go.Proofs.Ytkjdjmcecjaolaa.Thing Go.Proofs.Ytkjdjmcecjaolaa.Sets
set_option linter.unusedVariables false
set_option linter.unusedSimpArgs false

theorem only_drewN (S : Nat → Prop) (w : World) (q : Nat) : Only S w (w.drewN q) := (Only.refl _ _).drewN q
/-- Who is told, which error, how many steps there are behind it: named. -/
structure StepIs (L : List Int) (c : Int) (n : Nat) (l : List Int) (x e : Int) (n' : Nat) : Prop where
  is : stepS L c n l = (x, e, n')
theorem StepIs.ex (L : List Int) (c : Int) (n : Nat) (l : List Int) : ∃ x e n', StepIs L c n l x e n' := ⟨_, _, _, ⟨rfl⟩⟩
theorem StepIs.le {L : List Int} {c : Int} {n : Nat} {l : List Int} {x e : Int} {n' : Nat} (h : StepIs L c n l x e n') : n ≤ n' ∧ n' ≤ n + 1 := by
  have h := h.is
  unfold stepS at h
  split at h
  · simp at h; omega
  · split at h
    · simp at h; omega
    · simp at h; omega
section
variable {w : World} {b n : Nat} {pa : Option Addr} {pc : Nat} {L : List Int} {c : Int} {ra : Option Addr} {rc k : Nat} {l : List Int} {x e : Int} {n' : Nat}
theorem pstep_any (h : Scr w b pa pc L c n) (hn : n ≤ 1000000) (hk : k = l.length) (hk2 : l.length ≤ 1000000) (hr : RowI w ra rc l) (hs : StepIs L c n l x e n') :
    Calls Try.prog 25 #[.pointer (some ⟨b, 0, none⟩), .slice ra k rc] w fun r w' => r = .returned (.tuple #[.int .i64 x, .int .i64 e]) ∧ Scr w' b pa pc L c n' ∧ Only (fun k => k = b) w w' := by
  have hs := hs.is
  unfold stepS at hs
  cases ho : over c n with
  | true =>
    rw [if_pos ho] at hs
    simp at hs
    obtain ⟨rfl, rfl, rfl⟩ := hs
    refine (pstep_over h ho _).mono ?_
    rintro r w' ⟨rfl, q, rfl⟩
    exact ⟨rfl, h.keep (below_of_drewN q), only_drewN _ _ q⟩
  | false =>
    rw [if_neg (by simp [ho])] at hs
    by_cases hl : l = []
    · rw [if_pos hl] at hs
      simp at hs
      obtain ⟨rfl, rfl, rfl⟩ := hs
      subst hl
      subst hk
      refine (pstep_none h ho ra rc).mono ?_
      rintro r w' ⟨rfl, q, rfl⟩
      exact ⟨rfl, h.keep (below_of_drewN q), only_drewN _ _ q⟩
    · rw [if_neg hl] at hs
      simp at hs
      obtain ⟨rfl, rfl, rfl⟩ := hs
      exact pstep_ok h ho hn hl hk hk2 hr
theorem rstep_any (w : World) {a : Option Addr} {m p : Nat} (hn : n ≤ 1000000) (hm : m = L.length) (hm2 : m ≤ 1000000) (hL : RowI w a p L) (hk : k = l.length) (hk2 : l.length ≤ 1000) (hr : RowI w ra rc l) (hs : StepIs L c n l x e n') {u u' : Nat} (hu : u = min n m) (hu' : u' = min n' m) :
    Calls Try.prog 30 #[.agg (rv a m p c n u), .slice ra k rc] w fun r w' => r = .returned (.tuple #[.agg (rv a m p c n' u'), .int .i64 x, .int .i64 e]) ∧ Below w.heap.size w w' := by
  have hs := hs.is
  unfold stepS at hs
  cases ho : over c n with
  | true =>
    rw [if_pos ho] at hs
    simp at hs
    obtain ⟨rfl, rfl, rfl⟩ := hs
    obtain rfl : u' = u := by omega
    exact rstep_over w a m p c n u' ho _
  | false =>
    rw [if_neg (by simp [ho])] at hs
    by_cases hl : l = []
    · rw [if_pos hl] at hs
      simp at hs
      obtain ⟨rfl, rfl, rfl⟩ := hs
      obtain rfl : u' = u := by omega
      subst hl
      subst hk
      exact rstep_none w a m p c n u' ho ra rc hr
    · rw [if_neg hl] at hs
      simp at hs
      obtain ⟨rfl, rfl, rfl⟩ := hs
      by_cases hmn : n < m
      · have e1 : u = n := by omega
        have e2 : u' = n + 1 := by omega
        rw [e1, e2]
        have := rstep_pick w a m p c n ho hn hm hmn hm2 hL ra rc l hl hk2 hk hr
        simpa [rv] using this
      · have e1 : u = m := by omega
        have e2 : u' = m := by omega
        rw [e1, e2]
        have := rstep_least w a m p c n ho hn hm (by omega) hm2 ra rc l hl hk2 hk hr
        simpa [rv] using this
end
end Go.Proofs.Ytkjdjmcecjaolaa.Pick

/- append to a row of numbers of the call's own, within a region that draws; a row that is laid. -/
namespace Go.Proofs.Ytkjdjmcecjaolaa.Dq
open Go.RowKit Go.Proofs.Ytkjdjmcecjaolaa.Dig Go.Proofs.Ytkjdjmcecjaolaa.Mem
set_option linter.unusedVariables false
set_option linter.unusedSimpArgs false

def WfL (l : List Int) : Prop := ∀ x ∈ l, (Lit.int .i64 x).wf = true
/-- A row of numbers is laid. -/
theorem rowi_made (wx : World) (zs : List Int) (T : TypeId) {p n : Nat} (hp : p = wx.heap.size) (hn : n = zs.length) (hl : zs.length ≤ 100) (hw : WfL zs) : RowI (wx.alloc (.cells (zs.map (Value.int .i64)).toArray T)) (some ⟨p, 0, none⟩) n zs :=
  ⟨by omega, ⟨by omega, fun i hi => ⟨p, 0, rfl, (Is.made wx _ T hp).cell _ (by simp [List.getD_eq_getElem?_getD, List.getElem?_eq_getElem hi]), by
    show (Lit.int .i64 (zs.getD i 0)).wf = true
    rw [List.getD_eq_getElem?_getD, List.getElem?_eq_getElem hi]
    exact hw _ (List.getElem_mem hi)⟩⟩, fun e => by cases e⟩
theorem OwnI.empty {base b : Nat} {w : World} (hb : b = w.heap.size) (hB : base ≤ w.heap.size) : OwnI base (w.alloc (.cells #[] 3)) (.slice (some ⟨b, 0, none⟩) 0 0) [] := by
  subst hb
  exact World.ownsRow_made (e := 3) (size := 1) w #[] 0 hB (by unfold maxLen; omega) rfl
theorem OwnI.keep {base : Nat} {w w' : World} {v : Value} {l : List Int} (h : OwnI base w v l) (hb : Below w.heap.size w w') : OwnI base w' v l := owns_below h hb
/-- append of a row that is read, at a step of a region that draws. -/
theorem step_app_rowi {w w0 : World} {ops : Array Oper} {o : Oper} {a : Act} {K : Act → World → Prop} {Q : Exit → Act → World → Prop} {E : Prop} (hgd : o.guard = none) (s x : Operand)
    (ho : o.op = .call { callee := .builtin .append, args := #[s, x], argTypes := #[23, 23] }) (base : Nat) (v : Value) (l : List Int) (hs : a.eval s = v) (hown : OwnI base w v l)
    (ao : Option Addr) (c m : Nat) (r : List Int) (hx : a.eval x = .slice ao m c) (hm : m = r.length) (hr : RowI w ao c r) (hb : l.length + r.length ≤ 1000000) (hbase : base ≤ w.heap.size) (hbel : Below base w0 w)
    (h : ∀ v' w', OwnI base w' v' (l ++ r) → Below base w0 w' → w.heap.size ≤ w'.heap.size → K (a.put o.dst v') w') :
    if Region.wanted o (yielded ops a.tmps) = true then Oper.wp Try.prog o a w K Q else E := by
  have hw : Region.wanted o (yielded ops a.tmps) = true := by simp [Region.wanted, hgd]
  rw [if_pos hw]
  obtain ⟨i0, hi, hz0, hz1, hz2⟩ := info_parts Try.infoInt
  subst hm
  cases ao with
  | none =>
    have hr0 : r = [] := by
      cases r with
      | nil => rfl
      | cons y r => obtain ⟨b, off, e', _⟩ := hr.at (i := 0) (by simp); cases e'
    subst hr0
    have hc : c = 0 := hr.nil rfl
    subst hc
    have hrun := run_append_owned_none (P := Try.prog) (w := w) base 23 o.type 3 i0 1 Try.underlying23 hi v l.length _ hown
    simp only [List.length_nil] at hx
    unfold Oper.wp
    simp [execOp, ho, resolve, invoke, builtin, hs, hx, hrun, Result.andThen]
    exact h v w (by simpa using hown) hbel (Nat.le_refl _)
  | some ad =>
    refine wp_append_own w s x 23 ho base 3 i0 (.int .i64 0) 1 8 Try.underlying23 hi hz0 hz1 hz2 rfl (by decide) v l.length (l.map (Value.int .i64)) hs hown ad r.length c (r.map (Value.int .i64)) hx (by simp) ?_ ?_ (by unfold maxLen; omega) (by omega) hbase ?_
    · intro j u hu
      rw [List.getElem?_map] at hu
      have hj : j < r.length := by
        rcases Nat.lt_or_ge j r.length with q | q
        · exact q
        · rw [List.getElem?_eq_none q] at hu; simp at hu
      obtain ⟨b, off, hab, hc⟩ := hr.at hj
      obtain rfl := Option.some.inj hab
      rw [Addr.add_lit, hc, ← hu]
      simp [List.getD_eq_getElem?_getD, List.getElem?_eq_getElem hj]
    · intro u hu
      obtain ⟨n, _, rfl⟩ := List.mem_map.1 hu
      rfl
    · intro v' w' hown' hgrow _
      refine h v' w' ?_ (hbel.grown hgrow hbase (fun k hk => (World.ownsRow.lt hown k hk).1)) hgrow.size
      unfold OwnI
      rw [List.length_append, List.map_append]
      exact hown'
/-- append of a row that is read, at a step of a region that draws: nothing else than the own row has turned. -/
theorem step_app_g {w : World} {ops : Array Oper} {o : Oper} {a : Act} {K : Act → World → Prop} {Q : Exit → Act → World → Prop} {E : Prop} (hgd : o.guard = none) (s x : Operand)
    (ho : o.op = .call { callee := .builtin .append, args := #[s, x], argTypes := #[23, 23] }) (base : Nat) (v : Value) (l : List Int) (hs : a.eval s = v) (hown : OwnI base w v l)
    (ao : Option Addr) (c m : Nat) (r : List Int) (hx : a.eval x = .slice ao m c) (hm : m = r.length) (hr : RowI w ao c r) (hb : l.length + r.length ≤ 1000000) (hbase : base ≤ w.heap.size)
    (h : ∀ v' w', OwnI base w' v' (l ++ r) → w.grownBy w' v.ownBlock → K (a.put o.dst v') w') :
    if Region.wanted o (yielded ops a.tmps) = true then Oper.wp Try.prog o a w K Q else E := by
  have hw : Region.wanted o (yielded ops a.tmps) = true := by simp [Region.wanted, hgd]
  rw [if_pos hw]
  obtain ⟨i0, hi, hz0, hz1, hz2⟩ := info_parts Try.infoInt
  subst hm
  cases ao with
  | none =>
    have hr0 : r = [] := by
      cases r with
      | nil => rfl
      | cons y r => obtain ⟨b, off, e', _⟩ := hr.at (i := 0) (by simp); cases e'
    subst hr0
    have hc : c = 0 := hr.nil rfl
    subst hc
    have hrun := run_append_owned_none (P := Try.prog) (w := w) base 23 o.type 3 i0 1 Try.underlying23 hi v l.length _ hown
    simp only [List.length_nil] at hx
    unfold Oper.wp
    simp [execOp, ho, resolve, invoke, builtin, hs, hx, hrun, Result.andThen]
    exact h v w (by simpa using hown) ⟨rfl, rfl, rfl, Nat.le_refl _, fun _ _ _ => rfl⟩
  | some ad =>
    refine wp_append_own w s x 23 ho base 3 i0 (.int .i64 0) 1 8 Try.underlying23 hi hz0 hz1 hz2 rfl (by decide) v l.length (l.map (Value.int .i64)) hs hown ad r.length c (r.map (Value.int .i64)) hx (by simp) ?_ ?_ (by unfold maxLen; omega) (by omega) hbase ?_
    · intro j u hu
      rw [List.getElem?_map] at hu
      have hj : j < r.length := by
        rcases Nat.lt_or_ge j r.length with q | q
        · exact q
        · rw [List.getElem?_eq_none q] at hu; simp at hu
      obtain ⟨b, off, hab, hc⟩ := hr.at hj
      obtain rfl := Option.some.inj hab
      rw [Addr.add_lit, hc, ← hu]
      simp [List.getD_eq_getElem?_getD, List.getElem?_eq_getElem hj]
    · intro u hu
      obtain ⟨n, _, rfl⟩ := List.mem_map.1 hu
      rfl
    · intro v' w' hown' hgrow _
      refine h v' w' ?_ hgrow
      unfold OwnI
      rw [List.length_append, List.map_append]
      exact hown'
/-- What is known of memory in the region: from W on nothing older has turned; the own row; the row of the one number, if it lies already. -/
structure StepK (W : World) (v : Value) (l : List Int) (wx : World) : Prop where
  own : OwnI W.heap.size wx v l
  below : Below W.heap.size W wx
theorem StepK.alloc {W : World} {v : Value} {l : List Int} {wx : World} (h : StepK W v l wx) (o : Obj) : StepK W v l (wx.alloc o) := ⟨owns_below h.own ((Below.refl _ _).alloc (Nat.le_refl _) _), h.below.alloc h.below.size _⟩
theorem StepK.next {W : World} {v v' : Value} {l l' : List Int} {wx wy : World} (h : StepK W v l wx) (ho : OwnI W.heap.size wy v' l') (hg : wx.grownBy wy v.ownBlock) : StepK W v' l' wy := ⟨ho, h.below.grown hg h.below.size (fun k hk => (World.ownsRow.lt h.own k hk).1)⟩
theorem rowi_grown {w w' : World} {a : Option Addr} {c : Nat} {l : List Int} {row : Option Nat} (h : RowI w a c l) (hg : w.grownBy w' row) (hn : ∀ x, a = some x → row ≠ some x.block) : RowI w' a c l :=
  ⟨h.cap, h.rd.only' (S := fun k => row = some k) ⟨hg.os, hg.tape, hg.output, hg.size, fun k hk hn => hg.block k hk (fun e => hn e.symm)⟩ (fun _ x ex q => hn x ex q), h.nil⟩
end Go.Proofs.Ytkjdjmcecjaolaa.Dq

/- What a law knows of its script, beside other things; works. -/
namespace Go.Proofs.Ytkjdjmcecjaolaa.Pick
open Go.RowKit Go.Proofs.Ytkjdjmcecjaolaa.Dig Go.Proofs.Ytkjdjmcecjaolaa.Mem Go.Proofs.Ytkjdjmcecjaolaa.Dq Go.Proofs.Ytkjdjmcecjaolaa.Thing Go.Proofs.Ytkjdjmcecjaolaa.Sets
set_option linter.unusedVariables false
set_option linter.unusedSimpArgs false

theorem wfl_of {l : List Int} (h : l.all (fun x => (Lit.int .i64 x).wf) = true) : WfL l := fun x hx => List.all_eq_true.1 h x hx
def SE (w : World) (b : Nat) (L : List Int) (c : Int) (n : Nat) (ts : List Th) (wx : World) : Prop := ∃ pa pc, Kn w (scrT b pa pc L c n :: ts) wx
section
variable {w wx w' : World} {b n : Nat} {L : List Int} {c : Int} {ts ts' : List Th} {ra : Option Addr} {rc k : Nat} {l : List Int} {x e : Int} {n' : Nat}
theorem SE.kn (h : SE w b L c n ts wx) : Kn w ts wx := let ⟨_, _, h⟩ := h; h.tail
theorem SE.below (h : SE w b L c n ts wx) : Below w.heap.size w wx := h.kn.below
theorem SE.keep (h : SE w b L c n ts wx) (hb : Below wx.heap.size wx w') : SE w b L c n ts w' := let ⟨p, q, h⟩ := h; ⟨p, q, h.keep hb⟩
theorem SE.drewN (h : SE w b L c n ts wx) (q : Nat) : SE w b L c n ts (wx.drewN q) := h.keep (below_of_drewN q)
theorem SE.sub (h : SE w b L c n ts wx) (hs : ts'.Sublist ts) : SE w b L c n ts' wx := let ⟨p, q, h⟩ := h; ⟨p, q, h.sub (hs.cons_cons _)⟩
theorem SE.more {t : Th} (h : SE w b L c n ts wx) (hb : Below wx.heap.size wx w') (hp : t.P w') (hf : ∀ k, t.F k → wx.heap.size ≤ k) : SE w b L c n (t :: ts) w' := let ⟨p, q, h⟩ := h; ⟨p, q, (h.more hb hp hf).swap⟩
theorem SE.turn {t t' : Th} (h : SE w b L c n (t :: ts) wx) (hp : t'.P w') (ho : Only t.F wx w') (hf : ∀ k, t'.F k → t.F k ∨ wx.heap.size ≤ k) : SE w b L c n (t' :: ts) w' := let ⟨p, q, h⟩ := h; ⟨p, q, (h.swap.turn hp ho hf).swap⟩
theorem SE.perm (h : SE w b L c n ts wx) (hs : ts.Perm ts') : SE w b L c n ts' wx := let ⟨p, q, h⟩ := h; ⟨p, q, h.perm (hs.cons _)⟩
theorem newE (h : Hid (Kn w ts wx)) {a : Option Addr} {m p : Nat} (hr : RowI wx a p L) (hm : m = L.length) (hL : L.length ≤ 1000000) (c : Int) : Calls Try.prog 10 #[.slice a m p, .int .i64 c] wx fun e w' => ∃ b, e = .returned (.pointer (some ⟨b, 0, none⟩)) ∧ Hid (SE w b L c 0 ts w') := by
  refine (new_any c hr hm hL).mono ?_
  rintro e w' ⟨b, pa, pc, rfl, h1, h2, h3⟩
  exact ⟨b, rfl, pa, pc, h.out.more h3 h1 h2⟩
theorem stepE (h : Hid (SE w b L c n ts wx)) (hn : n ≤ 1000000) (hk : k = l.length) (hk2 : l.length ≤ 1000000) (hr : RowI wx ra rc l) (hs : StepIs L c n l x e n') :
    Calls Try.prog 25 #[.pointer (some ⟨b, 0, none⟩), .slice ra k rc] wx fun r w' => r = .returned (.tuple #[.int .i64 x, .int .i64 e]) ∧ Hid (SE w b L c n' ts w') := by
  obtain ⟨pa, pc, h⟩ := h.out
  refine (pstep_any h.hd hn hk hk2 hr hs).mono ?_
  rintro r w' ⟨rfl, h1, h2⟩
  exact ⟨rfl, pa, pc, h.turn (t' := scrT b pa pc L c n') h1 (h2.mono (fun k e => .inl e)) (fun k hk => .inl hk)⟩
theorem overE (h : Hid (SE w b L c n ts wx)) {d : Bool} (hd : d = over c n) : Calls Try.prog 39 #[.pointer (some ⟨b, 0, none⟩)] wx fun e w' => e = .returned (.bool d) ∧ ∃ q, w' = wx.drewN q := by
  subst hd
  obtain ⟨pa, pc, h⟩ := h.out
  exact over_any h.hd
theorem stepsE (h : Hid (SE w b L c n ts wx)) {z : Int} (hz : z = n) : Calls Try.prog 17 #[.pointer (some ⟨b, 0, none⟩)] wx fun e w' => e = .returned (.int .i64 z) ∧ w' = wx := by
  subst hz
  obtain ⟨pa, pc, h⟩ := h.out
  exact steps_any h.hd
theorem usedE (h : Hid (SE w b L c n ts wx)) {z : Int} (hz : z = (min n L.length : Nat)) : Calls Try.prog 18 #[.pointer (some ⟨b, 0, none⟩)] wx fun e w' => e = .returned (.int .i64 z) ∧ ∃ q, w' = wx.drewN q := by
  subst hz
  obtain ⟨pa, pc, h⟩ := h.out
  exact used_any h.hd
end
end Go.Proofs.Ytkjdjmcecjaolaa.Pick

/- One's own rows, of elements of any size, as things: how they grow, how a cell is written, how they are read; boxes; things in a list. -/
namespace Go.Proofs.Ytkjdjmcecjaolaa.Own
open Go.RowKit Go.Proofs.Ytkjdjmcecjaolaa.Dig Go.Proofs.Ytkjdjmcecjaolaa.Mem Go.Proofs.Ytkjdjmcecjaolaa.Dq Go.Proofs.Ytkjdjmcecjaolaa.Thing
set_option linter.unusedVariables false
set_option linter.unusedSimpArgs false

theorem Try.infoI : (Try.prog.info? 3).map (fun i => (i.zero, i.size, i.bytes)) = some (some (.int .i64 0), 1, 8) := by kernel_rfl
theorem Try.infoIs : (Try.prog.info? 23).map (fun i => (i.zero, i.size, i.bytes)) = some (some (.slice none 0 0), 1, 24) := by kernel_rfl
/-- A row of the call's own, of elements of so many cells. -/
def ownN (base : Nat) (e : TypeId) (z : Nat) (v : Value) (n : Nat) (xs : List Value) : Th where
  P w := w.ownsRow base e z v n xs
  F k := v.ownBlock = some k
  keep {w w' S} h ho hs := by
    refine ⟨h.1, ?_⟩
    rcases h.2 with hn | ⟨g, cap, cur, rfl, hg, hh, r⟩
    · exact .inl hn
    · have hlt : g < w.heap.size := by
        rcases Nat.lt_or_ge g w.heap.size with q | q
        · exact q
        · simp [Array.getElem?_eq_none q] at hh
      exact .inr ⟨g, cap, cur, rfl, hg, by rw [ho.block g hlt (hs g rfl)]; exact hh, r⟩
  lt h k hk := (World.ownsRow.lt h k hk).2
section
variable {w w' wx W : World} {x y t t' : Th} {ts pre post ls : List Th} {base m m' z n c g k j : Nat} {e : TypeId} {v v' u : Value} {xs xs' : List Value}
theorem turnAt (h : Kn w (pre ++ t :: post) wx) (hp : t'.P w') (ho : Only t.F wx w') (hf : ∀ k, t'.F k → t.F k ∨ wx.heap.size ≤ k) : Kn w (pre ++ t' :: post) w' :=
  ((h.perm List.perm_middle).turn hp ho hf).perm List.perm_middle.symm
/-- One of a list of things is turned. -/
theorem split_at (hk : ls[k]? = some t) : ls = ls.take k ++ t :: ls.drop (k + 1) := by
  obtain ⟨h1, h2⟩ := List.getElem?_eq_some_iff.1 hk
  rw [← h2, List.getElem_cons_drop, List.take_append_drop]
theorem split_set (hk : ls[k]? = some t) : ls.set k t' = ls.take k ++ t' :: ls.drop (k + 1) := by
  rw [List.set_eq_take_append_cons_drop, if_pos (List.getElem?_eq_some_iff.1 hk).1]
theorem turnL (h : Kn w (pre ++ (ls ++ post)) wx) (hk : ls[k]? = some t) (hp : t'.P w') (ho : Only t.F wx w') (hf : ∀ k, t'.F k → t.F k ∨ wx.heap.size ≤ k) : Kn w (pre ++ (ls.set k t' ++ post)) w' := by
  rw [split_set hk]
  rw [split_at hk] at h
  have h2 : Kn w ((pre ++ ls.take k) ++ t :: (ls.drop (k + 1) ++ post)) wx := by simpa using h
  have h3 := turnAt h2 hp ho hf
  simpa using h3
theorem growAt (h : Kn w (pre ++ ownN base e z v m xs :: post) W) (ho : w'.ownsRow base e z v' m' xs') (hg : W.grownBy w' v.ownBlock) (hat : v'.ownBlock = v.ownBlock ∨ v'.ownBlock = some W.heap.size) :
    Kn w (pre ++ ownN base e z v' m' xs' :: post) w' :=
  turnAt (t := ownN base e z v m xs) (t' := ownN base e z v' m' xs') h ho ⟨hg.os, hg.tape, hg.output, hg.size, fun k hk hn => hg.block k hk (fun e => hn e.symm)⟩ (fun k hk => by
    have hk' : v'.ownBlock = some k := hk
    rcases hat with q | q
    · exact .inl (by show v.ownBlock = some k; rw [← q]; exact hk')
    · rw [q] at hk'
      exact .inr (Nat.le_of_eq (Option.some.inj hk')))
/-- One's own row, of which nothing is there yet. -/
theorem own0 (h : Kn w ts W) (T : TypeId) (z : Nat) (hb : base ≤ W.heap.size) (hg : g = W.heap.size) : Kn w (ownN base T z (.slice (some ⟨g, 0, none⟩) 0 0) 0 [] :: ts) (W.alloc (.cells #[] T)) := by
  subst hg
  exact h.more ((Below.refl _ _).alloc (Nat.le_refl _) _) (t' := ownN base T z (.slice (some ⟨W.heap.size, 0, none⟩) 0 0) 0 []) (World.ownsRow_made W #[] 0 hb (by unfold maxLen; omega) (by simp)) (fun k hk => by cases hk; exact Nat.le_refl _)
/-- .. that is nil. -/
theorem ownNil (h : Kn w ts W) (base : Nat) (T : TypeId) (z : Nat) : Kn w (ownN base T z (.slice none 0 0) 0 [] :: ts) W :=
  h.more (Below.refl _ _) (t' := ownN base T z (.slice none 0 0) 0 []) (World.ownsRow_nil _ _ _ _) (fun k hk => by cases hk)
/-- .. made with so many. -/
theorem ownMade (h : Kn w ts W) (cs : Array Value) (T : TypeId) (z : Nat) (hb : base ≤ W.heap.size) (hn : n ≤ maxLen) (hs : cs.size = n * z) (hg : g = W.heap.size) : Kn w (ownN base T z (.slice (some ⟨g, 0, none⟩) n n) n cs.toList :: ts) (W.alloc (.cells cs T)) := by
  subst hg
  exact h.more ((Below.refl _ _).alloc (Nat.le_refl _) _) (t' := ownN base T z (.slice (some ⟨W.heap.size, 0, none⟩) n n) n cs.toList) (World.ownsRow_lit W cs n hb hn hs) (fun k hk => by cases hk; exact Nat.le_refl _)
theorem box0 (h : Kn w ts W) (cs : Array Value) (T : TypeId) (hg : g = W.heap.size) : Kn w (boxT g cs :: ts) (W.alloc (.cells cs T)) :=
  h.more ((Below.refl _ _).alloc (Nat.le_refl _) _) (t' := boxT g cs) (Is.made _ _ _ hg) (fun k hk => by cases hk; exact Nat.le_of_eq hg.symm)
theorem putBox {b : Nat} {cs : Array Value} (h : Kn w (pre ++ boxT b cs :: post) W) (i : Nat) (u : Value) {cs' : Array Value} (hc : cs.setIfInBounds i u = cs') (hp : (boxT b cs).P W) : Kn w (pre ++ boxT b cs' :: post) (W.setCell ⟨b, i, none⟩ u) :=
  turnAt (t := boxT b cs) (t' := boxT b cs') h ((Is.set hp i u).eq hc) ((Only.refl _ _).put i _) (fun _ e => .inl e)
theorem Knget (h : Kn w (pre ++ t :: post) W) : t.P W := h.get (by simp)
theorem Knlt (h : Kn w (pre ++ t :: post) W) : ∀ k, t.F k → w.heap.size ≤ k := (h.has t (by simp)).2
/-- How one's own row is read. -/
theorem own_at (h : (ownN base e z v n xs).P W) (hj : xs[j]? = some u) : ∃ g c, v = .slice (some ⟨g, 0, none⟩) n c ∧ W.cell? ⟨g, j, none⟩ = some u ∧ W.frozen? ⟨g, j, none⟩ = false := by
  have hl := World.ownsRow.lt h
  rcases h.2 with ⟨hv, h0⟩ | ⟨g, cap, cur, hv, _⟩
  · have := h.1
    rw [h0, Nat.zero_mul] at this
    rw [List.eq_nil_of_length_eq_zero this] at hj
    cases hj
  · subst hv
    have hlt : j < xs.length := by
      rcases Nat.lt_or_ge j xs.length with q | q
      · exact q
      · rw [List.getElem?_eq_none q] at hj; cases hj
    refine ⟨g, cap, rfl, ?_, World.ownsRow.frozenAt h j⟩
    rw [World.ownsRow.cellAt h j (by rw [← h.1]; exact hlt)]
    exact hj
theorem own_form (h : (ownN base e z v n xs).P W) : ∃ a c, v = .slice a n c := by
  rcases h.2 with ⟨rfl, h0⟩ | ⟨g, cap, cur, rfl, _⟩
  · subst h0; exact ⟨_, _, rfl⟩
  · exact ⟨_, _, rfl⟩
theorem own_cap {a : Option Addr} (h : (ownN base e z (.slice a n c) n xs).P W) : n ≤ c ∧ c ≤ maxLen := by
  rcases h.2 with ⟨hv, h0⟩ | ⟨g, cap, cur, hv, _, _, h1, h2, _⟩
  · cases hv; exact ⟨Nat.le_refl _, by unfold maxLen; omega⟩
  · cases hv; exact ⟨h1, h2⟩
/-- A cell of one's own row is written. -/
theorem ownPut (h : Kn w (pre ++ ownN base e z (.slice (some ⟨g, 0, none⟩) n c) n xs :: post) W) (j : Nat) (u : Value) (hp : (ownN base e z (.slice (some ⟨g, 0, none⟩) n c) n xs).P W) : Kn w (pre ++ ownN base e z (.slice (some ⟨g, 0, none⟩) n c) n (xs.set j u) :: post) (W.setCell ⟨g, j, none⟩ u) := by
  obtain ⟨h1, h2⟩ := World.ownsRow.stored (show W.ownsRow base e z (.slice (some ⟨g, 0, none⟩) n c) n xs from hp) j u
  exact turnAt (t := ownN base e z (.slice (some ⟨g, 0, none⟩) n c) n xs) (t' := ownN base e z (.slice (some ⟨g, 0, none⟩) n c) n (xs.set j u)) h h1 ⟨h2.os, h2.tape, h2.output, h2.size, fun k hk hn => h2.block k hk (fun e => hn (by show _ = some k; rw [e]; rfl))⟩ (fun k hk => .inl hk)
theorem sep_of (h : Kn w (pre ++ t :: post) W) (hx : x ∈ post) : Sep t x := by
  have := (List.pairwise_append.1 h.sep).2.1
  exact (List.pairwise_cons.1 this).1 x hx
end
/-- A slice that reads values of one cell each. -/
structure CellsR (w : World) (a : Option Addr) (c : Nat) (xs : List Value) : Prop where
  cap : xs.length ≤ c
  nil : a = none → c = 0
  at_ : ∀ i u, xs[i]? = some u → ∃ b off, a = some ⟨b, off, none⟩ ∧ w.cell? ⟨b, off + i, none⟩ = some u
theorem CellsR.keep {w w' : World} {a : Option Addr} {c : Nat} {xs : List Value} (h : CellsR w a c xs) (hb : Below w.heap.size w w') : CellsR w' a c xs := ⟨h.cap, h.nil, fun i u hu => by
  obtain ⟨b, off, e, hc⟩ := h.at_ i u hu
  exact ⟨b, off, e, (hb.cell (p := ⟨b, off + i, none⟩) (lt_of_cell hc)).trans hc⟩⟩
theorem CellsR.of_own {w : World} {base n c : Nat} {e : TypeId} {a : Option Addr} {xs : List Value} (h : w.ownsRow base e 1 (.slice a n c) n xs) : CellsR w a c xs := by
  have hl := h.1
  rcases h.2 with ⟨hv, h0⟩ | ⟨g, cap, cur, hv, hg, hh, hc1, hc2, hc3, hc4⟩
  · have : xs = [] := List.eq_nil_of_length_eq_zero (by omega)
    subst this
    cases hv
    exact ⟨Nat.zero_le _, fun _ => rfl, fun i u hu => by simp at hu⟩
  · cases hv
    refine ⟨by omega, (fun q => by cases q), fun i u hu => ⟨g, 0, rfl, ?_⟩⟩
    have hi : i < xs.length := by
      rcases Nat.lt_or_ge i xs.length with q | q
      · exact q
      · rw [List.getElem?_eq_none q] at hu; cases hu
    rw [Nat.zero_add, h.cellAt i (by omega)]
    exact hu
theorem CellsR.of_row {w : World} {a : Option Addr} {c : Nat} {l : List Int} (h : RowI w a c l) : CellsR w a c (l.map (Value.int .i64)) := ⟨by rw [List.length_map]; exact h.cap, h.nil, fun i u hu => by
  rw [List.getElem?_map] at hu
  have hi : i < l.length := by
    rcases Nat.lt_or_ge i l.length with q | q
    · exact q
    · rw [List.getElem?_eq_none q] at hu; cases hu
  obtain ⟨b, off, e, hc⟩ := h.at hi
  refine ⟨b, off, e, ?_⟩
  rw [hc, ← hu]
  simp [List.getD_eq_getElem?_getD, List.getElem?_eq_getElem hi]⟩
/-- append of what is read to one's own row. -/
theorem app_cells {w : World} {ops : Array Oper} {rest : List Oper} {o : Oper} {a : Act} {Q : Exit → Act → World → Prop} (T e : TypeId) {z : Value} {by_ : Nat} (hT : Try.prog.underlying T = some (.slice e)) (hI : (Try.prog.info? e).map (fun i => (i.zero, i.size, i.bytes)) = some (some z, 1, by_)) (hzs : z.cells.size = 1) (hby : by_ ≤ 1000) (hgd : o.guard = none) (s x : Operand)
    (ho : o.op = .call { callee := .builtin .append, args := #[s, x], argTypes := #[T, T] }) (base : Nat) (v : Value) (n : Nat) (xs : List Value) (hs : a.eval s = v) (hown : w.ownsRow base e 1 v n xs)
    (ao : Option Addr) (c m : Nat) (news : List Value) (hx : a.eval x = .slice ao m c) (hm : m = news.length) (hr : CellsR w ao c news) (h1 : ∀ u ∈ news, u.oneCell' = true) (hb : n + news.length ≤ 1000000) (hbase : base ≤ w.heap.size)
    (h : ∀ v' w', w'.ownsRow base e 1 v' (n + news.length) (xs ++ news) → w.grownBy w' v.ownBlock → (v'.ownBlock = v.ownBlock ∨ v'.ownBlock = some w.heap.size) → wpList Try.prog ops Q rest (a.put o.dst v') w') : wpList Try.prog ops Q (o :: rest) a w := by
  obtain ⟨i0, hi, hz0, hz1, hz2⟩ := info_parts hI
  subst hm
  cases ao with
  | none =>
    have hr0 : news = [] := by
      cases news with
      | nil => rfl
      | cons y r => obtain ⟨b, off, e', _⟩ := hr.at_ 0 y rfl; cases e'
    subst hr0
    have hc : c = 0 := hr.nil rfl
    subst hc
    exact wpList_append_own_none hgd s x T ho base e i0 1 hT hi v n xs hs hown hx (h v w (by simpa using hown) ⟨rfl, rfl, rfl, Nat.le_refl _, fun _ _ _ => rfl⟩ (.inl rfl))
  | some ad =>
    refine wpList_append_own_at w hgd s x T ho base e i0 z 1 by_ hT hi hz0 hz1 hz2 hzs (by decide) v n xs hs hown ad news.length c news hx (by simp) ?_ h1 (by unfold maxLen; omega) ?_ hbase ?_
    · intro j u hu
      obtain ⟨b, off, hab, hc⟩ := hr.at_ j u hu
      obtain rfl := Option.some.inj hab
      rw [Addr.add_lit, hc]
    · exact Nat.le_trans (Nat.mul_le_mul hb hby) (by decide)
    · intro v' w' hown' hgrow _ hat
      exact h v' w' hown' hgrow hat
/-- A slice value. -/
structure SL where
  a : Option Addr
  n : Nat
  c : Nat
abbrev SL.v (s : SL) : Value := .slice s.a s.n s.c
/-- Lists, each read at a slice. -/
def ReadR (w : World) (ds : List SL) (ls : List (List Int)) : Prop := ds.length = ls.length ∧ ∀ (i : Nat) (d : SL) (l : List Int), ds[i]? = some d → ls[i]? = some l → d.n = l.length ∧ RowI w d.a d.c l
section
variable {w w' : World} {ds : List SL} {ls : List (List Int)}
theorem ReadR.keep (h : ReadR w ds ls) (hb : Below w.heap.size w w') : ReadR w' ds ls := ⟨h.1, fun i d l h1 h2 => ⟨(h.2 i d l h1 h2).1, (h.2 i d l h1 h2).2.keep hb⟩⟩
theorem ReadR.set (h : ReadR w ds ls) {d : SL} {l : List Int} (hn : d.n = l.length) (hr : RowI w d.a d.c l) (k : Nat) : ReadR w (ds.set k d) (ls.set k l) := by
  refine ⟨by rw [List.length_set, List.length_set]; exact h.1, fun i d' l' h1 h2 => ?_⟩
  rw [List.getElem?_set] at h1 h2
  by_cases e : k = i
  · rw [if_pos e] at h1 h2
    split at h1
    · split at h2
      · cases h1; cases h2; exact ⟨hn, hr⟩
      · cases h2
    · cases h1
  · rw [if_neg e] at h1 h2
    exact h.2 i d' l' h1 h2
theorem ReadR.get (h : ReadR w ds ls) {k : Nat} {l : List Int} (hk : ls[k]? = some l) : ∃ d, ds[k]? = some d ∧ d.n = l.length ∧ RowI w d.a d.c l := by
  have hlt : k < ds.length := by
    rw [h.1]
    rcases Nat.lt_or_ge k ls.length with q | q
    · exact q
    · rw [List.getElem?_eq_none q] at hk; cases hk
  exact ⟨ds[k], List.getElem?_eq_getElem hlt, h.2 k _ l (List.getElem?_eq_getElem hlt) hk⟩
end
end Go.Proofs.Ytkjdjmcecjaolaa.Own
