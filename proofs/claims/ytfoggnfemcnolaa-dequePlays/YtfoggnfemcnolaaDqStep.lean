/- The document's Pop and Steal, and a number put behind a row, for a law over a deque. -/
import Derived.Test.YtfoggnfemcnolaaDqWorks
import Derived.Test.YtfoggnfemcnolaaDqRef
namespace Go.Proofs.Ytfoggnfemcnolaa.DqI
open Go.RowKit Go.Proofs.Ytfoggnfemcnolaa.Dig Go.Proofs.Ytfoggnfemcnolaa.Mem Go.Proofs.Ytfoggnfemcnolaa.Dq
set_option linter.unusedVariables false
set_option linter.unusedSimpArgs false

section
variable {w wx w' : World} {b : Nat} {l l' : List Int} {rows rows' : List (Option Addr × Nat × List Int)} {cs cs' : List (Nat × Array Value)}
theorem rpopE {a : Option Addr} {c n : Nat} {m : List Int} {x : Int} (h : Hid (Env w b l rows cs wx)) (hr : (a, c, m ++ [x]) ∈ rows) (hn : n = m.length) (hl : n ≤ 100000) :
    Calls Try.prog 9 #[.slice a (n + 1) c] wx fun e w' => ∃ a' c', e = .returned (.tuple #[.slice a' n c', .int .i64 x, .bool true]) ∧ Hid (Env w b l ((a', c', m) :: rows) cs w') := by
  refine (rpop_last (h.out.row hr) hn hl).mono ?_
  rintro e w' ⟨⟨a', c', rfl, h1, h2⟩, hb⟩
  exact ⟨a', c', rfl, h.out.more hb h1 h2⟩
theorem rstealE {a : Option Addr} {c n : Nat} {m : List Int} {x : Int} (h : Hid (Env w b l rows cs wx)) (hr : (a, c, x :: m) ∈ rows) (hn : n = m.length) (hl : n ≤ 100000) :
    Calls Try.prog 11 #[.slice a (n + 1) c] wx fun e w' => ∃ a' c', e = .returned (.tuple #[.slice a' n c', .int .i64 x, .bool true]) ∧ Hid (Env w b l ((a', c', m) :: rows) cs w') := by
  refine (rsteal_first (h.out.row hr) hn hl).mono ?_
  rintro e w' ⟨⟨a', c', rfl, h1, h2⟩, hb⟩
  exact ⟨a', c', rfl, h.out.more hb h1 h2⟩
theorem rpopN (a : Option Addr) (c : Nat) (h : Hid (Env w b l rows cs wx)) : Calls Try.prog 9 #[.slice a 0 c] wx fun e w' => e = .returned (.tuple #[.slice a 0 c, .int .i64 0, .bool false]) ∧ Hid (Env w b l rows cs w') := by
  refine (rpop_nil a c wx).mono ?_
  rintro e w' ⟨rfl, rfl⟩
  exact ⟨rfl, h⟩
theorem rstealN (a : Option Addr) (c : Nat) (h : Hid (Env w b l rows cs wx)) : Calls Try.prog 11 #[.slice a 0 c] wx fun e w' => e = .returned (.tuple #[.slice a 0 c, .int .i64 0, .bool false]) ∧ Hid (Env w b l rows cs w') := by
  refine (rsteal_nil a c wx).mono ?_
  rintro e w' ⟨rfl, rfl⟩
  exact ⟨rfl, h⟩
end
/-- append of a row that is read, at a step of a region that draws: nothing else than the own row has turned. -/
theorem step_app_g {w : World} {ops : Array Oper} {o : Oper} {a : Act} {K : Act → World → Prop} {Q : Exit → Act → World → Prop} {E : Prop} (hgd : o.guard = none) (s x : Operand)
    (ho : o.op = .call { callee := .builtin .append, args := #[s, x], argTypes := #[25, 25] }) (base : Nat) (v : Value) (l : List Int) (hs : a.eval s = v) (hown : OwnI base w v l)
    (ao : Option Addr) (c m : Nat) (r : List Int) (hx : a.eval x = .slice ao m c) (hm : m = r.length) (hr : RowI w ao c r) (hb : l.length + r.length ≤ 1000000) (hbase : base ≤ w.heap.size)
    (h : ∀ v' w', OwnI base w' v' (l ++ r) → w.grownBy w' v.ownBlock → K (a.put o.dst v') w') :
    if Region.wanted o (yielded ops a.tmps) = true then Oper.wp Try.prog o a w K Q else E := by
  have hw : Region.wanted o (yielded ops a.tmps) = true := by simp [Region.wanted, hgd]
  rw [if_pos hw]
  obtain ⟨i0, hi, hz0, hz1, hz2⟩ := info_parts Try.infoInt
  subst hm
  cases ao with
  | none =>
    have hr0 : r = [] := by
      cases r with
      | nil => rfl
      | cons y r => obtain ⟨b, off, e', _⟩ := hr.at (i := 0) (by simp); cases e'
    subst hr0
    have hc : c = 0 := hr.nil rfl
    subst hc
    have hrun := run_append_owned_none (P := Try.prog) (w := w) base 25 o.type 3 i0 1 Try.underlying25 hi v l.length _ hown
    simp only [List.length_nil] at hx
    unfold Oper.wp
    simp [execOp, ho, resolve, invoke, builtin, hs, hx, hrun, Result.andThen]
    exact h v w (by simpa using hown) ⟨rfl, rfl, rfl, Nat.le_refl _, fun _ _ _ => rfl⟩
  | some ad =>
    refine wp_append_own w s x 25 ho base 3 i0 (.int .i64 0) 1 8 Try.underlying25 hi hz0 hz1 hz2 rfl (by decide) v l.length (l.map (Value.int .i64)) hs hown ad r.length c (r.map (Value.int .i64)) hx (by simp) ?_ ?_ (by unfold maxLen; omega) (by omega) hbase ?_
    · intro j u hu
      rw [List.getElem?_map] at hu
      have hj : j < r.length := by
        rcases Nat.lt_or_ge j r.length with q | q
        · exact q
        · rw [List.getElem?_eq_none q] at hu; simp at hu
      obtain ⟨b, off, hab, hc⟩ := hr.at hj
      obtain rfl := Option.some.inj hab
      rw [Addr.add_lit, hc, ← hu]
      simp [List.getD_eq_getElem?_getD, List.getElem?_eq_getElem hj]
    · intro u hu
      obtain ⟨n, _, rfl⟩ := List.mem_map.1 hu
      rfl
    · intro v' w' hown' hgrow _
      refine h v' w' ?_ hgrow
      unfold OwnI
      rw [List.length_append, List.map_append]
      exact hown'
/-- What is known of memory in the region: from W on nothing older has turned; the own row; the row of the one number, if it lies already. -/
structure StepK (W : World) (v : Value) (l : List Int) (wx : World) : Prop where
  own : OwnI W.heap.size wx v l
  below : Below W.heap.size W wx
theorem StepK.alloc {W : World} {v : Value} {l : List Int} {wx : World} (h : StepK W v l wx) (o : Obj) : StepK W v l (wx.alloc o) := ⟨owns_below h.own ((Below.refl _ _).alloc (Nat.le_refl _) _), h.below.alloc h.below.size _⟩
theorem StepK.next {W : World} {v v' : Value} {l l' : List Int} {wx wy : World} (h : StepK W v l wx) (ho : OwnI W.heap.size wy v' l') (hg : wx.grownBy wy v.ownBlock) : StepK W v' l' wy := ⟨ho, h.below.grown hg h.below.size (fun k hk => (World.ownsRow.lt h.own k hk).1)⟩
theorem rowi_grown {w w' : World} {a : Option Addr} {c : Nat} {l : List Int} {row : Option Nat} (h : RowI w a c l) (hg : w.grownBy w' row) (hn : ∀ x, a = some x → row ≠ some x.block) : RowI w' a c l :=
  ⟨h.cap, h.rd.only' (S := fun k => row = some k) ⟨hg.os, hg.tape, hg.output, hg.size, fun k hk hn => hg.block k hk (fun e => hn e.symm)⟩ (fun _ x ex q => hn x ex q), h.nil⟩
end Go.Proofs.Ytfoggnfemcnolaa.DqI
