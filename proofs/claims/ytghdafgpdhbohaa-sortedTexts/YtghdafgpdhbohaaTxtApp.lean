/- append of a row of texts to one of the call's own. -/
import Derived.Test.YtghdafgpdhbohaaTxtPart
import Derived.Test.YtghdafgpdhbohaaApp
namespace Go.Proofs.Ytghdafgpdhbohaa.SetsT
open Go.RowKit Go.Proofs.Ytghdafgpdhbohaa.Sets Go.Proofs.Ytghdafgpdhbohaa.Dig Go.Proofs.Ytghdafgpdhbohaa.Mem
set_option linter.unusedVariables false
set_option linter.unusedSimpArgs false

/-- A row of texts of the call's own. -/
def OwnT (base : Nat) (w : World) (v : Value) (l : List (List UInt8)) : Prop := w.ownsRow base 9 1 v l.length (l.map encStr)
theorem OwnT.empty {base b : Nat} {w : World} (hb : b = w.heap.size) (hB : base ≤ w.heap.size) : OwnT base (w.alloc (.cells #[] 9)) (.slice (some ⟨b, 0, none⟩) 0 0) [] := by
  subst hb
  exact World.ownsRow_made (e := 9) (size := 1) w #[] 0 hB (by unfold maxLen; omega) rfl
theorem OwnT.keep {base : Nat} {w w' : World} {v : Value} {l : List (List UInt8)} (h : OwnT base w v l) (hb : Below w.heap.size w w') : OwnT base w' v l := owns_below h hb
theorem OwnT.rows {w : World} {base : Nat} {v : Value} {l : List (List UInt8)} (h : OwnT base w v l) (hl : l.length ≤ 1000000000000) :
    ∃ a cap, v = .slice a l.length cap ∧ RowS w a cap l := by
  rcases h.2 with ⟨rfl, h0⟩ | ⟨g, cap, cur, rfl, _, _, h1, _, _, _⟩
  · exact ⟨none, 0, by rw [h0], by omega, hl, fun i hi => by omega, fun _ => rfl⟩
  · refine ⟨_, cap, rfl, h1, hl, fun i hi => ⟨g, 0, rfl, ?_⟩, fun e => (by cases e)⟩
    rw [Nat.zero_add, World.ownsRow.cellAt h i (by omega), List.getElem?_map, List.getD_eq_getElem?_getD, List.getElem?_eq_getElem hi]
    rfl
theorem wpList_wanted {w : World} {ops : Array Oper} {rest : List Oper} {o : Oper} {a : Act} {Q : Exit → Act → World → Prop} (hw : Region.wanted o (yielded ops a.tmps) = true) (h : o.wp Try.prog a w (wpList Try.prog ops Q rest) Q) : wpList Try.prog ops Q (o :: rest) a w := by
  unfold wpList
  rw [if_pos hw]
  exact .inl h
/-- .. of an operation that has a guard. -/
theorem app_rows_g {w w0 : World} {ops : Array Oper} {rest : List Oper} {o : Oper} {a : Act} {Q : Exit → Act → World → Prop} (hw : Region.wanted o (yielded ops a.tmps) = true) (s x : Operand)
    (ho : o.op = .call { callee := .builtin .append, args := #[s, x], argTypes := #[41, 41] }) (base : Nat) (v : Value) (l : List (List UInt8)) (hs : a.eval s = v) (hown : OwnT base w v l)
    (ao : Option Addr) (c m : Nat) (r : List (List UInt8)) (hx : a.eval x = .slice ao m c) (hm : m = r.length) (hr : RowS w ao c r) (hb : l.length + r.length ≤ 1000000) (hbase : base ≤ w.heap.size) (hbel : Below base w0 w)
    (h : ∀ v' w', OwnT base w' v' (l ++ r) → Below base w0 w' → w.heap.size ≤ w'.heap.size → wpList Try.prog ops Q rest (a.put o.dst v') w') : wpList Try.prog ops Q (o :: rest) a w := by
  obtain ⟨i0, hi, hz0, hz1, hz2⟩ := info_parts Try.infoSetStr
  subst hm
  refine wpList_wanted hw ?_
  cases ao with
  | none =>
    have hr0 : r = [] := by
      cases r with
      | nil => rfl
      | cons y r => obtain ⟨b, off, e', _⟩ := hr.at (i := 0) (by simp); cases e'
    subst hr0
    have hc : c = 0 := hr.nil rfl
    subst hc
    have hrun := run_append_owned_none (P := Try.prog) (w := w) base 41 o.type 9 i0 1 Try.underlying41 hi v l.length _ hown
    simp only [List.length_nil] at hx
    unfold Oper.wp
    simp [execOp, ho, resolve, invoke, builtin, hs, hx, hrun, Result.andThen]
    exact h v w (by simpa using hown) hbel (Nat.le_refl _)
  | some ad =>
    refine wp_append_own w s x 41 ho base 9 i0 (.string ByteArray.empty) 1 16 Try.underlying41 hi hz0 hz1 hz2 rfl (by decide) v l.length (l.map encStr) hs hown ad r.length c (r.map encStr) hx (by simp) ?_ ?_ (by unfold maxLen; omega) (by omega) hbase ?_
    · intro j u hu
      rw [List.getElem?_map] at hu
      have hj : j < r.length := by
        rcases Nat.lt_or_ge j r.length with q | q
        · exact q
        · rw [List.getElem?_eq_none q] at hu; simp at hu
      obtain ⟨b, off, hab, hc⟩ := hr.at hj
      obtain rfl := Option.some.inj hab
      rw [Addr.add_lit, hc, ← hu]
      simp [List.getD_eq_getElem?_getD, List.getElem?_eq_getElem hj]
    · intro u hu
      obtain ⟨n, _, rfl⟩ := List.mem_map.1 hu
      rfl
    · intro v' w' hown' hgrow _
      refine h v' w' ?_ (hbel.grown hgrow hbase (fun k hk => (World.ownsRow.lt hown k hk).1)) hgrow.size
      unfold OwnT
      rw [List.length_append, List.map_append]
      exact hown'
theorem app_rows {w w0 : World} {ops : Array Oper} {rest : List Oper} {o : Oper} {a : Act} {Q : Exit → Act → World → Prop} (hgd : o.guard = none) (s x : Operand)
    (ho : o.op = .call { callee := .builtin .append, args := #[s, x], argTypes := #[41, 41] }) (base : Nat) (v : Value) (l : List (List UInt8)) (hs : a.eval s = v) (hown : OwnT base w v l)
    (ao : Option Addr) (c m : Nat) (r : List (List UInt8)) (hx : a.eval x = .slice ao m c) (hm : m = r.length) (hr : RowS w ao c r) (hb : l.length + r.length ≤ 1000000) (hbase : base ≤ w.heap.size) (hbel : Below base w0 w)
    (h : ∀ v' w', OwnT base w' v' (l ++ r) → Below base w0 w' → w.heap.size ≤ w'.heap.size → wpList Try.prog ops Q rest (a.put o.dst v') w') : wpList Try.prog ops Q (o :: rest) a w :=
  app_rows_g (by simp [Region.wanted, hgd]) s x ho base v l hs hown ao c m r hx hm hr hb hbase hbel h
end Go.Proofs.Ytghdafgpdhbohaa.SetsT
