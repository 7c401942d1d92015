/- What a loop over a function keeps: boxes of variables, and one of them that holds a row of the call's own. -/
import Derived.Test.YtfoggnfemcnolaaMem
import Derived.RangeFuncBox
import Derived.RangeFuncNested
namespace Go.Proofs.Ytfoggnfemcnolaa.Sets
open Go.RowKit Go.Proofs.Ytfoggnfemcnolaa.Mem
set_option linter.unusedVariables false
set_option linter.unusedSimpArgs false

structure LI {α : Type} (e tP : TypeId) (enc : α → Value) (w : World) (bs : List (Nat × TypeId × Value)) (P : Nat) (v : Value) (l : List α) (W : World) : Prop where
  boxes : ∀ p ∈ bs, Boxed W p.1 p.2.1 p.2.2 ∧ p.2.1 ≠ e ∧ p.1 ≠ P
  box : Boxed W P tP v
  own : W.ownsRow w.heap.size e 1 v l.length (l.map enc)
  ne : tP ≠ e
  ge : w.heap.size ≤ P
  below : Below w.heap.size w W
section
variable {α : Type} {e tP : TypeId} {enc : α → Value} {w W W' : World} {bs : List (Nat × TypeId × Value)} {P : Nat} {v : Value} {l : List α}
theorem boxed_below {B : Nat} {t : TypeId} {u : Value} (h : Boxed W B t u) (hb : Below W.heap.size W W') : Boxed W' B t u := (hb.block B h.lt).trans h
theorem boxed_turn {B : Nat} {t : TypeId} {u : Value} {row : Option Nat} (h : Boxed W B t u) (hg : W.grownBy W' row) (hr : ∀ r, row = some r → ∃ o : Obj, W.heap[r]? = some o ∧ o.isCells = false) : Boxed W' B t u :=
  h.kept hg (fun e' => by obtain ⟨o, ho, hc⟩ := hr B e'.symm; rw [show W.heap[B]? = _ from h] at ho; cases ho; cases hc)
theorem owns_turn {base : Nat} {n : Nat} {xs : List Value} {row : Option Nat} (h : W.ownsRow base e 1 v n xs) (hg : W.grownBy W' row) (hr : ∀ r, row = some r → ∃ o : Obj, W.heap[r]? = some o ∧ o.isCells = false) : W'.ownsRow base e 1 v n xs := by
  refine h.kept hg ?_
  rcases h.2 with ⟨rfl, _⟩ | ⟨g, cap, cur, rfl, _, hgb, _⟩
  · exact .inl rfl
  · refine .inr fun e' => ?_
    obtain ⟨o, ho, hc⟩ := hr g (by simpa [Value.ownBlock] using e'.symm)
    rw [hgb] at ho; cases ho; cases hc
theorem owns_below {base : Nat} {n : Nat} {xs : List Value} (h : W.ownsRow base e 1 v n xs) (hb : Below W.heap.size W W') : W'.ownsRow base e 1 v n xs := by
  refine ⟨h.1, ?_⟩
  rcases h.2 with hn | ⟨g, cap, cur, rfl, hg, hh, r⟩
  · exact .inl hn
  · have hlt : g < W.heap.size := by
      rcases Nat.lt_or_ge g W.heap.size with q | q
      · exact q
      · simp [Array.getElem?_eq_none q] at hh
    exact .inr ⟨g, cap, cur, rfl, hg, by rw [hb.block g hlt]; exact hh, r⟩
theorem keepsFrom_below (B : Nat) (hb : Below W.heap.size W W') : KeepsFrom B W W' := ⟨hb.size, fun k o _ hk _ => (hb.block k (Array.getElem?_eq_some_iff.1 hk).1).trans hk⟩
theorem LI.turn {B : Nat} {row : Option Nat} (h : LI e tP enc w bs P v l W) (hB : w.heap.size ≤ B) (hg : W.grownBy W' row) (hr : ∀ r, row = some r → B ≤ r ∧ ∃ o : Obj, W.heap[r]? = some o ∧ o.isCells = false) : LI e tP enc w bs P v l W' :=
  ⟨fun p hp => ⟨boxed_turn (h.boxes p hp).1 hg (fun r q => (hr r q).2), (h.boxes p hp).2⟩, boxed_turn h.box hg (fun r q => (hr r q).2), owns_turn h.own hg (fun r q => (hr r q).2), h.ne, h.ge, h.below.grown hg h.below.size (fun k q => Nat.le_trans hB (hr k q).1)⟩
theorem LI.keep (h : LI e tP enc w bs P v l W) (hb : Below W.heap.size W W') : LI e tP enc w bs P v l W' :=
  ⟨fun p hp => ⟨boxed_below (h.boxes p hp).1 hb, (h.boxes p hp).2⟩, boxed_below h.box hb, owns_below h.own hb, h.ne, h.ge, h.below.trans (hb.mono h.below.size)⟩
theorem LI.drewN (h : LI e tP enc w bs P v l W) (q : Nat) : LI e tP enc w bs P v l (W.drewN q) := h.keep ⟨rfl, rfl, rfl, Nat.le_refl _, fun _ _ => rfl⟩
theorem LI.alloc (h : LI e tP enc w bs P v l W) (o : Obj) : LI e tP enc w bs P v l (W.alloc o) := h.keep ((Below.refl _ _).alloc (Nat.le_refl _) _)
/-- A store into one of the other boxes. -/
theorem LI.store {B : Nat} {t : TypeId} {u : Value} (h : LI e tP enc w ((B, t, u) :: bs) P v l W) (hB : w.heap.size ≤ B) (hbs : ∀ p ∈ bs, p.1 ≠ B) (u' : Value) : LI e tP enc w ((B, t, u') :: bs) P v l (W.setCell ⟨B, 0, none⟩ u') := by
  have h0 := h.boxes (B, t, u) (by simp)
  refine ⟨fun p hp => ?_, h.box.other (Ne.symm h0.2.2) u', h.own.kept (grownBy_setCell' W B u') (.inr (h0.1.not_row h0.2.1 h.own).symm), h.ne, h.ge, h.below.setCell (p := ⟨B, 0, none⟩) hB u'⟩
  rcases List.mem_cons.1 hp with rfl | q
  · exact ⟨h0.1.set u', h0.2⟩
  · have h1 := h.boxes p (List.mem_cons_of_mem _ q)
    exact ⟨h1.1.other (hbs p q) u', h1.2⟩
/-- The row's box behind an append, and behind the store of what it gave. -/
theorem LI.push {W1 : World} {v' : Value} {m : Nat} {ys : List Value} {l' : List α} {tmp : Obj} (h : LI e tP enc w bs P v l W) (hown : W1.ownsRow w.heap.size e 1 v' m ys) (hm : m = l'.length) (hys : ys = l'.map enc) (hgrow : (W.alloc tmp).grownBy W1 v.ownBlock) :
    Boxed W1 P tP v ∧ LI e tP enc w bs P v' l' (W1.setCell ⟨P, 0, none⟩ v') ∧ KeepsOthers W (W1.setCell ⟨P, 0, none⟩ v') ∧ Below w.heap.size W (W1.setCell ⟨P, 0, none⟩ v') := by
  subst hm; subst hys
  obtain ⟨h1, h2, h3, h4, h5⟩ := h.box.appended h.ne h.own h.below.size h.ge hown hgrow
  refine ⟨h1, ⟨fun p hp => ?_, h2, h3, h.ne, h.ge, h.below.trans h5⟩, h4, h5⟩
  have hp' := h.boxes p hp
  exact ⟨((hp'.1.alloc tmp).kept hgrow (hp'.1.not_row hp'.2.1 h.own)).other hp'.2.2 v', hp'.2⟩
/-- .. with no block laid for what is appended. -/
theorem LI.push' {W1 : World} {v' : Value} {m : Nat} {ys : List Value} {l' : List α} (h : LI e tP enc w bs P v l W) (hown : W1.ownsRow w.heap.size e 1 v' m ys) (hm : m = l'.length) (hys : ys = l'.map enc) (hgrow : W.grownBy W1 v.ownBlock) (hB : ∀ b, v.ownBlock = some b → w.heap.size ≤ b) :
    Boxed W1 P tP v ∧ LI e tP enc w bs P v' l' (W1.setCell ⟨P, 0, none⟩ v') ∧ Below w.heap.size W (W1.setCell ⟨P, 0, none⟩ v') := by
  subst hm; subst hys
  have hv1 : Boxed W1 P tP v := h.box.kept hgrow (h.box.not_row h.ne h.own)
  have hb : Below w.heap.size W (W1.setCell ⟨P, 0, none⟩ v') := ((Below.refl w.heap.size W).grown hgrow h.below.size hB).setCell (p := ⟨P, 0, none⟩) h.ge v'
  refine ⟨hv1, ⟨fun p hp => ?_, hv1.set v', hown.kept (grownBy_setCell' W1 P v') (.inr (hv1.not_row h.ne hown).symm), h.ne, h.ge, h.below.trans hb⟩, hb⟩
  have hp' := h.boxes p hp
  exact ⟨(hp'.1.kept hgrow (hp'.1.not_row hp'.2.1 h.own)).other hp'.2.2 v', hp'.2⟩
end
end Go.Proofs.Ytfoggnfemcnolaa.Sets
