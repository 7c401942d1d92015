/- Joined out of the texts DqKeep, Things, OwnKit, SetPlain, PickPlain, in that order. -/
import Derived.Test.YtkjdjmcecjaolaaAll1
import Derived.RangeFuncBox
import Derived.RangeFuncNested
import Derived.Deep.RegionHeld
import Derived.Test.YtkjdjmcecjaolaaAll2
import Derived.Laws.AppendOwnNone
import Derived.Laws.OwnMore
import Derived.WalkKit
import Derived.Lib.SlicesCompact
/- What a loop over a function keeps: boxes of variables, and what was there; and where one block may turn. -/
namespace Go.Proofs.Ytkjdjmcecjaolaa.Dq
open Go.RowKit Go.Proofs.Ytkjdjmcecjaolaa.Mem
set_option linter.unusedVariables false
set_option linter.unusedSimpArgs false

/-- A block of cells, while one that is no cells turns. -/
theorem is_off {W V : World} {b : Nat} {cs : Array Value} (h : Is W b cs) {row : Option Nat} (hg : W.grownBy V row) (hr : ∀ r, row = some r → ∃ o : Obj, W.heap[r]? = some o ∧ o.isCells = false) : Is V b cs :=
  h.keep (S := fun k => row = some k) ⟨hg.os, hg.tape, hg.output, hg.size, fun k hk hn => hg.block k hk (fun e => hn e.symm)⟩ (fun q => by
    obtain ⟨T, hT⟩ := h
    obtain ⟨o, h1, h2⟩ := hr _ q
    rw [hT] at h1; cases h1; cases h2)
theorem only_off {S : Nat → Prop} {w W V : World} {B : Nat} (h : Only S w W) (hB : w.heap.size ≤ B) {row : Option Nat} (hg : W.grownBy V row) (hr : ∀ r, row = some r → B ≤ r ∧ ∃ o : Obj, W.heap[r]? = some o ∧ o.isCells = false) : Only S w V :=
  h.trans' (S' := fun k => row = some k) ⟨hg.os, hg.tape, hg.output, hg.size, fun k hk hn => hg.block k hk (fun e => hn e.symm)⟩ (fun i e => .inr (Nat.le_trans hB (hr i e).1))
/-- What a loop keeps that turns blocks of S. -/
structure Fo (S : Nat → Prop) (w : World) (bs : List (Nat × Array Value)) (W : World) : Prop where
  only : Only S w W
  boxes : ∀ r ∈ bs, Is W r.1 r.2
section
variable {S : Nat → Prop} {w W V : World} {bs bs' : List (Nat × Array Value)}
theorem Fo.start (S : Nat → Prop) (w : World) : Fo S w [] w := ⟨Only.refl _ _, by simp⟩
theorem Fo.cell (h : Fo S w bs W) {b : Nat} {c : Array Value} (hb : (b, c) ∈ bs) (i : Nat) {v : Value} (hv : c[i]? = some v) : W.cell? ⟨b, i, none⟩ = some v ∧ W.frozen? ⟨b, i, none⟩ = false := ⟨(h.boxes _ hb).cell i hv, (h.boxes _ hb).frozen i⟩
theorem Fo.one (h : Fo S w bs W) {b : Nat} {v : Value} (hb : (b, #[v]) ∈ bs) : W.cell? ⟨b, 0, none⟩ = some v ∧ W.frozen? ⟨b, 0, none⟩ = false := h.cell hb 0 rfl
theorem Fo.off {B : Nat} (h : Fo S w bs W) (hB : w.heap.size ≤ B) {row : Option Nat} (hg : W.grownBy V row) (hr : ∀ r, row = some r → B ≤ r ∧ ∃ o : Obj, W.heap[r]? = some o ∧ o.isCells = false) : Fo S w bs V :=
  ⟨only_off h.only hB hg hr, fun r hr' => is_off (h.boxes r hr') hg (fun q e => (hr q e).2)⟩
theorem Fo.keep (h : Fo S w bs W) (hb : Below W.heap.size W V) : Fo S w bs V := ⟨h.only.trans (Only.of_below hb), fun r hr => (h.boxes r hr).below hb⟩
theorem Fo.push (h : Fo S w bs W) (cs : Array Value) (T : TypeId) {b : Nat} (hb : b = W.heap.size) : Fo S w ((b, cs) :: bs) (W.alloc (.cells cs T)) :=
  ⟨h.only.alloc _, fun r hr => by
    rcases List.mem_cons.1 hr with rfl | q
    · exact Is.made W cs T hb
    · exact (h.boxes r q).alloc _⟩
theorem Fo.sub (h : Fo S w bs W) (hs : ∀ r ∈ bs', r ∈ bs) : Fo S w bs' W := ⟨h.only, fun r hr => h.boxes r (hs r hr)⟩
/-- A cell of a box is turned. -/
theorem Fo.set {b i : Nat} {c : Array Value} {u : Value} (h : Fo S w ((b, c) :: bs) W) (hb : S b ∨ w.heap.size ≤ b) (hn : ∀ r ∈ bs, r.1 ≠ b) : Fo S w ((b, c.setIfInBounds i u) :: bs) (W.setCell ⟨b, i, none⟩ u) :=
  ⟨h.only.setCell (p := ⟨b, i, none⟩) hb u, fun r hr => by
    rcases List.mem_cons.1 hr with rfl | q
    · exact (h.boxes (b, c) (by simp)).set i u
    · exact (h.boxes r (List.mem_cons_of_mem _ q)).other (p := ⟨b, i, none⟩) (Ne.symm (hn r q)) u⟩
theorem Fo.drewN (h : Fo S w bs W) (m : Nat) : Fo S w bs (W.drewN m) := ⟨h.only.drewN m, fun r hr => (h.boxes r hr).drewN m⟩
/-- From w on nothing older than B has turned. -/
theorem _root_.Go.Proofs.Ytkjdjmcecjaolaa.Mem.Only.of_below' {B : Nat} (h : Below B W V) : Only (fun k => B ≤ k) W V := ⟨h.os, h.tape, h.output, h.size, fun k hk hn => h.block k (Nat.lt_of_not_le hn)⟩
theorem keeps_below (B : Nat) (hb : Below W.heap.size W V) : KeepsFrom B W V := ⟨hb.size, fun k o _ hk _ => (hb.block k (Array.getElem?_eq_some_iff.1 hk).1).trans hk⟩
theorem below_of_drewN (m : Nat) : Below w.heap.size w (w.drewN m) := ⟨rfl, rfl, rfl, Nat.le_refl _, fun _ _ => rfl⟩
theorem grown_of_below (h : Below W.heap.size W V) : W.grownBy V none := ⟨h.os, h.tape, h.output, h.size, fun k hk _ => h.block k hk⟩
theorem abides {B : Nat} {J : List Int → World → Prop} (hJ : AbidesFrom B J) {s : List Int} (h : J s W) (hb : Below W.heap.size W V) : J s V := hJ s W V none h (grown_of_below hb) (fun q e => by cases e)
end
end Go.Proofs.Ytkjdjmcecjaolaa.Dq

/- What a law knows between two calls: things that it has made, no two of which share a block, each with what may turn it. -/
namespace Go.Proofs.Ytkjdjmcecjaolaa.Thing
open Go.RowKit Go.Proofs.Ytkjdjmcecjaolaa.Dig Go.Proofs.Ytkjdjmcecjaolaa.Mem Go.Proofs.Ytkjdjmcecjaolaa.Dq
set_option linter.unusedVariables false
set_option linter.unusedSimpArgs false

/-- A thing: what is so of the world, and the blocks that it hangs on. -/
structure Th where
  P : World → Prop
  F : Nat → Prop
  keep : ∀ {w w' : World} {S : Nat → Prop}, P w → Only S w w' → (∀ k, F k → ¬ S k) → P w'
  lt : ∀ {w : World}, P w → ∀ k, F k → k < w.heap.size
def Sep (x y : Th) : Prop := ∀ k, x.F k → ¬ y.F k
theorem Sep.symm {x y : Th} (h : Sep x y) : Sep y x := fun k h1 h2 => h k h2 h1
/-- From w on: nothing older has turned; the things are there, made since w, and share no block. -/
structure Kn (w : World) (ts : List Th) (wx : World) : Prop where
  below : Below w.heap.size w wx
  has : ∀ t ∈ ts, t.P wx ∧ ∀ k, t.F k → w.heap.size ≤ k
  sep : ts.Pairwise Sep
section
variable {w wx w' : World} {ts ts' : List Th} {t t' : Th}
theorem Kn.start (w : World) : Kn w [] w := ⟨Below.refl _ _, by simp, by simp⟩
theorem Kn.hd (h : Kn w (t :: ts) wx) : t.P wx := (h.has t (by simp)).1
theorem Kn.get (h : Kn w ts wx) (ht : t ∈ ts) : t.P wx := (h.has t ht).1
theorem Kn.keep (h : Kn w ts wx) (hb : Below wx.heap.size wx w') : Kn w ts w' :=
  ⟨h.below.trans (hb.mono h.below.size), fun t ht => ⟨t.keep (h.has t ht).1 (Only.of_below (S := fun _ => False) hb) (fun _ _ q => q), (h.has t ht).2⟩, h.sep⟩
theorem Kn.drewN (h : Kn w ts wx) (m : Nat) : Kn w ts (wx.drewN m) := h.keep (below_of_drewN m)
theorem Kn.sub (h : Kn w ts wx) (hs : ts'.Sublist ts) : Kn w ts' wx := ⟨h.below, fun t ht => h.has t (hs.subset ht), h.sep.sublist hs⟩
theorem Kn.perm (h : Kn w ts wx) (hs : ts.Perm ts') : Kn w ts' wx := ⟨h.below, fun t ht => h.has t (hs.mem_iff.2 ht), (hs.pairwise_iff (fun {a b} q => Sep.symm q)).1 h.sep⟩
theorem Kn.swap {a b : Th} (h : Kn w (a :: b :: ts) wx) : Kn w (b :: a :: ts) wx := h.perm (List.Perm.swap b a ts)
theorem Kn.tail (h : Kn w (t :: ts) wx) : Kn w ts wx := h.sub (List.sublist_cons_self _ _)
/-- The first thing is turned. -/
theorem Kn.turn (h : Kn w (t :: ts) wx) (hp : t'.P w') (ho : Only t.F wx w') (hf : ∀ k, t'.F k → t.F k ∨ wx.heap.size ≤ k) : Kn w (t' :: ts) w' := by
  have hge := (h.has t (by simp)).2
  have hs := List.pairwise_cons.1 h.sep
  refine ⟨h.below.only ho hge h.below.size, fun x hx => ?_, List.pairwise_cons.2 ⟨fun x hx k h1 h2 => ?_, hs.2⟩⟩
  · rcases List.mem_cons.1 hx with rfl | q
    · refine ⟨hp, fun k hk => ?_⟩
      rcases hf k hk with q | q
      · exact hge k q
      · exact Nat.le_trans h.below.size q
    · exact ⟨x.keep (h.has x (List.mem_cons_of_mem _ q)).1 ho (fun k h1 h2 => hs.1 x q k h2 h1), (h.has x (List.mem_cons_of_mem _ q)).2⟩
  · rcases hf k h1 with q | q
    · exact hs.1 x hx k q h2
    · have := x.lt (h.has x (List.mem_cons_of_mem _ hx)).1 k h2
      omega
/-- One more, made meanwhile. -/
theorem Kn.more (h : Kn w ts wx) (hb : Below wx.heap.size wx w') (hp : t'.P w') (hf : ∀ k, t'.F k → wx.heap.size ≤ k) : Kn w (t' :: ts) w' := by
  have h' := h.keep hb
  refine ⟨h'.below, fun x hx => ?_, List.pairwise_cons.2 ⟨fun x hx k h1 h2 => ?_, h.sep⟩⟩
  · rcases List.mem_cons.1 hx with rfl | q
    · exact ⟨hp, fun k hk => Nat.le_trans h.below.size (hf k hk)⟩
    · exact h'.has x q
  · have := x.lt (h.has x hx).1 k h2
    have := hf k h1
    omega
/-- A thing seen otherwise. -/
theorem Kn.as (h : Kn w (t :: ts) wx) (hp : t.P wx → t'.P wx) (hf : ∀ k, t'.F k → t.F k) : Kn w (t' :: ts) wx :=
  h.turn (hp h.hd) (Only.refl _ _) (fun k q => .inl (hf k q))
end
/-- A row of numbers that is read. -/
def rowT (a : Option Addr) (c : Nat) (m : List Int) : Th where
  P w := RowI w a c m
  F k := 0 < m.length ∧ ∃ x, a = some x ∧ x.block = k
  keep h ho hs := ⟨h.cap, h.rd.only' ho (fun hl x e => hs x.block ⟨hl, x, e, rfl⟩), h.nil⟩
  lt h k hk := by
    obtain ⟨hl, x, e, rfl⟩ := hk
    exact Rd.lt h.rd hl x e
/-- A block of cells. -/
def boxT (b : Nat) (cs : Array Value) : Th where
  P w := Is w b cs
  F k := k = b
  keep h ho hs := h.keep ho (hs b rfl)
  lt h k hk := by cases hk; exact h.lt
/-- A row of the call's own. -/
def ownT (base : Nat) (e : TypeId) (v : Value) (n : Nat) (xs : List Value) : Th where
  P w := w.ownsRow base e 1 v n xs
  F k := v.ownBlock = some k
  keep {w w' S} h ho hs := by
    refine ⟨h.1, ?_⟩
    rcases h.2 with hn | ⟨g, cap, cur, rfl, hg, hh, r⟩
    · exact .inl hn
    · have hlt : g < w.heap.size := by
        rcases Nat.lt_or_ge g w.heap.size with q | q
        · exact q
        · simp [Array.getElem?_eq_none q] at hh
      exact .inr ⟨g, cap, cur, rfl, hg, by rw [ho.block g hlt (hs g rfl)]; exact hh, r⟩
  lt h k hk := (World.ownsRow.lt h k hk).2
end Go.Proofs.Ytkjdjmcecjaolaa.Thing

/- One's own rows, of elements of any size, as things: how they grow, how a cell is written, how they are read; boxes; things in a list. -/
namespace Go.Proofs.Ytkjdjmcecjaolaa.Own
open Go.RowKit Go.Proofs.Ytkjdjmcecjaolaa.Dig Go.Proofs.Ytkjdjmcecjaolaa.Mem Go.Proofs.Ytkjdjmcecjaolaa.Dq Go.Proofs.Ytkjdjmcecjaolaa.Thing
set_option linter.unusedVariables false
set_option linter.unusedSimpArgs false

theorem Try.infoI : (Try.prog.info? 3).map (fun i => (i.zero, i.size, i.bytes)) = some (some (.int .i64 0), 1, 8) := by kernel_rfl
theorem Try.infoIs : (Try.prog.info? 23).map (fun i => (i.zero, i.size, i.bytes)) = some (some (.slice none 0 0), 1, 24) := by kernel_rfl
/-- A row of the call's own, of elements of so many cells. -/
def ownN (base : Nat) (e : TypeId) (z : Nat) (v : Value) (n : Nat) (xs : List Value) : Th where
  P w := w.ownsRow base e z v n xs
  F k := v.ownBlock = some k
  keep {w w' S} h ho hs := by
    refine ⟨h.1, ?_⟩
    rcases h.2 with hn | ⟨g, cap, cur, rfl, hg, hh, r⟩
    · exact .inl hn
    · have hlt : g < w.heap.size := by
        rcases Nat.lt_or_ge g w.heap.size with q | q
        · exact q
        · simp [Array.getElem?_eq_none q] at hh
      exact .inr ⟨g, cap, cur, rfl, hg, by rw [ho.block g hlt (hs g rfl)]; exact hh, r⟩
  lt h k hk := (World.ownsRow.lt h k hk).2
section
variable {w w' wx W : World} {x y t t' : Th} {ts pre post ls : List Th} {base m m' z n c g k j : Nat} {e : TypeId} {v v' u : Value} {xs xs' : List Value}
theorem turnAt (h : Kn w (pre ++ t :: post) wx) (hp : t'.P w') (ho : Only t.F wx w') (hf : ∀ k, t'.F k → t.F k ∨ wx.heap.size ≤ k) : Kn w (pre ++ t' :: post) w' :=
  ((h.perm List.perm_middle).turn hp ho hf).perm List.perm_middle.symm
/-- One of a list of things is turned. -/
theorem split_at (hk : ls[k]? = some t) : ls = ls.take k ++ t :: ls.drop (k + 1) := by
  obtain ⟨h1, h2⟩ := List.getElem?_eq_some_iff.1 hk
  rw [← h2, List.getElem_cons_drop, List.take_append_drop]
theorem split_set (hk : ls[k]? = some t) : ls.set k t' = ls.take k ++ t' :: ls.drop (k + 1) := by
  rw [List.set_eq_take_append_cons_drop, if_pos (List.getElem?_eq_some_iff.1 hk).1]
theorem turnL (h : Kn w (pre ++ (ls ++ post)) wx) (hk : ls[k]? = some t) (hp : t'.P w') (ho : Only t.F wx w') (hf : ∀ k, t'.F k → t.F k ∨ wx.heap.size ≤ k) : Kn w (pre ++ (ls.set k t' ++ post)) w' := by
  rw [split_set hk]
  rw [split_at hk] at h
  have h2 : Kn w ((pre ++ ls.take k) ++ t :: (ls.drop (k + 1) ++ post)) wx := by simpa using h
  have h3 := turnAt h2 hp ho hf
  simpa using h3
theorem growAt (h : Kn w (pre ++ ownN base e z v m xs :: post) W) (ho : w'.ownsRow base e z v' m' xs') (hg : W.grownBy w' v.ownBlock) (hat : v'.ownBlock = v.ownBlock ∨ v'.ownBlock = some W.heap.size) :
    Kn w (pre ++ ownN base e z v' m' xs' :: post) w' :=
  turnAt (t := ownN base e z v m xs) (t' := ownN base e z v' m' xs') h ho ⟨hg.os, hg.tape, hg.output, hg.size, fun k hk hn => hg.block k hk (fun e => hn e.symm)⟩ (fun k hk => by
    have hk' : v'.ownBlock = some k := hk
    rcases hat with q | q
    · exact .inl (by show v.ownBlock = some k; rw [← q]; exact hk')
    · rw [q] at hk'
      exact .inr (Nat.le_of_eq (Option.some.inj hk')))
/-- One's own row, of which nothing is there yet. -/
theorem own0 (h : Kn w ts W) (T : TypeId) (z : Nat) (hb : base ≤ W.heap.size) (hg : g = W.heap.size) : Kn w (ownN base T z (.slice (some ⟨g, 0, none⟩) 0 0) 0 [] :: ts) (W.alloc (.cells #[] T)) := by
  subst hg
  exact h.more ((Below.refl _ _).alloc (Nat.le_refl _) _) (t' := ownN base T z (.slice (some ⟨W.heap.size, 0, none⟩) 0 0) 0 []) (World.ownsRow_made W #[] 0 hb (by unfold maxLen; omega) (by simp)) (fun k hk => by cases hk; exact Nat.le_refl _)
/-- .. that is nil. -/
theorem ownNil (h : Kn w ts W) (base : Nat) (T : TypeId) (z : Nat) : Kn w (ownN base T z (.slice none 0 0) 0 [] :: ts) W :=
  h.more (Below.refl _ _) (t' := ownN base T z (.slice none 0 0) 0 []) (World.ownsRow_nil _ _ _ _) (fun k hk => by cases hk)
/-- .. made with so many. -/
theorem ownMade (h : Kn w ts W) (cs : Array Value) (T : TypeId) (z : Nat) (hb : base ≤ W.heap.size) (hn : n ≤ maxLen) (hs : cs.size = n * z) (hg : g = W.heap.size) : Kn w (ownN base T z (.slice (some ⟨g, 0, none⟩) n n) n cs.toList :: ts) (W.alloc (.cells cs T)) := by
  subst hg
  exact h.more ((Below.refl _ _).alloc (Nat.le_refl _) _) (t' := ownN base T z (.slice (some ⟨W.heap.size, 0, none⟩) n n) n cs.toList) (World.ownsRow_lit W cs n hb hn hs) (fun k hk => by cases hk; exact Nat.le_refl _)
theorem box0 (h : Kn w ts W) (cs : Array Value) (T : TypeId) (hg : g = W.heap.size) : Kn w (boxT g cs :: ts) (W.alloc (.cells cs T)) :=
  h.more ((Below.refl _ _).alloc (Nat.le_refl _) _) (t' := boxT g cs) (Is.made _ _ _ hg) (fun k hk => by cases hk; exact Nat.le_of_eq hg.symm)
theorem putBox {b : Nat} {cs : Array Value} (h : Kn w (pre ++ boxT b cs :: post) W) (i : Nat) (u : Value) {cs' : Array Value} (hc : cs.setIfInBounds i u = cs') (hp : (boxT b cs).P W) : Kn w (pre ++ boxT b cs' :: post) (W.setCell ⟨b, i, none⟩ u) :=
  turnAt (t := boxT b cs) (t' := boxT b cs') h ((Is.set hp i u).eq hc) ((Only.refl _ _).put i _) (fun _ e => .inl e)
theorem Knget (h : Kn w (pre ++ t :: post) W) : t.P W := h.get (by simp)
theorem Knlt (h : Kn w (pre ++ t :: post) W) : ∀ k, t.F k → w.heap.size ≤ k := (h.has t (by simp)).2
/-- How one's own row is read. -/
theorem own_at (h : (ownN base e z v n xs).P W) (hj : xs[j]? = some u) : ∃ g c, v = .slice (some ⟨g, 0, none⟩) n c ∧ W.cell? ⟨g, j, none⟩ = some u ∧ W.frozen? ⟨g, j, none⟩ = false := by
  have hl := World.ownsRow.lt h
  rcases h.2 with ⟨hv, h0⟩ | ⟨g, cap, cur, hv, _⟩
  · have := h.1
    rw [h0, Nat.zero_mul] at this
    rw [List.eq_nil_of_length_eq_zero this] at hj
    cases hj
  · subst hv
    have hlt : j < xs.length := by
      rcases Nat.lt_or_ge j xs.length with q | q
      · exact q
      · rw [List.getElem?_eq_none q] at hj; cases hj
    refine ⟨g, cap, rfl, ?_, World.ownsRow.frozenAt h j⟩
    rw [World.ownsRow.cellAt h j (by rw [← h.1]; exact hlt)]
    exact hj
theorem own_form (h : (ownN base e z v n xs).P W) : ∃ a c, v = .slice a n c := by
  rcases h.2 with ⟨rfl, h0⟩ | ⟨g, cap, cur, rfl, _⟩
  · subst h0; exact ⟨_, _, rfl⟩
  · exact ⟨_, _, rfl⟩
theorem own_cap {a : Option Addr} (h : (ownN base e z (.slice a n c) n xs).P W) : n ≤ c ∧ c ≤ maxLen := by
  rcases h.2 with ⟨hv, h0⟩ | ⟨g, cap, cur, hv, _, _, h1, h2, _⟩
  · cases hv; exact ⟨Nat.le_refl _, by unfold maxLen; omega⟩
  · cases hv; exact ⟨h1, h2⟩
/-- A cell of one's own row is written. -/
theorem ownPut (h : Kn w (pre ++ ownN base e z (.slice (some ⟨g, 0, none⟩) n c) n xs :: post) W) (j : Nat) (u : Value) (hp : (ownN base e z (.slice (some ⟨g, 0, none⟩) n c) n xs).P W) : Kn w (pre ++ ownN base e z (.slice (some ⟨g, 0, none⟩) n c) n (xs.set j u) :: post) (W.setCell ⟨g, j, none⟩ u) := by
  obtain ⟨h1, h2⟩ := World.ownsRow.stored (show W.ownsRow base e z (.slice (some ⟨g, 0, none⟩) n c) n xs from hp) j u
  exact turnAt (t := ownN base e z (.slice (some ⟨g, 0, none⟩) n c) n xs) (t' := ownN base e z (.slice (some ⟨g, 0, none⟩) n c) n (xs.set j u)) h h1 ⟨h2.os, h2.tape, h2.output, h2.size, fun k hk hn => h2.block k hk (fun e => hn (by show _ = some k; rw [e]; rfl))⟩ (fun k hk => .inl hk)
theorem sep_of (h : Kn w (pre ++ t :: post) W) (hx : x ∈ post) : Sep t x := by
  have := (List.pairwise_append.1 h.sep).2.1
  exact (List.pairwise_cons.1 this).1 x hx
end
/-- A slice that reads values of one cell each. -/
structure CellsR (w : World) (a : Option Addr) (c : Nat) (xs : List Value) : Prop where
  cap : xs.length ≤ c
  nil : a = none → c = 0
  at_ : ∀ i u, xs[i]? = some u → ∃ b off, a = some ⟨b, off, none⟩ ∧ w.cell? ⟨b, off + i, none⟩ = some u
theorem CellsR.keep {w w' : World} {a : Option Addr} {c : Nat} {xs : List Value} (h : CellsR w a c xs) (hb : Below w.heap.size w w') : CellsR w' a c xs := ⟨h.cap, h.nil, fun i u hu => by
  obtain ⟨b, off, e, hc⟩ := h.at_ i u hu
  exact ⟨b, off, e, (hb.cell (p := ⟨b, off + i, none⟩) (lt_of_cell hc)).trans hc⟩⟩
theorem CellsR.of_own {w : World} {base n c : Nat} {e : TypeId} {a : Option Addr} {xs : List Value} (h : w.ownsRow base e 1 (.slice a n c) n xs) : CellsR w a c xs := by
  have hl := h.1
  rcases h.2 with ⟨hv, h0⟩ | ⟨g, cap, cur, hv, hg, hh, hc1, hc2, hc3, hc4⟩
  · have : xs = [] := List.eq_nil_of_length_eq_zero (by omega)
    subst this
    cases hv
    exact ⟨Nat.zero_le _, fun _ => rfl, fun i u hu => by simp at hu⟩
  · cases hv
    refine ⟨by omega, (fun q => by cases q), fun i u hu => ⟨g, 0, rfl, ?_⟩⟩
    have hi : i < xs.length := by
      rcases Nat.lt_or_ge i xs.length with q | q
      · exact q
      · rw [List.getElem?_eq_none q] at hu; cases hu
    rw [Nat.zero_add, h.cellAt i (by omega)]
    exact hu
theorem CellsR.of_row {w : World} {a : Option Addr} {c : Nat} {l : List Int} (h : RowI w a c l) : CellsR w a c (l.map (Value.int .i64)) := ⟨by rw [List.length_map]; exact h.cap, h.nil, fun i u hu => by
  rw [List.getElem?_map] at hu
  have hi : i < l.length := by
    rcases Nat.lt_or_ge i l.length with q | q
    · exact q
    · rw [List.getElem?_eq_none q] at hu; cases hu
  obtain ⟨b, off, e, hc⟩ := h.at hi
  refine ⟨b, off, e, ?_⟩
  rw [hc, ← hu]
  simp [List.getD_eq_getElem?_getD, List.getElem?_eq_getElem hi]⟩
/-- append of what is read to one's own row. -/
theorem app_cells {w : World} {ops : Array Oper} {rest : List Oper} {o : Oper} {a : Act} {Q : Exit → Act → World → Prop} (T e : TypeId) {z : Value} {by_ : Nat} (hT : Try.prog.underlying T = some (.slice e)) (hI : (Try.prog.info? e).map (fun i => (i.zero, i.size, i.bytes)) = some (some z, 1, by_)) (hzs : z.cells.size = 1) (hby : by_ ≤ 1000) (hgd : o.guard = none) (s x : Operand)
    (ho : o.op = .call { callee := .builtin .append, args := #[s, x], argTypes := #[T, T] }) (base : Nat) (v : Value) (n : Nat) (xs : List Value) (hs : a.eval s = v) (hown : w.ownsRow base e 1 v n xs)
    (ao : Option Addr) (c m : Nat) (news : List Value) (hx : a.eval x = .slice ao m c) (hm : m = news.length) (hr : CellsR w ao c news) (h1 : ∀ u ∈ news, u.oneCell' = true) (hb : n + news.length ≤ 1000000) (hbase : base ≤ w.heap.size)
    (h : ∀ v' w', w'.ownsRow base e 1 v' (n + news.length) (xs ++ news) → w.grownBy w' v.ownBlock → (v'.ownBlock = v.ownBlock ∨ v'.ownBlock = some w.heap.size) → wpList Try.prog ops Q rest (a.put o.dst v') w') : wpList Try.prog ops Q (o :: rest) a w := by
  obtain ⟨i0, hi, hz0, hz1, hz2⟩ := info_parts hI
  subst hm
  cases ao with
  | none =>
    have hr0 : news = [] := by
      cases news with
      | nil => rfl
      | cons y r => obtain ⟨b, off, e', _⟩ := hr.at_ 0 y rfl; cases e'
    subst hr0
    have hc : c = 0 := hr.nil rfl
    subst hc
    exact wpList_append_own_none hgd s x T ho base e i0 1 hT hi v n xs hs hown hx (h v w (by simpa using hown) ⟨rfl, rfl, rfl, Nat.le_refl _, fun _ _ _ => rfl⟩ (.inl rfl))
  | some ad =>
    refine wpList_append_own_at w hgd s x T ho base e i0 z 1 by_ hT hi hz0 hz1 hz2 hzs (by decide) v n xs hs hown ad news.length c news hx (by simp) ?_ h1 (by unfold maxLen; omega) ?_ hbase ?_
    · intro j u hu
      obtain ⟨b, off, hab, hc⟩ := hr.at_ j u hu
      obtain rfl := Option.some.inj hab
      rw [Addr.add_lit, hc]
    · exact Nat.le_trans (Nat.mul_le_mul hb hby) (by decide)
    · intro v' w' hown' hgrow _ hat
      exact h v' w' hown' hgrow hat
/-- A slice value. -/
structure SL where
  a : Option Addr
  n : Nat
  c : Nat
abbrev SL.v (s : SL) : Value := .slice s.a s.n s.c
/-- Lists, each read at a slice. -/
def ReadR (w : World) (ds : List SL) (ls : List (List Int)) : Prop := ds.length = ls.length ∧ ∀ (i : Nat) (d : SL) (l : List Int), ds[i]? = some d → ls[i]? = some l → d.n = l.length ∧ RowI w d.a d.c l
section
variable {w w' : World} {ds : List SL} {ls : List (List Int)}
theorem ReadR.keep (h : ReadR w ds ls) (hb : Below w.heap.size w w') : ReadR w' ds ls := ⟨h.1, fun i d l h1 h2 => ⟨(h.2 i d l h1 h2).1, (h.2 i d l h1 h2).2.keep hb⟩⟩
theorem ReadR.set (h : ReadR w ds ls) {d : SL} {l : List Int} (hn : d.n = l.length) (hr : RowI w d.a d.c l) (k : Nat) : ReadR w (ds.set k d) (ls.set k l) := by
  refine ⟨by rw [List.length_set, List.length_set]; exact h.1, fun i d' l' h1 h2 => ?_⟩
  rw [List.getElem?_set] at h1 h2
  by_cases e : k = i
  · rw [if_pos e] at h1 h2
    split at h1
    · split at h2
      · cases h1; cases h2; exact ⟨hn, hr⟩
      · cases h2
    · cases h1
  · rw [if_neg e] at h1 h2
    exact h.2 i d' l' h1 h2
theorem ReadR.get (h : ReadR w ds ls) {k : Nat} {l : List Int} (hk : ls[k]? = some l) : ∃ d, ds[k]? = some d ∧ d.n = l.length ∧ RowI w d.a d.c l := by
  have hlt : k < ds.length := by
    rw [h.1]
    rcases Nat.lt_or_ge k ls.length with q | q
    · exact q
    · rw [List.getElem?_eq_none q] at hk; cases hk
  exact ⟨ds[k], List.getElem?_eq_getElem hlt, h.2 k _ l (List.getElem?_eq_getElem hlt) hk⟩
end
end Go.Proofs.Ytkjdjmcecjaolaa.Own

/- Plain mathematics of sets as rising lists: the set of a list, two sets together, what is in both or in the one alone, and how two lists stand. It imports nothing of the program. -/
namespace Go.Proofs.Ytkjdjmcecjaolaa.Sets
set_option linter.unusedVariables false
set_option linter.unusedSimpArgs false

/-- A strict total order. -/
structure Tot {α : Type} (lt : α → α → Bool) : Prop where
  irr : ∀ x, lt x x = false
  tr : ∀ x y z, lt x y = true → lt y z = true → lt x z = true
  tot : ∀ x y, lt x y = false → lt y x = false → x = y
def ltI (x y : Int) : Bool := decide (x < y)
def ltS (x y : List UInt8) : Bool := decide (x < y)
theorem totI : Tot ltI := ⟨fun x => by simp [ltI], fun x y z h1 h2 => by simp [ltI] at *; omega, fun x y h1 h2 => by simp [ltI] at *; omega⟩
theorem totS : Tot ltS := ⟨fun x => by simp [ltS, List.lt_irrefl], fun x y z h1 h2 => by simp only [ltS, decide_eq_true_eq] at *; exact List.lt_trans h1 h2, fun x y h1 h2 => by
  simp only [ltS, decide_eq_false_iff_not] at *
  exact List.le_antisymm (List.not_lt.1 h2) (List.not_lt.1 h1)⟩

section
variable {α : Type} {lt : α → α → Bool}
def Rising (lt : α → α → Bool) (l : List α) : Prop := l.Pairwise fun x y => lt x y = true
theorem Rising.nil : Rising lt [] := List.Pairwise.nil
theorem rising_cons {x : α} {l : List α} : Rising lt (x :: l) ↔ (∀ y ∈ l, lt x y = true) ∧ Rising lt l := List.pairwise_cons
theorem rising_append {l m : List α} : Rising lt (l ++ m) ↔ Rising lt l ∧ Rising lt m ∧ ∀ x ∈ l, ∀ y ∈ m, lt x y = true := List.pairwise_append
theorem Rising.sub {l m : List α} (h : Rising lt m) (s : l.Sublist m) : Rising lt l := List.Pairwise.sublist s h
theorem Tot.asym (T : Tot lt) {x y : α} (h : lt x y = true) : lt y x = false := by
  cases e : lt y x with
  | false => rfl
  | true => rw [← T.irr x, T.tr x y x h e]
theorem Tot.neq (T : Tot lt) {x y : α} (h : lt x y = true) : x ≠ y := fun e => by subst e; rw [T.irr] at h; cases h
theorem Tot.neg_tr (T : Tot lt) {x y z : α} (h : lt x y = true) (k : lt z y = false) : lt x z = true := by
  cases e : lt y z with
  | true => exact T.tr _ _ _ h e
  | false => rw [← T.tot _ _ e k]; exact h

/-- Two rising lists of the same things are one. -/
theorem rising_eq (T : Tot lt) : ∀ {s t : List α}, Rising lt s → Rising lt t → (∀ x, x ∈ s ↔ x ∈ t) → s = t
  | [], [], _, _, _ => rfl
  | [], y :: t, _, _, h => by have := (h y).2 (by simp); simp at this
  | x :: s, [], _, _, h => by have := (h x).1 (by simp); simp at this
  | x :: s, y :: t, hs, ht, h => by
    obtain ⟨hx, hs'⟩ := rising_cons.1 hs
    obtain ⟨hy, ht'⟩ := rising_cons.1 ht
    have e : x = y := by
      have h1 := (h x).1 (by simp)
      have h2 := (h y).2 (by simp)
      rcases List.mem_cons.1 h1 with e | h1
      · exact e
      rcases List.mem_cons.1 h2 with e | h2
      · exact e.symm
      have a := hy x h1
      rw [T.asym (hx y h2)] at a
      cases a
    subst e
    rw [rising_eq T hs' ht' fun z => ⟨fun hz => ?_, fun hz => ?_⟩]
    · rcases List.mem_cons.1 ((h z).1 (List.mem_cons_of_mem _ hz)) with e | q
      · subst e; exact absurd rfl (T.neq (hx z hz))
      · exact q
    · rcases List.mem_cons.1 ((h z).2 (List.mem_cons_of_mem _ hz)) with e | q
      · subst e; exact absurd rfl (T.neq (hy z hz))
      · exact q

/-- The set of a list. -/
def ins (lt : α → α → Bool) (x : α) : List α → List α
  | [] => [x]
  | y :: l => if lt x y then x :: y :: l else if lt y x then y :: ins lt x l else y :: l
def setL (lt : α → α → Bool) : List α → List α
  | [] => []
  | x :: l => ins lt x (setL lt l)
theorem mem_ins (T : Tot lt) (x : α) : ∀ (l : List α) (z : α), z ∈ ins lt x l ↔ z = x ∨ z ∈ l
  | [], z => by simp [ins]
  | y :: l, z => by
    unfold ins
    cases h1 : lt x y with
    | true => simp
    | false =>
      cases h2 : lt y x with
      | true => simp [mem_ins T x l z]; constructor <;> (intro h; rcases h with h | h | h <;> simp [h])
      | false => have := T.tot x y h1 h2; subst this; simp
theorem rising_ins (T : Tot lt) (x : α) : ∀ {l : List α}, Rising lt l → Rising lt (ins lt x l)
  | [], _ => by simp [ins, Rising]
  | y :: l, h => by
    obtain ⟨hy, hl⟩ := rising_cons.1 h
    unfold ins
    cases h1 : lt x y with
    | true => exact rising_cons.2 ⟨fun z hz => (List.mem_cons.1 hz).elim (fun e => e ▸ h1) (fun q => T.tr _ _ _ h1 (hy z q)), h⟩
    | false =>
      cases h2 : lt y x with
      | true =>
        refine rising_cons.2 ⟨fun z hz => ?_, rising_ins T x hl⟩
        rcases (mem_ins T x l z).1 hz with e | q
        · exact e ▸ h2
        · exact hy z q
      | false => exact h
theorem mem_setL (T : Tot lt) : ∀ (l : List α) (z : α), z ∈ setL lt l ↔ z ∈ l
  | [], z => by simp [setL]
  | x :: l, z => by simp [setL, mem_ins T, mem_setL T l]
theorem rising_setL (T : Tot lt) : ∀ l : List α, Rising lt (setL lt l)
  | [] => Rising.nil
  | x :: l => rising_ins T x (rising_setL T l)
theorem setL_unique (T : Tot lt) {s l : List α} (h : Rising lt s) (k : ∀ x, x ∈ s ↔ x ∈ l) : s = setL lt l := rising_eq T h (rising_setL T l) fun x => by rw [k, mem_setL T]
theorem setL_congr (T : Tot lt) {l m : List α} (k : ∀ x, x ∈ l ↔ x ∈ m) : setL lt l = setL lt m := setL_unique T (rising_setL T l) fun x => by rw [mem_setL T, k]
theorem setL_rising (T : Tot lt) {s : List α} (h : Rising lt s) : setL lt s = s := (setL_unique T h fun _ => Iff.rfl).symm
theorem ins_length (x : α) : ∀ l : List α, (ins lt x l).length ≤ l.length + 1
  | [] => by simp [ins]
  | y :: l => by
    unfold ins
    have := ins_length x l
    split
    · simp
    · split
      · simp; omega
      · simp
theorem setL_length : ∀ l : List α, (setL lt l).length ≤ l.length
  | [] => by simp [setL]
  | x :: l => by have := ins_length (lt := lt) x (setL lt l); have := setL_length l; simp [setL]; omega

/-- Two sets together, as the program goes about it: one thing of the first laid in ahead of what is left of the second. -/
def orIn (lt : α → α → Bool) (x : α) : List α → List α → List α × List α
  | l, [] => (l ++ [x], [])
  | l, r :: rest => if lt r x then orIn lt x (l ++ [r]) rest else if lt x r then (l ++ [x], r :: rest) else (l ++ [x], rest)
def orS (lt : α → α → Bool) (t pre : List α) : List α × List α := pre.foldl (fun p x => orIn lt x p.1 p.2) ([], t)
def orL (lt : α → α → Bool) (s t : List α) : List α := (orS lt t s).1 ++ (orS lt t s).2
theorem orS_snoc (t pre : List α) (x : α) : orS lt t (pre ++ [x]) = orIn lt x (orS lt t pre).1 (orS lt t pre).2 := by simp [orS]
theorem orIn_length (x : α) : ∀ (rest l : List α), (orIn lt x l rest).1.length + (orIn lt x l rest).2.length ≤ l.length + rest.length + 1
  | [], l => by simp [orIn]
  | r :: rest, l => by
    unfold orIn
    have := orIn_length x rest (l ++ [r])
    simp at this
    split
    · simp; omega
    · split <;> simp <;> omega
theorem orS_length (t : List α) : ∀ pre : List α, (orS lt t pre).1.length + (orS lt t pre).2.length ≤ pre.length + t.length := by
  intro pre
  induction h : pre.length generalizing pre with
  | zero => obtain rfl : pre = [] := List.eq_nil_of_length_eq_zero h; simp [orS]
  | succ n ih =>
    rcases List.eq_nil_or_concat pre with rfl | ⟨q, x, rfl⟩
    · simp at h
    · rw [List.concat_eq_append] at h ⊢
      have hq : q.length = n := by simpa using h
      have := ih q hq
      have := orIn_length (lt := lt) x (orS lt t q).2 (orS lt t q).1
      rw [orS_snoc]
      omega
structure OrOk (lt : α → α → Bool) (l rest : List α) : Prop where
  one : Rising lt l
  two : Rising lt rest
  less : ∀ y ∈ l, ∀ z ∈ rest, lt y z = true
theorem orIn_ok (T : Tot lt) (x : α) : ∀ (rest l : List α), OrOk lt l rest → (∀ y ∈ l, lt y x = true) →
    OrOk lt (orIn lt x l rest).1 (orIn lt x l rest).2 ∧ (∀ y ∈ (orIn lt x l rest).1, y = x ∨ lt y x = true) ∧ ∀ z, (z ∈ (orIn lt x l rest).1 ∨ z ∈ (orIn lt x l rest).2) ↔ z = x ∨ z ∈ l ∨ z ∈ rest
  | [], l, h, hx => by
    refine ⟨⟨rising_append.2 ⟨h.one, by simp [Rising], fun y hy z hz => by simp at hz; subst hz; exact hx y hy⟩, Rising.nil, fun y _ z hz => by simp [orIn] at hz⟩, ?_, ?_⟩
    · intro y hy; simp [orIn] at hy; rcases hy with q | q
      · exact .inr (hx y q)
      · exact .inl q
    · intro z; simp [orIn]; constructor <;> (intro q; rcases q with q | q <;> simp [q])
  | r :: rest, l, h, hx => by
    obtain ⟨hr, hrest⟩ := rising_cons.1 h.two
    unfold orIn
    cases h1 : lt r x with
    | true =>
      have := orIn_ok T x rest (l ++ [r]) ⟨rising_append.2 ⟨h.one, by simp [Rising], fun y hy z hz => by simp at hz; subst hz; exact h.less y hy _ (by simp)⟩, hrest, fun y hy z hz => by
        rcases List.mem_append.1 hy with q | q
        · exact h.less y q z (by simp [hz])
        · simp at q; subst q; exact hr z hz⟩ (fun y hy => by
        rcases List.mem_append.1 hy with q | q
        · exact hx y q
        · simp at q; subst q; exact h1)
      simp only [if_true]
      refine ⟨this.1, this.2.1, fun z => ?_⟩
      rw [this.2.2 z]
      simp only [List.mem_append, List.mem_cons, List.not_mem_nil, or_false]
      grind
    | false =>
      have hxr : ∀ z ∈ rest, lt x z = true := fun z hz => by
        cases e : lt x r with
        | true => exact T.tr _ _ _ e (hr z hz)
        | false => rw [T.tot x r e h1]; exact hr z hz
      cases h2 : lt x r with
      | true =>
        simp only [if_true, Bool.false_eq_true, if_false]
        refine ⟨⟨rising_append.2 ⟨h.one, by simp [Rising], fun y hy z hz => by simp at hz; subst hz; exact hx y hy⟩, h.two, fun y hy z hz => ?_⟩, fun y hy => ?_, fun z => ?_⟩
        · have xz : lt x z = true := (List.mem_cons.1 hz).elim (fun e => e ▸ h2) (fun q => hxr z q)
          rcases List.mem_append.1 hy with q | q
          · exact T.tr _ _ _ (hx y q) xz
          · simp at q; subst q; exact xz
        · rcases List.mem_append.1 hy with q | q
          · exact .inr (hx y q)
          · simp at q; exact .inl q
        · simp only [List.mem_append, List.mem_cons, List.not_mem_nil, or_false]
          grind
      | false =>
        have e := T.tot x r h2 h1
        subst e
        simp only [Bool.false_eq_true, if_false]
        refine ⟨⟨rising_append.2 ⟨h.one, by simp [Rising], fun y hy z hz => by simp at hz; subst hz; exact hx y hy⟩, hrest, fun y hy z hz => ?_⟩, fun y hy => ?_, fun z => ?_⟩
        · rcases List.mem_append.1 hy with q | q
          · exact T.tr _ _ _ (hx y q) (hxr z hz)
          · simp at q; subst q; exact hxr z hz
        · rcases List.mem_append.1 hy with q | q
          · exact .inr (hx y q)
          · simp at q; exact .inl q
        · simp only [List.mem_append, List.mem_cons, List.not_mem_nil, or_false]
          grind
theorem orS_ok (T : Tot lt) (t : List α) (ht : Rising lt t) : ∀ (s pre : List α), Rising lt s → OrOk lt (orS lt t pre).1 (orS lt t pre).2 → (∀ y ∈ (orS lt t pre).1, ∀ z ∈ s, lt y z = true) → (∀ z, (z ∈ (orS lt t pre).1 ∨ z ∈ (orS lt t pre).2) ↔ z ∈ pre ∨ z ∈ t) →
    OrOk lt (orS lt t (pre ++ s)).1 (orS lt t (pre ++ s)).2 ∧ ∀ z, (z ∈ (orS lt t (pre ++ s)).1 ∨ z ∈ (orS lt t (pre ++ s)).2) ↔ z ∈ pre ++ s ∨ z ∈ t
  | [], pre, _, h, _, hm => by rw [List.append_nil]; exact ⟨h, hm⟩
  | x :: s, pre, hs, h, hl, hm => by
    obtain ⟨hx, hs'⟩ := rising_cons.1 hs
    obtain ⟨g1, g2, g3⟩ := orIn_ok T x _ _ h (fun y hy => hl y hy x (by simp))
    rw [← orS_snoc] at g1 g2 g3
    have := orS_ok T t ht s (pre ++ [x]) hs' g1 (fun y hy z hz => (g2 y hy).elim (fun e => e ▸ hx z hz) (fun q => T.tr _ _ _ q (hx z hz))) (fun z => by
      rw [g3 z, or_congr Iff.rfl (hm z)]
      simp only [List.mem_append, List.mem_cons, List.not_mem_nil, or_false]
      grind)
    rw [List.append_assoc] at this
    exact this
/-- Two sets, gone through together, are the set of both lists. -/
theorem orL_eq (T : Tot lt) {s t : List α} (hs : Rising lt s) (ht : Rising lt t) : orL lt s t = setL lt (s ++ t) := by
  obtain ⟨g, m⟩ := orS_ok T t ht s [] hs ⟨Rising.nil, ht, fun y hy => by simp [orS] at hy⟩ (fun y hy => by simp [orS] at hy) (fun z => by simp [orS])
  rw [List.nil_append] at g m
  refine setL_unique T (rising_append.2 ⟨g.one, g.two, g.less⟩) fun z => ?_
  rw [orL, List.mem_append, m z, List.mem_append]
/-- A part of a set is a set. -/
theorem rising_filter {s : List α} (h : Rising lt s) (p : α → Bool) : Rising lt (s.filter p) := h.sub List.filter_sublist
/-- What of a set is not below something. -/
theorem drop_count (T : Tot lt) (x : α) : ∀ {s : List α}, Rising lt s → s.drop (s.countP fun y => lt y x) = s.dropWhile fun y => lt y x
  | [], _ => by simp
  | y :: s, h => by
    obtain ⟨hy, hs⟩ := rising_cons.1 h
    cases e : lt y x with
    | true => rw [List.countP_cons_of_pos (by simpa using e), List.drop_succ_cons, drop_count T x hs, List.dropWhile_cons_of_pos (by simpa using e)]
    | false =>
      have h0 : s.countP (fun y => lt y x) = 0 := List.countP_eq_zero.2 fun z hz q => by
        have q' : lt z x = true := q
        have := T.tr _ _ _ (hy z hz) q'
        rw [e] at this; cases this
      rw [List.countP_cons_of_neg (by simp [e]), h0, List.drop_zero, List.dropWhile_cons_of_neg (by simp [e])]
end

section
variable {α : Type} [Inhabited α] [DecidableEq α] {lt : α → α → Bool}
/-- A list in order, of whose neighbours that are alike one stays, is the set of it. -/
theorem compactUpTo_set (T : Tot lt) (d : Array α) (hd : ∀ i j, i ≤ j → j < d.size → lt d[j]! d[i]! = false) : ∀ m, m ≤ d.size →
    Rising lt (Lib.compactUpTo d m) ∧ (∀ x ∈ Lib.compactUpTo d m, ∃ j, j < m ∧ d[j]! = x) ∧ ∀ j, j < m → d[j]! ∈ Lib.compactUpTo d m
  | 0, _ => ⟨by simp [Lib.compactUpTo, Rising], by simp [Lib.compactUpTo], by omega⟩
  | m + 1, hm => by
    obtain ⟨h1, h2, h3⟩ := compactUpTo_set T d hd m (by omega)
    rw [Lib.compactUpTo_succ]
    cases hk : Lib.keeps d m with
    | true =>
      simp only [if_true]
      refine ⟨rising_append.2 ⟨h1, by simp [Rising], fun x hx z hz => ?_⟩, fun x hx => ?_, fun j hj => ?_⟩
      · simp at hz; subst hz
        obtain ⟨j, hj, rfl⟩ := h2 x hx
        have hne : d[m]! ≠ d[m - 1]! := by
          have := of_decide_eq_true hk
          rcases this with q | q
          · omega
          · exact q
        have q1 : lt d[m - 1]! d[m]! = true := by
          cases e : lt d[m - 1]! d[m]! with
          | true => rfl
          | false => exact absurd (T.tot _ _ (hd (m - 1) m (by omega) (by omega)) e) hne
        cases e : lt d[j]! d[m]! with
        | true => rfl
        | false =>
          have := T.neg_tr q1 e
          rw [hd j (m - 1) (by omega) (by omega)] at this
          cases this
      · rcases List.mem_append.1 hx with q | q
        · obtain ⟨j, hj, e⟩ := h2 x q; exact ⟨j, by omega, e⟩
        · simp at q; exact ⟨m, by omega, q.symm⟩
      · by_cases e : j = m
        · subst e; simp
        · exact List.mem_append_left _ (h3 j (by omega))
    | false =>
      simp only [Bool.false_eq_true, if_false, List.append_nil]
      refine ⟨h1, fun x hx => ?_, fun j hj => ?_⟩
      · obtain ⟨j, hj, e⟩ := h2 x hx; exact ⟨j, by omega, e⟩
      · by_cases e : j = m
        · subst e
          have := of_decide_eq_false hk
          have h0 : ¬ j = 0 := fun q => this (.inl q)
          have he : d[j]! = d[j - 1]! := by
            by_cases q : d[j]! = d[j - 1]!
            · exact q
            · exact absurd (.inr q) this
          rw [he]
          exact h3 (j - 1) (by omega)
        · exact h3 j (by omega)
theorem compact_set (T : Tot lt) {zs : List α} (hd : zs.Pairwise fun x y => lt y x = false) : Lib.compact zs = setL lt zs := by
  have hp := List.pairwise_iff_getElem.1 hd
  obtain ⟨h1, h2, h3⟩ := compactUpTo_set T zs.toArray (fun i j hij hj => by
    have hj' : j < zs.length := by simpa using hj
    rcases Nat.lt_or_ge i j with q | q
    · simpa [getElem!_pos, hj', Nat.lt_trans q hj'] using hp i j (by omega) hj' q
    · obtain rfl : i = j := by omega
      exact T.irr _) zs.length (by simp)
  refine setL_unique T h1 fun x => ⟨fun hx => ?_, fun hx => ?_⟩
  · obtain ⟨j, hj, e⟩ := h2 x hx
    rw [← e]
    simp [getElem!_pos, hj]
  · obtain ⟨j, hj, e⟩ := List.getElem_of_mem hx
    have := h3 j hj
    rw [show zs.toArray[j]! = x by simp [getElem!_pos, hj, e]] at this
    exact this
end
/-- The shelf's sort, and one of neighbours that are alike kept, gives the set. -/
theorem sort_set_int (zs : List Int) : Lib.compact (zs.mergeSort fun x y => decide (x ≤ y)) = setL ltI zs := by
  rw [compact_set totI ((List.pairwise_mergeSort (le := fun x y : Int => decide (x ≤ y)) (fun a b c h1 h2 => by simp at *; omega) (fun a b => by simp; omega) zs).imp fun h => by simp [ltI] at *; omega)]
  exact setL_congr totI fun x => List.mem_mergeSort
theorem sort_set_str (zs : List (List UInt8)) : Lib.compact (zs.mergeSort fun x y => decide (x ≤ y)) = setL ltS zs := by
  rw [compact_set totS ((List.pairwise_mergeSort (le := fun x y : List UInt8 => decide (x ≤ y)) (fun a b c h1 h2 => by simp only [decide_eq_true_eq] at *; exact List.le_trans h1 h2) (fun a b => by simp only [Bool.or_eq_true, decide_eq_true_eq]; exact List.le_total a b) zs).imp fun h => by
    simp only [ltS, decide_eq_true_eq, decide_eq_false_iff_not] at *
    exact List.not_lt.2 h)]
  exact setL_congr totS fun x => List.mem_mergeSort

/-- How two numbers, two lists of one length, and two lists stand. -/
def cmpI (x y : Int) : Int := if x < y then -1 else if y < x then 1 else 0
def lexL {α : Type} (lt : α → α → Bool) : List α → List α → Int
  | x :: a, y :: b => if lt x y then -1 else if lt y x then 1 else lexL lt a b
  | _, _ => 0
def cmpL {α : Type} (lt : α → α → Bool) (a b : List α) : Int := if a.length < b.length then -1 else if b.length < a.length then 1 else lexL lt a b
section
variable {α : Type} {lt : α → α → Bool}
theorem lexL_swap (T : Tot lt) : ∀ a b : List α, lexL lt b a = - lexL lt a b
  | [], [] => rfl
  | [], _ :: _ => rfl
  | _ :: _, [] => rfl
  | x :: a, y :: b => by
    unfold lexL
    cases h1 : lt x y with
    | true => simp [T.asym h1]
    | false => cases h2 : lt y x with
      | true => simp
      | false => simpa using lexL_swap T a b
theorem lexL_three : ∀ a b : List α, lexL lt a b = -1 ∨ lexL lt a b = 0 ∨ lexL lt a b = 1
  | [], [] => .inr (.inl rfl)
  | [], _ :: _ => .inr (.inl rfl)
  | _ :: _, [] => .inr (.inl rfl)
  | x :: a, y :: b => by
    unfold lexL
    split
    · exact .inl rfl
    · split
      · exact .inr (.inr rfl)
      · exact lexL_three a b
theorem lexL_self (T : Tot lt) : ∀ a : List α, lexL lt a a = 0
  | [] => rfl
  | x :: a => by unfold lexL; simp [T.irr, lexL_self T a]
theorem lexL_zero (T : Tot lt) : ∀ {a b : List α}, a.length = b.length → lexL lt a b = 0 → a = b
  | [], [], _, _ => rfl
  | [], _ :: _, h, _ => by simp at h
  | _ :: _, [], h, _ => by simp at h
  | x :: a, y :: b, h, k => by
    unfold lexL at k
    cases h1 : lt x y with
    | true => simp [h1] at k
    | false => cases h2 : lt y x with
      | true => simp [h1, h2] at k
      | false =>
        simp [h1, h2] at k
        rw [T.tot x y h1 h2, lexL_zero T (by simpa using h) k]
theorem lexL_tr (T : Tot lt) : ∀ {a b c : List α}, a.length = b.length → b.length = c.length → lexL lt a b ≤ 0 → lexL lt b c ≤ 0 → lexL lt a c ≤ 0
  | [], [], [], _, _, _, _ => by simp [lexL]
  | [], [], _ :: _, _, h, _, _ => by simp at h
  | [], _ :: _, _, h, _, _, _ => by simp at h
  | _ :: _, [], _, h, _, _, _ => by simp at h
  | _ :: _, _ :: _, [], _, h, _, _ => by simp at h
  | x :: a, y :: b, z :: c, h, k, p, q => by
    unfold lexL at p q ⊢
    cases h1 : lt x y with
    | true =>
      cases h3 : lt y z with
      | true => simp [T.tr _ _ _ h1 h3]
      | false => cases h4 : lt z y with
        | true => simp [h3, h4] at q
        | false => rw [← T.tot y z h3 h4]; simp [h1]
    | false => cases h2 : lt y x with
      | true => simp [h1, h2] at p
      | false =>
        have e := T.tot x y h1 h2
        subst e
        simp [h1] at p
        cases h3 : lt x z with
        | true => simp
        | false => cases h4 : lt z x with
          | true => simp [h3, h4] at q
          | false =>
            simp [h3, h4] at q ⊢
            exact lexL_tr T (by simpa using h) (by simpa using k) p q
theorem cmpL_swap (T : Tot lt) (a b : List α) : cmpL lt b a = 0 - cmpL lt a b := by
  unfold cmpL
  have := lexL_swap T a b
  split <;> split <;> omega
theorem cmpL_three (a b : List α) : cmpL lt a b = -1 ∨ cmpL lt a b = 0 ∨ cmpL lt a b = 1 := by
  unfold cmpL
  have := lexL_three (lt := lt) a b
  split
  · exact .inl rfl
  · split
    · exact .inr (.inr rfl)
    · exact this
theorem cmpL_self (T : Tot lt) (a : List α) : cmpL lt a a = 0 := by simp [cmpL, lexL_self T]
theorem cmpL_zero (T : Tot lt) {a b : List α} (h : cmpL lt a b = 0) : a = b := by
  unfold cmpL at h
  split at h
  · cases h
  · split at h
    · cases h
    · exact lexL_zero T (by omega) h
theorem cmpL_tr (T : Tot lt) {a b c : List α} (h : cmpL lt a b ≤ 0) (k : cmpL lt b c ≤ 0) : cmpL lt a c ≤ 0 := by
  unfold cmpL at *
  split at h
  · split at k
    · split <;> omega
    · split at k
      · omega
      · rw [if_pos (by omega)]; decide
  · split at h
    · omega
    · split at k
      · rw [if_pos (by omega)]; decide
      · split at k
        · omega
        · rw [if_neg (by omega), if_neg (by omega)]
          exact lexL_tr T (by omega) (by omega) h k
end
end Go.Proofs.Ytkjdjmcecjaolaa.Sets

/- Who goes next, as plain functions: which one of the ready is told, by how many picks were used; and what one step answers. -/
namespace Go.Proofs.Ytkjdjmcecjaolaa.Pick
open Go.Proofs.Ytkjdjmcecjaolaa.Sets
set_option linter.unusedVariables false
set_option linter.unusedSimpArgs false

/-- The place of the one that is told, of m ready ones. -/
def place (L : List Int) (n m : Nat) : Nat := ((L.getD n 0) % (m : Int)).toNat
/-- The one that is told. -/
def told (L : List Int) (n : Nat) (l : List Int) : Int := (setL ltI l).getD (place L n (setL ltI l).length) 0
def over (c : Int) (n : Nat) : Bool := decide (0 ≤ c) && decide (c ≤ (n : Int))
/-- One step: who is told, which error, how many steps there are behind it. -/
def stepS (L : List Int) (c : Int) (n : Nat) (l : List Int) : Int × Int × Nat := if over c n = true then (0, 8, n) else if l = [] then (0, 10, n) else (told L n l, 0, n + 1)
theorem place_lt (L : List Int) (n : Nat) {m : Nat} (hm : 0 < m) : place L n m < m := by
  unfold place
  have h1 := Int.emod_nonneg (L.getD n 0) (show (m : Int) ≠ 0 by omega)
  have h2 := Int.emod_lt_of_pos (L.getD n 0) (show (0 : Int) < m by omega)
  omega
theorem place_int (L : List Int) (n : Nat) {m : Nat} (hm : 0 < m) : ((place L n m : Nat) : Int) = (L.getD n 0) % (m : Int) := by
  unfold place
  have h1 := Int.emod_nonneg (L.getD n 0) (show (m : Int) ≠ 0 by omega)
  omega
/-- Go's remainder, and the length more where it is below 0. -/
theorem tmod_place (x : Int) {m : Nat} (hm : 0 < m) : (if x.tmod (m : Int) < 0 then x.tmod (m : Int) + (m : Int) else x.tmod (m : Int)) = x % (m : Int) := by
  have h1 := Int.emod_nonneg x (show (m : Int) ≠ 0 by omega)
  have h2 := Int.emod_lt_of_pos x (show (0 : Int) < m by omega)
  rw [Int.tmod_eq_emod]
  split <;> split <;> omega
theorem setL_ne {l : List Int} (h : l ≠ []) : 0 < (setL ltI l).length := by
  cases l with
  | nil => exact absurd rfl h
  | cons x l =>
    have := (mem_setL totI (x :: l) x).2 (by simp)
    exact List.length_pos_of_mem this
theorem setL_nil : setL ltI ([] : List Int) = [] := by
  apply List.eq_nil_of_length_eq_zero
  have := setL_length (lt := ltI) ([] : List Int)
  simpa using this
theorem told_mem (L : List Int) (n : Nat) {l : List Int} (h : l ≠ []) : told L n l ∈ l := by
  have h1 := place_lt L n (setL_ne h)
  unfold told
  rw [List.getD_eq_getElem?_getD, List.getElem?_eq_getElem h1]
  exact (mem_setL totI l _).1 (List.getElem_mem h1)
/-- Where there is no pick any more: the least. -/
theorem place_none {L : List Int} {n : Nat} (h : L.length ≤ n) (m : Nat) : place L n m = 0 := by
  unfold place
  rw [List.getD_eq_getElem?_getD, List.getElem?_eq_none h]
  simp
end Go.Proofs.Ytkjdjmcecjaolaa.Pick
