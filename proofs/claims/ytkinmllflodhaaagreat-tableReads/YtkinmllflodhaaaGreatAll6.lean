/- Joined out of the texts Things, OwnKit, TabMem, in that order. -/
import Derived.Test.YtkinmllflodhaaaGreatAll5
import Derived.Test.YtkinmllflodhaaaGreatAll1
import Derived.Laws.AppendOwnNone
import Derived.Laws.OwnMore
import Derived.Test.YtkinmllflodhaaaGreatAll2
import Derived.WideKeyEntry
/- What a law knows between two calls: things that it has made, no two of which share a block, each with what may turn it. -/
namespace Go.Proofs.YtkinmllflodhaaaGreat.Thing
open Go.RowKit Go.Proofs.YtkinmllflodhaaaGreat.Dig Go.Proofs.YtkinmllflodhaaaGreat.Mem Go.Proofs.YtkinmllflodhaaaGreat.Dq
set_option linter.unusedVariables false
set_option linter.unusedSimpArgs false

/-- A thing: what is so of the world, and the blocks that it hangs on. -/
structure Th where
  P : World → Prop
  F : Nat → Prop
  keep : ∀ {w w' : World} {S : Nat → Prop}, P w → Only S w w' → (∀ k, F k → ¬ S k) → P w'
  lt : ∀ {w : World}, P w → ∀ k, F k → k < w.heap.size
def Sep (x y : Th) : Prop := ∀ k, x.F k → ¬ y.F k
theorem Sep.symm {x y : Th} (h : Sep x y) : Sep y x := fun k h1 h2 => h k h2 h1
/-- From w on: nothing older has turned; the things are there, made since w, and share no block. -/
structure Kn (w : World) (ts : List Th) (wx : World) : Prop where
  below : Below w.heap.size w wx
  has : ∀ t ∈ ts, t.P wx ∧ ∀ k, t.F k → w.heap.size ≤ k
  sep : ts.Pairwise Sep
section
variable {w wx w' : World} {ts ts' : List Th} {t t' : Th}
theorem Kn.start (w : World) : Kn w [] w := ⟨Below.refl _ _, by simp, by simp⟩
theorem Kn.hd (h : Kn w (t :: ts) wx) : t.P wx := (h.has t (by simp)).1
theorem Kn.get (h : Kn w ts wx) (ht : t ∈ ts) : t.P wx := (h.has t ht).1
theorem Kn.keep (h : Kn w ts wx) (hb : Below wx.heap.size wx w') : Kn w ts w' :=
  ⟨h.below.trans (hb.mono h.below.size), fun t ht => ⟨t.keep (h.has t ht).1 (Only.of_below (S := fun _ => False) hb) (fun _ _ q => q), (h.has t ht).2⟩, h.sep⟩
theorem Kn.drewN (h : Kn w ts wx) (m : Nat) : Kn w ts (wx.drewN m) := h.keep (below_of_drewN m)
theorem Kn.sub (h : Kn w ts wx) (hs : ts'.Sublist ts) : Kn w ts' wx := ⟨h.below, fun t ht => h.has t (hs.subset ht), h.sep.sublist hs⟩
theorem Kn.perm (h : Kn w ts wx) (hs : ts.Perm ts') : Kn w ts' wx := ⟨h.below, fun t ht => h.has t (hs.mem_iff.2 ht), (hs.pairwise_iff (fun {a b} q => Sep.symm q)).1 h.sep⟩
theorem Kn.swap {a b : Th} (h : Kn w (a :: b :: ts) wx) : Kn w (b :: a :: ts) wx := h.perm (List.Perm.swap b a ts)
theorem Kn.tail (h : Kn w (t :: ts) wx) : Kn w ts wx := h.sub (List.sublist_cons_self _ _)
/-- The first thing is turned. -/
theorem Kn.turn (h : Kn w (t :: ts) wx) (hp : t'.P w') (ho : Only t.F wx w') (hf : ∀ k, t'.F k → t.F k ∨ wx.heap.size ≤ k) : Kn w (t' :: ts) w' := by
  have hge := (h.has t (by simp)).2
  have hs := List.pairwise_cons.1 h.sep
  refine ⟨h.below.only ho hge h.below.size, fun x hx => ?_, List.pairwise_cons.2 ⟨fun x hx k h1 h2 => ?_, hs.2⟩⟩
  · rcases List.mem_cons.1 hx with rfl | q
    · refine ⟨hp, fun k hk => ?_⟩
      rcases hf k hk with q | q
      · exact hge k q
      · exact Nat.le_trans h.below.size q
    · exact ⟨x.keep (h.has x (List.mem_cons_of_mem _ q)).1 ho (fun k h1 h2 => hs.1 x q k h2 h1), (h.has x (List.mem_cons_of_mem _ q)).2⟩
  · rcases hf k h1 with q | q
    · exact hs.1 x hx k q h2
    · have := x.lt (h.has x (List.mem_cons_of_mem _ hx)).1 k h2
      omega
/-- One more, made meanwhile. -/
theorem Kn.more (h : Kn w ts wx) (hb : Below wx.heap.size wx w') (hp : t'.P w') (hf : ∀ k, t'.F k → wx.heap.size ≤ k) : Kn w (t' :: ts) w' := by
  have h' := h.keep hb
  refine ⟨h'.below, fun x hx => ?_, List.pairwise_cons.2 ⟨fun x hx k h1 h2 => ?_, h.sep⟩⟩
  · rcases List.mem_cons.1 hx with rfl | q
    · exact ⟨hp, fun k hk => Nat.le_trans h.below.size (hf k hk)⟩
    · exact h'.has x q
  · have := x.lt (h.has x hx).1 k h2
    have := hf k h1
    omega
/-- A thing seen otherwise. -/
theorem Kn.as (h : Kn w (t :: ts) wx) (hp : t.P wx → t'.P wx) (hf : ∀ k, t'.F k → t.F k) : Kn w (t' :: ts) wx :=
  h.turn (hp h.hd) (Only.refl _ _) (fun k q => .inl (hf k q))
end
/-- A row of numbers that is read. -/
def rowT (a : Option Addr) (c : Nat) (m : List Int) : Th where
  P w := RowI w a c m
  F k := 0 < m.length ∧ ∃ x, a = some x ∧ x.block = k
  keep h ho hs := ⟨h.cap, h.rd.only' ho (fun hl x e => hs x.block ⟨hl, x, e, rfl⟩), h.nil⟩
  lt h k hk := by
    obtain ⟨hl, x, e, rfl⟩ := hk
    exact Rd.lt h.rd hl x e
/-- A block of cells. -/
def boxT (b : Nat) (cs : Array Value) : Th where
  P w := Is w b cs
  F k := k = b
  keep h ho hs := h.keep ho (hs b rfl)
  lt h k hk := by cases hk; exact h.lt
/-- A row of the call's own. -/
def ownT (base : Nat) (e : TypeId) (v : Value) (n : Nat) (xs : List Value) : Th where
  P w := w.ownsRow base e 1 v n xs
  F k := v.ownBlock = some k
  keep {w w' S} h ho hs := by
    refine ⟨h.1, ?_⟩
    rcases h.2 with hn | ⟨g, cap, cur, rfl, hg, hh, r⟩
    · exact .inl hn
    · have hlt : g < w.heap.size := by
        rcases Nat.lt_or_ge g w.heap.size with q | q
        · exact q
        · simp [Array.getElem?_eq_none q] at hh
      exact .inr ⟨g, cap, cur, rfl, hg, by rw [ho.block g hlt (hs g rfl)]; exact hh, r⟩
  lt h k hk := (World.ownsRow.lt h k hk).2
end Go.Proofs.YtkinmllflodhaaaGreat.Thing

/- One's own rows, of elements of any size, as things: how they grow, how a cell is written, how they are read; boxes; things in a list. -/
namespace Go.Proofs.YtkinmllflodhaaaGreat.Own
open Go.RowKit Go.Proofs.YtkinmllflodhaaaGreat.Dig Go.Proofs.YtkinmllflodhaaaGreat.Mem Go.Proofs.YtkinmllflodhaaaGreat.Dq Go.Proofs.YtkinmllflodhaaaGreat.Thing
set_option linter.unusedVariables false
set_option linter.unusedSimpArgs false

theorem Tryz.infoI : (Tryz.prog.info? 3).map (fun i => (i.zero, i.size, i.bytes)) = some (some (.int .i64 0), 1, 8) := by kernel_rfl
theorem Tryz.infoIs : (Tryz.prog.info? 36).map (fun i => (i.zero, i.size, i.bytes)) = some (some (.slice none 0 0), 1, 24) := by kernel_rfl
/-- A row of the call's own, of elements of so many cells. -/
def ownN (base : Nat) (e : TypeId) (z : Nat) (v : Value) (n : Nat) (xs : List Value) : Th where
  P w := w.ownsRow base e z v n xs
  F k := v.ownBlock = some k
  keep {w w' S} h ho hs := by
    refine ⟨h.1, ?_⟩
    rcases h.2 with hn | ⟨g, cap, cur, rfl, hg, hh, r⟩
    · exact .inl hn
    · have hlt : g < w.heap.size := by
        rcases Nat.lt_or_ge g w.heap.size with q | q
        · exact q
        · simp [Array.getElem?_eq_none q] at hh
      exact .inr ⟨g, cap, cur, rfl, hg, by rw [ho.block g hlt (hs g rfl)]; exact hh, r⟩
  lt h k hk := (World.ownsRow.lt h k hk).2
section
variable {w w' wx W : World} {x y t t' : Th} {ts pre post ls : List Th} {base m m' z n c g k j : Nat} {e : TypeId} {v v' u : Value} {xs xs' : List Value}
theorem turnAt (h : Kn w (pre ++ t :: post) wx) (hp : t'.P w') (ho : Only t.F wx w') (hf : ∀ k, t'.F k → t.F k ∨ wx.heap.size ≤ k) : Kn w (pre ++ t' :: post) w' :=
  ((h.perm List.perm_middle).turn hp ho hf).perm List.perm_middle.symm
/-- One of a list of things is turned. -/
theorem split_at (hk : ls[k]? = some t) : ls = ls.take k ++ t :: ls.drop (k + 1) := by
  obtain ⟨h1, h2⟩ := List.getElem?_eq_some_iff.1 hk
  rw [← h2, List.getElem_cons_drop, List.take_append_drop]
theorem split_set (hk : ls[k]? = some t) : ls.set k t' = ls.take k ++ t' :: ls.drop (k + 1) := by
  rw [List.set_eq_take_append_cons_drop, if_pos (List.getElem?_eq_some_iff.1 hk).1]
theorem turnL (h : Kn w (pre ++ (ls ++ post)) wx) (hk : ls[k]? = some t) (hp : t'.P w') (ho : Only t.F wx w') (hf : ∀ k, t'.F k → t.F k ∨ wx.heap.size ≤ k) : Kn w (pre ++ (ls.set k t' ++ post)) w' := by
  rw [split_set hk]
  rw [split_at hk] at h
  have h2 : Kn w ((pre ++ ls.take k) ++ t :: (ls.drop (k + 1) ++ post)) wx := by simpa using h
  have h3 := turnAt h2 hp ho hf
  simpa using h3
theorem growAt (h : Kn w (pre ++ ownN base e z v m xs :: post) W) (ho : w'.ownsRow base e z v' m' xs') (hg : W.grownBy w' v.ownBlock) (hat : v'.ownBlock = v.ownBlock ∨ v'.ownBlock = some W.heap.size) :
    Kn w (pre ++ ownN base e z v' m' xs' :: post) w' :=
  turnAt (t := ownN base e z v m xs) (t' := ownN base e z v' m' xs') h ho ⟨hg.os, hg.tape, hg.output, hg.size, fun k hk hn => hg.block k hk (fun e => hn e.symm)⟩ (fun k hk => by
    have hk' : v'.ownBlock = some k := hk
    rcases hat with q | q
    · exact .inl (by show v.ownBlock = some k; rw [← q]; exact hk')
    · rw [q] at hk'
      exact .inr (Nat.le_of_eq (Option.some.inj hk')))
/-- One's own row, of which nothing is there yet. -/
theorem own0 (h : Kn w ts W) (T : TypeId) (z : Nat) (hb : base ≤ W.heap.size) (hg : g = W.heap.size) : Kn w (ownN base T z (.slice (some ⟨g, 0, none⟩) 0 0) 0 [] :: ts) (W.alloc (.cells #[] T)) := by
  subst hg
  exact h.more ((Below.refl _ _).alloc (Nat.le_refl _) _) (t' := ownN base T z (.slice (some ⟨W.heap.size, 0, none⟩) 0 0) 0 []) (World.ownsRow_made W #[] 0 hb (by unfold maxLen; omega) (by simp)) (fun k hk => by cases hk; exact Nat.le_refl _)
/-- .. that is nil. -/
theorem ownNil (h : Kn w ts W) (base : Nat) (T : TypeId) (z : Nat) : Kn w (ownN base T z (.slice none 0 0) 0 [] :: ts) W :=
  h.more (Below.refl _ _) (t' := ownN base T z (.slice none 0 0) 0 []) (World.ownsRow_nil _ _ _ _) (fun k hk => by cases hk)
/-- .. made with so many. -/
theorem ownMade (h : Kn w ts W) (cs : Array Value) (T : TypeId) (z : Nat) (hb : base ≤ W.heap.size) (hn : n ≤ maxLen) (hs : cs.size = n * z) (hg : g = W.heap.size) : Kn w (ownN base T z (.slice (some ⟨g, 0, none⟩) n n) n cs.toList :: ts) (W.alloc (.cells cs T)) := by
  subst hg
  exact h.more ((Below.refl _ _).alloc (Nat.le_refl _) _) (t' := ownN base T z (.slice (some ⟨W.heap.size, 0, none⟩) n n) n cs.toList) (World.ownsRow_lit W cs n hb hn hs) (fun k hk => by cases hk; exact Nat.le_refl _)
theorem box0 (h : Kn w ts W) (cs : Array Value) (T : TypeId) (hg : g = W.heap.size) : Kn w (boxT g cs :: ts) (W.alloc (.cells cs T)) :=
  h.more ((Below.refl _ _).alloc (Nat.le_refl _) _) (t' := boxT g cs) (Is.made _ _ _ hg) (fun k hk => by cases hk; exact Nat.le_of_eq hg.symm)
theorem putBox {b : Nat} {cs : Array Value} (h : Kn w (pre ++ boxT b cs :: post) W) (i : Nat) (u : Value) {cs' : Array Value} (hc : cs.setIfInBounds i u = cs') (hp : (boxT b cs).P W) : Kn w (pre ++ boxT b cs' :: post) (W.setCell ⟨b, i, none⟩ u) :=
  turnAt (t := boxT b cs) (t' := boxT b cs') h ((Is.set hp i u).eq hc) ((Only.refl _ _).put i _) (fun _ e => .inl e)
theorem Knget (h : Kn w (pre ++ t :: post) W) : t.P W := h.get (by simp)
theorem Knlt (h : Kn w (pre ++ t :: post) W) : ∀ k, t.F k → w.heap.size ≤ k := (h.has t (by simp)).2
/-- How one's own row is read. -/
theorem own_at (h : (ownN base e z v n xs).P W) (hj : xs[j]? = some u) : ∃ g c, v = .slice (some ⟨g, 0, none⟩) n c ∧ W.cell? ⟨g, j, none⟩ = some u ∧ W.frozen? ⟨g, j, none⟩ = false := by
  have hl := World.ownsRow.lt h
  rcases h.2 with ⟨hv, h0⟩ | ⟨g, cap, cur, hv, _⟩
  · have := h.1
    rw [h0, Nat.zero_mul] at this
    rw [List.eq_nil_of_length_eq_zero this] at hj
    cases hj
  · subst hv
    have hlt : j < xs.length := by
      rcases Nat.lt_or_ge j xs.length with q | q
      · exact q
      · rw [List.getElem?_eq_none q] at hj; cases hj
    refine ⟨g, cap, rfl, ?_, World.ownsRow.frozenAt h j⟩
    rw [World.ownsRow.cellAt h j (by rw [← h.1]; exact hlt)]
    exact hj
theorem own_form (h : (ownN base e z v n xs).P W) : ∃ a c, v = .slice a n c := by
  rcases h.2 with ⟨rfl, h0⟩ | ⟨g, cap, cur, rfl, _⟩
  · subst h0; exact ⟨_, _, rfl⟩
  · exact ⟨_, _, rfl⟩
theorem own_cap {a : Option Addr} (h : (ownN base e z (.slice a n c) n xs).P W) : n ≤ c ∧ c ≤ maxLen := by
  rcases h.2 with ⟨hv, h0⟩ | ⟨g, cap, cur, hv, _, _, h1, h2, _⟩
  · cases hv; exact ⟨Nat.le_refl _, by unfold maxLen; omega⟩
  · cases hv; exact ⟨h1, h2⟩
/-- A cell of one's own row is written. -/
theorem ownPut (h : Kn w (pre ++ ownN base e z (.slice (some ⟨g, 0, none⟩) n c) n xs :: post) W) (j : Nat) (u : Value) (hp : (ownN base e z (.slice (some ⟨g, 0, none⟩) n c) n xs).P W) : Kn w (pre ++ ownN base e z (.slice (some ⟨g, 0, none⟩) n c) n (xs.set j u) :: post) (W.setCell ⟨g, j, none⟩ u) := by
  obtain ⟨h1, h2⟩ := World.ownsRow.stored (show W.ownsRow base e z (.slice (some ⟨g, 0, none⟩) n c) n xs from hp) j u
  exact turnAt (t := ownN base e z (.slice (some ⟨g, 0, none⟩) n c) n xs) (t' := ownN base e z (.slice (some ⟨g, 0, none⟩) n c) n (xs.set j u)) h h1 ⟨h2.os, h2.tape, h2.output, h2.size, fun k hk hn => h2.block k hk (fun e => hn (by show _ = some k; rw [e]; rfl))⟩ (fun k hk => .inl hk)
theorem sep_of (h : Kn w (pre ++ t :: post) W) (hx : x ∈ post) : Sep t x := by
  have := (List.pairwise_append.1 h.sep).2.1
  exact (List.pairwise_cons.1 this).1 x hx
end
/-- A slice that reads values of one cell each. -/
structure CellsR (w : World) (a : Option Addr) (c : Nat) (xs : List Value) : Prop where
  cap : xs.length ≤ c
  nil : a = none → c = 0
  at_ : ∀ i u, xs[i]? = some u → ∃ b off, a = some ⟨b, off, none⟩ ∧ w.cell? ⟨b, off + i, none⟩ = some u
theorem CellsR.keep {w w' : World} {a : Option Addr} {c : Nat} {xs : List Value} (h : CellsR w a c xs) (hb : Below w.heap.size w w') : CellsR w' a c xs := ⟨h.cap, h.nil, fun i u hu => by
  obtain ⟨b, off, e, hc⟩ := h.at_ i u hu
  exact ⟨b, off, e, (hb.cell (p := ⟨b, off + i, none⟩) (lt_of_cell hc)).trans hc⟩⟩
theorem CellsR.of_own {w : World} {base n c : Nat} {e : TypeId} {a : Option Addr} {xs : List Value} (h : w.ownsRow base e 1 (.slice a n c) n xs) : CellsR w a c xs := by
  have hl := h.1
  rcases h.2 with ⟨hv, h0⟩ | ⟨g, cap, cur, hv, hg, hh, hc1, hc2, hc3, hc4⟩
  · have : xs = [] := List.eq_nil_of_length_eq_zero (by omega)
    subst this
    cases hv
    exact ⟨Nat.zero_le _, fun _ => rfl, fun i u hu => by simp at hu⟩
  · cases hv
    refine ⟨by omega, (fun q => by cases q), fun i u hu => ⟨g, 0, rfl, ?_⟩⟩
    have hi : i < xs.length := by
      rcases Nat.lt_or_ge i xs.length with q | q
      · exact q
      · rw [List.getElem?_eq_none q] at hu; cases hu
    rw [Nat.zero_add, h.cellAt i (by omega)]
    exact hu
theorem CellsR.of_row {w : World} {a : Option Addr} {c : Nat} {l : List Int} (h : RowI w a c l) : CellsR w a c (l.map (Value.int .i64)) := ⟨by rw [List.length_map]; exact h.cap, h.nil, fun i u hu => by
  rw [List.getElem?_map] at hu
  have hi : i < l.length := by
    rcases Nat.lt_or_ge i l.length with q | q
    · exact q
    · rw [List.getElem?_eq_none q] at hu; cases hu
  obtain ⟨b, off, e, hc⟩ := h.at hi
  refine ⟨b, off, e, ?_⟩
  rw [hc, ← hu]
  simp [List.getD_eq_getElem?_getD, List.getElem?_eq_getElem hi]⟩
/-- append of what is read to one's own row. -/
theorem app_cells {w : World} {ops : Array Oper} {rest : List Oper} {o : Oper} {a : Act} {Q : Exit → Act → World → Prop} (T e : TypeId) {z : Value} {by_ : Nat} (hT : Tryz.prog.underlying T = some (.slice e)) (hI : (Tryz.prog.info? e).map (fun i => (i.zero, i.size, i.bytes)) = some (some z, 1, by_)) (hzs : z.cells.size = 1) (hby : by_ ≤ 1000) (hgd : o.guard = none) (s x : Operand)
    (ho : o.op = .call { callee := .builtin .append, args := #[s, x], argTypes := #[T, T] }) (base : Nat) (v : Value) (n : Nat) (xs : List Value) (hs : a.eval s = v) (hown : w.ownsRow base e 1 v n xs)
    (ao : Option Addr) (c m : Nat) (news : List Value) (hx : a.eval x = .slice ao m c) (hm : m = news.length) (hr : CellsR w ao c news) (h1 : ∀ u ∈ news, u.oneCell' = true) (hb : n + news.length ≤ 1000000) (hbase : base ≤ w.heap.size)
    (h : ∀ v' w', w'.ownsRow base e 1 v' (n + news.length) (xs ++ news) → w.grownBy w' v.ownBlock → (v'.ownBlock = v.ownBlock ∨ v'.ownBlock = some w.heap.size) → wpList Tryz.prog ops Q rest (a.put o.dst v') w') : wpList Tryz.prog ops Q (o :: rest) a w := by
  obtain ⟨i0, hi, hz0, hz1, hz2⟩ := info_parts hI
  subst hm
  cases ao with
  | none =>
    have hr0 : news = [] := by
      cases news with
      | nil => rfl
      | cons y r => obtain ⟨b, off, e', _⟩ := hr.at_ 0 y rfl; cases e'
    subst hr0
    have hc : c = 0 := hr.nil rfl
    subst hc
    exact wpList_append_own_none hgd s x T ho base e i0 1 hT hi v n xs hs hown hx (h v w (by simpa using hown) ⟨rfl, rfl, rfl, Nat.le_refl _, fun _ _ _ => rfl⟩ (.inl rfl))
  | some ad =>
    refine wpList_append_own_at w hgd s x T ho base e i0 z 1 by_ hT hi hz0 hz1 hz2 hzs (by decide) v n xs hs hown ad news.length c news hx (by simp) ?_ h1 (by unfold maxLen; omega) ?_ hbase ?_
    · intro j u hu
      obtain ⟨b, off, hab, hc⟩ := hr.at_ j u hu
      obtain rfl := Option.some.inj hab
      rw [Addr.add_lit, hc]
    · exact Nat.le_trans (Nat.mul_le_mul hb hby) (by decide)
    · intro v' w' hown' hgrow _ hat
      exact h v' w' hown' hgrow hat
/-- A slice value. -/
structure SL where
  a : Option Addr
  n : Nat
  c : Nat
abbrev SL.v (s : SL) : Value := .slice s.a s.n s.c
/-- Lists, each read at a slice. -/
def ReadR (w : World) (ds : List SL) (ls : List (List Int)) : Prop := ds.length = ls.length ∧ ∀ (i : Nat) (d : SL) (l : List Int), ds[i]? = some d → ls[i]? = some l → d.n = l.length ∧ RowI w d.a d.c l
section
variable {w w' : World} {ds : List SL} {ls : List (List Int)}
theorem ReadR.keep (h : ReadR w ds ls) (hb : Below w.heap.size w w') : ReadR w' ds ls := ⟨h.1, fun i d l h1 h2 => ⟨(h.2 i d l h1 h2).1, (h.2 i d l h1 h2).2.keep hb⟩⟩
theorem ReadR.set (h : ReadR w ds ls) {d : SL} {l : List Int} (hn : d.n = l.length) (hr : RowI w d.a d.c l) (k : Nat) : ReadR w (ds.set k d) (ls.set k l) := by
  refine ⟨by rw [List.length_set, List.length_set]; exact h.1, fun i d' l' h1 h2 => ?_⟩
  rw [List.getElem?_set] at h1 h2
  by_cases e : k = i
  · rw [if_pos e] at h1 h2
    split at h1
    · split at h2
      · cases h1; cases h2; exact ⟨hn, hr⟩
      · cases h2
    · cases h1
  · rw [if_neg e] at h1 h2
    exact h.2 i d' l' h1 h2
theorem ReadR.get (h : ReadR w ds ls) {k : Nat} {l : List Int} (hk : ls[k]? = some l) : ∃ d, ds[k]? = some d ∧ d.n = l.length ∧ RowI w d.a d.c l := by
  have hlt : k < ds.length := by
    rw [h.1]
    rcases Nat.lt_or_ge k ls.length with q | q
    · exact q
    · rw [List.getElem?_eq_none q] at hk; cases hk
  exact ⟨ds[k], List.getElem?_eq_getElem hlt, h.2 k _ l (List.getElem?_eq_getElem hlt) hk⟩
end
end Go.Proofs.YtkinmllflodhaaaGreat.Own

/- A table as it lies: four maps, and the rows that they hold. -/
namespace Go.Proofs.YtkinmllflodhaaaGreat.Tab
open Go.RowKit Go.Proofs.YtkinmllflodhaaaGreat.Dig Go.Proofs.YtkinmllflodhaaaGreat.Mem Go.Proofs.YtkinmllflodhaaaGreat.Keys Go.Proofs.YtkinmllflodhaaaGreat.Own Go.Proofs.YtkinmllflodhaaaGreat.Thing Go.Maps
set_option linter.unusedVariables false
set_option linter.unusedSimpArgs false

/-! ### Keys -/
set_option maxRecDepth 100000 in
theorem rowTApp : (115 : TypeId) < Tryz.prog.types.size := of_decide_eq_true (by kernel_rfl)
theorem wideTApp : (match Tryz.prog.underlying 115 with | some (.array _ _) | some (.struct _) => true | _ => false) = true := by kernel_rfl
set_option maxRecDepth 100000 in
theorem klTApp : WideMaps.KeyLaw Tryz.prog 115 := deep_law_laid Frame.laidOut (m := 2) (by omega) rowTApp (by kernel_rfl) wideTApp
theorem ktTApp : Tryz.prog.keyType 115 = true := by kernel_rfl
theorem cellsTApp : Tryz.prog.cellsOf 115 = 2 := by kernel_rfl
theorem keyTApp {k v : Int} (hk : (Lit.int .i64 k).wf = true) (hv : (Lit.int .i64 v).wf = true) : keyOf Tryz.prog 115 (.agg #[.int .i64 k, .int .i64 v]) = some (.string (keyBytes [.int .i64 k, .int .i64 v])) := by
  obtain ⟨m, hm⟩ := sizes
  unfold keyOf
  simp only [Tryz.underlying115]
  rw [if_pos (by simp [ktTApp, Value.formed, Tryz.underlying115, cellsTApp]), hm]
  simp [Program.keyLits, Tryz.underlying115, cellsTApp, cellsInt, Value.cells, go_sem, hk, hv, Tryz.underlying3]
theorem tappIs : KeyIs 115 appV appL appOk := ⟨Keyed.of_law klTApp, fun x hx => keyTApp hx.1 hx.2, fun x y h => by simp [appV] at h; exact Prod.ext h.1 h.2⟩
set_option maxRecDepth 100000 in
theorem rowTPart : (118 : TypeId) < Tryz.prog.types.size := of_decide_eq_true (by kernel_rfl)
theorem wideTPart : (match Tryz.prog.underlying 118 with | some (.array _ _) | some (.struct _) => true | _ => false) = true := by kernel_rfl
set_option maxRecDepth 100000 in
theorem klTPart : WideMaps.KeyLaw Tryz.prog 118 := deep_law_laid Frame.laidOut (m := 2) (by omega) rowTPart (by kernel_rfl) wideTPart
theorem ktTPart : Tryz.prog.keyType 118 = true := by kernel_rfl
theorem cellsTPart : Tryz.prog.cellsOf 118 = 2 := by kernel_rfl
theorem keyTPart {k v : Int} (hk : (Lit.int .i64 k).wf = true) (hv : (Lit.int .i64 v).wf = true) : keyOf Tryz.prog 118 (.agg #[.int .i64 k, .int .i64 v]) = some (.string (keyBytes [.int .i64 k, .int .i64 v])) := by
  obtain ⟨m, hm⟩ := sizes
  unfold keyOf
  simp only [Tryz.underlying118]
  rw [if_pos (by simp [ktTPart, Value.formed, Tryz.underlying118, cellsTPart]), hm]
  simp [Program.keyLits, Tryz.underlying118, cellsTPart, cellsInt, Value.cells, go_sem, hk, hv, Tryz.underlying3]
theorem tpartIs : KeyIs 118 appV appL appOk := ⟨Keyed.of_law klTPart, fun x hx => keyTPart hx.1 hx.2, fun x y h => by simp [appV] at h; exact Prod.ext h.1 h.2⟩
theorem zeroW (w : World) : (zeroValue 64).run Tryz.prog w = .ok (.agg #[.int .i64 0, .int .i64 0, .int .i64 0, .int .i64 0, .bool false]) w := by kernel_rfl
theorem zeroI (w : World) : (zeroValue 36).run Tryz.prog w = .ok (.slice none 0 0) w := by kernel_rfl
theorem zeroR (w : World) : (zeroValue 94).run Tryz.prog w = .ok (.slice none 0 0) w := by kernel_rfl
theorem zeroWs (w : World) : (zeroValue 120).run Tryz.prog w = .ok (.slice none 0 0) w := by kernel_rfl

/-! ### What lies where -/
structure TD where
  b0 : Nat
  b1 : Nat
  b2 : Nat
  b3 : Nat
  fA : Int × Int → Option Value
  fR : Int → Option Value
  cR : Int → List (List Value)
  fW : Int → Option Value
structure Tb where
  wr : Int × Int → Option WrM
  ap : Int × Int → List Int
  rd : Int → List RdM
  ws : Int → List WrM
def TD.vA (d : TD) (p : Int × Int) : Value := (d.fA p).getD (.slice none 0 0)
def TD.vR (d : TD) (k : Int) : Value := (d.fR k).getD (.slice none 0 0)
def TD.vW (d : TD) (k : Int) : Value := (d.fW k).getD (.slice none 0 0)
def wrC (m : WrM) : List Value := [.int .i64 m.txn, .int .i64 (m.op : Int), .int .i64 m.key, .int .i64 m.value, .bool m.ab]
def wrV (m : WrM) : Value := .agg #[.int .i64 m.txn, .int .i64 (m.op : Int), .int .i64 m.key, .int .i64 m.value, .bool m.ab]
/-- Block b may be read as far as m: what is appended there comes behind it. -/
def TD.free (d : TD) (s : Tb) (b m : Nat) : Prop := (∀ p, (d.vA p).ownBlock = some b → m ≤ (s.ap p).length) ∧ (∀ k, (d.vR k).ownBlock ≠ some b) ∧ ∀ k, (d.vW k).ownBlock ≠ some b
/-- A slice that reads numbers, as far as a block may be read. -/
def RdAt (G : Nat → Nat → Prop) (w : World) (v : Value) (l : List Int) : Prop :=
  ∃ a cap, v = .slice a l.length cap ∧ l.length ≤ cap ∧ (a = none → cap = 0) ∧ (∀ n ∈ l, (Lit.int .i64 n).wf = true) ∧
    ∀ i x, l[i]? = some x → ∃ b off, a = some ⟨b, off, none⟩ ∧ G b (off + l.length) ∧ w.cell? ⟨b, off + i, none⟩ = some (.int .i64 x)
def ReadAt (G : Nat → Nat → Prop) (w : World) (c : List Value) (r : RdM) : Prop := ∃ lv ov, c = [.int .i64 r.txn, .int .i64 (r.op : Int), .int .i64 r.key, lv, ov] ∧ RdAt G w lv r.list ∧ RdAt G w ov r.own
def TD.rdBlk (d : TD) (k : Nat) : Prop := ∃ j, ∃ c ∈ d.cR j, ∃ a n cap, Value.slice (some a) n cap ∈ c ∧ 0 < n ∧ a.block = k
def TD.F (d : TD) (k : Nat) : Prop := k = d.b0 ∨ k = d.b1 ∨ k = d.b2 ∨ k = d.b3 ∨ (∃ p, (d.vA p).ownBlock = some k) ∨ (∃ j, (d.vR j).ownBlock = some k) ∨ (∃ j, (d.vW j).ownBlock = some k) ∨ d.rdBlk k
/-- .. of which a step may turn these. -/
def TD.T (d : TD) (k : Nat) : Prop := k = d.b0 ∨ k = d.b1 ∨ k = d.b2 ∨ k = d.b3 ∨ (∃ p, (d.vA p).ownBlock = some k) ∨ (∃ j, (d.vR j).ownBlock = some k) ∨ (∃ j, (d.vW j).ownBlock = some k) ∨ False
theorem TD.T_F {d : TD} {k : Nat} (h : d.T k) : d.F k := by
  rcases h with e | e | e | e | e | e | e | e
  · exact .inl e
  · exact .inr (.inl e)
  · exact .inr (.inr (.inl e))
  · exact .inr (.inr (.inr (.inl e)))
  · exact .inr (.inr (.inr (.inr (.inl e))))
  · exact .inr (.inr (.inr (.inr (.inr (.inl e)))))
  · exact .inr (.inr (.inr (.inr (.inr (.inr (.inl e))))))
  · exact e.elim
def Apart {ι : Type} (v : ι → Value) : Prop := ∀ p q, p ≠ q → (v p).ownBlock = none ∨ (v p).ownBlock ≠ (v q).ownBlock
structure TabAt (base : Nat) (d : TD) (s : Tb) (n : Nat) (w : World) : Prop where
  n01 : d.b0 ≠ d.b1
  n02 : d.b0 ≠ d.b2
  n03 : d.b0 ≠ d.b3
  n12 : d.b1 ≠ d.b2
  n13 : d.b1 ≠ d.b3
  n23 : d.b2 ≠ d.b3
  m0 : MapAt 115 appV appL appOk w d.b0 n (fun p => (s.wr p).map wrV)
  m1 : MapAt 118 appV appL appOk w d.b1 n d.fA
  m2 : MapAt 3 idV idL nameOk w d.b2 n d.fR
  m3 : MapAt 3 idV idL nameOk w d.b3 n d.fW
  ra : ∀ p, w.ownsRow base 3 1 (d.vA p) (s.ap p).length ((s.ap p).map (Value.int .i64))
  aw : ∀ p, ∀ x ∈ s.ap p, (Lit.int .i64 x).wf = true
  rr : ∀ k, w.ownsRow base 38 5 (d.vR k) (s.rd k).length (d.cR k).flatten
  rs : ∀ k, AllAt (ReadAt (d.free s) w) (d.cR k) (s.rd k)
  rw : ∀ k, w.ownsRow base 64 5 (d.vW k) (s.ws k).length ((s.ws k).flatMap wrC)
  da : Apart d.vA
  dr : Apart d.vR
  dw : Apart d.vW
  la : ∀ p, (s.ap p).length ≤ n
  lr : ∀ k, (s.rd k).length ≤ n
  lw : ∀ k, (s.ws k).length ≤ n

section
variable {α : Type} {K : TypeId} {key : α → Value} {lit : α → Lit} {ok : α → Prop} {w w' W : World} {b n z base m g : Nat} {e e' : TypeId} {f : α → Option Value} {v v' : Value} {xs : List Value} {S : Nat → Prop}
theorem map_obj (h : MapAt K key lit ok w b n f) : ∃ es c, w.heap[b]? = some (.map es c) := let ⟨_, ⟨es, c, e, _⟩, _⟩ := h; ⟨es, c, e⟩
theorem own_obj (h : w.ownsRow base e z v n xs) (hg : v.ownBlock = some g) : ∃ cur, w.heap[g]? = some (.cells cur e) := by
  rcases h.2 with ⟨rfl, _⟩ | ⟨g', cap, cur, rfl, _, hh, _⟩
  · cases hg
  · cases hg; exact ⟨cur, hh⟩
theorem own_ne_map (h : w.ownsRow base e z v n xs) (hm : MapAt K key lit ok w b m f) : v.ownBlock ≠ some b := fun hg => by
  obtain ⟨cur, h1⟩ := own_obj h hg
  obtain ⟨es, c, h2⟩ := map_obj hm
  rw [h1] at h2; cases h2
theorem own_ne_own {n' : Nat} {z' : Nat} {xs' : List Value} {base' : Nat} (h : w.ownsRow base e z v n xs) (h' : w.ownsRow base' e' z' v' n' xs') (hne : e ≠ e') : v.ownBlock = none ∨ v.ownBlock ≠ v'.ownBlock := by
  cases hv : v.ownBlock with
  | none => exact .inl rfl
  | some g =>
    refine .inr fun hq => ?_
    obtain ⟨cur, h1⟩ := own_obj h hv
    obtain ⟨cur', h2⟩ := own_obj h' hq.symm
    rw [h1] at h2; cases h2; exact hne rfl
theorem cell_ne_map {i : Nat} {u : Value} (h : w.cell? ⟨g, i, none⟩ = some u) (hm : MapAt K key lit ok w b m f) : g ≠ b := fun e => by
  subst e
  obtain ⟨es, c, h2⟩ := map_obj hm
  simp [World.cell?, h2] at h
theorem own_lt (h : w.ownsRow base e z v n xs) (hg : v.ownBlock = some g) : g < w.heap.size := (World.ownsRow.lt h g hg).2
theorem own_keep (h : w.ownsRow base e z v n xs) (ho : Only S w w') (hs : ∀ g, v.ownBlock = some g → ¬ S g) : w'.ownsRow base e z v n xs := (ownN base e z v n xs).keep h ho hs
theorem RdAt.only {G G' : Nat → Nat → Prop} {l : List Int} (h : RdAt G w v l) (hc : ∀ b off i u, G b (off + l.length) → i < l.length → w.cell? ⟨b, off + i, none⟩ = some u → w'.cell? ⟨b, off + i, none⟩ = some u ∧ G' b (off + l.length)) : RdAt G' w' v l := by
  obtain ⟨a, cap, h1, h2, h4, h5, h6⟩ := h
  refine ⟨a, cap, h1, h2, h4, h5, fun i x hi => ?_⟩
  obtain ⟨b, off, e, hG, hcell⟩ := h6 i x hi
  have hlt : i < l.length := by
    rcases Nat.lt_or_ge i l.length with q | q
    · exact q
    · rw [List.getElem?_eq_none q] at hi; cases hi
  obtain ⟨g1, g2⟩ := hc b off i _ hG hlt hcell
  exact ⟨b, off, e, g2, g1⟩
end
section
variable {base n n' : Nat} {d : TD} {s : Tb} {w w' : World} {S : Nat → Prop}
/-- The blocks of a read's slices. -/
theorem rd_slice {G : Nat → Nat → Prop} {v : Value} {l : List Int} (h : RdAt G w v l) {a : Addr} {m cap : Nat} (e : v = .slice (some a) m cap) (hm : 0 < m) : ∃ off u, G a.block (off + l.length) ∧ w.cell? ⟨a.block, off, none⟩ = some u := by
  obtain ⟨a', cap', h1, h2, h4, h5, h6⟩ := h
  rw [e] at h1
  cases h1
  obtain ⟨b, off, e', hG, hc⟩ := h6 0 l[0] (List.getElem?_eq_getElem hm)
  cases e'
  exact ⟨off, _, hG, hc⟩
theorem TabAt.rdBlk (h : TabAt base d s n w) {k : Nat} (hk : d.rdBlk k) : (∃ m, d.free s k m) ∧ ∃ i u, w.cell? ⟨k, i, none⟩ = some u := by
  obtain ⟨j, c, hc, a, m, cap, hs, hm, rfl⟩ := hk
  obtain ⟨i, hi, rfl⟩ := List.mem_iff_getElem.1 hc
  obtain ⟨_, lv, ov, e, h1, h2⟩ := (h.rs j).get (i := i) (by rw [← (h.rs j).1]; exact hi)
  rw [e] at hs
  simp only [List.mem_cons, List.not_mem_nil, or_false, reduceCtorEq, false_or] at hs
  rcases hs with q | q
  · obtain ⟨off, u, g1, g2⟩ := rd_slice h1 q.symm hm
    exact ⟨⟨_, g1⟩, _, _, g2⟩
  · obtain ⟨off, u, g1, g2⟩ := rd_slice h2 q.symm hm
    exact ⟨⟨_, g1⟩, _, _, g2⟩
theorem TabAt.lt (h : TabAt base d s n w) : ∀ k, d.F k → k < w.heap.size := by
  rintro k (rfl | rfl | rfl | rfl | ⟨p, hp⟩ | ⟨j, hj⟩ | ⟨j, hj⟩ | hr)
  · exact h.m0.lt
  · exact h.m1.lt
  · exact h.m2.lt
  · exact h.m3.lt
  · exact own_lt (h.ra p) hp
  · exact own_lt (h.rr j) hj
  · exact own_lt (h.rw j) hj
  · obtain ⟨_, i, u, hc⟩ := h.rdBlk hr
    exact lt_of_cell hc
theorem rd_mem {c : List Value} {G : Nat → Nat → Prop} {r : RdM} (h : ReadAt G w c r) : ∃ lv ov, c = [.int .i64 r.txn, .int .i64 (r.op : Int), .int .i64 r.key, lv, ov] ∧ RdAt G w lv r.list ∧ RdAt G w ov r.own := h
theorem TabAt.keep (h : TabAt base d s n w) (ho : Only S w w') (hs : ∀ k, d.F k → ¬ S k) : TabAt base d s n w' where
  n01 := h.n01
  n02 := h.n02
  n03 := h.n03
  n12 := h.n12
  n13 := h.n13
  n23 := h.n23
  m0 := h.m0.keep ho (hs _ (.inl rfl))
  m1 := h.m1.keep ho (hs _ (.inr (.inl rfl)))
  m2 := h.m2.keep ho (hs _ (.inr (.inr (.inl rfl))))
  m3 := h.m3.keep ho (hs _ (.inr (.inr (.inr (.inl rfl)))))
  ra p := own_keep (h.ra p) ho fun g hg => hs g (.inr (.inr (.inr (.inr (.inl ⟨p, hg⟩)))))
  aw := h.aw
  rr k := own_keep (h.rr k) ho fun g hg => hs g (.inr (.inr (.inr (.inr (.inr (.inl ⟨k, hg⟩))))))
  rs k := ⟨(h.rs k).1, fun i c r hc hr => by
    obtain ⟨lv, ov, rfl, h1, h2⟩ := (h.rs k).2 i c r hc hr
    have hmem := List.mem_of_getElem? hc
    have aux : ∀ v l, RdAt (d.free s) w v l → v ∈ [Value.int .i64 r.txn, .int .i64 (r.op : Int), .int .i64 r.key, lv, ov] → RdAt (d.free s) w' v l := fun v l hr hv => by
      obtain ⟨a, cap, e1, e2, e4, e5, e6⟩ := hr
      refine ⟨a, cap, e1, e2, e4, e5, fun i x hi => ?_⟩
      obtain ⟨b, off, e, hG, hcell⟩ := e6 i x hi
      subst e
      refine ⟨b, off, rfl, hG, ho.cell hcell (hs _ (.inr (.inr (.inr (.inr (.inr (.inr (.inr ⟨k, _, hmem, ⟨b, off, none⟩, l.length, cap, by rw [← e1]; exact hv, ?_, rfl⟩))))))))⟩
      rcases Nat.lt_or_ge i l.length with q | q
      · omega
      · rw [List.getElem?_eq_none q] at hi; cases hi
    exact ⟨lv, ov, rfl, aux lv _ h1 (by simp), aux ov _ h2 (by simp)⟩⟩
  rw k := own_keep (h.rw k) ho fun g hg => hs g (.inr (.inr (.inr (.inr (.inr (.inr (.inl ⟨k, hg⟩)))))))
  da := h.da
  dr := h.dr
  dw := h.dw
  la := h.la
  lr := h.lr
  lw := h.lw
def tabT (base : Nat) (d : TD) (s : Tb) (n : Nat) : Th where
  P w := TabAt base d s n w
  F := d.F
  keep h ho hs := h.keep ho hs
  lt h := h.lt
theorem TabAt.mono (h : TabAt base d s n w) (hn : n ≤ n') : TabAt base d s n' w := { h with
  m0 := h.m0.mono hn
  m1 := h.m1.mono hn
  m2 := h.m2.mono hn
  m3 := h.m3.mono hn
  la := fun p => Nat.le_trans (h.la p) hn
  lr := fun p => Nat.le_trans (h.lr p) hn
  lw := fun p => Nat.le_trans (h.lw p) hn }
/-- What a table's blocks are. -/
theorem TabAt.objT (h : TabAt base d s n w) {k : Nat} (hk : d.T k) : (k = d.b0 ∨ k = d.b1 ∨ k = d.b2 ∨ k = d.b3) ∨ ∃ cur e, w.heap[k]? = some (.cells cur e) ∧ (e = 3 ∨ e = 38 ∨ e = 64) := by
  rcases hk with e | e | e | e | ⟨p, e⟩ | ⟨p, e⟩ | ⟨p, e⟩ | e
  · exact .inl (.inl e)
  · exact .inl (.inr (.inl e))
  · exact .inl (.inr (.inr (.inl e)))
  · exact .inl (.inr (.inr (.inr e)))
  · obtain ⟨cur, q⟩ := own_obj (h.ra p) e; exact .inr ⟨cur, _, q, .inl rfl⟩
  · obtain ⟨cur, q⟩ := own_obj (h.rr p) e; exact .inr ⟨cur, _, q, .inr (.inl rfl)⟩
  · obtain ⟨cur, q⟩ := own_obj (h.rw p) e; exact .inr ⟨cur, _, q, .inr (.inr rfl)⟩
  · exact e.elim
theorem TabAt.objF (h : TabAt base d s n w) {k : Nat} (hk : d.F k) : (k = d.b0 ∨ k = d.b1 ∨ k = d.b2 ∨ k = d.b3) ∨ ∃ i u, w.cell? ⟨k, i, none⟩ = some u ∨ ∃ cur e, w.heap[k]? = some (.cells cur e) := by
  rcases hk with e | e | e | e | ⟨p, e⟩ | ⟨p, e⟩ | ⟨p, e⟩ | e
  · exact .inl (.inl e)
  · exact .inl (.inr (.inl e))
  · exact .inl (.inr (.inr (.inl e)))
  · exact .inl (.inr (.inr (.inr e)))
  · obtain ⟨cur, q⟩ := own_obj (h.ra p) e; exact .inr ⟨0, undef, .inr ⟨cur, _, q⟩⟩
  · obtain ⟨cur, q⟩ := own_obj (h.rr p) e; exact .inr ⟨0, undef, .inr ⟨cur, _, q⟩⟩
  · obtain ⟨cur, q⟩ := own_obj (h.rw p) e; exact .inr ⟨0, undef, .inr ⟨cur, _, q⟩⟩
  · obtain ⟨_, i, u, hc⟩ := h.rdBlk e; exact .inr ⟨i, u, .inl hc⟩
/-- Objects that are no cells, made since, may turn. -/
theorem TabAt.own_from (h : TabAt base d s n w) {B : Nat} {row : Option Nat} (hg : w.grownBy w' row) (hr : ∀ r, row = some r → B ≤ r ∧ ∃ o : Obj, w.heap[r]? = some o ∧ o.isCells = false) (hb : d.b0 < B ∧ d.b1 < B ∧ d.b2 < B ∧ d.b3 < B) : TabAt base d s n w' :=
  h.keep (S := fun k => row = some k) ⟨hg.os, hg.tape, hg.output, hg.size, fun k hk hn => hg.block k hk (fun e => hn e.symm)⟩ fun k hk e => by
    obtain ⟨h1, o, h2, h3⟩ := hr k e
    rcases h.objF hk with q | ⟨i, u, q | ⟨cur, T, q⟩⟩
    · rcases q with q | q | q | q <;> omega
    · rw [World.cell?] at q
      simp only [h2] at q
      cases o <;> simp_all [Obj.isCells]
    · rw [h2] at q
      cases q
      simp [Obj.isCells] at h3
end
end Go.Proofs.YtkinmllflodhaaaGreat.Tab
