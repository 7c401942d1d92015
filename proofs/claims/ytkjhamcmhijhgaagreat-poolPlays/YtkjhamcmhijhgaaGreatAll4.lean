/- Joined out of the texts Things, SetPlain, PickPlain, PoolPlain, in that order. -/
import Derived.Test.YtkjhamcmhijhgaaGreatAll3
import Derived.Test.YtkjhamcmhijhgaaGreatAll1
import Derived.WalkKit
import Derived.Lib.SlicesCompact
/- What a law knows between two calls: things that it has made, no two of which share a block, each with what may turn it. -/
namespace Go.Proofs.YtkjhamcmhijhgaaGreat.Thing
open Go.RowKit Go.Proofs.YtkjhamcmhijhgaaGreat.Dig Go.Proofs.YtkjhamcmhijhgaaGreat.Mem Go.Proofs.YtkjhamcmhijhgaaGreat.Dq
set_option linter.unusedVariables false
set_option linter.unusedSimpArgs false

/-- A thing: what is so of the world, and the blocks that it hangs on. -/
structure Th where
  P : World → Prop
  F : Nat → Prop
  keep : ∀ {w w' : World} {S : Nat → Prop}, P w → Only S w w' → (∀ k, F k → ¬ S k) → P w'
  lt : ∀ {w : World}, P w → ∀ k, F k → k < w.heap.size
def Sep (x y : Th) : Prop := ∀ k, x.F k → ¬ y.F k
theorem Sep.symm {x y : Th} (h : Sep x y) : Sep y x := fun k h1 h2 => h k h2 h1
/-- From w on: nothing older has turned; the things are there, made since w, and share no block. -/
structure Kn (w : World) (ts : List Th) (wx : World) : Prop where
  below : Below w.heap.size w wx
  has : ∀ t ∈ ts, t.P wx ∧ ∀ k, t.F k → w.heap.size ≤ k
  sep : ts.Pairwise Sep
section
variable {w wx w' : World} {ts ts' : List Th} {t t' : Th}
theorem Kn.start (w : World) : Kn w [] w := ⟨Below.refl _ _, by simp, by simp⟩
theorem Kn.hd (h : Kn w (t :: ts) wx) : t.P wx := (h.has t (by simp)).1
theorem Kn.get (h : Kn w ts wx) (ht : t ∈ ts) : t.P wx := (h.has t ht).1
theorem Kn.keep (h : Kn w ts wx) (hb : Below wx.heap.size wx w') : Kn w ts w' :=
  ⟨h.below.trans (hb.mono h.below.size), fun t ht => ⟨t.keep (h.has t ht).1 (Only.of_below (S := fun _ => False) hb) (fun _ _ q => q), (h.has t ht).2⟩, h.sep⟩
theorem Kn.drewN (h : Kn w ts wx) (m : Nat) : Kn w ts (wx.drewN m) := h.keep (below_of_drewN m)
theorem Kn.sub (h : Kn w ts wx) (hs : ts'.Sublist ts) : Kn w ts' wx := ⟨h.below, fun t ht => h.has t (hs.subset ht), h.sep.sublist hs⟩
theorem Kn.perm (h : Kn w ts wx) (hs : ts.Perm ts') : Kn w ts' wx := ⟨h.below, fun t ht => h.has t (hs.mem_iff.2 ht), (hs.pairwise_iff (fun {a b} q => Sep.symm q)).1 h.sep⟩
theorem Kn.swap {a b : Th} (h : Kn w (a :: b :: ts) wx) : Kn w (b :: a :: ts) wx := h.perm (List.Perm.swap b a ts)
theorem Kn.tail (h : Kn w (t :: ts) wx) : Kn w ts wx := h.sub (List.sublist_cons_self _ _)
/-- The first thing is turned. -/
theorem Kn.turn (h : Kn w (t :: ts) wx) (hp : t'.P w') (ho : Only t.F wx w') (hf : ∀ k, t'.F k → t.F k ∨ wx.heap.size ≤ k) : Kn w (t' :: ts) w' := by
  have hge := (h.has t (by simp)).2
  have hs := List.pairwise_cons.1 h.sep
  refine ⟨h.below.only ho hge h.below.size, fun x hx => ?_, List.pairwise_cons.2 ⟨fun x hx k h1 h2 => ?_, hs.2⟩⟩
  · rcases List.mem_cons.1 hx with rfl | q
    · refine ⟨hp, fun k hk => ?_⟩
      rcases hf k hk with q | q
      · exact hge k q
      · exact Nat.le_trans h.below.size q
    · exact ⟨x.keep (h.has x (List.mem_cons_of_mem _ q)).1 ho (fun k h1 h2 => hs.1 x q k h2 h1), (h.has x (List.mem_cons_of_mem _ q)).2⟩
  · rcases hf k h1 with q | q
    · exact hs.1 x hx k q h2
    · have := x.lt (h.has x (List.mem_cons_of_mem _ hx)).1 k h2
      omega
/-- One more, made meanwhile. -/
theorem Kn.more (h : Kn w ts wx) (hb : Below wx.heap.size wx w') (hp : t'.P w') (hf : ∀ k, t'.F k → wx.heap.size ≤ k) : Kn w (t' :: ts) w' := by
  have h' := h.keep hb
  refine ⟨h'.below, fun x hx => ?_, List.pairwise_cons.2 ⟨fun x hx k h1 h2 => ?_, h.sep⟩⟩
  · rcases List.mem_cons.1 hx with rfl | q
    · exact ⟨hp, fun k hk => Nat.le_trans h.below.size (hf k hk)⟩
    · exact h'.has x q
  · have := x.lt (h.has x hx).1 k h2
    have := hf k h1
    omega
/-- A thing seen otherwise. -/
theorem Kn.as (h : Kn w (t :: ts) wx) (hp : t.P wx → t'.P wx) (hf : ∀ k, t'.F k → t.F k) : Kn w (t' :: ts) wx :=
  h.turn (hp h.hd) (Only.refl _ _) (fun k q => .inl (hf k q))
end
/-- A row of numbers that is read. -/
def rowT (a : Option Addr) (c : Nat) (m : List Int) : Th where
  P w := RowI w a c m
  F k := 0 < m.length ∧ ∃ x, a = some x ∧ x.block = k
  keep h ho hs := ⟨h.cap, h.rd.only' ho (fun hl x e => hs x.block ⟨hl, x, e, rfl⟩), h.nil⟩
  lt h k hk := by
    obtain ⟨hl, x, e, rfl⟩ := hk
    exact Rd.lt h.rd hl x e
/-- A block of cells. -/
def boxT (b : Nat) (cs : Array Value) : Th where
  P w := Is w b cs
  F k := k = b
  keep h ho hs := h.keep ho (hs b rfl)
  lt h k hk := by cases hk; exact h.lt
/-- A row of the call's own. -/
def ownT (base : Nat) (e : TypeId) (v : Value) (n : Nat) (xs : List Value) : Th where
  P w := w.ownsRow base e 1 v n xs
  F k := v.ownBlock = some k
  keep {w w' S} h ho hs := by
    refine ⟨h.1, ?_⟩
    rcases h.2 with hn | ⟨g, cap, cur, rfl, hg, hh, r⟩
    · exact .inl hn
    · have hlt : g < w.heap.size := by
        rcases Nat.lt_or_ge g w.heap.size with q | q
        · exact q
        · simp [Array.getElem?_eq_none q] at hh
      exact .inr ⟨g, cap, cur, rfl, hg, by rw [ho.block g hlt (hs g rfl)]; exact hh, r⟩
  lt h k hk := (World.ownsRow.lt h k hk).2
end Go.Proofs.YtkjhamcmhijhgaaGreat.Thing

/- Plain mathematics of sets as rising lists: the set of a list, two sets together, what is in both or in the one alone, and how two lists stand. It imports nothing of the program. -/
namespace Go.Proofs.YtkjhamcmhijhgaaGreat.Sets
set_option linter.unusedVariables false
set_option linter.unusedSimpArgs false

/-- A strict total order. -/
structure Tot {α : Type} (lt : α → α → Bool) : Prop where
  irr : ∀ x, lt x x = false
  tr : ∀ x y z, lt x y = true → lt y z = true → lt x z = true
  tot : ∀ x y, lt x y = false → lt y x = false → x = y
def ltI (x y : Int) : Bool := decide (x < y)
def ltS (x y : List UInt8) : Bool := decide (x < y)
theorem totI : Tot ltI := ⟨fun x => by simp [ltI], fun x y z h1 h2 => by simp [ltI] at *; omega, fun x y h1 h2 => by simp [ltI] at *; omega⟩
theorem totS : Tot ltS := ⟨fun x => by simp [ltS, List.lt_irrefl], fun x y z h1 h2 => by simp only [ltS, decide_eq_true_eq] at *; exact List.lt_trans h1 h2, fun x y h1 h2 => by
  simp only [ltS, decide_eq_false_iff_not] at *
  exact List.le_antisymm (List.not_lt.1 h2) (List.not_lt.1 h1)⟩

section
variable {α : Type} {lt : α → α → Bool}
def Rising (lt : α → α → Bool) (l : List α) : Prop := l.Pairwise fun x y => lt x y = true
theorem Rising.nil : Rising lt [] := List.Pairwise.nil
theorem rising_cons {x : α} {l : List α} : Rising lt (x :: l) ↔ (∀ y ∈ l, lt x y = true) ∧ Rising lt l := List.pairwise_cons
theorem rising_append {l m : List α} : Rising lt (l ++ m) ↔ Rising lt l ∧ Rising lt m ∧ ∀ x ∈ l, ∀ y ∈ m, lt x y = true := List.pairwise_append
theorem Rising.sub {l m : List α} (h : Rising lt m) (s : l.Sublist m) : Rising lt l := List.Pairwise.sublist s h
theorem Tot.asym (T : Tot lt) {x y : α} (h : lt x y = true) : lt y x = false := by
  cases e : lt y x with
  | false => rfl
  | true => rw [← T.irr x, T.tr x y x h e]
theorem Tot.neq (T : Tot lt) {x y : α} (h : lt x y = true) : x ≠ y := fun e => by subst e; rw [T.irr] at h; cases h
theorem Tot.neg_tr (T : Tot lt) {x y z : α} (h : lt x y = true) (k : lt z y = false) : lt x z = true := by
  cases e : lt y z with
  | true => exact T.tr _ _ _ h e
  | false => rw [← T.tot _ _ e k]; exact h

/-- Two rising lists of the same things are one. -/
theorem rising_eq (T : Tot lt) : ∀ {s t : List α}, Rising lt s → Rising lt t → (∀ x, x ∈ s ↔ x ∈ t) → s = t
  | [], [], _, _, _ => rfl
  | [], y :: t, _, _, h => by have := (h y).2 (by simp); simp at this
  | x :: s, [], _, _, h => by have := (h x).1 (by simp); simp at this
  | x :: s, y :: t, hs, ht, h => by
    obtain ⟨hx, hs'⟩ := rising_cons.1 hs
    obtain ⟨hy, ht'⟩ := rising_cons.1 ht
    have e : x = y := by
      have h1 := (h x).1 (by simp)
      have h2 := (h y).2 (by simp)
      rcases List.mem_cons.1 h1 with e | h1
      · exact e
      rcases List.mem_cons.1 h2 with e | h2
      · exact e.symm
      have a := hy x h1
      rw [T.asym (hx y h2)] at a
      cases a
    subst e
    rw [rising_eq T hs' ht' fun z => ⟨fun hz => ?_, fun hz => ?_⟩]
    · rcases List.mem_cons.1 ((h z).1 (List.mem_cons_of_mem _ hz)) with e | q
      · subst e; exact absurd rfl (T.neq (hx z hz))
      · exact q
    · rcases List.mem_cons.1 ((h z).2 (List.mem_cons_of_mem _ hz)) with e | q
      · subst e; exact absurd rfl (T.neq (hy z hz))
      · exact q

/-- The set of a list. -/
def ins (lt : α → α → Bool) (x : α) : List α → List α
  | [] => [x]
  | y :: l => if lt x y then x :: y :: l else if lt y x then y :: ins lt x l else y :: l
def setL (lt : α → α → Bool) : List α → List α
  | [] => []
  | x :: l => ins lt x (setL lt l)
theorem mem_ins (T : Tot lt) (x : α) : ∀ (l : List α) (z : α), z ∈ ins lt x l ↔ z = x ∨ z ∈ l
  | [], z => by simp [ins]
  | y :: l, z => by
    unfold ins
    cases h1 : lt x y with
    | true => simp
    | false =>
      cases h2 : lt y x with
      | true => simp [mem_ins T x l z]; constructor <;> (intro h; rcases h with h | h | h <;> simp [h])
      | false => have := T.tot x y h1 h2; subst this; simp
theorem rising_ins (T : Tot lt) (x : α) : ∀ {l : List α}, Rising lt l → Rising lt (ins lt x l)
  | [], _ => by simp [ins, Rising]
  | y :: l, h => by
    obtain ⟨hy, hl⟩ := rising_cons.1 h
    unfold ins
    cases h1 : lt x y with
    | true => exact rising_cons.2 ⟨fun z hz => (List.mem_cons.1 hz).elim (fun e => e ▸ h1) (fun q => T.tr _ _ _ h1 (hy z q)), h⟩
    | false =>
      cases h2 : lt y x with
      | true =>
        refine rising_cons.2 ⟨fun z hz => ?_, rising_ins T x hl⟩
        rcases (mem_ins T x l z).1 hz with e | q
        · exact e ▸ h2
        · exact hy z q
      | false => exact h
theorem mem_setL (T : Tot lt) : ∀ (l : List α) (z : α), z ∈ setL lt l ↔ z ∈ l
  | [], z => by simp [setL]
  | x :: l, z => by simp [setL, mem_ins T, mem_setL T l]
theorem rising_setL (T : Tot lt) : ∀ l : List α, Rising lt (setL lt l)
  | [] => Rising.nil
  | x :: l => rising_ins T x (rising_setL T l)
theorem setL_unique (T : Tot lt) {s l : List α} (h : Rising lt s) (k : ∀ x, x ∈ s ↔ x ∈ l) : s = setL lt l := rising_eq T h (rising_setL T l) fun x => by rw [k, mem_setL T]
theorem setL_congr (T : Tot lt) {l m : List α} (k : ∀ x, x ∈ l ↔ x ∈ m) : setL lt l = setL lt m := setL_unique T (rising_setL T l) fun x => by rw [mem_setL T, k]
theorem setL_rising (T : Tot lt) {s : List α} (h : Rising lt s) : setL lt s = s := (setL_unique T h fun _ => Iff.rfl).symm
theorem ins_length (x : α) : ∀ l : List α, (ins lt x l).length ≤ l.length + 1
  | [] => by simp [ins]
  | y :: l => by
    unfold ins
    have := ins_length x l
    split
    · simp
    · split
      · simp; omega
      · simp
theorem setL_length : ∀ l : List α, (setL lt l).length ≤ l.length
  | [] => by simp [setL]
  | x :: l => by have := ins_length (lt := lt) x (setL lt l); have := setL_length l; simp [setL]; omega

/-- Two sets together, as the program goes about it: one thing of the first laid in ahead of what is left of the second. -/
def orIn (lt : α → α → Bool) (x : α) : List α → List α → List α × List α
  | l, [] => (l ++ [x], [])
  | l, r :: rest => if lt r x then orIn lt x (l ++ [r]) rest else if lt x r then (l ++ [x], r :: rest) else (l ++ [x], rest)
def orS (lt : α → α → Bool) (t pre : List α) : List α × List α := pre.foldl (fun p x => orIn lt x p.1 p.2) ([], t)
def orL (lt : α → α → Bool) (s t : List α) : List α := (orS lt t s).1 ++ (orS lt t s).2
theorem orS_snoc (t pre : List α) (x : α) : orS lt t (pre ++ [x]) = orIn lt x (orS lt t pre).1 (orS lt t pre).2 := by simp [orS]
theorem orIn_length (x : α) : ∀ (rest l : List α), (orIn lt x l rest).1.length + (orIn lt x l rest).2.length ≤ l.length + rest.length + 1
  | [], l => by simp [orIn]
  | r :: rest, l => by
    unfold orIn
    have := orIn_length x rest (l ++ [r])
    simp at this
    split
    · simp; omega
    · split <;> simp <;> omega
theorem orS_length (t : List α) : ∀ pre : List α, (orS lt t pre).1.length + (orS lt t pre).2.length ≤ pre.length + t.length := by
  intro pre
  induction h : pre.length generalizing pre with
  | zero => obtain rfl : pre = [] := List.eq_nil_of_length_eq_zero h; simp [orS]
  | succ n ih =>
    rcases List.eq_nil_or_concat pre with rfl | ⟨q, x, rfl⟩
    · simp at h
    · rw [List.concat_eq_append] at h ⊢
      have hq : q.length = n := by simpa using h
      have := ih q hq
      have := orIn_length (lt := lt) x (orS lt t q).2 (orS lt t q).1
      rw [orS_snoc]
      omega
structure OrOk (lt : α → α → Bool) (l rest : List α) : Prop where
  one : Rising lt l
  two : Rising lt rest
  less : ∀ y ∈ l, ∀ z ∈ rest, lt y z = true
theorem orIn_ok (T : Tot lt) (x : α) : ∀ (rest l : List α), OrOk lt l rest → (∀ y ∈ l, lt y x = true) →
    OrOk lt (orIn lt x l rest).1 (orIn lt x l rest).2 ∧ (∀ y ∈ (orIn lt x l rest).1, y = x ∨ lt y x = true) ∧ ∀ z, (z ∈ (orIn lt x l rest).1 ∨ z ∈ (orIn lt x l rest).2) ↔ z = x ∨ z ∈ l ∨ z ∈ rest
  | [], l, h, hx => by
    refine ⟨⟨rising_append.2 ⟨h.one, by simp [Rising], fun y hy z hz => by simp at hz; subst hz; exact hx y hy⟩, Rising.nil, fun y _ z hz => by simp [orIn] at hz⟩, ?_, ?_⟩
    · intro y hy; simp [orIn] at hy; rcases hy with q | q
      · exact .inr (hx y q)
      · exact .inl q
    · intro z; simp [orIn]; constructor <;> (intro q; rcases q with q | q <;> simp [q])
  | r :: rest, l, h, hx => by
    obtain ⟨hr, hrest⟩ := rising_cons.1 h.two
    unfold orIn
    cases h1 : lt r x with
    | true =>
      have := orIn_ok T x rest (l ++ [r]) ⟨rising_append.2 ⟨h.one, by simp [Rising], fun y hy z hz => by simp at hz; subst hz; exact h.less y hy _ (by simp)⟩, hrest, fun y hy z hz => by
        rcases List.mem_append.1 hy with q | q
        · exact h.less y q z (by simp [hz])
        · simp at q; subst q; exact hr z hz⟩ (fun y hy => by
        rcases List.mem_append.1 hy with q | q
        · exact hx y q
        · simp at q; subst q; exact h1)
      simp only [if_true]
      refine ⟨this.1, this.2.1, fun z => ?_⟩
      rw [this.2.2 z]
      simp only [List.mem_append, List.mem_cons, List.not_mem_nil, or_false]
      grind
    | false =>
      have hxr : ∀ z ∈ rest, lt x z = true := fun z hz => by
        cases e : lt x r with
        | true => exact T.tr _ _ _ e (hr z hz)
        | false => rw [T.tot x r e h1]; exact hr z hz
      cases h2 : lt x r with
      | true =>
        simp only [if_true, Bool.false_eq_true, if_false]
        refine ⟨⟨rising_append.2 ⟨h.one, by simp [Rising], fun y hy z hz => by simp at hz; subst hz; exact hx y hy⟩, h.two, fun y hy z hz => ?_⟩, fun y hy => ?_, fun z => ?_⟩
        · have xz : lt x z = true := (List.mem_cons.1 hz).elim (fun e => e ▸ h2) (fun q => hxr z q)
          rcases List.mem_append.1 hy with q | q
          · exact T.tr _ _ _ (hx y q) xz
          · simp at q; subst q; exact xz
        · rcases List.mem_append.1 hy with q | q
          · exact .inr (hx y q)
          · simp at q; exact .inl q
        · simp only [List.mem_append, List.mem_cons, List.not_mem_nil, or_false]
          grind
      | false =>
        have e := T.tot x r h2 h1
        subst e
        simp only [Bool.false_eq_true, if_false]
        refine ⟨⟨rising_append.2 ⟨h.one, by simp [Rising], fun y hy z hz => by simp at hz; subst hz; exact hx y hy⟩, hrest, fun y hy z hz => ?_⟩, fun y hy => ?_, fun z => ?_⟩
        · rcases List.mem_append.1 hy with q | q
          · exact T.tr _ _ _ (hx y q) (hxr z hz)
          · simp at q; subst q; exact hxr z hz
        · rcases List.mem_append.1 hy with q | q
          · exact .inr (hx y q)
          · simp at q; exact .inl q
        · simp only [List.mem_append, List.mem_cons, List.not_mem_nil, or_false]
          grind
theorem orS_ok (T : Tot lt) (t : List α) (ht : Rising lt t) : ∀ (s pre : List α), Rising lt s → OrOk lt (orS lt t pre).1 (orS lt t pre).2 → (∀ y ∈ (orS lt t pre).1, ∀ z ∈ s, lt y z = true) → (∀ z, (z ∈ (orS lt t pre).1 ∨ z ∈ (orS lt t pre).2) ↔ z ∈ pre ∨ z ∈ t) →
    OrOk lt (orS lt t (pre ++ s)).1 (orS lt t (pre ++ s)).2 ∧ ∀ z, (z ∈ (orS lt t (pre ++ s)).1 ∨ z ∈ (orS lt t (pre ++ s)).2) ↔ z ∈ pre ++ s ∨ z ∈ t
  | [], pre, _, h, _, hm => by rw [List.append_nil]; exact ⟨h, hm⟩
  | x :: s, pre, hs, h, hl, hm => by
    obtain ⟨hx, hs'⟩ := rising_cons.1 hs
    obtain ⟨g1, g2, g3⟩ := orIn_ok T x _ _ h (fun y hy => hl y hy x (by simp))
    rw [← orS_snoc] at g1 g2 g3
    have := orS_ok T t ht s (pre ++ [x]) hs' g1 (fun y hy z hz => (g2 y hy).elim (fun e => e ▸ hx z hz) (fun q => T.tr _ _ _ q (hx z hz))) (fun z => by
      rw [g3 z, or_congr Iff.rfl (hm z)]
      simp only [List.mem_append, List.mem_cons, List.not_mem_nil, or_false]
      grind)
    rw [List.append_assoc] at this
    exact this
/-- Two sets, gone through together, are the set of both lists. -/
theorem orL_eq (T : Tot lt) {s t : List α} (hs : Rising lt s) (ht : Rising lt t) : orL lt s t = setL lt (s ++ t) := by
  obtain ⟨g, m⟩ := orS_ok T t ht s [] hs ⟨Rising.nil, ht, fun y hy => by simp [orS] at hy⟩ (fun y hy => by simp [orS] at hy) (fun z => by simp [orS])
  rw [List.nil_append] at g m
  refine setL_unique T (rising_append.2 ⟨g.one, g.two, g.less⟩) fun z => ?_
  rw [orL, List.mem_append, m z, List.mem_append]
/-- A part of a set is a set. -/
theorem rising_filter {s : List α} (h : Rising lt s) (p : α → Bool) : Rising lt (s.filter p) := h.sub List.filter_sublist
/-- What of a set is not below something. -/
theorem drop_count (T : Tot lt) (x : α) : ∀ {s : List α}, Rising lt s → s.drop (s.countP fun y => lt y x) = s.dropWhile fun y => lt y x
  | [], _ => by simp
  | y :: s, h => by
    obtain ⟨hy, hs⟩ := rising_cons.1 h
    cases e : lt y x with
    | true => rw [List.countP_cons_of_pos (by simpa using e), List.drop_succ_cons, drop_count T x hs, List.dropWhile_cons_of_pos (by simpa using e)]
    | false =>
      have h0 : s.countP (fun y => lt y x) = 0 := List.countP_eq_zero.2 fun z hz q => by
        have q' : lt z x = true := q
        have := T.tr _ _ _ (hy z hz) q'
        rw [e] at this; cases this
      rw [List.countP_cons_of_neg (by simp [e]), h0, List.drop_zero, List.dropWhile_cons_of_neg (by simp [e])]
end

section
variable {α : Type} [Inhabited α] [DecidableEq α] {lt : α → α → Bool}
/-- A list in order, of whose neighbours that are alike one stays, is the set of it. -/
theorem compactUpTo_set (T : Tot lt) (d : Array α) (hd : ∀ i j, i ≤ j → j < d.size → lt d[j]! d[i]! = false) : ∀ m, m ≤ d.size →
    Rising lt (Lib.compactUpTo d m) ∧ (∀ x ∈ Lib.compactUpTo d m, ∃ j, j < m ∧ d[j]! = x) ∧ ∀ j, j < m → d[j]! ∈ Lib.compactUpTo d m
  | 0, _ => ⟨by simp [Lib.compactUpTo, Rising], by simp [Lib.compactUpTo], by omega⟩
  | m + 1, hm => by
    obtain ⟨h1, h2, h3⟩ := compactUpTo_set T d hd m (by omega)
    rw [Lib.compactUpTo_succ]
    cases hk : Lib.keeps d m with
    | true =>
      simp only [if_true]
      refine ⟨rising_append.2 ⟨h1, by simp [Rising], fun x hx z hz => ?_⟩, fun x hx => ?_, fun j hj => ?_⟩
      · simp at hz; subst hz
        obtain ⟨j, hj, rfl⟩ := h2 x hx
        have hne : d[m]! ≠ d[m - 1]! := by
          have := of_decide_eq_true hk
          rcases this with q | q
          · omega
          · exact q
        have q1 : lt d[m - 1]! d[m]! = true := by
          cases e : lt d[m - 1]! d[m]! with
          | true => rfl
          | false => exact absurd (T.tot _ _ (hd (m - 1) m (by omega) (by omega)) e) hne
        cases e : lt d[j]! d[m]! with
        | true => rfl
        | false =>
          have := T.neg_tr q1 e
          rw [hd j (m - 1) (by omega) (by omega)] at this
          cases this
      · rcases List.mem_append.1 hx with q | q
        · obtain ⟨j, hj, e⟩ := h2 x q; exact ⟨j, by omega, e⟩
        · simp at q; exact ⟨m, by omega, q.symm⟩
      · by_cases e : j = m
        · subst e; simp
        · exact List.mem_append_left _ (h3 j (by omega))
    | false =>
      simp only [Bool.false_eq_true, if_false, List.append_nil]
      refine ⟨h1, fun x hx => ?_, fun j hj => ?_⟩
      · obtain ⟨j, hj, e⟩ := h2 x hx; exact ⟨j, by omega, e⟩
      · by_cases e : j = m
        · subst e
          have := of_decide_eq_false hk
          have h0 : ¬ j = 0 := fun q => this (.inl q)
          have he : d[j]! = d[j - 1]! := by
            by_cases q : d[j]! = d[j - 1]!
            · exact q
            · exact absurd (.inr q) this
          rw [he]
          exact h3 (j - 1) (by omega)
        · exact h3 j (by omega)
theorem compact_set (T : Tot lt) {zs : List α} (hd : zs.Pairwise fun x y => lt y x = false) : Lib.compact zs = setL lt zs := by
  have hp := List.pairwise_iff_getElem.1 hd
  obtain ⟨h1, h2, h3⟩ := compactUpTo_set T zs.toArray (fun i j hij hj => by
    have hj' : j < zs.length := by simpa using hj
    rcases Nat.lt_or_ge i j with q | q
    · simpa [getElem!_pos, hj', Nat.lt_trans q hj'] using hp i j (by omega) hj' q
    · obtain rfl : i = j := by omega
      exact T.irr _) zs.length (by simp)
  refine setL_unique T h1 fun x => ⟨fun hx => ?_, fun hx => ?_⟩
  · obtain ⟨j, hj, e⟩ := h2 x hx
    rw [← e]
    simp [getElem!_pos, hj]
  · obtain ⟨j, hj, e⟩ := List.getElem_of_mem hx
    have := h3 j hj
    rw [show zs.toArray[j]! = x by simp [getElem!_pos, hj, e]] at this
    exact this
end
/-- The shelf's sort, and one of neighbours that are alike kept, gives the set. -/
theorem sort_set_int (zs : List Int) : Lib.compact (zs.mergeSort fun x y => decide (x ≤ y)) = setL ltI zs := by
  rw [compact_set totI ((List.pairwise_mergeSort (le := fun x y : Int => decide (x ≤ y)) (fun a b c h1 h2 => by simp at *; omega) (fun a b => by simp; omega) zs).imp fun h => by simp [ltI] at *; omega)]
  exact setL_congr totI fun x => List.mem_mergeSort
theorem sort_set_str (zs : List (List UInt8)) : Lib.compact (zs.mergeSort fun x y => decide (x ≤ y)) = setL ltS zs := by
  rw [compact_set totS ((List.pairwise_mergeSort (le := fun x y : List UInt8 => decide (x ≤ y)) (fun a b c h1 h2 => by simp only [decide_eq_true_eq] at *; exact List.le_trans h1 h2) (fun a b => by simp only [Bool.or_eq_true, decide_eq_true_eq]; exact List.le_total a b) zs).imp fun h => by
    simp only [ltS, decide_eq_true_eq, decide_eq_false_iff_not] at *
    exact List.not_lt.2 h)]
  exact setL_congr totS fun x => List.mem_mergeSort

/-- How two numbers, two lists of one length, and two lists stand. -/
def cmpI (x y : Int) : Int := if x < y then -1 else if y < x then 1 else 0
def lexL {α : Type} (lt : α → α → Bool) : List α → List α → Int
  | x :: a, y :: b => if lt x y then -1 else if lt y x then 1 else lexL lt a b
  | _, _ => 0
def cmpL {α : Type} (lt : α → α → Bool) (a b : List α) : Int := if a.length < b.length then -1 else if b.length < a.length then 1 else lexL lt a b
section
variable {α : Type} {lt : α → α → Bool}
theorem lexL_swap (T : Tot lt) : ∀ a b : List α, lexL lt b a = - lexL lt a b
  | [], [] => rfl
  | [], _ :: _ => rfl
  | _ :: _, [] => rfl
  | x :: a, y :: b => by
    unfold lexL
    cases h1 : lt x y with
    | true => simp [T.asym h1]
    | false => cases h2 : lt y x with
      | true => simp
      | false => simpa using lexL_swap T a b
theorem lexL_three : ∀ a b : List α, lexL lt a b = -1 ∨ lexL lt a b = 0 ∨ lexL lt a b = 1
  | [], [] => .inr (.inl rfl)
  | [], _ :: _ => .inr (.inl rfl)
  | _ :: _, [] => .inr (.inl rfl)
  | x :: a, y :: b => by
    unfold lexL
    split
    · exact .inl rfl
    · split
      · exact .inr (.inr rfl)
      · exact lexL_three a b
theorem lexL_self (T : Tot lt) : ∀ a : List α, lexL lt a a = 0
  | [] => rfl
  | x :: a => by unfold lexL; simp [T.irr, lexL_self T a]
theorem lexL_zero (T : Tot lt) : ∀ {a b : List α}, a.length = b.length → lexL lt a b = 0 → a = b
  | [], [], _, _ => rfl
  | [], _ :: _, h, _ => by simp at h
  | _ :: _, [], h, _ => by simp at h
  | x :: a, y :: b, h, k => by
    unfold lexL at k
    cases h1 : lt x y with
    | true => simp [h1] at k
    | false => cases h2 : lt y x with
      | true => simp [h1, h2] at k
      | false =>
        simp [h1, h2] at k
        rw [T.tot x y h1 h2, lexL_zero T (by simpa using h) k]
theorem lexL_tr (T : Tot lt) : ∀ {a b c : List α}, a.length = b.length → b.length = c.length → lexL lt a b ≤ 0 → lexL lt b c ≤ 0 → lexL lt a c ≤ 0
  | [], [], [], _, _, _, _ => by simp [lexL]
  | [], [], _ :: _, _, h, _, _ => by simp at h
  | [], _ :: _, _, h, _, _, _ => by simp at h
  | _ :: _, [], _, h, _, _, _ => by simp at h
  | _ :: _, _ :: _, [], _, h, _, _ => by simp at h
  | x :: a, y :: b, z :: c, h, k, p, q => by
    unfold lexL at p q ⊢
    cases h1 : lt x y with
    | true =>
      cases h3 : lt y z with
      | true => simp [T.tr _ _ _ h1 h3]
      | false => cases h4 : lt z y with
        | true => simp [h3, h4] at q
        | false => rw [← T.tot y z h3 h4]; simp [h1]
    | false => cases h2 : lt y x with
      | true => simp [h1, h2] at p
      | false =>
        have e := T.tot x y h1 h2
        subst e
        simp [h1] at p
        cases h3 : lt x z with
        | true => simp
        | false => cases h4 : lt z x with
          | true => simp [h3, h4] at q
          | false =>
            simp [h3, h4] at q ⊢
            exact lexL_tr T (by simpa using h) (by simpa using k) p q
theorem cmpL_swap (T : Tot lt) (a b : List α) : cmpL lt b a = 0 - cmpL lt a b := by
  unfold cmpL
  have := lexL_swap T a b
  split <;> split <;> omega
theorem cmpL_three (a b : List α) : cmpL lt a b = -1 ∨ cmpL lt a b = 0 ∨ cmpL lt a b = 1 := by
  unfold cmpL
  have := lexL_three (lt := lt) a b
  split
  · exact .inl rfl
  · split
    · exact .inr (.inr rfl)
    · exact this
theorem cmpL_self (T : Tot lt) (a : List α) : cmpL lt a a = 0 := by simp [cmpL, lexL_self T]
theorem cmpL_zero (T : Tot lt) {a b : List α} (h : cmpL lt a b = 0) : a = b := by
  unfold cmpL at h
  split at h
  · cases h
  · split at h
    · cases h
    · exact lexL_zero T (by omega) h
theorem cmpL_tr (T : Tot lt) {a b c : List α} (h : cmpL lt a b ≤ 0) (k : cmpL lt b c ≤ 0) : cmpL lt a c ≤ 0 := by
  unfold cmpL at *
  split at h
  · split at k
    · split <;> omega
    · split at k
      · omega
      · rw [if_pos (by omega)]; decide
  · split at h
    · omega
    · split at k
      · rw [if_pos (by omega)]; decide
      · split at k
        · omega
        · rw [if_neg (by omega), if_neg (by omega)]
          exact lexL_tr T (by omega) (by omega) h k
end
end Go.Proofs.YtkjhamcmhijhgaaGreat.Sets

/- Who goes next, as plain functions: which one of the ready is told, by how many picks were used; and what one step answers. -/
namespace Go.Proofs.YtkjhamcmhijhgaaGreat.Pick
open Go.Proofs.YtkjhamcmhijhgaaGreat.Sets
set_option linter.unusedVariables false
set_option linter.unusedSimpArgs false

/-- The place of the one that is told, of m ready ones. -/
def place (L : List Int) (n m : Nat) : Nat := ((L.getD n 0) % (m : Int)).toNat
/-- The one that is told. -/
def told (L : List Int) (n : Nat) (l : List Int) : Int := (setL ltI l).getD (place L n (setL ltI l).length) 0
def over (c : Int) (n : Nat) : Bool := decide (0 ≤ c) && decide (c ≤ (n : Int))
/-- One step: who is told, which error, how many steps there are behind it. -/
def stepS (L : List Int) (c : Int) (n : Nat) (l : List Int) : Int × Int × Nat := if over c n = true then (0, 8, n) else if l = [] then (0, 10, n) else (told L n l, 0, n + 1)
theorem place_lt (L : List Int) (n : Nat) {m : Nat} (hm : 0 < m) : place L n m < m := by
  unfold place
  have h1 := Int.emod_nonneg (L.getD n 0) (show (m : Int) ≠ 0 by omega)
  have h2 := Int.emod_lt_of_pos (L.getD n 0) (show (0 : Int) < m by omega)
  omega
theorem place_int (L : List Int) (n : Nat) {m : Nat} (hm : 0 < m) : ((place L n m : Nat) : Int) = (L.getD n 0) % (m : Int) := by
  unfold place
  have h1 := Int.emod_nonneg (L.getD n 0) (show (m : Int) ≠ 0 by omega)
  omega
/-- Go's remainder, and the length more where it is below 0. -/
theorem tmod_place (x : Int) {m : Nat} (hm : 0 < m) : (if x.tmod (m : Int) < 0 then x.tmod (m : Int) + (m : Int) else x.tmod (m : Int)) = x % (m : Int) := by
  have h1 := Int.emod_nonneg x (show (m : Int) ≠ 0 by omega)
  have h2 := Int.emod_lt_of_pos x (show (0 : Int) < m by omega)
  rw [Int.tmod_eq_emod]
  split <;> split <;> omega
theorem setL_ne {l : List Int} (h : l ≠ []) : 0 < (setL ltI l).length := by
  cases l with
  | nil => exact absurd rfl h
  | cons x l =>
    have := (mem_setL totI (x :: l) x).2 (by simp)
    exact List.length_pos_of_mem this
theorem setL_nil : setL ltI ([] : List Int) = [] := by
  apply List.eq_nil_of_length_eq_zero
  have := setL_length (lt := ltI) ([] : List Int)
  simpa using this
theorem told_mem (L : List Int) (n : Nat) {l : List Int} (h : l ≠ []) : told L n l ∈ l := by
  have h1 := place_lt L n (setL_ne h)
  unfold told
  rw [List.getD_eq_getElem?_getD, List.getElem?_eq_getElem h1]
  exact (mem_setL totI l _).1 (List.getElem_mem h1)
/-- Where there is no pick any more: the least. -/
theorem place_none {L : List Int} {n : Nat} (h : L.length ≤ n) (m : Nat) : place L n m = 0 := by
  unfold place
  rw [List.getD_eq_getElem?_getD, List.getElem?_eq_none h]
  simp
end Go.Proofs.YtkjhamcmhijhgaaGreat.Pick

/- Workers that take jobs, and steal them, as plain functions: who is ready, one step, a run; what a run comes to. -/
namespace Go.Proofs.YtkjhamcmhijhgaaGreat.Pool
open Go.Proofs.YtkjhamcmhijhgaaGreat.Pick
set_option linter.unusedVariables false
set_option linter.unusedSimpArgs false

/-- A worker: its row, and the job that it holds. -/
structure W1 (α : Type) where
  l : List α
  x : α
  h : Bool
/-- A pool: its workers; who is next to get a job; the jobs that were done; how many were stolen; who took the steps. -/
structure PS (α : Type) where
  ks : List (W1 α)
  nx : Nat
  dn : List α
  st : Nat
  who : List Int
section
variable {α : Type}
def waitL (ks : List (W1 α)) : Nat := (ks.map fun κ => κ.l.length).sum
def rdy (ks : List (W1 α)) (k : Nat) : Bool := match ks[k]? with
  | some κ => κ.h || decide (0 < waitL ks)
  | none => false
def readyTo (ks : List (W1 α)) (m : Nat) : List Int := ((List.range m).filter (rdy ks)).map fun k : Nat => (k : Int)
def readyL (ks : List (W1 α)) : List Int := readyTo ks ks.length
def rowAt (ks : List (W1 α)) (v : Nat) : List α := match ks[v]? with
  | some κ => κ.l
  | none => []
/-- Whose row has a job, first of those behind k, going round. -/
def victim (ks : List (W1 α)) (k : Nat) : Option Nat := (((List.range (ks.length - 1)).map fun d => (k + (d + 1)) % ks.length).find? fun v => !(rowAt ks v).isEmpty)
def stepK (of : α → List α) (d0 : α) (s : PS α) (k : Nat) : PS α := match s.ks[k]? with
  | none => s
  | some κ => if κ.h = true then { s with ks := s.ks.set k ⟨κ.l ++ of κ.x, d0, false⟩, dn := s.dn ++ [κ.x], who := s.who ++ [(k : Int)] }
    else match κ.l.getLast? with
      | some x => { s with ks := s.ks.set k ⟨κ.l.dropLast, x, true⟩, who := s.who ++ [(k : Int)] }
      | none => match victim s.ks k with
        | none => s
        | some v => match s.ks[v]? with
          | none => s
          | some κv => match κv.l with
            | [] => s
            | x :: l => { s with ks := (s.ks.set v ⟨l, κv.x, κv.h⟩).set k ⟨[], x, true⟩, st := s.st + 1, who := s.who ++ [(k : Int)] }
/-- A run of at most so many steps: what the pool is behind it, how many steps the script had, the error. -/
def runS (of : α → List α) (d0 : α) (L : List Int) (c : Int) : Nat → PS α → Nat → PS α × Nat × Int
  | 0, s, n => (s, n, 0)
  | f + 1, s, n => if readyL s.ks = [] then (s, n, 0) else
    if (stepS L c n (readyL s.ks)).2.1 ≠ 0 then (s, (stepS L c n (readyL s.ks)).2.2, (stepS L c n (readyL s.ks)).2.1)
    else runS of d0 L c f (stepK of d0 s (stepS L c n (readyL s.ks)).1.toNat) (stepS L c n (readyL s.ks)).2.2
def addS (s : PS α) (x : α) : PS α := match s.ks[s.nx]? with
  | none => s
  | some κ => { s with ks := s.ks.set s.nx ⟨κ.l ++ [x], κ.x, κ.h⟩, nx := (s.nx + 1) % s.ks.length }
def addL (s : PS α) (l : List α) : PS α := l.foldl addS s
def newS (d0 : α) (n : Nat) : PS α := ⟨List.replicate n ⟨[], d0, false⟩, 0, [], 0, []⟩
/-- What is counted of the jobs that are there: each counts f. -/
def sumL (f : α → Nat) (ks : List (W1 α)) : Nat := (ks.map fun κ => (κ.l.map f).sum + (if κ.h = true then f κ.x else 0)).sum
/-- How many steps are to come. -/
def todo (J : α → Nat) (ks : List (W1 α)) : Nat := (ks.map fun κ => 2 * (κ.l.map J).sum + (if κ.h = true then 2 * J κ.x - 1 else 0)).sum
theorem sum_set {β : Type} (f : β → Nat) : ∀ (l : List β) (k : Nat) (x y : β), l[k]? = some x → ((l.set k y).map f).sum + f x = (l.map f).sum + f y
  | [], k, x, y, h => by simp at h
  | z :: l, 0, x, y, h => by
    simp at h
    subst h
    simp
    omega
  | z :: l, k + 1, x, y, h => by
    have := sum_set f l k x y (by simpa using h)
    simp at this ⊢
    omega
theorem sum_get {β : Type} (f : β → Nat) : ∀ (l : List β) (k : Nat) (x : β), l[k]? = some x → f x ≤ (l.map f).sum
  | [], k, x, h => by simp at h
  | z :: l, 0, x, h => by simp at h; subst h; simp
  | z :: l, k + 1, x, h => by have := sum_get f l k x (by simpa using h); simp; omega
theorem sum_pos {β : Type} (f : β → Nat) (l : List β) (h : 0 < (l.map f).sum) : ∃ (k : Nat) (x : β), l[k]? = some x ∧ 0 < f x := by
  induction l with
  | nil => simp at h
  | cons z l ih =>
    by_cases q : 0 < f z
    · exact ⟨0, z, rfl, q⟩
    · obtain ⟨k, x, h1, h2⟩ := ih (by simp at h; omega)
      exact ⟨k + 1, x, by simpa using h1, h2⟩
theorem rdy_lt {ks : List (W1 α)} {k : Nat} (h : rdy ks k = true) : k < ks.length := by
  unfold rdy at h
  split at h
  · rename_i κ q
    exact (List.getElem?_eq_some_iff.1 q).1
  · cases h
theorem mem_ready {ks : List (W1 α)} {x : Int} : x ∈ readyL ks ↔ ∃ k : Nat, x = (k : Int) ∧ rdy ks k = true := by
  unfold readyL readyTo
  rw [List.mem_map]
  constructor
  · rintro ⟨k, hk, rfl⟩
    exact ⟨k, rfl, (List.mem_filter.1 hk).2⟩
  · rintro ⟨k, rfl, hk⟩
    exact ⟨k, List.mem_filter.2 ⟨List.mem_range.2 (rdy_lt hk), hk⟩, rfl⟩
theorem readyTo_succ (ks : List (W1 α)) (m : Nat) : readyTo ks (m + 1) = readyTo ks m ++ (if rdy ks m = true then [(m : Int)] else []) := by
  unfold readyTo
  rw [List.range_succ, List.filter_append, List.map_append]
  congr 1
  by_cases h : rdy ks m = true <;> simp [h]
theorem readyTo_length (ks : List (W1 α)) (m : Nat) : (readyTo ks m).length ≤ m := by
  unfold readyTo
  rw [List.length_map]
  have := List.length_filter_le (rdy ks) (List.range m)
  rw [List.length_range] at this
  exact this
/-- While there is something to do, somebody is ready. -/
theorem ready_ne {J : α → Nat} {ks : List (W1 α)} (h : 0 < todo J ks) : readyL ks ≠ [] := by
  obtain ⟨k, κ, h1, h2⟩ := sum_pos _ _ h
  have hm : (k : Int) ∈ readyL ks := by
    rw [mem_ready]
    refine ⟨k, rfl, ?_⟩
    unfold rdy
    rw [h1]
    simp only
    by_cases hh : κ.h = true
    · simp [hh]
    · have hl : 0 < κ.l.length := by
        cases hl : κ.l with
        | nil => simp [hl, hh] at h2
        | cons x l => simp
      have : κ.l.length ≤ waitL ks := sum_get (fun κ : W1 α => κ.l.length) ks k κ h1
      simp
      right
      omega
  intro h0
  rw [h0] at hm
  cases hm
theorem ready_nil {J : α → Nat} (hJ : ∀ x, 1 ≤ J x) {ks : List (W1 α)} (h : todo J ks = 0) : readyL ks = [] := by
  rw [List.eq_nil_iff_forall_not_mem]
  intro x hx
  obtain ⟨k, rfl, hk⟩ := mem_ready.1 hx
  unfold rdy at hk
  split at hk
  · rename_i κ q
    have h1 : 2 * (κ.l.map J).sum + (if κ.h = true then 2 * J κ.x - 1 else 0) ≤ todo J ks := sum_get (fun κ : W1 α => 2 * (κ.l.map J).sum + (if κ.h = true then 2 * J κ.x - 1 else 0)) ks k κ q
    have hx := hJ κ.x
    rw [Bool.or_eq_true, decide_eq_true_eq] at hk
    rcases hk with hk | hk
    · rw [if_pos hk] at h1; omega
    · obtain ⟨j, κj, q1, q2⟩ := sum_pos _ _ hk
      have h2 : 2 * (κj.l.map J).sum + (if κj.h = true then 2 * J κj.x - 1 else 0) ≤ todo J ks := sum_get (fun κ : W1 α => 2 * (κ.l.map J).sum + (if κ.h = true then 2 * J κ.x - 1 else 0)) ks j κj q1
      cases hl : κj.l with
      | nil => simp [hl] at q2
      | cons y l => rw [hl] at h2; have := hJ y; simp at h2; omega
  · cases hk
/-- Whose row it is. -/
theorem victim_some {ks : List (W1 α)} {k v : Nat} (h : victim ks k = some v) : ∃ d κ, d + 1 < ks.length ∧ v = (k + (d + 1)) % ks.length ∧ ks[v]? = some κ ∧ κ.l ≠ [] ∧ ∀ j, j < d → rowAt ks ((k + (j + 1)) % ks.length) = [] := by
  unfold victim at h
  rw [List.find?_eq_some_iff_append] at h
  obtain ⟨h1, l1, l2, h2, h3⟩ := h
  have hv : v = (k + (l1.length + 1)) % ks.length ∧ l1.length < ks.length - 1 := by
    have := congrArg (fun l => l[l1.length]?) h2
    simp only [List.getElem?_append_right (Nat.le_refl _), Nat.sub_self, List.getElem?_cons_zero, List.getElem?_map] at this
    rcases Nat.lt_or_ge l1.length (ks.length - 1) with q | q
    · rw [List.getElem?_range q] at this
      simp at this
      exact ⟨this.symm, q⟩
    · rw [List.getElem?_eq_none (by simpa using q)] at this
      simp at this
  have hr : rowAt ks v ≠ [] := by
    intro e
    rw [e] at h1
    simp at h1
  unfold rowAt at hr
  split at hr
  · rename_i κ q
    refine ⟨l1.length, κ, by omega, hv.1, q, hr, fun j hj => ?_⟩
    have hj2 : j < ks.length - 1 := by omega
    have hm : (k + (j + 1)) % ks.length ∈ l1 := by
      have := congrArg (fun l => l[j]?) h2
      simp only [List.getElem?_append_left hj, List.getElem?_map, List.getElem?_range hj2] at this
      simp at this
      exact List.mem_of_getElem? this.symm
    have := h3 _ hm
    simpa using this
  · exact absurd rfl hr
theorem victim_first {ks : List (W1 α)} {k d : Nat} (hd : d + 1 < ks.length) (h1 : rowAt ks ((k + (d + 1)) % ks.length) ≠ []) (h2 : ∀ j, j < d → rowAt ks ((k + (j + 1)) % ks.length) = []) : victim ks k = some ((k + (d + 1)) % ks.length) := by
  unfold victim
  rw [List.find?_eq_some_iff_append]
  refine ⟨by simpa using h1, (List.range d).map (fun d => (k + (d + 1)) % ks.length), ((List.range (ks.length - 1)).drop (d + 1)).map (fun d => (k + (d + 1)) % ks.length), ?_, fun a ha => ?_⟩
  · have e : List.range (ks.length - 1) = List.range d ++ d :: (List.range (ks.length - 1)).drop (d + 1) := by
      apply List.ext_getElem?
      intro i
      rcases Nat.lt_trichotomy i d with q | q | q
      · rw [List.getElem?_append_left (by simpa using q), List.getElem?_range q, List.getElem?_range (by omega)]
      · subst q
        rw [List.getElem?_append_right (by simp)]
        simp [show i < ks.length - 1 by omega]
      · rw [List.getElem?_append_right (by simp; omega)]
        obtain ⟨m, rfl⟩ : ∃ m, i = d + 1 + m := ⟨i - (d + 1), by omega⟩
        rw [List.length_range, show d + 1 + m - d = m + 1 by omega, List.getElem?_cons_succ, List.getElem?_drop]
    conv => lhs; rw [e]
    simp
  · obtain ⟨j, hj, rfl⟩ := List.mem_map.1 ha
    have := h2 j (List.mem_range.1 hj)
    simp [this]
theorem mod_ne {k d n : Nat} (hk : k < n) (hd : d + 1 < n) : (k + (d + 1)) % n ≠ k := by
  by_cases q : k + (d + 1) < n
  · rw [Nat.mod_eq_of_lt q]; omega
  · rw [Nat.mod_eq_sub_mod (by omega), Nat.mod_eq_of_lt (by omega)]; omega
theorem mod_hit {k v n : Nat} (hk : k < n) (hv : v < n) (h : v ≠ k) : ∃ d, d + 1 < n ∧ (k + (d + 1)) % n = v := by
  by_cases q : k < v
  · exact ⟨v - k - 1, by omega, by rw [show k + (v - k - 1 + 1) = v by omega]; exact Nat.mod_eq_of_lt hv⟩
  · exact ⟨n + v - k - 1, by omega, by rw [show k + (n + v - k - 1 + 1) = v + n by omega, Nat.add_mod_right]; exact Nat.mod_eq_of_lt hv⟩
/-- Who is ready, and has nothing, finds something. -/
theorem victim_ex {ks : List (W1 α)} {k : Nat} {κ : W1 α} (hk : ks[k]? = some κ) (h : rdy ks k = true) (hh : ¬ κ.h = true) (hl : κ.l = []) : ∃ v, victim ks k = some v := by
  have hkl := (List.getElem?_eq_some_iff.1 hk).1
  unfold rdy at h
  rw [hk] at h
  simp only [hh, Bool.false_or, decide_eq_true_eq, Bool.or_eq_true, false_or] at h
  obtain ⟨v, κv, h1, h2⟩ := sum_pos _ _ h
  have hvl := (List.getElem?_eq_some_iff.1 h1).1
  have hne : v ≠ k := by
    rintro rfl
    rw [hk] at h1
    cases h1
    rw [hl] at h2
    simp at h2
  have hr : rowAt ks v ≠ [] := by
    unfold rowAt
    rw [h1]
    intro e
    simp only at e
    rw [e] at h2
    simp at h2
  obtain ⟨d, hd, e⟩ := mod_hit hkl hvl hne
  cases hf : victim ks k with
  | some v => exact ⟨v, rfl⟩
  | none =>
    unfold victim at hf
    rw [List.find?_eq_none] at hf
    have := hf ((k + (d + 1)) % ks.length) (List.mem_map.2 ⟨d, List.mem_range.2 (by omega), rfl⟩)
    rw [e] at this
    simp at this
    exact absurd this hr
/-- The ways of a step. -/
theorem step_cases (of : α → List α) (d0 : α) {s : PS α} {k : Nat} (h : rdy s.ks k = true) :
    (∃ κ, s.ks[k]? = some κ ∧ κ.h = true ∧ stepK of d0 s k = { s with ks := s.ks.set k ⟨κ.l ++ of κ.x, d0, false⟩, dn := s.dn ++ [κ.x], who := s.who ++ [(k : Int)] }) ∨
    (∃ κ l x, s.ks[k]? = some κ ∧ κ.h = false ∧ κ.l = l ++ [x] ∧ stepK of d0 s k = { s with ks := s.ks.set k ⟨l, x, true⟩, who := s.who ++ [(k : Int)] }) ∨
    (∃ κ v κv x l d, s.ks[k]? = some κ ∧ κ.h = false ∧ κ.l = [] ∧ d + 1 < s.ks.length ∧ v = (k + (d + 1)) % s.ks.length ∧ (∀ j, j < d → rowAt s.ks ((k + (j + 1)) % s.ks.length) = []) ∧ s.ks[v]? = some κv ∧ κv.l = x :: l ∧ v ≠ k ∧
      stepK of d0 s k = { s with ks := (s.ks.set v ⟨l, κv.x, κv.h⟩).set k ⟨[], x, true⟩, st := s.st + 1, who := s.who ++ [(k : Int)] }) := by
  have hkl := rdy_lt h
  obtain ⟨κ, hk⟩ : ∃ κ, s.ks[k]? = some κ := ⟨s.ks[k], by simp [hkl]⟩
  by_cases hh : κ.h = true
  · exact .inl ⟨κ, hk, hh, by unfold stepK; simp [hk, hh]⟩
  · right
    have hf : κ.h = false := by simpa using hh
    rcases List.eq_nil_or_concat κ.l with q | ⟨l, x, q⟩
    · right
      obtain ⟨v, hv⟩ := victim_ex hk h hh q
      obtain ⟨d, κv, hd, rfl, h1, h2, h3⟩ := victim_some hv
      cases hl : κv.l with
      | nil => exact absurd hl h2
      | cons x l =>
        refine ⟨κ, _, κv, x, l, d, hk, hf, q, hd, rfl, h3, h1, hl, mod_ne hkl hd, ?_⟩
        unfold stepK
        simp [hk, hf, q, hv, h1, hl]
    · left
      rw [List.concat_eq_append] at q
      refine ⟨κ, l, x, hk, hf, q, ?_⟩
      unfold stepK
      simp [hk, hf, q]
/-- A step: one less is to do; what is counted of the jobs that are done, and of those that come of them, stays. -/
theorem step_todo {of : α → List α} {d0 : α} {J : α → Nat} (hJ : ∀ x, J x = 1 + ((of x).map J).sum) {s : PS α} {k : Nat} (h : rdy s.ks k = true) : todo J (stepK of d0 s k).ks + 1 = todo J s.ks := by
  rcases step_cases of d0 h with ⟨κ, h1, h2, h3⟩ | ⟨κ, l, x, h1, h2, h3, h4⟩ | ⟨κ, v, κv, x, l, d, h1, h2, h3, _, _, _, h5, h6, h7, h8⟩
  · rw [h3]
    have := sum_set (fun κ : W1 α => 2 * (κ.l.map J).sum + (if κ.h = true then 2 * J κ.x - 1 else 0)) s.ks k κ ⟨κ.l ++ of κ.x, d0, false⟩ h1
    have hx := hJ κ.x
    unfold todo
    simp [h2] at this ⊢
    omega
  · rw [h4]
    have := sum_set (fun κ : W1 α => 2 * (κ.l.map J).sum + (if κ.h = true then 2 * J κ.x - 1 else 0)) s.ks k κ ⟨l, x, true⟩ h1
    have hx := hJ x
    unfold todo
    simp [h2, h3] at this ⊢
    omega
  · rw [h8]
    have q1 := sum_set (fun κ : W1 α => 2 * (κ.l.map J).sum + (if κ.h = true then 2 * J κ.x - 1 else 0)) s.ks v κv ⟨l, κv.x, κv.h⟩ h5
    have q2 := sum_set (fun κ : W1 α => 2 * (κ.l.map J).sum + (if κ.h = true then 2 * J κ.x - 1 else 0)) (s.ks.set v ⟨l, κv.x, κv.h⟩) k κ ⟨[], x, true⟩ (by rw [List.getElem?_set_ne h7]; exact h1)
    have hx := hJ x
    unfold todo
    simp [h2, h3, h6] at q1 q2 ⊢
    omega
theorem step_sum {of : α → List α} {d0 : α} {f g : α → Nat} (hf : ∀ x, f x = g x + ((of x).map f).sum) {s : PS α} {k : Nat} (h : rdy s.ks k = true) : sumL f (stepK of d0 s k).ks + ((stepK of d0 s k).dn.map g).sum = sumL f s.ks + (s.dn.map g).sum := by
  rcases step_cases of d0 h with ⟨κ, h1, h2, h3⟩ | ⟨κ, l, x, h1, h2, h3, h4⟩ | ⟨κ, v, κv, x, l, d, h1, h2, h3, _, _, _, h5, h6, h7, h8⟩
  · rw [h3]
    have := sum_set (fun κ : W1 α => (κ.l.map f).sum + (if κ.h = true then f κ.x else 0)) s.ks k κ ⟨κ.l ++ of κ.x, d0, false⟩ h1
    have hx := hf κ.x
    unfold sumL
    simp [h2] at this ⊢
    omega
  · rw [h4]
    have := sum_set (fun κ : W1 α => (κ.l.map f).sum + (if κ.h = true then f κ.x else 0)) s.ks k κ ⟨l, x, true⟩ h1
    unfold sumL
    simp [h2, h3] at this ⊢
    omega
  · rw [h8]
    have q1 := sum_set (fun κ : W1 α => (κ.l.map f).sum + (if κ.h = true then f κ.x else 0)) s.ks v κv ⟨l, κv.x, κv.h⟩ h5
    have q2 := sum_set (fun κ : W1 α => (κ.l.map f).sum + (if κ.h = true then f κ.x else 0)) (s.ks.set v ⟨l, κv.x, κv.h⟩) k κ ⟨[], x, true⟩ (by rw [List.getElem?_set_ne h7]; exact h1)
    unfold sumL
    simp [h2, h3, h6] at q1 q2 ⊢
    omega
theorem step_len {of : α → List α} {d0 : α} {s : PS α} {k : Nat} (h : rdy s.ks k = true) : (stepK of d0 s k).ks.length = s.ks.length ∧ (stepK of d0 s k).who.length = s.who.length + 1 ∧ (stepK of d0 s k).nx = s.nx ∧ (stepK of d0 s k).st ≤ s.st + 1 ∧ (stepK of d0 s k).dn.length ≤ s.dn.length + 1 := by
  rcases step_cases of d0 h with ⟨κ, h1, h2, h3⟩ | ⟨κ, l, x, h1, h2, h3, h4⟩ | ⟨κ, v, κv, x, l, d, h1, h2, h3, _, _, _, h5, h6, h7, h8⟩
  · rw [h3]; simp
  · rw [h4]; simp
  · rw [h8]; simp
/-- Whom the script tells is ready. -/
theorem told_rdy (L : List Int) (n : Nat) {ks : List (W1 α)} (h : readyL ks ≠ []) : ∃ k : Nat, told L n (readyL ks) = (k : Int) ∧ rdy ks k = true := mem_ready.1 (told_mem L n h)
theorem step_over {L : List Int} {c : Int} {n : Nat} {l : List Int} (ho : over c n = true) : stepS L c n l = (0, 8, n) := by unfold stepS; rw [if_pos ho]
theorem step_told {L : List Int} {c : Int} {n : Nat} {l : List Int} (ho : over c n = false) (hl : l ≠ []) : stepS L c n l = (told L n l, 0, n + 1) := by unfold stepS; rw [if_neg (by simp [ho]), if_neg hl]
/-- A run's rounds. -/
theorem run_none (of : α → List α) (d0 : α) (L : List Int) (c : Int) {f : Nat} {s : PS α} {n : Nat} (h : readyL s.ks = []) : runS of d0 L c (f + 1) s n = (s, n, 0) := by
  unfold runS; rw [if_pos h]
theorem run_over (of : α → List α) (d0 : α) (L : List Int) (c : Int) {f : Nat} {s : PS α} {n : Nat} (h : readyL s.ks ≠ []) (ho : over c n = true) : runS of d0 L c (f + 1) s n = (s, n, 8) := by
  unfold runS; rw [if_neg h, step_over ho]; simp
theorem run_next (of : α → List α) (d0 : α) (L : List Int) (c : Int) {f : Nat} {s : PS α} {n k : Nat} (h : readyL s.ks ≠ []) (ho : over c n = false) (hk : told L n (readyL s.ks) = (k : Int)) : runS of d0 L c (f + 1) s n = runS of d0 L c f (stepK of d0 s k) (n + 1) := by
  conv => lhs; unfold runS
  rw [if_neg h, step_told ho h]; simp [hk]
/-- What a run comes to. -/
structure Ran (J f g : α → Nat) (c : Int) (s : PS α) (n : Nat) (s' : PS α) (n' : Nat) (e : Int) : Prop where
  len : s'.ks.length = s.ks.length
  nx : s'.nx = s.nx
  steps : n' + todo J s'.ks = n + todo J s.ks
  who : s'.who.length + n = s.who.length + n'
  le : n ≤ n'
  st : s'.st + n ≤ s.st + n'
  sum : sumL f s'.ks + (s'.dn.map g).sum = sumL f s.ks + (s.dn.map g).sum
  way : (e = 0 ∧ todo J s'.ks = 0) ∨ (e = 8 ∧ 0 < todo J s'.ks ∧ over c n' = true)
  fits : ∀ m, n ≤ m → m < n' → over c m = false
theorem run_ran {of : α → List α} {d0 : α} {L : List Int} {c : Int} {J f g : α → Nat} (hJ : ∀ x, J x = 1 + ((of x).map J).sum) (hf : ∀ x, f x = g x + ((of x).map f).sum) :
    ∀ (m : Nat) (s : PS α) (n : Nat), todo J s.ks < m → Ran J f g c s n (runS of d0 L c m s n).1 (runS of d0 L c m s n).2.1 (runS of d0 L c m s n).2.2 := by
  intro m
  induction m with
  | zero => intro s n h; omega
  | succ m ih =>
    intro s n h
    by_cases h0 : readyL s.ks = []
    · rw [run_none of d0 L c h0]
      have ht : todo J s.ks = 0 := by
        rcases Nat.eq_zero_or_pos (todo J s.ks) with q | q
        · exact q
        · exact absurd h0 (ready_ne q)
      exact ⟨rfl, rfl, rfl, rfl, Nat.le_refl _, Nat.le_refl _, rfl, .inl ⟨rfl, ht⟩, fun k h1 h2 => by simp only at h2; omega⟩
    · have ht : 0 < todo J s.ks := by
        rcases Nat.eq_zero_or_pos (todo J s.ks) with q | q
        · exact absurd (ready_nil (fun x => by rw [hJ]; omega) q) h0
        · exact q
      cases ho : over c n with
      | true =>
        rw [run_over of d0 L c h0 ho]
        exact ⟨rfl, rfl, rfl, rfl, Nat.le_refl _, Nat.le_refl _, rfl, .inr ⟨rfl, ht, ho⟩, fun k h1 h2 => by simp only at h2; omega⟩
      | false =>
        obtain ⟨k, hk, hr⟩ := told_rdy L n h0
        rw [run_next of d0 L c h0 ho hk]
        have h1 := step_todo (d0 := d0) hJ hr
        obtain ⟨h2, h3, h4, h5, _⟩ := step_len (of := of) (d0 := d0) hr
        have h6 := step_sum (d0 := d0) hf hr
        have r := ih (stepK of d0 s k) (n + 1) (by omega)
        refine ⟨r.len.trans h2, r.nx.trans h4, by have := r.steps; omega, by have := r.who; omega, by have := r.le; omega, by have := r.st; omega, r.sum.trans h6, r.way, fun j q1 q2 => ?_⟩
        rcases Nat.lt_or_ge n j with q3 | q3
        · exact r.fits j (by omega) q2
        · obtain rfl : j = n := by omega
          exact ho
/-- Who took the steps are workers. -/
def WhoS (s : PS α) : Prop := ∀ x ∈ s.who, 0 ≤ x ∧ x < 64
theorem step_who {of : α → List α} {d0 : α} {s : PS α} {k : Nat} (hr : rdy s.ks k = true) : (stepK of d0 s k).who = s.who ++ [(k : Int)] := by
  rcases step_cases of d0 hr with ⟨κ, h1, h2, h3⟩ | ⟨κ, l, x, h1, h2, h3, h4⟩ | ⟨κ, v, κv, x, l, d, h1, h2, h3, _, _, _, h5, h6, h7, h8⟩
  · rw [h3]
  · rw [h4]
  · rw [h8]
theorem run_who {of : α → List α} {d0 : α} {L : List Int} {c : Int} : ∀ (m : Nat) (s : PS α) (n : Nat), s.ks.length ≤ 64 → WhoS s → WhoS (runS of d0 L c m s n).1 := by
  intro m
  induction m with
  | zero => intro s n _ h; exact h
  | succ m ih =>
    intro s n hl h
    by_cases h0 : readyL s.ks = []
    · rw [run_none of d0 L c h0]; exact h
    · cases ho : over c n with
      | true => rw [run_over of d0 L c h0 ho]; exact h
      | false =>
        obtain ⟨k, hk, hr⟩ := told_rdy L n h0
        rw [run_next of d0 L c h0 ho hk]
        have hkl := rdy_lt hr
        refine ih _ _ (by rw [(step_len (of := of) (d0 := d0) hr).1]; exact hl) (fun x hx => ?_)
        rw [step_who hr] at hx
        rcases List.mem_append.1 hx with q | q
        · exact h x q
        · obtain rfl := List.mem_singleton.1 q
          omega
theorem add_sum (f : α → Nat) {s : PS α} (h : s.nx < s.ks.length) (x : α) : sumL f (addS s x).ks = sumL f s.ks + f x ∧ (addS s x).ks.length = s.ks.length ∧ (addS s x).nx < s.ks.length ∧ (addS s x).dn = s.dn ∧ (addS s x).st = s.st ∧ (addS s x).who = s.who := by
  obtain ⟨κ, hk⟩ : ∃ κ, s.ks[s.nx]? = some κ := ⟨s.ks[s.nx], by simp [h]⟩
  have := sum_set (fun κ : W1 α => (κ.l.map f).sum + (if κ.h = true then f κ.x else 0)) s.ks s.nx κ ⟨κ.l ++ [x], κ.x, κ.h⟩ hk
  unfold addS sumL
  rw [hk]
  simp at this ⊢
  exact ⟨by omega, Nat.mod_lt _ (by omega)⟩
theorem add_todo (J : α → Nat) {s : PS α} (h : s.nx < s.ks.length) (x : α) : todo J (addS s x).ks = todo J s.ks + 2 * J x := by
  obtain ⟨κ, hk⟩ : ∃ κ, s.ks[s.nx]? = some κ := ⟨s.ks[s.nx], by simp [h]⟩
  have := sum_set (fun κ : W1 α => 2 * (κ.l.map J).sum + (if κ.h = true then 2 * J κ.x - 1 else 0)) s.ks s.nx κ ⟨κ.l ++ [x], κ.x, κ.h⟩ hk
  unfold addS todo
  rw [hk]
  simp at this ⊢
  omega
theorem addL_sum (f : α → Nat) : ∀ (l : List α) {s : PS α}, s.nx < s.ks.length → sumL f (addL s l).ks = sumL f s.ks + (l.map f).sum ∧ (addL s l).ks.length = s.ks.length ∧ (addL s l).nx < s.ks.length ∧ (addL s l).dn = s.dn ∧ (addL s l).st = s.st ∧ (addL s l).who = s.who
  | [], s, h => by simp [addL, h]
  | x :: l, s, h => by
    obtain ⟨h1, h2, h3, h4, h5, h6⟩ := add_sum f h x
    obtain ⟨k1, k2, k3, k4, k5, k6⟩ := addL_sum f l (s := addS s x) (by omega)
    have e : addL s (x :: l) = addL (addS s x) l := rfl
    rw [e]
    refine ⟨by simp; omega, k2.trans h2, by omega, k4.trans h4, k5.trans h5, k6.trans h6⟩
theorem addL_todo (J : α → Nat) : ∀ (l : List α) {s : PS α}, s.nx < s.ks.length → todo J (addL s l).ks = todo J s.ks + 2 * (l.map J).sum
  | [], s, h => by simp [addL]
  | x :: l, s, h => by
    obtain ⟨h1, h2, h3, _⟩ := add_sum J h x
    have k1 := addL_todo J l (s := addS s x) (by omega)
    have h4 := add_todo J h x
    have e : addL s (x :: l) = addL (addS s x) l := rfl
    rw [e]
    simp; omega
theorem new_sum (d0 : α) (f : α → Nat) (n : Nat) : sumL f (newS d0 n).ks = 0 ∧ todo f (newS d0 n).ks = 0 ∧ waitL (newS d0 n).ks = 0 := by
  simp [newS, sumL, todo, waitL]
/-- How many jobs there are. -/
def leftL (ks : List (W1 α)) : Nat := waitL ks + (ks.map fun κ => if κ.h = true then 1 else 0).sum
theorem left_sum (ks : List (W1 α)) : leftL ks = sumL (fun _ => 1) ks := by
  unfold leftL waitL sumL
  induction ks with
  | nil => rfl
  | cons κ ks ih =>
    have e : (κ.l.map fun _ => 1).sum = κ.l.length := by
      generalize κ.l = l
      induction l with
      | nil => rfl
      | cons x l ih2 => simp only [List.map_cons, List.sum_cons, List.length_cons, ih2]; omega
    simp only [List.map_cons, List.sum_cons, e] at ih ⊢
    omega
theorem len_todo {J : α → Nat} (hJ : ∀ x, 1 ≤ J x) {ks : List (W1 α)} {k : Nat} {κ : W1 α} (h : ks[k]? = some κ) : 2 * κ.l.length ≤ todo J ks := by
  have h1 : 2 * (κ.l.map J).sum + (if κ.h = true then 2 * J κ.x - 1 else 0) ≤ todo J ks := sum_get (fun κ : W1 α => 2 * (κ.l.map J).sum + (if κ.h = true then 2 * J κ.x - 1 else 0)) ks k κ h
  have h2 : ∀ l : List α, l.length ≤ (l.map J).sum := fun l => by
    induction l with
    | nil => simp
    | cons x l ih => have := hJ x; simp; omega
  have := h2 κ.l
  omega
theorem left_todo {J : α → Nat} (hJ : ∀ x, 1 ≤ J x) (ks : List (W1 α)) : (leftL ks = 0 ↔ todo J ks = 0) ∧ leftL ks ≤ todo J ks := by
  have h2 : ∀ l : List α, l.length ≤ (l.map J).sum ∧ (l.length = 0 → (l.map J).sum = 0) := fun l => by
    induction l with
    | nil => simp
    | cons x l ih => have := hJ x; simp; omega
  induction ks with
  | nil => simp [leftL, waitL, todo]
  | cons κ ks ih =>
    have := h2 κ.l
    have hx := hJ κ.x
    unfold leftL waitL todo at ih ⊢
    simp only [List.map_cons, List.sum_cons] at ih ⊢
    split <;> omega
end
end Go.Proofs.YtkjhamcmhijhgaaGreat.Pool
