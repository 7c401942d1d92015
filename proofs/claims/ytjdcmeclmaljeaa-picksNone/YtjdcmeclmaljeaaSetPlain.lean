/- Plain mathematics of sets as rising lists: the set of a list, two sets together, what is in both or in the one alone, and how two lists stand. It imports nothing of the program. -/
import Derived.WalkKit
import Derived.Lib.SlicesCompact
namespace Go.Proofs.Ytjdcmeclmaljeaa.Sets
set_option linter.unusedVariables false
set_option linter.unusedSimpArgs false

/-- A strict total order. -/
structure Tot {α : Type} (lt : α → α → Bool) : Prop where
  irr : ∀ x, lt x x = false
  tr : ∀ x y z, lt x y = true → lt y z = true → lt x z = true
  tot : ∀ x y, lt x y = false → lt y x = false → x = y
def ltI (x y : Int) : Bool := decide (x < y)
def ltS (x y : List UInt8) : Bool := decide (x < y)
theorem totI : Tot ltI := ⟨fun x => by simp [ltI], fun x y z h1 h2 => by simp [ltI] at *; omega, fun x y h1 h2 => by simp [ltI] at *; omega⟩
theorem totS : Tot ltS := ⟨fun x => by simp [ltS, List.lt_irrefl], fun x y z h1 h2 => by simp only [ltS, decide_eq_true_eq] at *; exact List.lt_trans h1 h2, fun x y h1 h2 => by
  simp only [ltS, decide_eq_false_iff_not] at *
  exact List.le_antisymm (List.not_lt.1 h2) (List.not_lt.1 h1)⟩

section
variable {α : Type} {lt : α → α → Bool}
def Rising (lt : α → α → Bool) (l : List α) : Prop := l.Pairwise fun x y => lt x y = true
theorem Rising.nil : Rising lt [] := List.Pairwise.nil
theorem rising_cons {x : α} {l : List α} : Rising lt (x :: l) ↔ (∀ y ∈ l, lt x y = true) ∧ Rising lt l := List.pairwise_cons
theorem rising_append {l m : List α} : Rising lt (l ++ m) ↔ Rising lt l ∧ Rising lt m ∧ ∀ x ∈ l, ∀ y ∈ m, lt x y = true := List.pairwise_append
theorem Rising.sub {l m : List α} (h : Rising lt m) (s : l.Sublist m) : Rising lt l := List.Pairwise.sublist s h
theorem Tot.asym (T : Tot lt) {x y : α} (h : lt x y = true) : lt y x = false := by
  cases e : lt y x with
  | false => rfl
  | true => rw [← T.irr x, T.tr x y x h e]
theorem Tot.neq (T : Tot lt) {x y : α} (h : lt x y = true) : x ≠ y := fun e => by subst e; rw [T.irr] at h; cases h
theorem Tot.neg_tr (T : Tot lt) {x y z : α} (h : lt x y = true) (k : lt z y = false) : lt x z = true := by
  cases e : lt y z with
  | true => exact T.tr _ _ _ h e
  | false => rw [← T.tot _ _ e k]; exact h

/-- Two rising lists of the same things are one. -/
theorem rising_eq (T : Tot lt) : ∀ {s t : List α}, Rising lt s → Rising lt t → (∀ x, x ∈ s ↔ x ∈ t) → s = t
  | [], [], _, _, _ => rfl
  | [], y :: t, _, _, h => by have := (h y).2 (by simp); simp at this
  | x :: s, [], _, _, h => by have := (h x).1 (by simp); simp at this
  | x :: s, y :: t, hs, ht, h => by
    obtain ⟨hx, hs'⟩ := rising_cons.1 hs
    obtain ⟨hy, ht'⟩ := rising_cons.1 ht
    have e : x = y := by
      have h1 := (h x).1 (by simp)
      have h2 := (h y).2 (by simp)
      rcases List.mem_cons.1 h1 with e | h1
      · exact e
      rcases List.mem_cons.1 h2 with e | h2
      · exact e.symm
      have a := hy x h1
      rw [T.asym (hx y h2)] at a
      cases a
    subst e
    rw [rising_eq T hs' ht' fun z => ⟨fun hz => ?_, fun hz => ?_⟩]
    · rcases List.mem_cons.1 ((h z).1 (List.mem_cons_of_mem _ hz)) with e | q
      · subst e; exact absurd rfl (T.neq (hx z hz))
      · exact q
    · rcases List.mem_cons.1 ((h z).2 (List.mem_cons_of_mem _ hz)) with e | q
      · subst e; exact absurd rfl (T.neq (hy z hz))
      · exact q

/-- The set of a list. -/
def ins (lt : α → α → Bool) (x : α) : List α → List α
  | [] => [x]
  | y :: l => if lt x y then x :: y :: l else if lt y x then y :: ins lt x l else y :: l
def setL (lt : α → α → Bool) : List α → List α
  | [] => []
  | x :: l => ins lt x (setL lt l)
theorem mem_ins (T : Tot lt) (x : α) : ∀ (l : List α) (z : α), z ∈ ins lt x l ↔ z = x ∨ z ∈ l
  | [], z => by simp [ins]
  | y :: l, z => by
    unfold ins
    cases h1 : lt x y with
    | true => simp
    | false =>
      cases h2 : lt y x with
      | true => simp [mem_ins T x l z]; constructor <;> (intro h; rcases h with h | h | h <;> simp [h])
      | false => have := T.tot x y h1 h2; subst this; simp
theorem rising_ins (T : Tot lt) (x : α) : ∀ {l : List α}, Rising lt l → Rising lt (ins lt x l)
  | [], _ => by simp [ins, Rising]
  | y :: l, h => by
    obtain ⟨hy, hl⟩ := rising_cons.1 h
    unfold ins
    cases h1 : lt x y with
    | true => exact rising_cons.2 ⟨fun z hz => (List.mem_cons.1 hz).elim (fun e => e ▸ h1) (fun q => T.tr _ _ _ h1 (hy z q)), h⟩
    | false =>
      cases h2 : lt y x with
      | true =>
        refine rising_cons.2 ⟨fun z hz => ?_, rising_ins T x hl⟩
        rcases (mem_ins T x l z).1 hz with e | q
        · exact e ▸ h2
        · exact hy z q
      | false => exact h
theorem mem_setL (T : Tot lt) : ∀ (l : List α) (z : α), z ∈ setL lt l ↔ z ∈ l
  | [], z => by simp [setL]
  | x :: l, z => by simp [setL, mem_ins T, mem_setL T l]
theorem rising_setL (T : Tot lt) : ∀ l : List α, Rising lt (setL lt l)
  | [] => Rising.nil
  | x :: l => rising_ins T x (rising_setL T l)
theorem setL_unique (T : Tot lt) {s l : List α} (h : Rising lt s) (k : ∀ x, x ∈ s ↔ x ∈ l) : s = setL lt l := rising_eq T h (rising_setL T l) fun x => by rw [k, mem_setL T]
theorem setL_congr (T : Tot lt) {l m : List α} (k : ∀ x, x ∈ l ↔ x ∈ m) : setL lt l = setL lt m := setL_unique T (rising_setL T l) fun x => by rw [mem_setL T, k]
theorem setL_rising (T : Tot lt) {s : List α} (h : Rising lt s) : setL lt s = s := (setL_unique T h fun _ => Iff.rfl).symm
theorem ins_length (x : α) : ∀ l : List α, (ins lt x l).length ≤ l.length + 1
  | [] => by simp [ins]
  | y :: l => by
    unfold ins
    have := ins_length x l
    split
    · simp
    · split
      · simp; omega
      · simp
theorem setL_length : ∀ l : List α, (setL lt l).length ≤ l.length
  | [] => by simp [setL]
  | x :: l => by have := ins_length (lt := lt) x (setL lt l); have := setL_length l; simp [setL]; omega

/-- Two sets together, as the program goes about it: one thing of the first laid in ahead of what is left of the second. -/
def orIn (lt : α → α → Bool) (x : α) : List α → List α → List α × List α
  | l, [] => (l ++ [x], [])
  | l, r :: rest => if lt r x then orIn lt x (l ++ [r]) rest else if lt x r then (l ++ [x], r :: rest) else (l ++ [x], rest)
def orS (lt : α → α → Bool) (t pre : List α) : List α × List α := pre.foldl (fun p x => orIn lt x p.1 p.2) ([], t)
def orL (lt : α → α → Bool) (s t : List α) : List α := (orS lt t s).1 ++ (orS lt t s).2
theorem orS_snoc (t pre : List α) (x : α) : orS lt t (pre ++ [x]) = orIn lt x (orS lt t pre).1 (orS lt t pre).2 := by simp [orS]
theorem orIn_length (x : α) : ∀ (rest l : List α), (orIn lt x l rest).1.length + (orIn lt x l rest).2.length ≤ l.length + rest.length + 1
  | [], l => by simp [orIn]
  | r :: rest, l => by
    unfold orIn
    have := orIn_length x rest (l ++ [r])
    simp at this
    split
    · simp; omega
    · split <;> simp <;> omega
theorem orS_length (t : List α) : ∀ pre : List α, (orS lt t pre).1.length + (orS lt t pre).2.length ≤ pre.length + t.length := by
  intro pre
  induction h : pre.length generalizing pre with
  | zero => obtain rfl : pre = [] := List.eq_nil_of_length_eq_zero h; simp [orS]
  | succ n ih =>
    rcases List.eq_nil_or_concat pre with rfl | ⟨q, x, rfl⟩
    · simp at h
    · rw [List.concat_eq_append] at h ⊢
      have hq : q.length = n := by simpa using h
      have := ih q hq
      have := orIn_length (lt := lt) x (orS lt t q).2 (orS lt t q).1
      rw [orS_snoc]
      omega
structure OrOk (lt : α → α → Bool) (l rest : List α) : Prop where
  one : Rising lt l
  two : Rising lt rest
  less : ∀ y ∈ l, ∀ z ∈ rest, lt y z = true
theorem orIn_ok (T : Tot lt) (x : α) : ∀ (rest l : List α), OrOk lt l rest → (∀ y ∈ l, lt y x = true) →
    OrOk lt (orIn lt x l rest).1 (orIn lt x l rest).2 ∧ (∀ y ∈ (orIn lt x l rest).1, y = x ∨ lt y x = true) ∧ ∀ z, (z ∈ (orIn lt x l rest).1 ∨ z ∈ (orIn lt x l rest).2) ↔ z = x ∨ z ∈ l ∨ z ∈ rest
  | [], l, h, hx => by
    refine ⟨⟨rising_append.2 ⟨h.one, by simp [Rising], fun y hy z hz => by simp at hz; subst hz; exact hx y hy⟩, Rising.nil, fun y _ z hz => by simp [orIn] at hz⟩, ?_, ?_⟩
    · intro y hy; simp [orIn] at hy; rcases hy with q | q
      · exact .inr (hx y q)
      · exact .inl q
    · intro z; simp [orIn]; constructor <;> (intro q; rcases q with q | q <;> simp [q])
  | r :: rest, l, h, hx => by
    obtain ⟨hr, hrest⟩ := rising_cons.1 h.two
    unfold orIn
    cases h1 : lt r x with
    | true =>
      have := orIn_ok T x rest (l ++ [r]) ⟨rising_append.2 ⟨h.one, by simp [Rising], fun y hy z hz => by simp at hz; subst hz; exact h.less y hy _ (by simp)⟩, hrest, fun y hy z hz => by
        rcases List.mem_append.1 hy with q | q
        · exact h.less y q z (by simp [hz])
        · simp at q; subst q; exact hr z hz⟩ (fun y hy => by
        rcases List.mem_append.1 hy with q | q
        · exact hx y q
        · simp at q; subst q; exact h1)
      simp only [if_true]
      refine ⟨this.1, this.2.1, fun z => ?_⟩
      rw [this.2.2 z]
      simp only [List.mem_append, List.mem_cons, List.not_mem_nil, or_false]
      grind
    | false =>
      have hxr : ∀ z ∈ rest, lt x z = true := fun z hz => by
        cases e : lt x r with
        | true => exact T.tr _ _ _ e (hr z hz)
        | false => rw [T.tot x r e h1]; exact hr z hz
      cases h2 : lt x r with
      | true =>
        simp only [if_true, Bool.false_eq_true, if_false]
        refine ⟨⟨rising_append.2 ⟨h.one, by simp [Rising], fun y hy z hz => by simp at hz; subst hz; exact hx y hy⟩, h.two, fun y hy z hz => ?_⟩, fun y hy => ?_, fun z => ?_⟩
        · have xz : lt x z = true := (List.mem_cons.1 hz).elim (fun e => e ▸ h2) (fun q => hxr z q)
          rcases List.mem_append.1 hy with q | q
          · exact T.tr _ _ _ (hx y q) xz
          · simp at q; subst q; exact xz
        · rcases List.mem_append.1 hy with q | q
          · exact .inr (hx y q)
          · simp at q; exact .inl q
        · simp only [List.mem_append, List.mem_cons, List.not_mem_nil, or_false]
          grind
      | false =>
        have e := T.tot x r h2 h1
        subst e
        simp only [Bool.false_eq_true, if_false]
        refine ⟨⟨rising_append.2 ⟨h.one, by simp [Rising], fun y hy z hz => by simp at hz; subst hz; exact hx y hy⟩, hrest, fun y hy z hz => ?_⟩, fun y hy => ?_, fun z => ?_⟩
        · rcases List.mem_append.1 hy with q | q
          · exact T.tr _ _ _ (hx y q) (hxr z hz)
          · simp at q; subst q; exact hxr z hz
        · rcases List.mem_append.1 hy with q | q
          · exact .inr (hx y q)
          · simp at q; exact .inl q
        · simp only [List.mem_append, List.mem_cons, List.not_mem_nil, or_false]
          grind
theorem orS_ok (T : Tot lt) (t : List α) (ht : Rising lt t) : ∀ (s pre : List α), Rising lt s → OrOk lt (orS lt t pre).1 (orS lt t pre).2 → (∀ y ∈ (orS lt t pre).1, ∀ z ∈ s, lt y z = true) → (∀ z, (z ∈ (orS lt t pre).1 ∨ z ∈ (orS lt t pre).2) ↔ z ∈ pre ∨ z ∈ t) →
    OrOk lt (orS lt t (pre ++ s)).1 (orS lt t (pre ++ s)).2 ∧ ∀ z, (z ∈ (orS lt t (pre ++ s)).1 ∨ z ∈ (orS lt t (pre ++ s)).2) ↔ z ∈ pre ++ s ∨ z ∈ t
  | [], pre, _, h, _, hm => by rw [List.append_nil]; exact ⟨h, hm⟩
  | x :: s, pre, hs, h, hl, hm => by
    obtain ⟨hx, hs'⟩ := rising_cons.1 hs
    obtain ⟨g1, g2, g3⟩ := orIn_ok T x _ _ h (fun y hy => hl y hy x (by simp))
    rw [← orS_snoc] at g1 g2 g3
    have := orS_ok T t ht s (pre ++ [x]) hs' g1 (fun y hy z hz => (g2 y hy).elim (fun e => e ▸ hx z hz) (fun q => T.tr _ _ _ q (hx z hz))) (fun z => by
      rw [g3 z, or_congr Iff.rfl (hm z)]
      simp only [List.mem_append, List.mem_cons, List.not_mem_nil, or_false]
      grind)
    rw [List.append_assoc] at this
    exact this
/-- Two sets, gone through together, are the set of both lists. -/
theorem orL_eq (T : Tot lt) {s t : List α} (hs : Rising lt s) (ht : Rising lt t) : orL lt s t = setL lt (s ++ t) := by
  obtain ⟨g, m⟩ := orS_ok T t ht s [] hs ⟨Rising.nil, ht, fun y hy => by simp [orS] at hy⟩ (fun y hy => by simp [orS] at hy) (fun z => by simp [orS])
  rw [List.nil_append] at g m
  refine setL_unique T (rising_append.2 ⟨g.one, g.two, g.less⟩) fun z => ?_
  rw [orL, List.mem_append, m z, List.mem_append]
/-- A part of a set is a set. -/
theorem rising_filter {s : List α} (h : Rising lt s) (p : α → Bool) : Rising lt (s.filter p) := h.sub List.filter_sublist
/-- What of a set is not below something. -/
theorem drop_count (T : Tot lt) (x : α) : ∀ {s : List α}, Rising lt s → s.drop (s.countP fun y => lt y x) = s.dropWhile fun y => lt y x
  | [], _ => by simp
  | y :: s, h => by
    obtain ⟨hy, hs⟩ := rising_cons.1 h
    cases e : lt y x with
    | true => rw [List.countP_cons_of_pos (by simpa using e), List.drop_succ_cons, drop_count T x hs, List.dropWhile_cons_of_pos (by simpa using e)]
    | false =>
      have h0 : s.countP (fun y => lt y x) = 0 := List.countP_eq_zero.2 fun z hz q => by
        have q' : lt z x = true := q
        have := T.tr _ _ _ (hy z hz) q'
        rw [e] at this; cases this
      rw [List.countP_cons_of_neg (by simp [e]), h0, List.drop_zero, List.dropWhile_cons_of_neg (by simp [e])]
end

section
variable {α : Type} [Inhabited α] [DecidableEq α] {lt : α → α → Bool}
/-- A list in order, of whose neighbours that are alike one stays, is the set of it. -/
theorem compactUpTo_set (T : Tot lt) (d : Array α) (hd : ∀ i j, i ≤ j → j < d.size → lt d[j]! d[i]! = false) : ∀ m, m ≤ d.size →
    Rising lt (Lib.compactUpTo d m) ∧ (∀ x ∈ Lib.compactUpTo d m, ∃ j, j < m ∧ d[j]! = x) ∧ ∀ j, j < m → d[j]! ∈ Lib.compactUpTo d m
  | 0, _ => ⟨by simp [Lib.compactUpTo, Rising], by simp [Lib.compactUpTo], by omega⟩
  | m + 1, hm => by
    obtain ⟨h1, h2, h3⟩ := compactUpTo_set T d hd m (by omega)
    rw [Lib.compactUpTo_succ]
    cases hk : Lib.keeps d m with
    | true =>
      simp only [if_true]
      refine ⟨rising_append.2 ⟨h1, by simp [Rising], fun x hx z hz => ?_⟩, fun x hx => ?_, fun j hj => ?_⟩
      · simp at hz; subst hz
        obtain ⟨j, hj, rfl⟩ := h2 x hx
        have hne : d[m]! ≠ d[m - 1]! := by
          have := of_decide_eq_true hk
          rcases this with q | q
          · omega
          · exact q
        have q1 : lt d[m - 1]! d[m]! = true := by
          cases e : lt d[m - 1]! d[m]! with
          | true => rfl
          | false => exact absurd (T.tot _ _ (hd (m - 1) m (by omega) (by omega)) e) hne
        cases e : lt d[j]! d[m]! with
        | true => rfl
        | false =>
          have := T.neg_tr q1 e
          rw [hd j (m - 1) (by omega) (by omega)] at this
          cases this
      · rcases List.mem_append.1 hx with q | q
        · obtain ⟨j, hj, e⟩ := h2 x q; exact ⟨j, by omega, e⟩
        · simp at q; exact ⟨m, by omega, q.symm⟩
      · by_cases e : j = m
        · subst e; simp
        · exact List.mem_append_left _ (h3 j (by omega))
    | false =>
      simp only [Bool.false_eq_true, if_false, List.append_nil]
      refine ⟨h1, fun x hx => ?_, fun j hj => ?_⟩
      · obtain ⟨j, hj, e⟩ := h2 x hx; exact ⟨j, by omega, e⟩
      · by_cases e : j = m
        · subst e
          have := of_decide_eq_false hk
          have h0 : ¬ j = 0 := fun q => this (.inl q)
          have he : d[j]! = d[j - 1]! := by
            by_cases q : d[j]! = d[j - 1]!
            · exact q
            · exact absurd (.inr q) this
          rw [he]
          exact h3 (j - 1) (by omega)
        · exact h3 j (by omega)
theorem compact_set (T : Tot lt) {zs : List α} (hd : zs.Pairwise fun x y => lt y x = false) : Lib.compact zs = setL lt zs := by
  have hp := List.pairwise_iff_getElem.1 hd
  obtain ⟨h1, h2, h3⟩ := compactUpTo_set T zs.toArray (fun i j hij hj => by
    have hj' : j < zs.length := by simpa using hj
    rcases Nat.lt_or_ge i j with q | q
    · simpa [getElem!_pos, hj', Nat.lt_trans q hj'] using hp i j (by omega) hj' q
    · obtain rfl : i = j := by omega
      exact T.irr _) zs.length (by simp)
  refine setL_unique T h1 fun x => ⟨fun hx => ?_, fun hx => ?_⟩
  · obtain ⟨j, hj, e⟩ := h2 x hx
    rw [← e]
    simp [getElem!_pos, hj]
  · obtain ⟨j, hj, e⟩ := List.getElem_of_mem hx
    have := h3 j hj
    rw [show zs.toArray[j]! = x by simp [getElem!_pos, hj, e]] at this
    exact this
end
/-- The shelf's sort, and one of neighbours that are alike kept, gives the set. -/
theorem sort_set_int (zs : List Int) : Lib.compact (zs.mergeSort fun x y => decide (x ≤ y)) = setL ltI zs := by
  rw [compact_set totI ((List.pairwise_mergeSort (le := fun x y : Int => decide (x ≤ y)) (fun a b c h1 h2 => by simp at *; omega) (fun a b => by simp; omega) zs).imp fun h => by simp [ltI] at *; omega)]
  exact setL_congr totI fun x => List.mem_mergeSort
theorem sort_set_str (zs : List (List UInt8)) : Lib.compact (zs.mergeSort fun x y => decide (x ≤ y)) = setL ltS zs := by
  rw [compact_set totS ((List.pairwise_mergeSort (le := fun x y : List UInt8 => decide (x ≤ y)) (fun a b c h1 h2 => by simp only [decide_eq_true_eq] at *; exact List.le_trans h1 h2) (fun a b => by simp only [Bool.or_eq_true, decide_eq_true_eq]; exact List.le_total a b) zs).imp fun h => by
    simp only [ltS, decide_eq_true_eq, decide_eq_false_iff_not] at *
    exact List.not_lt.2 h)]
  exact setL_congr totS fun x => List.mem_mergeSort

/-- How two numbers, two lists of one length, and two lists stand. -/
def cmpI (x y : Int) : Int := if x < y then -1 else if y < x then 1 else 0
def lexL {α : Type} (lt : α → α → Bool) : List α → List α → Int
  | x :: a, y :: b => if lt x y then -1 else if lt y x then 1 else lexL lt a b
  | _, _ => 0
def cmpL {α : Type} (lt : α → α → Bool) (a b : List α) : Int := if a.length < b.length then -1 else if b.length < a.length then 1 else lexL lt a b
section
variable {α : Type} {lt : α → α → Bool}
theorem lexL_swap (T : Tot lt) : ∀ a b : List α, lexL lt b a = - lexL lt a b
  | [], [] => rfl
  | [], _ :: _ => rfl
  | _ :: _, [] => rfl
  | x :: a, y :: b => by
    unfold lexL
    cases h1 : lt x y with
    | true => simp [T.asym h1]
    | false => cases h2 : lt y x with
      | true => simp
      | false => simpa using lexL_swap T a b
theorem lexL_three : ∀ a b : List α, lexL lt a b = -1 ∨ lexL lt a b = 0 ∨ lexL lt a b = 1
  | [], [] => .inr (.inl rfl)
  | [], _ :: _ => .inr (.inl rfl)
  | _ :: _, [] => .inr (.inl rfl)
  | x :: a, y :: b => by
    unfold lexL
    split
    · exact .inl rfl
    · split
      · exact .inr (.inr rfl)
      · exact lexL_three a b
theorem lexL_self (T : Tot lt) : ∀ a : List α, lexL lt a a = 0
  | [] => rfl
  | x :: a => by unfold lexL; simp [T.irr, lexL_self T a]
theorem lexL_zero (T : Tot lt) : ∀ {a b : List α}, a.length = b.length → lexL lt a b = 0 → a = b
  | [], [], _, _ => rfl
  | [], _ :: _, h, _ => by simp at h
  | _ :: _, [], h, _ => by simp at h
  | x :: a, y :: b, h, k => by
    unfold lexL at k
    cases h1 : lt x y with
    | true => simp [h1] at k
    | false => cases h2 : lt y x with
      | true => simp [h1, h2] at k
      | false =>
        simp [h1, h2] at k
        rw [T.tot x y h1 h2, lexL_zero T (by simpa using h) k]
theorem lexL_tr (T : Tot lt) : ∀ {a b c : List α}, a.length = b.length → b.length = c.length → lexL lt a b ≤ 0 → lexL lt b c ≤ 0 → lexL lt a c ≤ 0
  | [], [], [], _, _, _, _ => by simp [lexL]
  | [], [], _ :: _, _, h, _, _ => by simp at h
  | [], _ :: _, _, h, _, _, _ => by simp at h
  | _ :: _, [], _, h, _, _, _ => by simp at h
  | _ :: _, _ :: _, [], _, h, _, _ => by simp at h
  | x :: a, y :: b, z :: c, h, k, p, q => by
    unfold lexL at p q ⊢
    cases h1 : lt x y with
    | true =>
      cases h3 : lt y z with
      | true => simp [T.tr _ _ _ h1 h3]
      | false => cases h4 : lt z y with
        | true => simp [h3, h4] at q
        | false => rw [← T.tot y z h3 h4]; simp [h1]
    | false => cases h2 : lt y x with
      | true => simp [h1, h2] at p
      | false =>
        have e := T.tot x y h1 h2
        subst e
        simp [h1] at p
        cases h3 : lt x z with
        | true => simp
        | false => cases h4 : lt z x with
          | true => simp [h3, h4] at q
          | false =>
            simp [h3, h4] at q ⊢
            exact lexL_tr T (by simpa using h) (by simpa using k) p q
theorem cmpL_swap (T : Tot lt) (a b : List α) : cmpL lt b a = 0 - cmpL lt a b := by
  unfold cmpL
  have := lexL_swap T a b
  split <;> split <;> omega
theorem cmpL_three (a b : List α) : cmpL lt a b = -1 ∨ cmpL lt a b = 0 ∨ cmpL lt a b = 1 := by
  unfold cmpL
  have := lexL_three (lt := lt) a b
  split
  · exact .inl rfl
  · split
    · exact .inr (.inr rfl)
    · exact this
theorem cmpL_self (T : Tot lt) (a : List α) : cmpL lt a a = 0 := by simp [cmpL, lexL_self T]
theorem cmpL_zero (T : Tot lt) {a b : List α} (h : cmpL lt a b = 0) : a = b := by
  unfold cmpL at h
  split at h
  · cases h
  · split at h
    · cases h
    · exact lexL_zero T (by omega) h
theorem cmpL_tr (T : Tot lt) {a b c : List α} (h : cmpL lt a b ≤ 0) (k : cmpL lt b c ≤ 0) : cmpL lt a c ≤ 0 := by
  unfold cmpL at *
  split at h
  · split at k
    · split <;> omega
    · split at k
      · omega
      · rw [if_pos (by omega)]; decide
  · split at h
    · omega
    · split at k
      · rw [if_pos (by omega)]; decide
      · split at k
        · omega
        · rw [if_neg (by omega), if_neg (by omega)]
          exact lexL_tr T (by omega) (by omega) h k
end
end Go.Proofs.Ytjdcmeclmaljeaa.Sets
