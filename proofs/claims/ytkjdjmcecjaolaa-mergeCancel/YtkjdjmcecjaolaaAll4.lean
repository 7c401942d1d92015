/- Joined out of the texts MrgPlain, MrgLeast, in that order. -/
import Derived.Test.YtkjdjmcecjaolaaAll3
import Derived.Test.YtkjdjmcecjaolaaAll2
import Derived.BigQuiet
/- Rows that are made one, and the same step by step through pipes, as plain functions: who is ready, one step, a run; what a run comes to. -/
namespace Go.Proofs.Ytkjdjmcecjaolaa.Mrg
open Go.Proofs.Ytkjdjmcecjaolaa.Sets Go.Proofs.Ytkjdjmcecjaolaa.Pick
set_option linter.unusedVariables false
set_option linter.unusedSimpArgs false

/-- A row's first thing. -/
def hd (rows : List (List Int)) (k : Nat) : Int := (rows.getD k []).headD 0
/-- Of the first m rows the one whose first thing is the least; of such as are alike the first. -/
def bestTo (rows : List (List Int)) : Nat → Option Nat
  | 0 => none
  | m + 1 => if rows.getD m [] = [] then bestTo rows m else match bestTo rows m with
    | none => some m
    | some b => if hd rows m < hd rows b then some m else some b
def best (rows : List (List Int)) : Option Nat := bestTo rows rows.length
def putL (out : List Int) (x : Int) : List Int := if out.getLast? = some x then out else out ++ [x]
def cnt (rows : List (List Int)) : Nat := (rows.map List.length).sum
def mixF : Nat → List (List Int) → List Int → List Int
  | 0, _, out => out
  | f + 1, rows, out => match best rows with
    | none => out
    | some b => mixF f (rows.set b (rows.getD b []).tail) (putL out (hd rows b))
def mixL (rows : List (List Int)) : List Int := mixF (cnt rows) rows []
theorem getD_set {α : Type} (l : List α) (k j : Nat) (x d : α) : (l.set k x).getD j d = if k = j ∧ j < l.length then x else l.getD j d := by
  simp only [List.getD_eq_getElem?_getD, List.getElem?_set]
  by_cases h : k = j
  · subst h
    by_cases q : k < l.length
    · simp [q]
    · simp [q, List.getElem?_eq_none (Nat.le_of_not_lt q)]
  · simp [h]
theorem getD_ne {rows : List (List Int)} {k : Nat} (h : rows.getD k [] ≠ []) : k < rows.length := by
  rcases Nat.lt_or_ge k rows.length with q | q
  · exact q
  · rw [List.getD_eq_getElem?_getD, List.getElem?_eq_none q] at h
    exact absurd rfl h
theorem bestTo_some {rows : List (List Int)} : ∀ {m b : Nat}, bestTo rows m = some b → b < m ∧ rows.getD b [] ≠ []
  | 0, b, h => by cases h
  | m + 1, b, h => by
    unfold bestTo at h
    split at h
    · obtain ⟨h1, h2⟩ := bestTo_some h
      exact ⟨by omega, h2⟩
    · rename_i hm
      split at h
      · cases h
        exact ⟨by omega, hm⟩
      · rename_i b' hb
        obtain ⟨h1, h2⟩ := bestTo_some hb
        split at h
        · cases h
          exact ⟨by omega, hm⟩
        · cases h
          exact ⟨by omega, h2⟩
theorem bestTo_none {rows : List (List Int)} : ∀ {m : Nat}, bestTo rows m = none → ∀ k, k < m → rows.getD k [] = []
  | 0, h, k, hk => by omega
  | m + 1, h, k, hk => by
    unfold bestTo at h
    split at h
    · rename_i hm
      by_cases e : k = m
      · subst e; exact hm
      · exact bestTo_none h k (by omega)
    · split at h
      · cases h
      · split at h <;> cases h
theorem bestTo_nil {rows : List (List Int)} : ∀ {m : Nat}, (∀ k, k < m → rows.getD k [] = []) → bestTo rows m = none
  | 0, h => rfl
  | m + 1, h => by
    unfold bestTo
    rw [if_pos (h m (by omega))]
    exact bestTo_nil (fun k hk => h k (by omega))
theorem bestTo_least {rows : List (List Int)} : ∀ {m b : Nat}, bestTo rows m = some b → ∀ k, k < m → rows.getD k [] ≠ [] → hd rows b ≤ hd rows k
  | 0, b, h => by cases h
  | m + 1, b, h => by
    intro k hk hne
    unfold bestTo at h
    split at h
    · rename_i hm
      by_cases e : k = m
      · subst e; exact absurd hm hne
      · exact bestTo_least h k (by omega) hne
    · split at h
      · rename_i hm hn
        cases h
        by_cases e : k = m
        · subst e; omega
        · exact absurd (bestTo_none hn k (by omega)) hne
      · rename_i hm b' hb
        split at h
        · cases h
          by_cases e : k = m
          · subst e; omega
          · have := bestTo_least hb k (by omega) hne
            omega
        · cases h
          by_cases e : k = m
          · subst e; omega
          · exact bestTo_least hb k (by omega) hne
theorem bestTo_congr {r1 r2 : List (List Int)} : ∀ {m : Nat}, (∀ k, k < m → (r1.getD k []).head? = (r2.getD k []).head?) → bestTo r1 m = bestTo r2 m
  | 0, h => rfl
  | m + 1, h => by
    have e1 : (r1.getD m [] = []) ↔ (r2.getD m [] = []) := by
      have := h m (by omega)
      rw [← List.head?_eq_none_iff, ← List.head?_eq_none_iff, this]
    have e2 : ∀ k, k < m + 1 → hd r1 k = hd r2 k := fun k hk => by
      have := h k hk
      unfold hd
      rw [List.headD_eq_head?_getD, List.headD_eq_head?_getD, this]
    unfold bestTo
    rw [bestTo_congr (m := m) (fun k hk => h k (by omega))]
    by_cases q : r1.getD m [] = []
    · rw [if_pos q, if_pos (e1.1 q)]
    · rw [if_neg q, if_neg (fun z => q (e1.2 z))]
      cases hb : bestTo r2 m with
      | none => rfl
      | some b =>
        simp only
        rw [e2 m (by omega), e2 b (by have := (bestTo_some hb).1; omega)]
theorem best_some {rows : List (List Int)} {b : Nat} (h : best rows = some b) : b < rows.length ∧ rows.getD b [] ≠ [] := bestTo_some h
theorem sum_set {β : Type} (f : β → Nat) : ∀ (l : List β) (k : Nat) (x y : β), l[k]? = some x → ((l.set k y).map f).sum + f x = (l.map f).sum + f y
  | [], k, x, y, h => by simp at h
  | z :: l, 0, x, y, h => by
    simp at h
    subst h
    simp
    omega
  | z :: l, k + 1, x, y, h => by
    have := sum_set f l k x y (by simpa using h)
    simp at this ⊢
    omega
theorem sum_get {β : Type} (f : β → Nat) : ∀ (l : List β) (k : Nat) (x : β), l[k]? = some x → f x ≤ (l.map f).sum
  | [], k, x, h => by simp at h
  | z :: l, 0, x, h => by simp at h; subst h; simp
  | z :: l, k + 1, x, h => by have := sum_get f l k x (by simpa using h); simp; omega
theorem sum_pos {β : Type} (f : β → Nat) (l : List β) (h : 0 < (l.map f).sum) : ∃ (k : Nat) (x : β), l[k]? = some x ∧ 0 < f x := by
  induction l with
  | nil => simp at h
  | cons z l ih =>
    by_cases q : 0 < f z
    · exact ⟨0, z, rfl, q⟩
    · obtain ⟨k, x, h1, h2⟩ := ih (by simp at h; omega)
      exact ⟨k + 1, x, by simpa using h1, h2⟩
theorem at_getD {rows : List (List Int)} {k : Nat} (h : k < rows.length) : rows[k]? = some (rows.getD k []) := by
  rw [List.getD_eq_getElem?_getD, List.getElem?_eq_getElem h]
  rfl
theorem cnt_take {rows : List (List Int)} {b : Nat} (h : rows.getD b [] ≠ []) : cnt (rows.set b (rows.getD b []).tail) + 1 = cnt rows := by
  have h1 := sum_set List.length rows b _ (rows.getD b []).tail (at_getD (getD_ne h))
  have h2 := List.length_pos_iff.2 h
  unfold cnt
  rw [List.length_tail] at h1
  omega
theorem cnt_zero {rows : List (List Int)} (h : cnt rows = 0) (k : Nat) : rows.getD k [] = [] := by
  by_cases hk : k < rows.length
  · have := sum_get List.length rows k _ (at_getD hk)
    unfold cnt at h
    exact List.eq_nil_of_length_eq_zero (by omega)
  · rw [List.getD_eq_getElem?_getD, List.getElem?_eq_none (by omega)]
    rfl
theorem mixF_end {rows : List (List Int)} (h : best rows = none) (f : Nat) (out : List Int) : mixF f rows out = out := by
  cases f with
  | zero => rfl
  | succ f => unfold mixF; rw [h]
theorem mixF_enough : ∀ (f g : Nat) (rows : List (List Int)) (out : List Int), cnt rows ≤ f → cnt rows ≤ g → mixF f rows out = mixF g rows out
  | 0, g, rows, out, h1, h2 => by
    rw [mixF_end (bestTo_nil (fun k _ => cnt_zero (by omega) k)), mixF_end (bestTo_nil (fun k _ => cnt_zero (by omega) k))]
  | f + 1, 0, rows, out, h1, h2 => by
    rw [mixF_end (bestTo_nil (fun k _ => cnt_zero (by omega) k)), mixF_end (bestTo_nil (fun k _ => cnt_zero (by omega) k))]
  | f + 1, g + 1, rows, out, h1, h2 => by
    unfold mixF
    cases hb : best rows with
    | none => rfl
    | some b =>
      have := cnt_take (best_some hb).2
      exact mixF_enough f g _ _ (by omega) (by omega)
theorem mixF_step {rows : List (List Int)} {b f : Nat} (h : best rows = some b) (hf : cnt rows ≤ f) (out : List Int) : mixF f rows out = mixF f (rows.set b (rows.getD b []).tail) (putL out (hd rows b)) := by
  have := cnt_take (best_some h).2
  rw [mixF_enough f (f + 1) rows out hf (by omega)]
  conv => lhs; unfold mixF
  rw [h]
/-- Rows that rise make their set. -/
theorem getD_mem {rows : List (List Int)} {k : Nat} (h : rows.getD k [] ≠ []) : rows.getD k [] ∈ rows := by
  have hl := getD_ne h
  rw [List.getD_eq_getElem?_getD, List.getElem?_eq_getElem hl]
  exact List.getElem_mem hl
def UpL (l : List Int) : Prop := l.Pairwise (· ≤ ·)
theorem putL_last {out : List Int} {x : Int} : (putL out x).getLast? = some x := by
  unfold putL
  split
  · assumption
  · simp
theorem mem_putL {out : List Int} {x z : Int} : z ∈ putL out x ↔ z ∈ out ∨ z = x := by
  unfold putL
  split
  · rename_i h
    have := List.mem_of_getLast? h
    constructor
    · exact .inl
    · rintro (q | rfl)
      · exact q
      · exact this
  · simp
theorem mem_rows {rows : List (List Int)} {b : Nat} (h : rows.getD b [] ≠ []) (z : Int) : (∃ r ∈ rows, z ∈ r) ↔ (z = hd rows b ∨ ∃ r ∈ rows.set b (rows.getD b []).tail, z ∈ r) := by
  have hl := getD_ne h
  obtain ⟨x, t, e⟩ := List.exists_cons_of_ne_nil h
  have hh : hd rows b = x := by unfold hd; rw [e]; rfl
  have ha : rows[b]? = some (x :: t) := by rw [← e]; exact at_getD hl
  rw [e, hh]
  constructor
  · rintro ⟨r, hr, hz⟩
    obtain ⟨j, hj⟩ := List.getElem?_of_mem hr
    by_cases q : j = b
    · subst q
      rw [ha] at hj
      cases hj
      rcases List.mem_cons.1 hz with e1 | e1
      · exact .inl e1
      · exact .inr ⟨t, List.mem_of_getElem? (i := j) (by simp [hl]), e1⟩
    · exact .inr ⟨r, List.mem_of_getElem? (i := j) (by rw [List.getElem?_set_ne (Ne.symm q)]; exact hj), hz⟩
  · rintro (rfl | ⟨r, hr, hz⟩)
    · exact ⟨z :: t, List.mem_of_getElem? ha, by simp⟩
    · rcases List.mem_or_eq_of_mem_set hr with q | q
      · exact ⟨r, q, hz⟩
      · subst q
        exact ⟨x :: r, List.mem_of_getElem? ha, List.mem_cons_of_mem _ hz⟩
theorem mixF_up : ∀ (f : Nat) (rows : List (List Int)) (out : List Int), cnt rows ≤ f → (∀ r ∈ rows, UpL r) → Rising ltI out → (∀ x, out.getLast? = some x → ∀ r ∈ rows, ∀ z ∈ r, x ≤ z) →
    Rising ltI (mixF f rows out) ∧ ∀ z, z ∈ mixF f rows out ↔ z ∈ out ∨ ∃ r ∈ rows, z ∈ r
  | 0, rows, out, hf, hu, ho, hl => by
    refine ⟨ho, fun z => ⟨.inl, ?_⟩⟩
    rintro (q | ⟨r, hr, hz⟩)
    · exact q
    · obtain ⟨j, hj⟩ := List.getElem?_of_mem hr
      have := sum_get List.length rows j r hj
      have h0 := List.length_pos_of_mem hz
      unfold cnt at hf
      omega
  | f + 1, rows, out, hf, hu, ho, hl => by
    unfold mixF
    cases hb : best rows with
    | none =>
      refine ⟨ho, fun z => ⟨.inl, ?_⟩⟩
      rintro (q | ⟨r, hr, hz⟩)
      · exact q
      · obtain ⟨j, hj⟩ := List.getElem?_of_mem hr
        have h1 := bestTo_none hb j (List.getElem?_eq_some_iff.1 hj).1
        rw [List.getD_eq_getElem?_getD, hj] at h1
        simp at h1
        subst h1
        cases hz
    | some b =>
      simp only
      have hne := (best_some hb).2
      have hc := cnt_take hne
      obtain ⟨x, t, e⟩ := List.exists_cons_of_ne_nil hne
      have hh : hd rows b = x := by unfold hd; rw [e]; rfl
      have hxt : UpL (x :: t) := by rw [← e]; exact hu _ (getD_mem hne)
      have hxm : (x :: t) ∈ rows := by rw [← e]; exact getD_mem hne
      have hle : ∀ r ∈ rows, ∀ z ∈ r, x ≤ z := fun r hr z hz => by
        obtain ⟨j, hj⟩ := List.getElem?_of_mem hr
        have hj2 : rows.getD j [] = r := by rw [List.getD_eq_getElem?_getD, hj]; rfl
        cases r with
        | nil => cases hz
        | cons y r =>
          have h1 := bestTo_least hb j (List.getElem?_eq_some_iff.1 hj).1 (by rw [hj2]; simp)
          have h2 : hd rows j = y := by unfold hd; rw [hj2]; rfl
          rw [hh, h2] at h1
          rcases List.mem_cons.1 hz with rfl | q
          · exact h1
          · have := (List.pairwise_cons.1 (hu _ hr)).1 z q
            omega
      have hput : Rising ltI (putL out x) := by
        unfold putL
        split
        · exact ho
        · rename_i hn
          refine rising_append.2 ⟨ho, List.pairwise_singleton _ _, fun y hy z hz => ?_⟩
          rw [List.mem_singleton] at hz
          subst hz
          cases hlast : out.getLast? with
          | none => rw [List.getLast?_eq_none_iff] at hlast; subst hlast; cases hy
          | some v =>
            have h1 := hl v hlast _ hxm z (by simp)
            have h2 : v ≠ z := fun q => hn (by rw [hlast, q])
            have h3 : y ≤ v := by
              obtain ⟨ys, rfl⟩ := List.getLast?_eq_some_iff.1 hlast
              rcases List.mem_append.1 hy with q | q
              · have := (rising_append.1 ho).2.2 y q v (by simp)
                simp [ltI] at this
                omega
              · rw [List.mem_singleton] at q
                omega
            simp [ltI]
            omega
      obtain ⟨i1, i2⟩ := mixF_up f (rows.set b (rows.getD b []).tail) (putL out (hd rows b)) (by omega) (fun r hr => by
        rcases List.mem_or_eq_of_mem_set hr with q | q
        · exact hu r q
        · subst q
          rw [e]
          exact (List.pairwise_cons.1 hxt).2) (by rw [hh]; exact hput) (fun y hy r hr z hz => by
        rw [hh, putL_last] at hy
        cases hy
        rcases List.mem_or_eq_of_mem_set hr with q | q
        · exact hle r q z hz
        · subst q
          rw [e] at hz
          exact hle _ hxm z (List.mem_cons_of_mem _ hz))
      refine ⟨i1, fun z => ?_⟩
      rw [i2, mem_putL, mem_rows hne z]
      constructor
      · rintro ((q | q) | q)
        · exact .inl q
        · exact .inr (.inl q)
        · exact .inr (.inr q)
      · rintro (q | q | q)
        · exact .inl (.inl q)
        · exact .inl (.inr q)
        · exact .inr q
theorem mixL_up {rows : List (List Int)} (hu : ∀ r ∈ rows, UpL r) : mixL rows = setL ltI rows.flatten := by
  obtain ⟨h1, h2⟩ := mixF_up (cnt rows) rows [] (Nat.le_refl _) hu Rising.nil (fun x q => by cases q)
  refine rising_eq totI h1 (rising_setL totI _) (fun z => ?_)
  rw [mem_setL totI]
  show z ∈ mixF _ _ _ ↔ _
  rw [h2, List.mem_flatten]
  constructor
  · rintro (q | ⟨r, hr, hz⟩)
    · cases q
    · exact ⟨r, hr, hz⟩
  · rintro ⟨r, hr, hz⟩
    exact .inr ⟨r, hr, hz⟩

/-- One sender's: what is not sent yet, what is in the pipe, the head that was received from it (a row of one at most), whether the pipe is closed. -/
structure Ln where
  row : List Int
  q : List Int
  h : List Int
  c : Bool
structure MS where
  ls : List Ln
  ex : Bool
  out : List Int
  st : Nat
  se : Nat
  ec : Nat
def sndR (room : Nat) (κ : Ln) : Bool := !κ.c && (decide (κ.row = []) || decide (κ.q.length < room))
def sndAt (room : Nat) (ls : List Ln) (k : Nat) : Bool := match ls[k]? with
  | some κ => sndR room κ
  | none => false
/-- It has no head of this one, and there is a thing in its pipe. -/
def nxtR (κ : Ln) : Bool := decide (κ.h = []) && !decide (κ.q = [])
def nxt (ls : List Ln) : Option Nat := ls.findIdx? nxtR
def holR (κ : Ln) : Bool := !decide (κ.h = []) || (κ.c && decide (κ.q = []))
def whole (ls : List Ln) : Bool := ls.all holR
def mrgR (ls : List Ln) : Bool := (nxt ls).isSome || whole ls
def rdyTo (room : Nat) (ls : List Ln) (m : Nat) : List Int := ((List.range m).filter (sndAt room ls)).map fun k : Nat => (k : Int)
def rdyL (room : Nat) (ls : List Ln) : List Int := rdyTo room ls ls.length ++ (if mrgR ls = true then [(ls.length : Int)] else [])
def sndK (s : MS) (k : Nat) : MS := match s.ls[k]? with
  | none => s
  | some κ => match κ.row with
    | [] => { s with ls := s.ls.set k { κ with c := true }, ec := s.ec + 1 }
    | x :: r => { s with ls := s.ls.set k { κ with row := r, q := κ.q ++ [x] }, se := s.se + 1 }
def mrgK (s : MS) : MS := match nxt s.ls with
  | some k => match s.ls[k]? with
    | none => s
    | some κ => match κ.q with
      | [] => s
      | x :: q => { s with ls := s.ls.set k { κ with q := q, h := [x] } }
  | none => match best (s.ls.map Ln.h) with
    | none => { s with ex := true, ec := s.ec + 1 }
    | some b => match s.ls[b]? with
      | none => s
      | some κ => { s with ls := s.ls.set b { κ with h := κ.h.tail }, out := putL s.out (hd (s.ls.map Ln.h) b) }
def stp (s : MS) : MS := { s with st := s.st + 1 }
def stepM (s : MS) (k : Nat) : MS := if k = s.ls.length then mrgK (stp s) else sndK (stp s) k
def runM (L : List Int) (c : Int) (room : Nat) : Nat → MS → Nat → MS × Nat × Int
  | 0, s, n => (s, n, 0)
  | f + 1, s, n => if s.ex = true then (s, n, 0) else
    if (stepS L c n (rdyL room s.ls)).2.1 ≠ 0 then (s, (stepS L c n (rdyL room s.ls)).2.2, (stepS L c n (rdyL room s.ls)).2.1)
    else runM L c room f (stepM s (stepS L c n (rdyL room s.ls)).1.toNat) (stepS L c n (rdyL room s.ls)).2.2
def ln0 (r : List Int) : Ln := ⟨r, [], [], false⟩
def begM (rows : List (List Int)) : MS := ⟨rows.map ln0, false, [], 0, 0, 0⟩
def rem (κ : Ln) : List Int := κ.h ++ κ.q ++ κ.row
def tdo (κ : Ln) : Nat := 3 * κ.row.length + 2 * κ.q.length + κ.h.length + (if κ.c = true then 0 else 1)
def opn (κ : Ln) : Nat := if κ.c = true then 0 else 1
def rws (κ : Ln) : Nat := κ.row.length
def todo (s : MS) : Nat := (s.ls.map tdo).sum + (if s.ex = true then 0 else 1)
def LnOk (room : Nat) (κ : Ln) : Prop := κ.h.length ≤ 1 ∧ κ.q.length ≤ room ∧ (κ.c = true → κ.row = [])
structure Ok (room : Nat) (rows : List (List Int)) (s : MS) : Prop where
  len : s.ls.length = rows.length
  lane : ∀ κ ∈ s.ls, LnOk room κ
  mix : mixF (cnt (s.ls.map rem)) (s.ls.map rem) s.out = mixL rows
  st : s.st + todo s = 3 * cnt rows + rows.length + 1
  se : s.se + (s.ls.map rws).sum = cnt rows
  ec : s.ec + (s.ls.map opn).sum + (if s.ex = true then 0 else 1) = rows.length + 1
  ex : s.ex = true → todo s = 0
section
variable {room : Nat} {rows : List (List Int)} {s : MS} {k : Nat} {κ : Ln}
theorem beg_ok (room : Nat) (rows : List (List Int)) : Ok room rows (begM rows) := by
  have e1 : (rows.map ln0).map rem = rows := by
    rw [List.map_map]
    conv => rhs; rw [← List.map_id rows]
    exact List.map_congr_left fun r _ => by simp [rem, ln0]
  have e2 : ((rows.map ln0).map tdo).sum = 3 * cnt rows + rows.length := by
    unfold cnt
    clear e1
    induction rows with
    | nil => rfl
    | cons r rows ih => simp [tdo, ln0] at ih ⊢; omega
  have e3 : ((rows.map ln0).map rws).sum = cnt rows := by
    unfold cnt
    rw [List.map_map]
    rfl
  have e4 : ((rows.map ln0).map opn).sum = rows.length := by
    rw [List.map_map]
    clear e1 e2 e3
    induction rows with
    | nil => rfl
    | cons r rows ih => simp [opn, ln0] at ih ⊢; omega
  refine ⟨by simp [begM], fun κ hκ => ?_, ?_, ?_, ?_, ?_, fun q => by cases q⟩
  · obtain ⟨r, _, rfl⟩ := List.mem_map.1 hκ
    exact ⟨by simp [ln0], by simp [ln0], fun q => by cases q⟩
  · show mixF (cnt ((rows.map ln0).map rem)) ((rows.map ln0).map rem) [] = _
    rw [e1]
    rfl
  · show 0 + (((rows.map ln0).map tdo).sum + 1) = _
    omega
  · show 0 + _ = _
    rw [show (begM rows).ls = rows.map ln0 from rfl, e3]
    omega
  · show 0 + ((rows.map ln0).map opn).sum + 1 = _
    omega
theorem sndAt_lt (h : sndAt room s.ls k = true) : k < s.ls.length := by
  unfold sndAt at h
  split at h
  · rename_i κ q
    exact (List.getElem?_eq_some_iff.1 q).1
  · cases h
theorem mem_rdy {ls : List Ln} {x : Int} : x ∈ rdyL room ls ↔ (∃ k : Nat, x = (k : Int) ∧ k < ls.length ∧ sndAt room ls k = true) ∨ (x = (ls.length : Int) ∧ mrgR ls = true) := by
  unfold rdyL rdyTo
  rw [List.mem_append, List.mem_map]
  refine or_congr ⟨?_, ?_⟩ ?_
  · rintro ⟨k, hk, rfl⟩
    exact ⟨k, rfl, List.mem_range.1 (List.mem_filter.1 hk).1, (List.mem_filter.1 hk).2⟩
  · rintro ⟨k, rfl, hl, hk⟩
    exact ⟨k, List.mem_filter.2 ⟨List.mem_range.2 hl, hk⟩, rfl⟩
  · by_cases q : mrgR ls = true <;> simp [q]
theorem rdyTo_succ (room : Nat) (ls : List Ln) (m : Nat) : rdyTo room ls (m + 1) = rdyTo room ls m ++ (if sndAt room ls m = true then [(m : Int)] else []) := by
  unfold rdyTo
  rw [List.range_succ, List.filter_append, List.map_append]
  congr 1
  by_cases h : sndAt room ls m = true <;> simp [h]
theorem rdyTo_length (room : Nat) (ls : List Ln) (m : Nat) : (rdyTo room ls m).length ≤ m := by
  unfold rdyTo
  rw [List.length_map]
  have := List.length_filter_le (sndAt room ls) (List.range m)
  rw [List.length_range] at this
  exact this
theorem rdyL_length (room : Nat) (ls : List Ln) : (rdyL room ls).length ≤ ls.length + 1 := by
  unfold rdyL
  have := rdyTo_length room ls ls.length
  rw [List.length_append]
  split <;> simp <;> omega
theorem nxt_some {ls : List Ln} {k : Nat} (h : nxt ls = some k) : ∃ κ, ls[k]? = some κ ∧ κ.h = [] ∧ κ.q ≠ [] := by
  unfold nxt at h
  rw [List.findIdx?_eq_some_iff_getElem] at h
  obtain ⟨hl, h1, _⟩ := h
  refine ⟨ls[k], by simp [hl], ?_⟩
  simpa [nxtR] using h1
theorem nxt_none {ls : List Ln} (h : nxt ls = none) : ∀ κ ∈ ls, κ.h = [] → κ.q = [] := by
  unfold nxt at h
  rw [List.findIdx?_eq_none_iff] at h
  intro κ hκ h1
  have := h κ hκ
  simpa [nxtR, h1] using this
/-- While the merger has not exited, somebody is ready. -/
theorem rdy_ne (h : Ok room rows s) (hr : 1 ≤ room) : rdyL room s.ls ≠ [] := by
  have hm : ∃ x, x ∈ rdyL room s.ls := by
    by_cases q : mrgR s.ls = true
    · exact ⟨_, mem_rdy.2 (.inr ⟨rfl, q⟩)⟩
    · unfold mrgR at q
      rw [Bool.or_eq_true, not_or] at q
      obtain ⟨q1, q2⟩ := q
      have hn : nxt s.ls = none := by
        cases e : nxt s.ls with
        | none => rfl
        | some v => rw [e] at q1; exact absurd rfl q1
      unfold whole at q2
      obtain ⟨κ, hκ, hh⟩ : ∃ κ, κ ∈ s.ls ∧ ¬ holR κ = true := by
        rw [List.all_eq_true] at q2
        exact Classical.byContradiction fun z => q2 fun κ hκ => Classical.byContradiction fun y => z ⟨κ, hκ, y⟩
      obtain ⟨k, hk⟩ := List.getElem?_of_mem hκ
      refine ⟨(k : Int), mem_rdy.2 (.inl ⟨k, rfl, (List.getElem?_eq_some_iff.1 hk).1, ?_⟩)⟩
      unfold sndAt
      rw [hk]
      by_cases e1 : κ.h = []
      · have e2 := nxt_none hn κ hκ e1
        have e3 : κ.c = false := by
          cases e : κ.c with
          | false => rfl
          | true => exact absurd (by simp [holR, e, e2]) hh
        simp [sndR, e3, e2]
        omega
      · exact absurd (by simp [holR, e1]) hh
  intro e
  rw [e] at hm
  obtain ⟨x, hx⟩ := hm
  cases hx
theorem map_set {α β : Type} (f : α → β) (l : List α) (k : Nat) (x : α) : (l.set k x).map f = (l.map f).set k (f x) := by simp [List.map_set]
theorem set_same {α : Type} {l : List α} {k : Nat} {x : α} (h : l[k]? = some x) : l.set k x = l := by
  obtain ⟨h1, h2⟩ := List.getElem?_eq_some_iff.1 h
  rw [← h2]
  exact List.set_getElem_self h1
/-- A lane is turned, and of what is to come from it nothing. -/
theorem lane_set {P : Ln → Prop} {ls : List Ln} (h : ∀ κ ∈ ls, P κ) {κ' : Ln} (h' : P κ') : ∀ κ ∈ ls.set k κ', P κ := fun κ hκ => by
  rcases List.mem_or_eq_of_mem_set hκ with q | q
  · exact h κ q
  · subst q; exact h'
theorem snd_ok (h : Ok room rows s) (hx : s.ex = false) (hk : sndAt room s.ls k = true) : Ok room rows (sndK (stp s) k) ∧ (sndK (stp s) k).st = s.st + 1 ∧ (sndK (stp s) k).ex = false := by
  unfold sndAt at hk
  split at hk
  case h_2 => cases hk
  case h_1 κ hκ =>
  obtain ⟨row, q, hh, c⟩ := κ
  obtain ⟨l1, l2, l3⟩ := h.lane _ (List.mem_of_getElem? hκ)
  simp only at l1 l2 l3
  have hc : c = false := by
    cases c with
    | false => rfl
    | true => simp [sndR] at hk
  have hst := h.st
  have hse := h.se
  have hec := h.ec
  unfold todo at hst
  unfold sndK
  rw [show (stp s).ls = s.ls from rfl, hκ]
  simp only
  cases row with
  | nil =>
    have r1 := sum_set tdo s.ls k _ ⟨[], q, hh, true⟩ hκ
    have r2 := sum_set rws s.ls k _ ⟨[], q, hh, true⟩ hκ
    have r3 := sum_set opn s.ls k _ ⟨[], q, hh, true⟩ hκ
    have v1 : tdo ⟨[], q, hh, c⟩ = tdo ⟨[], q, hh, true⟩ + 1 := by simp [tdo, hc]
    have v2 : rws ⟨[], q, hh, c⟩ = rws ⟨[], q, hh, true⟩ := rfl
    have v3 : opn ⟨[], q, hh, c⟩ = opn ⟨[], q, hh, true⟩ + 1 := by simp [opn, hc]
    simp only [hx] at hst hec
    refine ⟨⟨by simp [stp, h.len], lane_set h.lane ⟨l1, l2, fun _ => rfl⟩, ?_, ?_, ?_, ?_, fun z => ?_⟩, rfl, hx⟩
    · have e : ((s.ls.set k ⟨[], q, hh, true⟩).map rem) = s.ls.map rem := by
        rw [map_set]
        exact set_same (by rw [List.getElem?_map, hκ]; rfl)
      simp only [stp]
      rw [e]
      exact h.mix
    · simp only [todo, stp, hx]
      simp only [Bool.false_eq_true, ↓reduceIte] at hst ⊢
      omega
    · simp only [stp]
      omega
    · simp only [stp, hx]
      simp only [Bool.false_eq_true, ↓reduceIte] at hec ⊢
      omega
    · simp [stp, hx] at z
  | cons x r =>
    have hq : q.length < room := by
      simp [sndR, hc] at hk
      exact hk
    have r1 := sum_set tdo s.ls k _ ⟨r, q ++ [x], hh, c⟩ hκ
    have r2 := sum_set rws s.ls k _ ⟨r, q ++ [x], hh, c⟩ hκ
    have r3 := sum_set opn s.ls k _ ⟨r, q ++ [x], hh, c⟩ hκ
    have v1 : tdo ⟨x :: r, q, hh, c⟩ = tdo ⟨r, q ++ [x], hh, c⟩ + 1 := by simp [tdo]; omega
    have v2 : rws ⟨x :: r, q, hh, c⟩ = rws ⟨r, q ++ [x], hh, c⟩ + 1 := by simp [rws]
    have v3 : opn ⟨x :: r, q, hh, c⟩ = opn ⟨r, q ++ [x], hh, c⟩ := rfl
    simp only [hx] at hst hec
    refine ⟨⟨by simp [stp, h.len], lane_set h.lane ⟨l1, by simp; omega, fun z => by rw [hc] at z; cases z⟩, ?_, ?_, ?_, ?_, fun z => ?_⟩, rfl, hx⟩
    · have e : ((s.ls.set k ⟨r, q ++ [x], hh, c⟩).map rem) = s.ls.map rem := by
        rw [map_set]
        exact set_same (by rw [List.getElem?_map, hκ]; simp [rem])
      simp only [stp]
      rw [e]
      exact h.mix
    · simp only [todo, stp, hx]
      simp only [Bool.false_eq_true, ↓reduceIte] at hst ⊢
      omega
    · simp only [stp]
      omega
    · simp only [stp, hx]
      simp only [Bool.false_eq_true, ↓reduceIte] at hec ⊢
      omega
    · simp [stp, hx] at z
/-- Where the merger has a head of each that is not done, the heads are the first of what is to come. -/
theorem heads_first (h : Ok room rows s) (hw : whole s.ls = true) (k : Nat) : ((s.ls.map rem).getD k []).head? = ((s.ls.map Ln.h).getD k []).head? := by
  simp only [List.getD_eq_getElem?_getD, List.getElem?_map]
  cases hk : s.ls[k]? with
  | none => rfl
  | some κ =>
    have hm := List.mem_of_getElem? hk
    have h1 := List.all_eq_true.1 hw κ hm
    obtain ⟨l1, l2, l3⟩ := h.lane κ hm
    simp only [Option.map_some, Option.getD_some, rem]
    cases hh : κ.h with
    | cons y t => simp
    | nil =>
      simp [holR, hh] at h1
      simp [h1.2, l3 h1.1]
theorem mrg_ok (h : Ok room rows s) (hx : s.ex = false) (hk : mrgR s.ls = true) : Ok room rows (mrgK (stp s)) ∧ (mrgK (stp s)).st = s.st + 1 := by
  have hst := h.st
  have hse := h.se
  have hec := h.ec
  unfold todo at hst
  simp only [hx] at hst hec
  unfold mrgK
  rw [show (stp s).ls = s.ls from rfl]
  cases hn : nxt s.ls with
  | some k =>
    obtain ⟨κ, hκ, h1, h2⟩ := nxt_some hn
    obtain ⟨l1, l2, l3⟩ := h.lane κ (List.mem_of_getElem? hκ)
    simp only [hκ]
    cases hq : κ.q with
    | nil => exact absurd hq h2
    | cons x q =>
      rw [hq] at l2
      simp at l2
      have r1 := sum_set tdo s.ls k κ { κ with q := q, h := [x] } hκ
      have r2 := sum_set rws s.ls k κ { κ with q := q, h := [x] } hκ
      have r3 := sum_set opn s.ls k κ { κ with q := q, h := [x] } hκ
      have v1 : tdo κ = tdo { κ with q := q, h := [x] } + 1 := by simp [tdo, hq, h1]; omega
      have v2 : rws κ = rws { κ with q := q, h := [x] } := rfl
      have v3 : opn κ = opn { κ with q := q, h := [x] } := rfl
      refine ⟨⟨by simp [stp, h.len], lane_set h.lane ⟨by simp, by simp; omega, l3⟩, ?_, ?_, ?_, ?_, fun q => ?_⟩, rfl⟩
      · have e : ((s.ls.set k { κ with q := q, h := [x] }).map rem) = s.ls.map rem := by
          rw [map_set]
          exact set_same (by rw [List.getElem?_map, hκ]; simp [rem, h1, hq])
        simp only [stp]
        rw [e]
        exact h.mix
      · simp only [todo, stp, hx]
        simp only [Bool.false_eq_true, ↓reduceIte] at hst ⊢
        omega
      · simp only [stp]
        omega
      · simp only [stp, hx]
        simp only [Bool.false_eq_true, ↓reduceIte] at hec ⊢
        omega
      · simp [stp, hx] at q
  | none =>
    have hw : whole s.ls = true := by simpa [mrgR, hn] using hk
    have hb := bestTo_congr (m := s.ls.length) (fun k _ => heads_first h hw k)
    have hb2 : best (s.ls.map rem) = best (s.ls.map Ln.h) := by unfold best; rw [List.length_map, List.length_map]; exact hb
    cases hbb : best (s.ls.map Ln.h) with
    | none =>
      simp only
      have hz : (s.ls.map tdo).sum = 0 := by
        rcases Nat.eq_zero_or_pos (s.ls.map tdo).sum with q | q
        · exact q
        · obtain ⟨k, κ, hκ, hp⟩ := sum_pos _ _ q
          have hm := List.mem_of_getElem? hκ
          obtain ⟨l1, l2, l3⟩ := h.lane κ hm
          have e0 := bestTo_none hbb k (by rw [List.length_map]; exact (List.getElem?_eq_some_iff.1 hκ).1)
          rw [List.getD_eq_getElem?_getD, List.getElem?_map, hκ] at e0
          simp at e0
          have h1 := List.all_eq_true.1 hw κ hm
          simp [holR, e0] at h1
          simp [tdo, e0, h1.1, h1.2, l3 h1.1] at hp
      refine ⟨⟨h.len, h.lane, h.mix, ?_, ?_, ?_, fun q => ?_⟩, rfl⟩
      · simp only [todo, stp]
        simp only [Bool.false_eq_true, ↓reduceIte] at hst ⊢
        omega
      · simp only [stp]
        omega
      · simp only [stp]
        simp only [Bool.false_eq_true, ↓reduceIte] at hec ⊢
        omega
      · simp [todo, stp, hz]
    | some b =>
      simp only
      obtain ⟨b1, b2⟩ := best_some hbb
      rw [List.length_map] at b1
      obtain ⟨κ, hκ⟩ : ∃ κ, s.ls[b]? = some κ := ⟨s.ls[b], by simp [b1]⟩
      have hm := List.mem_of_getElem? hκ
      obtain ⟨l1, l2, l3⟩ := h.lane κ hm
      have hg : (s.ls.map Ln.h).getD b [] = κ.h := by rw [List.getD_eq_getElem?_getD, List.getElem?_map, hκ]; rfl
      have hgr : (s.ls.map rem).getD b [] = rem κ := by rw [List.getD_eq_getElem?_getD, List.getElem?_map, hκ]; rfl
      rw [hg] at b2
      simp only [hκ]
      have hlen : κ.h.length = 1 := by
        have := List.length_pos_iff.2 b2
        omega
      have r1 := sum_set tdo s.ls b κ { κ with h := κ.h.tail } hκ
      have r2 := sum_set rws s.ls b κ { κ with h := κ.h.tail } hκ
      have r3 := sum_set opn s.ls b κ { κ with h := κ.h.tail } hκ
      have v1 : tdo κ = tdo { κ with h := κ.h.tail } + 1 := by simp [tdo, hlen]; omega
      have v2 : rws κ = rws { κ with h := κ.h.tail } := rfl
      have v3 : opn κ = opn { κ with h := κ.h.tail } := rfl
      have hrem : rem { κ with h := κ.h.tail } = (rem κ).tail := by
        cases hh : κ.h with
        | nil => exact absurd hh b2
        | cons y t => simp [rem, hh]
      have hhd : hd (s.ls.map rem) b = hd (s.ls.map Ln.h) b := by
        have := heads_first h hw b
        unfold hd
        rw [List.headD_eq_head?_getD, List.headD_eq_head?_getD, this]
      refine ⟨⟨by simp [stp, h.len], lane_set h.lane ⟨by simp; omega, l2, l3⟩, ?_, ?_, ?_, ?_, fun q => ?_⟩, rfl⟩
      · simp only [stp]
        rw [map_set, hrem, ← h.mix, ← hhd]
        have hstep := mixF_step (rows := s.ls.map rem) (b := b) (f := cnt (s.ls.map rem)) (by rw [hb2]; exact hbb) (Nat.le_refl _) s.out
        rw [hgr] at hstep
        rw [hstep]
        have hne : (s.ls.map rem).getD b [] ≠ [] := by
          rw [hgr]
          simp [rem, b2]
        have := cnt_take hne
        rw [hgr] at this
        exact mixF_enough _ _ _ _ (Nat.le_refl _) (by omega)
      · simp only [todo, stp, hx]
        simp only [Bool.false_eq_true, ↓reduceIte] at hst ⊢
        omega
      · simp only [stp]
        omega
      · simp only [stp, hx]
        simp only [Bool.false_eq_true, ↓reduceIte] at hec ⊢
        omega
      · simp [stp, hx] at q
theorem step_ok (h : Ok room rows s) (hx : s.ex = false) (hk : (k : Int) ∈ rdyL room s.ls) : Ok room rows (stepM s k) ∧ (stepM s k).st = s.st + 1 ∧ k ≤ s.ls.length := by
  unfold stepM
  rcases mem_rdy.1 hk with ⟨j, e, hj, h1⟩ | ⟨e, h1⟩
  · obtain rfl : k = j := by omega
    rw [if_neg (by omega)]
    obtain ⟨a, b, _⟩ := snd_ok h hx h1
    exact ⟨a, b, by omega⟩
  · obtain rfl : k = s.ls.length := by omega
    rw [if_pos rfl]
    obtain ⟨a, b⟩ := mrg_ok h hx h1
    exact ⟨a, b, Nat.le_refl _⟩
/-- Who is told is ready. -/
theorem told_rdy (L : List Int) (n : Nat) (h : rdyL room s.ls ≠ []) : ∃ k : Nat, told L n (rdyL room s.ls) = (k : Int) ∧ (k : Int) ∈ rdyL room s.ls := by
  have hm := told_mem L n h
  rcases mem_rdy.1 hm with ⟨j, e, _, _⟩ | ⟨e, _⟩
  · exact ⟨j, e, e ▸ hm⟩
  · exact ⟨_, e, e ▸ hm⟩
theorem todo_pos (hx : s.ex = false) : 0 < todo s := by
  unfold todo
  rw [hx]
  simp
/-- What a run comes to. -/
structure Ran (room : Nat) (rows : List (List Int)) (c : Int) (d : Nat) (R : MS × Nat × Int) : Prop where
  ok : Ok room rows R.1
  st : R.2.1 = d + R.1.st
  e : (R.2.2 = 0 ∧ R.1.ex = true) ∨ (R.2.2 = 8 ∧ R.1.ex = false ∧ over c R.2.1 = true)
  c : 0 ≤ c → (R.2.1 : Int) ≤ c
theorem run_ran (L : List Int) (c : Int) (hr : 1 ≤ room) {d : Nat} : ∀ (f : Nat) (s : MS) (n : Nat), Ok room rows s → todo s ≤ f → n = d + s.st → (0 ≤ c → (n : Int) ≤ c) → Ran room rows c d (runM L c room f s n)
  | 0, s, n, h, hf, hn, hc => by
    have hx : s.ex = true := by
      cases e : s.ex with
      | true => rfl
      | false => have := todo_pos e; omega
    exact ⟨h, hn, .inl ⟨rfl, hx⟩, hc⟩
  | f + 1, s, n, h, hf, hn, hc => by
    unfold runM
    by_cases hx : s.ex = true
    · rw [if_pos hx]
      exact ⟨h, hn, .inl ⟨rfl, hx⟩, hc⟩
    · rw [if_neg hx]
      have hx : s.ex = false := by simpa using hx
      have h0 := rdy_ne h hr
      unfold stepS
      cases ho : over c n with
      | true =>
        simp only [if_true]
        rw [if_pos (by decide)]
        exact ⟨h, hn, .inr ⟨rfl, hx, ho⟩, hc⟩
      | false =>
        obtain ⟨k, e, hk⟩ := told_rdy L n h0
        simp only [if_neg h0, e]
        obtain ⟨s1, s2, s3⟩ := step_ok h hx hk
        have h1 := s1.st
        have h2 := h.st
        simp
        refine run_ran L c hr f _ _ s1 (by omega) (by omega) (fun q => ?_)
        have := hc q
        simp [over, q] at ho
        omega
end
/-- One step of a run, as the program's loop has it. -/
theorem run_next {L : List Int} {c : Int} {room f : Nat} {s : MS} {n k : Nat} (hx : s.ex = false) (ho : over c n = false) (h0 : rdyL room s.ls ≠ []) (hk : told L n (rdyL room s.ls) = (k : Int)) : runM L c room (f + 1) s n = runM L c room f (stepM s k) (n + 1) := by
  conv => lhs; unfold runM
  rw [if_neg (by simp [hx])]
  unfold stepS
  simp [ho, h0, hk]
theorem run_over {L : List Int} {c : Int} {room f : Nat} {s : MS} {n : Nat} (hx : s.ex = false) (ho : over c n = true) : runM L c room (f + 1) s n = (s, n, 8) := by
  unfold runM
  rw [if_neg (by simp [hx])]
  unfold stepS
  simp [ho]
theorem run_done {L : List Int} {c : Int} {room : Nat} {s : MS} {n : Nat} (hx : s.ex = true) : ∀ f, runM L c room f s n = (s, n, 0)
  | 0 => rfl
  | f + 1 => by unfold runM; rw [if_pos hx]
theorem run_more {L : List Int} {c : Int} {room : Nat} {rows : List (List Int)} (hr : 1 ≤ room) : ∀ (f g : Nat) (s : MS) (n : Nat), Ok room rows s → todo s ≤ f → todo s ≤ g → runM L c room f s n = runM L c room g s n
  | 0, g, s, n, h, hf, hg => by
    have hx : s.ex = true := by
      cases e : s.ex with
      | true => rfl
      | false => have := todo_pos e; omega
    rw [run_done hx, run_done hx]
  | f + 1, 0, s, n, h, hf, hg => by
    have hx : s.ex = true := by
      cases e : s.ex with
      | true => rfl
      | false => have := todo_pos e; omega
    rw [run_done hx, run_done hx]
  | f + 1, g + 1, s, n, h, hf, hg => by
    by_cases hx : s.ex = true
    · rw [run_done hx, run_done hx]
    · have hx : s.ex = false := by simpa using hx
      have h0 := rdy_ne h hr
      cases ho : over c n with
      | true => rw [run_over hx ho, run_over hx ho]
      | false =>
        obtain ⟨k, e, hk⟩ := told_rdy L n h0
        rw [run_next hx ho h0 e, run_next hx ho h0 e]
        obtain ⟨s1, s2, s3⟩ := step_ok h hx hk
        have h1 := s1.st
        have h2 := h.st
        exact run_more hr f g _ _ s1 (by omega) (by omega)
end Go.Proofs.Ytkjdjmcecjaolaa.Mrg

/- The row with the least first thing: how two numbers stand; slices.MinFunc over a function that only reads; least. -/
namespace Go.Proofs.Ytkjdjmcecjaolaa.Mrg
open Go.RowKit Go.Proofs.Ytkjdjmcecjaolaa.Dig Go.Proofs.Ytkjdjmcecjaolaa.Mem Go.Proofs.Ytkjdjmcecjaolaa.Dq Go.Proofs.Ytkjdjmcecjaolaa.Thing Go.Proofs.Ytkjdjmcecjaolaa.Own Go.Proofs.Ytkjdjmcecjaolaa.Sets
set_option linter.unusedVariables false
set_option linter.unusedSimpArgs false

local notation "ordF" => Value.func (Fn.func 12) #[] #[]
def cmpI (x y : Int) : Int := if x < y then -1 else if y < x then 1 else 0
theorem order_any (x y : Int) (w : World) : Calls Try.prog 12 #[.int .i64 x, .int .i64 y] w fun e w' => e = .returned (.int .i64 (cmpI x y)) ∧ w' = w := by
  unfold cmpI
  by_cases h1 : x < y
  · rw [if_pos h1]
    go_enter Try.func12, Try.ntmps12
    go_wp2
    go_ret
    exact ⟨rfl, rfl⟩
  · rw [if_neg h1]
    by_cases h2 : y < x
    · rw [if_pos h2]
      go_enter Try.func12, Try.ntmps12
      go_wp2
      go_ret
      exact ⟨rfl, rfl⟩
    · rw [if_neg h2]
      go_enter Try.func12, Try.ntmps12
      go_wp2
      go_ret
      exact ⟨rfl, rfl⟩
/-- Rows of rows of numbers that are read. -/
structure RowsI (w : World) (a : Option Addr) (c : Nat) (ls : List (List Int)) : Prop where
  cap : ls.length ≤ c
  nil : a = none → c = 0
  at_ : ∀ i, i < ls.length → ∃ b off la lc, a = some ⟨b, off, none⟩ ∧ w.cell? ⟨b, off + i, none⟩ = some (.slice la (ls.getD i []).length lc) ∧ RowI w la lc (ls.getD i [])
theorem RowsI.keep {w w' : World} {a : Option Addr} {c : Nat} {ls : List (List Int)} (h : RowsI w a c ls) (hb : Below w.heap.size w w') : RowsI w' a c ls := ⟨h.cap, h.nil, fun i hi => by
  obtain ⟨b, off, la, lc, e, h1, h2⟩ := h.at_ i hi
  exact ⟨b, off, la, lc, e, (hb.cell (p := ⟨b, off + i, none⟩) (lt_of_cell h1)).trans h1, h2.keep hb⟩⟩
theorem rowsI_of {F : Nat → Prop} {w : World} {a : Option Addr} {len c : Nat} {ls : List (List Int)} (h : ListsAt F w (.slice a len c) ls) (hl : ls.length ≤ 1000000 ∧ ∀ l ∈ ls, l.length ≤ 1000000) : len = ls.length ∧ RowsI w a c ls := by
  obtain ⟨a', c', e, h1, h2⟩ := h.shape
  cases e
  refine ⟨rfl, h1, fun e => ?_, fun i hi => ?_⟩
  · obtain ⟨cs, ⟨a2, c2, g1, g2, g3, g4, g5, g6⟩, _⟩ := h
    injection g1 with f1 f2 f3
    subst f1 f3
    exact g4 e
  · obtain ⟨b, off, la, lc, e, g1, g2, g3⟩ := h.at hi
    have hg : ls.getD i [] ∈ ls := by rw [List.getD_eq_getElem?_getD, List.getElem?_eq_getElem hi]; exact List.getElem_mem _
    exact ⟨b, off, la, lc, e, g1, g2.row (by have := hl.2 _ hg; omega)⟩
/-- A row that is not empty: its head, and its first thing. -/
theorem RowsI.first {w : World} {a : Option Addr} {c : Nat} {ls : List (List Int)} (h : RowsI w a c ls) {i : Nat} (hne : ls.getD i [] ≠ []) :
    ∃ b off b1 o1 ln lc, a = some ⟨b, off, none⟩ ∧ w.cell? ⟨b, off + i, none⟩ = some (.slice (some ⟨b1, o1, none⟩) ln lc) ∧ ln = (ls.getD i []).length ∧ 0 < ln ∧ ln ≤ lc ∧ ln ≤ 4611686018427387903 ∧ w.cell? ⟨b1, o1, none⟩ = some (.int .i64 (hd ls i)) ∧ i < ls.length := by
  have hi := getD_ne hne
  obtain ⟨b, off, la, lc, e, h1, h2⟩ := h.at_ i hi
  have hp := List.length_pos_iff.2 hne
  obtain ⟨b1, o1, e1, hc⟩ := h2.at hp
  subst e1
  have e2 : (ls.getD i []).getD 0 0 = hd ls i := by
    unfold hd
    cases ls.getD i [] <;> rfl
  rw [e2, Nat.add_zero] at hc
  have := h2.rd.1
  exact ⟨b, off, b1, o1, _, lc, e, h1, rfl, hp, h2.cap, by omega, hc, hi⟩
section
variable {w : World} {a : Option Addr} {c n : Nat} {ls : List (List Int)} {b2 b3 : Nat}
/-- The function by which two of the rows stand. -/
theorem leastc_any (h : RowsI w a c ls) (hn : n = ls.length) (h2 : w.cell? ⟨b2, 0, none⟩ = some (.slice a n c)) (h3 : w.cell? ⟨b3, 0, none⟩ = some ordF) {i k : Nat} (hi : ls.getD i [] ≠ []) (hk : ls.getD k [] ≠ []) :
    Calls Try.prog 67 #[.int .i64 (i : Int), .int .i64 (k : Int), .pointer (some ⟨b3, 0, none⟩), .pointer (some ⟨b2, 0, none⟩)] w fun e w' => e = .returned (.int .i64 (cmpI (hd ls i) (hd ls k))) ∧ ∃ q, w' = w.drewN q := by
  obtain ⟨b, off, bi, oi, li, ci, ea, i1, j1, i2, i3, i4, i5, i6⟩ := h.first hi
  obtain ⟨b', off', bk, ok, lk, ck, ea', k1, j2, k2, k3, k4, k5, k6⟩ := h.first hk
  subst ea
  cases ea'
  obtain ⟨x, hx⟩ : ∃ x, x = hd ls i := ⟨_, rfl⟩
  obtain ⟨y, hy⟩ : ∃ y, y = hd ls k := ⟨_, rfl⟩
  rw [← hx] at i5 ⊢
  rw [← hy] at k5 ⊢
  have gi : (i : Int) < n := by omega
  have gk : (k : Int) < n := by omega
  have gli : (0 : Int) < li := by omega
  have glk : (0 : Int) < lk := by omega
  have gn : n ≤ c := by rw [hn]; exact h.cap
  have HO := hide (fun q => order_any x y (w.drewN q))
  clear h hn hi hk hx hy i6 k6 j1 j2
  go_enter Try.func67, Try.ntmps67
  go_wp2
  go_quiet ((go_at_call 12; exact Calls.quiet_of_same (HO.out _)))
  go_wp2
  go_ret
  exact ⟨rfl, _, rfl⟩
end
/-- The least of the first j + 1 of S. -/
def minAt (ls : List (List Int)) (S : List Nat) : Nat → Nat
  | 0 => S.getD 0 0
  | j + 1 => if hd ls (S.getD (j + 1) 0) < hd ls (minAt ls S j) then S.getD (j + 1) 0 else minAt ls S j
theorem minAt_mem (ls : List (List Int)) (S : List Nat) (h : S ≠ []) : ∀ j, j < S.length → minAt ls S j ∈ S
  | 0, hj => by
    unfold minAt
    rw [List.getD_eq_getElem?_getD, List.getElem?_eq_getElem hj]
    exact List.getElem_mem _
  | j + 1, hj => by
    unfold minAt
    split
    · rw [List.getD_eq_getElem?_getD, List.getElem?_eq_getElem hj]
      exact List.getElem_mem _
    · exact minAt_mem ls S h j (by omega)
theorem minAt_app (ls : List (List Int)) (S : List Nat) (x : Nat) : ∀ j, j < S.length → minAt ls (S ++ [x]) j = minAt ls S j
  | 0, hj => by
    show (S ++ [x]).getD 0 0 = S.getD 0 0
    rw [List.getD_eq_getElem?_getD, List.getD_eq_getElem?_getD, List.getElem?_append_left hj]
  | j + 1, hj => by
    have e : (S ++ [x]).getD (j + 1) 0 = S.getD (j + 1) 0 := by simp [List.getD_eq_getElem?_getD, List.getElem?_append_left hj]
    unfold minAt
    rw [minAt_app ls S x j (by omega), e]
def idxTo (ls : List (List Int)) (m : Nat) : List Nat := (List.range m).filter fun k => decide (ls.getD k [] ≠ [])
theorem idxTo_succ (ls : List (List Int)) (m : Nat) : idxTo ls (m + 1) = idxTo ls m ++ (if ls.getD m [] = [] then [] else [m]) := by
  unfold idxTo
  rw [List.range_succ, List.filter_append]
  congr 1
  by_cases h : ls.getD m [] = []
  · rw [if_pos h, List.filter_cons_of_neg (by rw [h]; simp)]
    rfl
  · rw [if_neg h, List.filter_cons_of_pos (by rw [decide_eq_true_eq]; exact h)]
    rfl
theorem idxTo_le (ls : List (List Int)) (m : Nat) : (idxTo ls m).length ≤ m := by
  unfold idxTo
  have := List.length_filter_le (fun k => decide (ls.getD k [] ≠ [])) (List.range m)
  rw [List.length_range] at this
  exact this
theorem idxTo_ne {ls : List (List Int)} {m k : Nat} (h : k ∈ idxTo ls m) : ls.getD k [] ≠ [] ∧ k < m := by
  unfold idxTo at h
  obtain ⟨h1, h2⟩ := List.mem_filter.1 h
  exact ⟨by simpa using h2, List.mem_range.1 h1⟩
theorem bestTo_idx (ls : List (List Int)) : ∀ m, bestTo ls m = if idxTo ls m = [] then none else some (minAt ls (idxTo ls m) ((idxTo ls m).length - 1))
  | 0 => rfl
  | m + 1 => by
    have ih := bestTo_idx ls m
    rw [idxTo_succ]
    unfold bestTo
    by_cases h : ls.getD m [] = []
    · rw [if_pos h, if_pos h, List.append_nil, ih]
    · rw [if_neg h, if_neg h, if_neg (by simp), ih]
      by_cases h0 : idxTo ls m = []
      · rw [if_pos h0, h0]
        simp [minAt]
      · rw [if_neg h0]
        have hl := List.length_pos_iff.2 h0
        have e1 : (idxTo ls m ++ [m]).length - 1 = ((idxTo ls m).length - 1) + 1 := by simp; omega
        have e2 : (idxTo ls m ++ [m]).getD (((idxTo ls m).length - 1) + 1) 0 = m := by
          rw [List.getD_eq_getElem?_getD, List.getElem?_append_right (by omega)]
          simp [show (idxTo ls m).length - 1 + 1 - (idxTo ls m).length = 0 by omega]
        rw [e1]
        conv => rhs; unfold minAt
        rw [minAt_app _ _ _ _ (by omega), e2]
        simp only
        split <;> rfl
def bestI (ls : List (List Int)) : Int := match best ls with
  | none => -1
  | some b => (b : Int)
def natsI (S : List Nat) : List Int := S.map fun k : Nat => (k : Int)
section
variable {w : World} {a sa : Option Addr} {c n sc m : Nat} {ls : List (List Int)} {b2 b3 : Nat} {S : List Nat}
set_option maxHeartbeats 1000000 in
theorem minf_any (h : RowsI w a c ls) (hn : n = ls.length) (h2 : w.cell? ⟨b2, 0, none⟩ = some (.slice a n c)) (h3 : w.cell? ⟨b3, 0, none⟩ = some ordF) (hS : RowI w sa sc (natsI S)) (hm : m = S.length) (h0 : 0 < m) (hm2 : m ≤ 1000) (hne : ∀ k ∈ S, ls.getD k [] ≠ []) :
    Calls Try.prog 66 #[.slice sa m sc, .func (.func 67) #[] #[.pointer (some ⟨b3, 0, none⟩), .pointer (some ⟨b2, 0, none⟩)]] w fun e w' => e = .returned (.int .i64 (minAt ls S (m - 1) : Int)) ∧ ∃ q, w' = w.drewN q := by
  have hSl : (natsI S).length = m := by simp [natsI, hm]
  have HC : Hid (∀ q, ∀ i, i < m → ∃ b off, sa = some ⟨b, off, none⟩ ∧ (w.drewN q).cell? ⟨b, off + i, none⟩ = some (.int .i64 (S.getD i 0 : Int))) := hide (fun q i hi => by
    obtain ⟨b, off, e, hc⟩ := hS.at (i := i) (by omega)
    refine ⟨b, off, e, ?_⟩
    show w.cell? _ = _
    rw [hc]
    simp [natsI, List.getD_eq_getElem?_getD, List.getElem?_map, List.getElem?_eq_getElem (show i < S.length by omega)])
  have HL : Hid (∀ q i k, i ∈ S → k ∈ S → Calls Try.prog 67 #[.int .i64 (i : Int), .int .i64 (k : Int), .pointer (some ⟨b3, 0, none⟩), .pointer (some ⟨b2, 0, none⟩)] (w.drewN q) fun e w' => e = .returned (.int .i64 (cmpI (hd ls i) (hd ls k))) ∧ ∃ q2, w' = (w.drewN q).drewN q2) := hide (fun q i k hi hk =>
    leastc_any (h.keep (below_of_drewN q)) hn h2 h3 (hne i hi) (hne k hk))
  have HM : Hid (∀ j, j < m → minAt ls S j ∈ S) := hide (fun j hj => minAt_mem ls S (List.length_pos_iff.1 (show 0 < S.length by omega)) j (by omega))
  have HG : Hid (∀ i, i < m → S.getD i 0 ∈ S) := hide (fun i hi => by rw [List.getD_eq_getElem?_getD, List.getElem?_eq_getElem (show i < S.length by omega)]; exact List.getElem_mem _)
  have HS : Hid (∀ j, minAt ls S (j + 1) = if hd ls (S.getD (j + 1) 0) < hd ls (minAt ls S j) then S.getD (j + 1) 0 else minAt ls S j) := hide (fun j => by conv => lhs; unfold minAt)
  obtain ⟨bS, oS, rfl, hc0⟩ := HC.out 0 0 h0
  have E0 : Hid (((S.getD 0 0 : Nat) : Int) = (minAt ls S 0 : Int)) := hide rfl
  have hmc : m ≤ sc := by have := hS.cap; omega
  have gm : ¬ (m : Int) < 1 := by omega
  have g0 : (0 : Int) < m := by omega
  have hc0' : w.cell? ⟨bS, oS, none⟩ = some (.int .i64 (minAt ls S 0 : Int)) := hc0
  generalize minAt ls S 0 = M0 at hc0' E0
  have HM0 : Hid (M0 = minAt ls S 0) := hide (by have := E0.out; show M0 = S.getD 0 0; omega)
  clear h hn h2 h3 hS hm hne hSl hc0 E0 h0
  go_enter Try.func66, Try.ntmps66
  go_wp2
  go_loopw [5, 6] (fun mv i wr => ∃ j q : Nat, j < m ∧ i = .int .i64 ((j : Int) + 1) ∧ mv = .int .i64 (minAt ls S j : Int) ∧ wr = w.drewN q) (fun _ i _ => m + 1 - (intOf i).toNat)
  case atStart => exact ⟨0, 0, by omega, rfl, by rw [HM0.out], rfl⟩
  case round =>
    obtain ⟨j, q, hj, rfl, rfl, hw⟩ := hrel
    by_cases hlt : j + 1 < m
    · obtain ⟨b', o', e', hc⟩ := HC.out q (j + 1) hlt
      cases e'
      rw [← hw] at hc
      have HLL := hide (HL.out q (S.getD (j + 1) 0) (minAt ls S j) (HG.out _ hlt) (HM.out _ hj))
      rw [← hw] at HLL
      have hc2 : wr.cell? ⟨bS, oS + (j + 1), none⟩ = some (.int .i64 (S.getD (j + 1) 0 : Int)) := hc
      have hs := HS.out j
      obtain ⟨x, hx⟩ : ∃ x, x = S.getD (j + 1) 0 := ⟨_, rfl⟩
      obtain ⟨y, hy⟩ : ∃ y, y = minAt ls S j := ⟨_, rfl⟩
      rw [← hx] at hc2 HLL
      rw [← hx, ← hy] at hs
      rw [← hy] at HLL ⊢
      have HW := hide hw
      have hji : (j : Int) + 1 < m := by omega
      by_cases hxy : hd ls x < hd ls y
      · have ec : cmpI (hd ls x) (hd ls y) = -1 := by unfold cmpI; rw [if_pos hxy]
        rw [ec] at HLL
        rw [if_pos hxy] at hs
        have HSS := hide hs
        clear hx hy hs hxy ec hc hw HM0
        go_wp2_with (go_at_call 67; go_must ((with_reducible refine (Hid.out HLL).mono ?_); rintro e w9 ⟨rfl, q2, hq2⟩; have hc3 : w9.cell? ⟨bS, oS + (j + 1), none⟩ = some (.int .i64 (x : Int)) := (by rw [hq2]; exact hc2); have HQ2 := hide hq2; clear hq2 HLL))
        go_roundw
        case rel => exact ⟨j + 1, q + q2, by omega, by simp, by rw [HSS.out], by rw [HQ2.out, HW.out, World.drewN_drewN]⟩
        case measure => simp [intOf]; omega
      · have ec : ¬ cmpI (hd ls x) (hd ls y) < 0 := by unfold cmpI; rw [if_neg hxy]; split <;> omega
        rw [if_neg hxy] at hs
        have HSS := hide hs
        generalize cmpI (hd ls x) (hd ls y) = cc at ec HLL
        clear hx hy hs hxy hc hw HM0
        go_wp2_with (go_at_call 67; go_must ((with_reducible refine (Hid.out HLL).mono ?_); rintro e w9 ⟨rfl, q2, hq2⟩; have HQ2 := hide hq2; clear hq2 HLL))
        go_roundw
        case rel => exact ⟨j + 1, q + q2, by omega, by simp, by rw [HSS.out], by rw [HQ2.out, HW.out, World.drewN_drewN]⟩
        case measure => simp [intOf]; omega
    · obtain rfl : m = j + 1 := by omega
      have hji : ¬ (j : Int) + 1 < ((j + 1 : Nat) : Int) := by omega
      have HW := hide hw
      clear hw
      go_wp2
      go_ret
      exact ⟨by simp, q, HW.out⟩
def LsR (w : World) (a : Option Addr) (n c : Nat) (ls : List (List Int)) (i v : Value) (wr : World) : Prop := ∃ k : Nat, k ≤ n ∧ i = .int .i64 (k : Int) ∧ Hid (Kn w [ownN w.heap.size 3 1 v (idxTo ls k).length ((natsI (idxTo ls k)).map (Value.int .i64)), boxT w.heap.size #[.slice a n c], boxT (w.heap.size + 1) #[ordF]] wr)
set_option maxHeartbeats 2000000 in
set_option maxRecDepth 20000 in
theorem least_any (h : RowsI w a c ls) (hn : n = ls.length) (hn2 : n ≤ 1000) : Calls Try.prog 55 #[.slice a n c, ordF] w fun e w' => e = .returned (.int .i64 (bestI ls)) ∧ Below w.heap.size w w' := by
  obtain ⟨i0, hi, hz0, hz1, hz2⟩ := info_parts Try.infoI
  have K0 := hide (ownNil (box0 (box0 (Kn.start w) #[.slice a n c] 22 rfl) #[ordF] 33 (g := w.heap.size + 1) (by simp)) w.heap.size 3 1)
  have HR := hide h
  have HN := hide hn
  have HB := hide (bestTo_idx ls n)
  clear h hn
  go_enter Try.func55, Try.ntmps55
  go_wp2
  go_loopw [10, 5] (fun i v wr => LsR w a n c ls i v wr) (fun i _ _ => n - (intOf i).toNat)
  case atStart => exact ⟨0, Nat.zero_le _, rfl, hide (K0.out.perm ((List.Perm.cons _ (List.Perm.swap _ _ _))))⟩
  case round =>
    obtain ⟨k, hk, rfl, K⟩ := hrel
    obtain ⟨va, vc, e⟩ := Own.own_form K.out.hd
    subst e
    by_cases hlt : k < n
    · obtain ⟨b, off, la, lc, rfl, hc, hr⟩ := (HR.out.keep (K.out.below)).at_ k (by rw [← HN.out]; exact hlt)
      have hki : (k : Int) < n := by omega
      have hnc : n ≤ c := by rw [HN.out]; exact HR.out.cap
      have HX := hide (idxTo_succ ls k)
      have HLE : Hid ((idxTo ls k).length ≤ k) := hide (idxTo_le ls k)
      obtain ⟨m, hm⟩ : ∃ m, m = (idxTo ls k).length := ⟨_, rfl⟩
      have HM := hide hm
      rw [← hm] at K HLE ⊢
      obtain ⟨ln, hln⟩ : ∃ ln, ln = (ls.getD k []).length := ⟨_, rfl⟩
      have HLN := hide hln
      rw [← hln] at hc
      have hlm : ln ≤ 4611686018427387903 := by have := hr.rd.1; omega
      have hmk : m ≤ k := HLE.out
      clear hr hm hln HB K0
      by_cases h0 : ln = 0
      · subst h0
        have HE : Hid (ls.getD k [] = []) := hide (List.eq_nil_of_length_eq_zero HLN.out.symm)
        go_wp2
        go_roundw
        case rel => exact ⟨k + 1, by omega, by simp, by rw [HX.out, if_pos HE.out, List.append_nil, ← HM.out]; exact K⟩
        case measure => simp [intOf]; omega
      · have HE : Hid (ls.getD k [] ≠ []) := hide (by intro e; have := HLN.out; rw [e] at this; exact h0 this)
        have gl : (0 : Int) < ln := by omega
        clear h0
        go_wp2_with (at_builtin; go_must ((refine wpList_append_own_at _ rfl _ _ 23 rfl w.heap.size 3 i0 (.int .i64 0) 1 8 Try.underlying23 hi hz0 hz1 hz2 rfl (by decide) (.slice va m vc) m ((natsI (idxTo ls k)).map (Value.int .i64)) rfl (World.ownsRow.alloc (Knget (pre := []) (K).out) _) ⟨(wr).heap.size, 0, none⟩ 1 1 [(.int .i64 (k : Int))] rfl rfl (cell_one_new _ _ _) (by simp [Value.oneCell']) (by unfold maxLen; omega) (by omega) (by have := (K).out.below.size; simp at this ⊢; omega) ?_); intro v4 w4 hown4 hg4 _ hat4; obtain ⟨a4, c4, rfl⟩ := Own.own_form hown4; have K4 := hide (growAt (pre := []) ((K).out.keep ((Below.refl _ _).alloc (Nat.le_refl _) _)) hown4 hg4 hat4); clear hown4 hg4 hat4; skip))
        go_roundw
        case rel =>
          refine ⟨k + 1, by omega, by simp, ?_⟩
          rw [HX.out, if_neg HE.out]
          have e : (idxTo ls k ++ [k]).length = m + 1 := by rw [List.length_append, ← HM.out]; rfl
          rw [e, natsI, List.map_append, List.map_append]
          exact K4
        case measure => simp [intOf]; omega
    · obtain rfl : k = n := by omega
      have hki : ¬ (k : Int) < k := by omega
      obtain ⟨m, hm⟩ : ∃ m, m = (idxTo ls k).length := ⟨_, rfl⟩
      have HM := hide hm
      have hmk : m ≤ k := by rw [hm]; exact idxTo_le ls k
      rw [← hm] at K ⊢
      by_cases h0 : m = 0
      · subst h0
        have HE : Hid (bestI ls = -1) := hide (by
          unfold bestI best
          rw [← HN.out, HB.out, if_pos (List.eq_nil_of_length_eq_zero hm.symm)])
        clear hm K0 HB
        go_wp2
        go_ret
        rw [HE.out]
        exact ⟨rfl, K.out.below⟩
      · have hne : idxTo ls k ≠ [] := fun e => h0 (by rw [hm, e]; rfl)
        have HE : Hid (bestI ls = (minAt ls (idxTo ls k) (m - 1) : Int)) := hide (by
          unfold bestI best
          rw [← HN.out, HB.out, if_neg hne, ← hm])
        have hrow : ∃ sa sc, Value.slice va m vc = .slice sa (natsI (idxTo ls k)).length sc ∧ RowI wr sa sc (natsI (idxTo ls k)) ∧ Fresh w.heap.size sa := OwnI.row (by
          have := K.out.hd
          unfold OwnI
          rw [natsI, List.length_map, ← hm]
          exact this) (by rw [natsI, List.length_map]; omega) (fun x hx => by
          obtain ⟨j, hj, rfl⟩ := List.mem_map.1 hx
          have := (idxTo_ne hj).2
          exact wf_of_i64 (by omega) (by omega))
        obtain ⟨sa, sc, e1, hS, _⟩ := hrow
        rw [natsI, List.length_map, ← hm] at e1
        cases e1
        have HMF := hide (minf_any (b2 := w.heap.size) (b3 := w.heap.size + 1) (HR.out.keep K.out.below) HN.out ((Knget (pre := [_]) K.out).cell 0 rfl) ((Knget (pre := [_, _]) K.out).cell 0 rfl) hS hm (by omega) (by omega) (fun j hj => (idxTo_ne hj).1))
        have g0 : ((m : Int) == 0) = false := by simp; omega
        have HBL := hide K.out.below
        clear hm hne hS K0 HB h0
        go_wp2_with (go_at_call 66; go_must ((with_reducible refine (Hid.out HMF).mono ?_); rintro e w9 ⟨rfl, q2, hq2⟩; have HQ2 := hide hq2; clear hq2 HMF))
        go_ret
        rw [HE.out]
        exact ⟨rfl, by rw [HQ2.out]; exact HBL.out.trans ((below_of_drewN _).mono HBL.out.size)⟩
end
end Go.Proofs.Ytkjdjmcecjaolaa.Mrg
