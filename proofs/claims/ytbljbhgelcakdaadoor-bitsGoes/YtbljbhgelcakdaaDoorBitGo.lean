/- A set that is gone through while it is turned behind the third number: plain. -/
import Derived.Test.YtbljbhgelcakdaaDoorBitPlain
namespace Go.Proofs.YtbljbhgelcakdaaDoor.Bit
set_option linter.unusedVariables false
set_option linter.unusedSimpArgs false

theorem nextB_cases (m : List Bool) (f : Int) : nextB m f = -1 ∨ (f ≤ nextB m f ∧ 0 ≤ nextB m f ∧ nextB m f < (m.length : Int) ∧ hasB m (nextB m f) = true) := by
  unfold nextB
  cases h : (List.range m.length).find? (fun j : Nat => decide (f ≤ (j : Int)) && m.getD j false) with
  | none => exact .inl rfl
  | some j =>
    right
    have h1 := List.find?_some h
    have h2 := List.mem_of_find?_eq_some h
    rw [List.mem_range] at h2
    rw [Bool.and_eq_true, decide_eq_true_eq] at h1
    exact ⟨h1.1, by simp, by simpa using h2, by show hasB m (j : Int) = true; rw [hasB_nat]; exact h1.2⟩
/-- The set behind so many numbers; the last one. -/
def mG (m m' : List Bool) (pre : List Int) : List Bool := if 3 ≤ pre.length then m' else m
def lastG (pre : List Int) : Int := pre.getLast?.getD (-1)
theorem lastG_snoc (pre : List Int) (x : Int) : lastG (pre ++ [x]) = x := by simp [lastG]
theorem lastG_nil : lastG [] = -1 := rfl
/-- What has been told so far. -/
inductive GoSeq (m m' : List Bool) (at_ : Int) : List Int → Prop
  | nil : GoSeq m m' at_ []
  | snoc {pre : List Int} : GoSeq m m' at_ pre → nextB (mG m m' pre) (lastG pre + 1) ≠ -1 → (pre ≠ [] → lastG pre ≠ at_) → GoSeq m m' at_ (pre ++ [nextB (mG m m' pre) (lastG pre + 1)])
/-- It is over. -/
def GoDone (m m' : List Bool) (at_ : Int) (pre : List Int) : Prop := nextB (mG m m' pre) (lastG pre + 1) = -1 ∨ (pre ≠ [] ∧ lastG pre = at_)
theorem GoSeq.prefix {m m' : List Bool} {at_ : Int} : ∀ {a : List Int}, GoSeq m m' at_ a → ∀ {b : List Int}, GoSeq m m' at_ b → a.length ≤ b.length → ∃ t, b = a ++ t ∧ (t ≠ [] → ¬ GoDone m m' at_ a) := by
  intro a ha
  induction ha with
  | nil =>
    intro b hb _
    refine ⟨b, rfl, fun ht hd => ?_⟩
    have : ∀ b, GoSeq m m' at_ b → b ≠ [] → nextB (mG m m' []) (lastG [] + 1) ≠ -1 := by
      intro b hb
      induction hb with
      | nil => intro h; exact absurd rfl h
      | snoc hp h1 h2 ih =>
        rename_i pre
        intro _
        by_cases e : pre = []
        · subst e; exact h1
        · exact ih e
    rcases hd with q | q
    · exact this b hb ht q
    · exact q.1 rfl
  | snoc hp h1 h2 ih =>
    rename_i pre
    intro b hb hl
    rw [List.length_append, List.length_singleton] at hl
    obtain ⟨t, rfl, _⟩ := ih hb (by omega)
    cases t with
    | nil => simp at hl; omega
    | cons y t =>
      have key : ∀ c, GoSeq m m' at_ c → ∀ y t, c = pre ++ y :: t → y = nextB (mG m m' pre) (lastG pre + 1) ∧ (t ≠ [] → ¬ GoDone m m' at_ (pre ++ [y])) := by
        intro c hc
        induction hc with
        | nil => intro y t e; simp at e
        | snoc hq k1 k2 ih2 =>
          rename_i q
          intro y t e
          rcases List.eq_nil_or_concat t with rfl | ⟨t', z, rfl⟩
          · obtain ⟨e1, e2⟩ := List.append_inj' e (by simp)
            subst e1
            injection e2 with e3
            exact ⟨e3.symm, fun h => absurd rfl h⟩
          · rw [List.concat_eq_append] at e ⊢
            have e' : q ++ [nextB (mG m m' q) (lastG q + 1)] = (pre ++ y :: t') ++ [z] := by rw [e]; simp
            obtain ⟨e1, e2⟩ := List.append_inj' e' (by simp)
            obtain ⟨g1, g2⟩ := ih2 y t' e1
            refine ⟨g1, fun _ => ?_⟩
            by_cases ht : t' = []
            · subst ht
              rintro (r | r)
              · rw [e1] at k1; exact k1 r
              · rw [e1] at k2; exact k2 (by simp) r.2
            · exact g2 ht
      obtain ⟨g1, g2⟩ := key _ hb y t rfl
      refine ⟨t, by rw [g1]; simp, fun ht => ?_⟩
      rw [← g1]
      exact g2 ht
/-- What is told is one. -/
theorem GoSeq.one {m m' : List Bool} {at_ : Int} {a b : List Int} (ha : GoSeq m m' at_ a) (hb : GoSeq m m' at_ b) (da : GoDone m m' at_ a) (db : GoDone m m' at_ b) : a = b := by
  rcases Nat.le_total a.length b.length with h | h
  · obtain ⟨t, rfl, k⟩ := ha.prefix hb h
    cases t with
    | nil => simp
    | cons y t => exact absurd da (k (by simp))
  · obtain ⟨t, rfl, k⟩ := hb.prefix ha h
    cases t with
    | nil => simp
    | cons y t => exact absurd db (k (by simp))
/-- Not more numbers than there is room. -/
theorem GoSeq.short {m m' : List Bool} {at_ : Int} (hl : m'.length = m.length) : ∀ {a : List Int}, GoSeq m m' at_ a → (a.length : Int) ≤ lastG a + 1 ∧ lastG a < (m.length : Int) ∨ a = [] := by
  intro a ha
  induction ha with
  | nil => exact .inr rfl
  | snoc hp h1 h2 ih =>
    rename_i pre
    left
    have hc := (nextB_cases (mG m m' pre) (lastG pre + 1)).resolve_left h1
    have hm : (mG m m' pre).length = m.length := by unfold mG; split <;> simp [hl]
    rw [lastG_snoc, List.length_append, List.length_singleton]
    rw [hm] at hc
    rcases ih with q | q
    · refine ⟨?_, hc.2.2.1⟩
      have := hc.1
      push_cast
      omega
    · subst q
      refine ⟨?_, hc.2.2.1⟩
      have := hc.2.1
      simp
      omega
theorem GoSeq.le {m m' : List Bool} {at_ : Int} (hl : m'.length = m.length) {a : List Int} (h : GoSeq m m' at_ a) : a.length ≤ m.length := by
  rcases h.short hl with q | q
  · omega
  · subst q; simp
theorem GoSeq.mem {m m' : List Bool} {at_ : Int} (hl : m'.length = m.length) {a : List Int} (ha : GoSeq m m' at_ a) : ∀ y ∈ a, 0 ≤ y ∧ y < (m.length : Int) := by
  induction ha with
  | nil => intro y hy; simp at hy
  | snoc hp h1 h2 ih =>
    rename_i pre
    intro y hy
    rcases List.mem_append.1 hy with q | q
    · exact ih y q
    · rw [List.mem_singleton.1 q]
      have hc := (nextB_cases (mG m m' pre) (lastG pre + 1)).resolve_left h1
      have hm : (mG m m' pre).length = m.length := by unfold mG; split <;> simp [hl]
      rw [hm] at hc
      exact ⟨hc.2.1, hc.2.2.1⟩
end Go.Proofs.YtbljbhgelcakdaaDoor.Bit
