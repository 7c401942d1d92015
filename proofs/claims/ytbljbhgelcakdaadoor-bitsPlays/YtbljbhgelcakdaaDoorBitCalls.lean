/- The calls of a law over sets, from one Env to the next. -/
import Derived.Test.YtbljbhgelcakdaaDoorBitEnv
namespace Go.Proofs.YtbljbhgelcakdaaDoor.Bit
open Go.RowKit Go.Proofs.YtbljbhgelcakdaaDoor.Dig Go.Proofs.YtbljbhgelcakdaaDoor.Mem
set_option linter.unusedVariables false
set_option linter.unusedSimpArgs false

section
variable {At : World → Value → (Nat → Prop) → List Bool → Prop} {w wx : World} {os : List (Value × List Bool)} {ns : List (Option Addr × Nat × List Int)} {bs : List (Option Addr × Nat × List Bool)} {cs : List (Nat × Array Value)} {p q : Value} {m m2 m3 : List Bool} {n n2 : Nat} {a a2 : Option Addr} {c c2 : Nat} {l l2 : List Int}
theorem newE (A : Api At) (k : Int) (h : Hid (Env At w os ns bs cs wx)) (hk : (Lit.int .i64 k).wf = true) (hm : newB k false = m) :
    Calls Tryd.prog 8 #[.int .i64 k] wx fun e w' => ∃ p, e = .returned p ∧ Hid (Env At w (os ++ [(p, m)]) ns bs cs w') := by
  subst hm
  refine (A.new k wx hk).mono ?_
  rintro e w' ⟨p, F, rfl, hp, hF, hb⟩
  exact ⟨p, rfl, h.out.made A hb hp hF⟩
theorem fullE (A : Api At) (k : Int) (h : Hid (Env At w os ns bs cs wx)) (hk : (Lit.int .i64 k).wf = true) (hm : newB k true = m) :
    Calls Tryd.prog 9 #[.int .i64 k] wx fun e w' => ∃ p, e = .returned p ∧ Hid (Env At w (os ++ [(p, m)]) ns bs cs w') := by
  subst hm
  refine (A.full k wx hk).mono ?_
  rintro e w' ⟨p, F, rfl, hp, hF, hb⟩
  exact ⟨p, rfl, h.out.made A hb hp hF⟩
theorem putE (A : Api At) (i : Nat) (h : Hid (Env At w os ns bs cs wx)) (hi : os[i]? = some (p, m)) (hr : (a, c, l) ∈ ns) (hn : n = l.length) (hl : l.length ≤ 1000) (hm : setB m l true = m3) :
    Calls Tryd.prog 21 #[p, .slice a n c] wx fun e w' => e = .returned (.tuple #[]) ∧ Hid (Env At w (os.set i (p, m3)) ns bs cs w') := by
  subst hn; subst hm
  obtain ⟨hlt, e0⟩ := List.getElem?_eq_some_iff.1 hi
  obtain ⟨F, h1, h2, h3, h4, h5⟩ := h.out.sets
  have hp := (h1 i hlt).1
  rw [e0] at hp
  refine (A.put a c l hp (h.out.nums _ hr) hl (fun hl x ex => h3 _ hr hl x ex i hlt)).mono ?_
  rintro e w' ⟨rfl, F', g1, g2, g3⟩
  refine ⟨rfl, ?_⟩
  have := turnF h.out A i hlt (setB m l true) F h1 h2 h3 h4 h5 F' (by rw [e0]; exact g1) g2 g3
  rw [e0] at this
  exact this
theorem dropE (A : Api At) (i : Nat) (h : Hid (Env At w os ns bs cs wx)) (hi : os[i]? = some (p, m)) (hr : (a, c, l) ∈ ns) (hn : n = l.length) (hl : l.length ≤ 1000) (hm : setB m l false = m3) :
    Calls Tryd.prog 24 #[p, .slice a n c] wx fun e w' => e = .returned (.tuple #[]) ∧ Hid (Env At w (os.set i (p, m3)) ns bs cs w') := by
  subst hn; subst hm
  obtain ⟨hlt, e0⟩ := List.getElem?_eq_some_iff.1 hi
  obtain ⟨F, h1, h2, h3, h4, h5⟩ := h.out.sets
  have hp := (h1 i hlt).1
  rw [e0] at hp
  refine (A.drop a c l hp (h.out.nums _ hr) hl (fun hl x ex => h3 _ hr hl x ex i hlt)).mono ?_
  rintro e w' ⟨rfl, F', g1, g2, g3⟩
  refine ⟨rfl, ?_⟩
  have := turnF h.out A i hlt (setB m l false) F h1 h2 h3 h4 h5 F' (by rw [e0]; exact g1) g2 g3
  rw [e0] at this
  exact this
theorem orE (A : Api At) (i j : Nat) (h : Hid (Env At w os ns bs cs wx)) (hi : os[i]? = some (p, m)) (hj : os[j]? = some (q, m2)) (hij : i ≠ j) (hm : withB m m2 0 = m3) :
    Calls Tryd.prog 27 #[p, q] wx fun e w' => e = .returned (.tuple #[]) ∧ Hid (Env At w (os.set i (p, m3)) ns bs cs w') := by
  subst hm
  obtain ⟨hlt, e0⟩ := List.getElem?_eq_some_iff.1 hi
  obtain ⟨hlt2, e2⟩ := List.getElem?_eq_some_iff.1 hj
  obtain ⟨F, h1, h2, h3, h4, h5⟩ := h.out.sets
  have hp := (h1 i hlt).1
  have hq := (h1 j hlt2).1
  rw [e0] at hp
  rw [e2] at hq
  refine (A.or hp hq (fun k hk => h2 i j k hlt hlt2 hij hk)).mono ?_
  rintro e w' ⟨rfl, F', g1, g2, g3⟩
  refine ⟨rfl, ?_⟩
  have := turnF h.out A i hlt (withB m m2 0) F h1 h2 h3 h4 h5 F' (by rw [e0]; exact g1) g2 g3
  rw [e0] at this
  exact this
theorem andE (A : Api At) (i j : Nat) (h : Hid (Env At w os ns bs cs wx)) (hi : os[i]? = some (p, m)) (hj : os[j]? = some (q, m2)) (hij : i ≠ j) (hm : withB m m2 1 = m3) :
    Calls Tryd.prog 28 #[p, q] wx fun e w' => e = .returned (.tuple #[]) ∧ Hid (Env At w (os.set i (p, m3)) ns bs cs w') := by
  subst hm
  obtain ⟨hlt, e0⟩ := List.getElem?_eq_some_iff.1 hi
  obtain ⟨hlt2, e2⟩ := List.getElem?_eq_some_iff.1 hj
  obtain ⟨F, h1, h2, h3, h4, h5⟩ := h.out.sets
  have hp := (h1 i hlt).1
  have hq := (h1 j hlt2).1
  rw [e0] at hp
  rw [e2] at hq
  refine (A.and hp hq (fun k hk => h2 i j k hlt hlt2 hij hk)).mono ?_
  rintro e w' ⟨rfl, F', g1, g2, g3⟩
  refine ⟨rfl, ?_⟩
  have := turnF h.out A i hlt (withB m m2 1) F h1 h2 h3 h4 h5 F' (by rw [e0]; exact g1) g2 g3
  rw [e0] at this
  exact this
theorem minusE (A : Api At) (i j : Nat) (h : Hid (Env At w os ns bs cs wx)) (hi : os[i]? = some (p, m)) (hj : os[j]? = some (q, m2)) (hij : i ≠ j) (hm : withB m m2 2 = m3) :
    Calls Tryd.prog 29 #[p, q] wx fun e w' => e = .returned (.tuple #[]) ∧ Hid (Env At w (os.set i (p, m3)) ns bs cs w') := by
  subst hm
  obtain ⟨hlt, e0⟩ := List.getElem?_eq_some_iff.1 hi
  obtain ⟨hlt2, e2⟩ := List.getElem?_eq_some_iff.1 hj
  obtain ⟨F, h1, h2, h3, h4, h5⟩ := h.out.sets
  have hp := (h1 i hlt).1
  have hq := (h1 j hlt2).1
  rw [e0] at hp
  rw [e2] at hq
  refine (A.minus hp hq (fun k hk => h2 i j k hlt hlt2 hij hk)).mono ?_
  rintro e w' ⟨rfl, F', g1, g2, g3⟩
  refine ⟨rfl, ?_⟩
  have := turnF h.out A i hlt (withB m m2 2) F h1 h2 h3 h4 h5 F' (by rw [e0]; exact g1) g2 g3
  rw [e0] at this
  exact this
theorem roomE (A : Api At) (i : Nat) (h : Hid (Env At w os ns bs cs wx)) (hi : os[i]? = some (p, m)) (hn : m.length = n) :
    Calls Tryd.prog 12 #[p] wx fun e w' => e = .returned (.int .i64 (n : Int)) ∧ Hid (Env At w os ns bs cs w') := by
  subst hn
  obtain ⟨F, hp⟩ := h.out.at i hi
  refine (A.room hp).mono ?_
  rintro e w' ⟨rfl, hb⟩
  exact ⟨rfl, h.out.read A hb⟩
theorem countE (A : Api At) (i : Nat) (h : Hid (Env At w os ns bs cs wx)) (hi : os[i]? = some (p, m)) (hn : (listB m).length = n) :
    Calls Tryd.prog 16 #[p] wx fun e w' => e = .returned (.int .i64 (n : Int)) ∧ Hid (Env At w os ns bs cs w') := by
  subst hn
  obtain ⟨F, hp⟩ := h.out.at i hi
  refine (A.count hp).mono ?_
  rintro e w' ⟨rfl, hb⟩
  exact ⟨rfl, h.out.read A hb⟩
theorem listE (A : Api At) (i : Nat) (h : Hid (Env At w os ns bs cs wx)) (hi : os[i]? = some (p, m)) (hl : listB m = l) (hn : n = l.length) :
    Calls Tryd.prog 14 #[p] wx fun e w' => ∃ a c, e = .returned (.slice a n c) ∧ Hid (Env At w os ((a, c, l) :: ns) bs cs w') := by
  subst hl; subst hn
  obtain ⟨F, hp⟩ := h.out.at i hi
  refine (A.list h.out.tabx hp).mono ?_
  rintro e w' ⟨⟨a, c, rfl, hr, hf⟩, hb⟩
  exact ⟨a, c, rfl, h.out.num_new A hb a c _ hr hf⟩
theorem hasE (A : Api At) (i : Nat) (k : Int) {r : Bool} (h : Hid (Env At w os ns bs cs wx)) (hi : os[i]? = some (p, m)) (hk : (Lit.int .i64 k).wf = true) (hr : hasB m k = r) :
    Calls Tryd.prog 17 #[p, .int .i64 k] wx fun e w' => e = .returned (.bool r) ∧ Hid (Env At w os ns bs cs w') := by
  subst hr
  obtain ⟨F, hp⟩ := h.out.at i hi
  refine (A.has k hk hp).mono ?_
  rintro e w' ⟨rfl, hb⟩
  exact ⟨rfl, h.out.read A hb⟩
theorem nextE (A : Api At) (i : Nat) (k : Int) {r : Int} (h : Hid (Env At w os ns bs cs wx)) (hi : os[i]? = some (p, m)) (hk : (Lit.int .i64 k).wf = true) (hr : nextB m k = r) :
    Calls Tryd.prog 19 #[p, .int .i64 k] wx fun e w' => e = .returned (.int .i64 r) ∧ Hid (Env At w os ns bs cs w') := by
  subst hr
  obtain ⟨F, hp⟩ := h.out.at i hi
  refine (A.next k hk h.out.tabx hp).mono ?_
  rintro e w' ⟨rfl, hb⟩
  exact ⟨rfl, h.out.read A hb⟩
theorem cloneE (A : Api At) (i : Nat) (h : Hid (Env At w os ns bs cs wx)) (hi : os[i]? = some (p, m)) :
    Calls Tryd.prog 25 #[p] wx fun e w' => ∃ q, e = .returned q ∧ Hid (Env At w (os ++ [(q, m)]) ns bs cs w') := by
  obtain ⟨F, hp⟩ := h.out.at i hi
  refine (A.clone hp).mono ?_
  rintro e w' ⟨q, G, rfl, hq, hG, hb⟩
  exact ⟨q, rfl, h.out.made A hb hq hG⟩
theorem psameE (A : Api At) (i j : Nat) {r : Bool} (h : Hid (Env At w os ns bs cs wx)) (hi : os[i]? = some (p, m)) (hj : os[j]? = some (q, m2)) (hr : decide (listB m = listB m2) = r) :
    Calls Tryd.prog 26 #[p, q] wx fun e w' => e = .returned (.bool r) ∧ Hid (Env At w os ns bs cs w') := by
  subst hr
  obtain ⟨F, hp⟩ := h.out.at i hi
  obtain ⟨G, hq⟩ := h.out.at j hj
  refine (A.same hp hq).mono ?_
  rintro e w' ⟨rfl, hb⟩
  exact ⟨rfl, h.out.read A hb⟩
theorem allE (A : Api At) (i : Nat) (h : Hid (Env At w os ns bs cs wx)) (hi : os[i]? = some (p, m)) :
    Calls Tryd.prog 23 #[p] wx fun e w' => ∃ v, e = .returned v ∧ (∀ W : World, (binOp .neq 44 v .nilFunc).run Tryd.prog W = .ok (.bool true) W) ∧ Hid (Env At w os ns bs cs w') := by
  obtain ⟨F, hp⟩ := h.out.at i hi
  refine (A.all hp).mono ?_
  rintro e w' ⟨v, rfl, hv, hb⟩
  exact ⟨v, rfl, hv, h.out.read A hb⟩
theorem rnewE (A : Api At) (k : Int) (b : Bool) (h : Hid (Env At w os ns bs cs wx)) (hk : (Lit.int .i64 k).wf = true) (hm : newB k b = m) (hn : n = m.length) :
    Calls Tryd.prog 10 #[.int .i64 k, .bool b] wx fun e w' => ∃ a c, e = .returned (.slice a n c) ∧ Hid (Env At w os ns ((a, c, m) :: bs) cs w') := by
  subst hm; subst hn
  refine (rnew_any k b wx hk).mono ?_
  rintro e w' ⟨⟨a, c, rfl, hr, hf⟩, hb⟩
  exact ⟨a, c, rfl, h.out.bool_new A hb a c _ hr hf⟩
theorem rsetE (A : Api At) (so : Bool) (h : Hid (Env At w os ns bs cs wx)) (hb : (a, c, m) ∈ bs) (hr : (a2, c2, l) ∈ ns) (hn : n = m.length) (hn2 : n2 = l.length) (hle : m.length ≤ 100000) (hm : setB m l so = m3) :
    Calls Tryd.prog 22 #[.slice a n c, .slice a2 n2 c2, .bool so] wx fun e w' => ∃ a c, e = .returned (.slice a n c) ∧ Hid (Env At w os ns ((a, c, m3) :: bs) cs w') := by
  subst hm; subst hn; subst hn2
  refine (rset_any a c m a2 c2 l so wx (h.out.bools _ hb) (h.out.nums _ hr) hle).mono ?_
  rintro e w' ⟨⟨a, c, rfl, hr, hf⟩, hb⟩
  exact ⟨a, c, rfl, h.out.bool_new A hb a c _ hr hf⟩
theorem rwithE (A : Api At) (how : Int) (h : Hid (Env At w os ns bs cs wx)) (hb : (a, c, m) ∈ bs) (hb2 : (a2, c2, m2) ∈ bs) (hn : n = m.length) (hn2 : n2 = m2.length) (hle : m.length ≤ 100000) (hm : withB m m2 how = m3) :
    Calls Tryd.prog 31 #[.slice a n c, .slice a2 n2 c2, .int .i64 how] wx fun e w' => ∃ a c, e = .returned (.slice a n c) ∧ Hid (Env At w os ns ((a, c, m3) :: bs) cs w') := by
  subst hm; subst hn; subst hn2
  refine (rwith_any a a2 c c2 m m2 how wx (h.out.bools _ hb) (h.out.bools _ hb2) hle).mono ?_
  rintro e w' ⟨⟨a, c, rfl, hr, hf⟩, hb⟩
  exact ⟨a, c, rfl, h.out.bool_new A hb a c _ hr hf⟩
theorem rlistE (A : Api At) (h : Hid (Env At w os ns bs cs wx)) (hb : (a, c, m) ∈ bs) (hn : n = m.length) (hle : m.length ≤ 100000) (hl : listB m = l) (hn2 : n2 = l.length) :
    Calls Tryd.prog 15 #[.slice a n c] wx fun e w' => ∃ a c, e = .returned (.slice a n2 c) ∧ Hid (Env At w os ((a, c, l) :: ns) bs cs w') := by
  subst hl; subst hn; subst hn2
  refine (rlist_any a c m wx (h.out.bools _ hb) hle).mono ?_
  rintro e w' ⟨⟨a, c, rfl, hr, hf⟩, hb⟩
  exact ⟨a, c, rfl, h.out.num_new A hb a c _ hr hf⟩
theorem rhasE (k : Int) {r : Bool} (h : Hid (Env At w os ns bs cs wx)) (hb : (a, c, m) ∈ bs) (hn : n = m.length) (hr : hasB m k = r) :
    Calls Tryd.prog 18 #[.slice a n c, .int .i64 k] wx fun e w' => e = .returned (.bool r) ∧ w' = wx := by
  subst hr; subst hn
  exact rhas_any a c m k wx (h.out.bools _ hb)
theorem rnextE (k : Int) {r : Int} (h : Hid (Env At w os ns bs cs wx)) (hb : (a, c, m) ∈ bs) (hn : n = m.length) (hk : (Lit.int .i64 k).wf = true) (hr : nextB m k = r) :
    Calls Tryd.prog 20 #[.slice a n c, .int .i64 k] wx fun e w' => e = .returned (.int .i64 r) ∧ w' = wx := by
  subst hr; subst hn
  exact rnext_any a c m k wx (h.out.bools _ hb) hk
theorem sameE (A : Api At) {r : Bool} (h : Hid (Env At w os ns bs cs wx)) (h1 : (a, c, l) ∈ ns) (h2 : (a2, c2, l2) ∈ ns) (hn : n = l.length) (hn2 : n2 = l2.length) (hr : decide (l = l2) = r) :
    Calls Tryd.prog 13 #[.slice a n c, .slice a2 n2 c2] wx fun e w' => e = .returned (.bool r) ∧ Hid (Env At w os ns bs cs w') := by
  subst hr; subst hn; subst hn2
  refine (same_is a a2 c c2 l l2 wx (h.out.nums _ h1) (h.out.nums _ h2)).mono ?_
  rintro e w' ⟨rfl, hb⟩
  exact ⟨rfl, h.out.read A hb⟩
end
end Go.Proofs.YtbljbhgelcakdaaDoor.Bit
