/- What the program's sets must do (Api: the contracts, left open), and what a law over them knows between two calls (Env). -/
import Derived.Test.YtbljbhgelcakdaaDoorBitWith
import Derived.Test.YtbljbhgelcakdaaDoorBitSame
import Derived.Test.YtbljbhgelcakdaaDoorBitTz
namespace Go.Proofs.YtbljbhgelcakdaaDoor.Bit
open Go.RowKit Go.Proofs.YtbljbhgelcakdaaDoor.Dig Go.Proofs.YtbljbhgelcakdaaDoor.Mem
set_option linter.unusedVariables false
set_option linter.unusedSimpArgs false

theorem RowI.only {w w' : World} {a : Option Addr} {c : Nat} {l : List Int} (h : RowI w a c l) {S : Nat → Prop} (ho : Only S w w') (hs : 0 < l.length → ∀ x, a = some x → ¬ S x.block) : RowI w' a c l := ⟨h.cap, h.rd.only' ho hs, h.nil⟩
theorem RowI.lt {w : World} {a : Option Addr} {c : Nat} {l : List Int} (h : RowI w a c l) (hl : 0 < l.length) : ∀ x, a = some x → x.block < w.heap.size := h.rd.lt hl
theorem RowB.only {w w' : World} {a : Option Addr} {c : Nat} {m : List Bool} (h : RowB w a c m) {S : Nat → Prop} (ho : Only S w w') (hs : 0 < m.length → ∀ x, a = some x → ¬ S x.block) : RowB w' a c m :=
  ⟨h.cap, h.le, fun i hi => by
    obtain ⟨b, off, e, hc⟩ := h.rd i hi
    exact ⟨b, off, e, ho.cell hc (by exact hs (by omega) ⟨b, off, none⟩ e)⟩, h.nil⟩
theorem RowB.lt {w : World} {a : Option Addr} {c : Nat} {m : List Bool} (h : RowB w a c m) (hl : 0 < m.length) : ∀ x, a = some x → x.block < w.heap.size := by
  obtain ⟨b, off, rfl, hc⟩ := h.rd 0 hl
  rintro x hx
  obtain rfl := Option.some.inj hx
  exact lt_of_cell hc
/-- The contracts: a set at p has the truths m, and lies in the blocks F. -/
structure Api (At : World → Value → (Nat → Prop) → List Bool → Prop) : Prop where
  ptr : ∀ {w p F m}, At w p F m → ∃ q, p = .pointer q
  lt : ∀ {w p F m}, At w p F m → ∀ k, F k → k < w.heap.size
  len : ∀ {w p F m}, At w p F m → m.length ≤ 65536
  keep : ∀ {w w' p F m S}, At w p F m → Only S w w' → (∀ k, F k → ¬ S k) → At w' p F m
  nil : ∀ w, At w (.pointer none) (fun _ => False) []
  new : ∀ n w, (Lit.int .i64 n).wf = true → Calls Tryd.prog 8 #[.int .i64 n] w fun e w' => ∃ p F, e = .returned p ∧ At w' p F (newB n false) ∧ (∀ k, F k → w.heap.size ≤ k) ∧ Below w.heap.size w w'
  full : ∀ n w, (Lit.int .i64 n).wf = true → Calls Tryd.prog 9 #[.int .i64 n] w fun e w' => ∃ p F, e = .returned p ∧ At w' p F (newB n true) ∧ (∀ k, F k → w.heap.size ≤ k) ∧ Below w.heap.size w w'
  put : ∀ {w p F m} (a : Option Addr) (c : Nat) (l : List Int), At w p F m → RowI w a c l → l.length ≤ 1000 → (0 < l.length → ∀ x, a = some x → ¬ F x.block) → Calls Tryd.prog 21 #[p, .slice a l.length c] w fun e w' => e = .returned (.tuple #[]) ∧ ∃ F', At w' p F' (setB m l true) ∧ (∀ k, F' k → F k ∨ w.heap.size ≤ k) ∧ Only F w w'
  drop : ∀ {w p F m} (a : Option Addr) (c : Nat) (l : List Int), At w p F m → RowI w a c l → l.length ≤ 1000 → (0 < l.length → ∀ x, a = some x → ¬ F x.block) → Calls Tryd.prog 24 #[p, .slice a l.length c] w fun e w' => e = .returned (.tuple #[]) ∧ ∃ F', At w' p F' (setB m l false) ∧ (∀ k, F' k → F k ∨ w.heap.size ≤ k) ∧ Only F w w'
  or : ∀ {w p F m q G m2}, At w p F m → At w q G m2 → (∀ k, F k → ¬ G k) → Calls Tryd.prog 27 #[p, q] w fun e w' => e = .returned (.tuple #[]) ∧ ∃ F', At w' p F' (withB m m2 0) ∧ (∀ k, F' k → F k ∨ w.heap.size ≤ k) ∧ Only F w w'
  and : ∀ {w p F m q G m2}, At w p F m → At w q G m2 → (∀ k, F k → ¬ G k) → Calls Tryd.prog 28 #[p, q] w fun e w' => e = .returned (.tuple #[]) ∧ ∃ F', At w' p F' (withB m m2 1) ∧ (∀ k, F' k → F k ∨ w.heap.size ≤ k) ∧ Only F w w'
  minus : ∀ {w p F m q G m2}, At w p F m → At w q G m2 → (∀ k, F k → ¬ G k) → Calls Tryd.prog 29 #[p, q] w fun e w' => e = .returned (.tuple #[]) ∧ ∃ F', At w' p F' (withB m m2 2) ∧ (∀ k, F' k → F k ∨ w.heap.size ≤ k) ∧ Only F w w'
  room : ∀ {w p F m}, At w p F m → Calls Tryd.prog 12 #[p] w fun e w' => e = .returned (.int .i64 (m.length : Int)) ∧ Below w.heap.size w w'
  count : ∀ {w p F m}, At w p F m → Calls Tryd.prog 16 #[p] w fun e w' => e = .returned (.int .i64 ((listB m).length : Int)) ∧ Below w.heap.size w w'
  list : ∀ {w p F m}, Tab w → At w p F m → Calls Tryd.prog 14 #[p] w fun e w' => (∃ a c, e = .returned (.slice a (listB m).length c) ∧ RowI w' a c (listB m) ∧ Fresh w.heap.size a) ∧ Below w.heap.size w w'
  has : ∀ {w p F m} (k : Int), (Lit.int .i64 k).wf = true → At w p F m → Calls Tryd.prog 17 #[p, .int .i64 k] w fun e w' => e = .returned (.bool (hasB m k)) ∧ Below w.heap.size w w'
  next : ∀ {w p F m} (k : Int), (Lit.int .i64 k).wf = true → Tab w → At w p F m → Calls Tryd.prog 19 #[p, .int .i64 k] w fun e w' => e = .returned (.int .i64 (nextB m k)) ∧ Below w.heap.size w w'
  clone : ∀ {w p F m}, At w p F m → Calls Tryd.prog 25 #[p] w fun e w' => ∃ q G, e = .returned q ∧ At w' q G m ∧ (∀ k, G k → w.heap.size ≤ k) ∧ Below w.heap.size w w'
  same : ∀ {w p F m q G m2}, At w p F m → At w q G m2 → Calls Tryd.prog 26 #[p, q] w fun e w' => e = .returned (.bool (decide (listB m = listB m2))) ∧ Below w.heap.size w w'
  all : ∀ {w p F m}, At w p F m → Calls Tryd.prog 23 #[p] w fun e w' => ∃ v, e = .returned v ∧ (∀ W : World, (binOp .neq 44 v .nilFunc).run Tryd.prog W = .ok (.bool true) W) ∧ Below w.heap.size w w'
section
variable {At : World → Value → (Nat → Prop) → List Bool → Prop}
/-- Between two calls: the sets, each in blocks of its own; the rows of numbers, and of truths, that are read; and boxes: all of these beside the sets' blocks. -/
structure Env (At : World → Value → (Nat → Prop) → List Bool → Prop) (w : World) (os : List (Value × List Bool)) (ns : List (Option Addr × Nat × List Int)) (bs : List (Option Addr × Nat × List Bool)) (cs : List (Nat × Array Value)) (wx : World) : Prop where
  tab : Tab w
  below : Below w.heap.size w wx
  sets : ∃ F : Nat → Nat → Prop, (∀ i (h : i < os.length), At wx os[i].1 (F i) os[i].2 ∧ ∀ k, F i k → w.heap.size ≤ k) ∧ (∀ i j k, i < os.length → j < os.length → i ≠ j → F i k → ¬ F j k) ∧
    (∀ r ∈ ns, 0 < r.2.2.length → ∀ x, r.1 = some x → ∀ i, i < os.length → ¬ F i x.block) ∧ (∀ r ∈ bs, 0 < r.2.2.length → ∀ x, r.1 = some x → ∀ i, i < os.length → ¬ F i x.block) ∧ (∀ b ∈ cs, ∀ i, i < os.length → ¬ F i b.1)
  nums : ∀ r ∈ ns, RowI wx r.1 r.2.1 r.2.2
  bools : ∀ r ∈ bs, RowB wx r.1 r.2.1 r.2.2
  boxes : ∀ b ∈ cs, Is wx b.1 b.2
variable {w wx w' : World} {os : List (Value × List Bool)} {ns : List (Option Addr × Nat × List Int)} {bs : List (Option Addr × Nat × List Bool)} {cs : List (Nat × Array Value)}
theorem Env.start (w : World) (HT : Tab w) : Env At w [] [] [] [] w := ⟨HT, Below.refl _ _, ⟨fun _ _ => False, fun i h => by simp at h, fun i j k h => by simp at h, by simp, by simp, by simp⟩, by simp, by simp, by simp⟩
theorem Env.tabx (h : Env At w os ns bs cs wx) : Tab wx := h.tab.keep h.below
theorem tabx (h : Hid (Env At w os ns bs cs wx)) : Tab wx := h.out.tabx
theorem Env.size (h : Env At w os ns bs cs wx) : w.heap.size ≤ wx.heap.size := h.below.size
/-- A call that reads. -/
theorem Env.read (A : Api At) (h : Env At w os ns bs cs wx) (hb : Below wx.heap.size wx w') : Env At w os ns bs cs w' := by
  obtain ⟨F, h1, h2, h3, h4, h5⟩ := h.sets
  exact ⟨h.tab, h.below.trans (hb.mono h.below.size), ⟨F, fun i hi => ⟨A.keep (h1 i hi).1 (Only.of_below (S := fun _ => False) hb) (fun k _ q => q), (h1 i hi).2⟩, h2, h3, h4, h5⟩, fun r hr => (h.nums r hr).keep hb, fun r hr => (h.bools r hr).keep hb, fun b hb' => (h.boxes b hb').below hb⟩
theorem Env.num (h : Env At w os ns bs cs wx) (A : Api At) (a : Option Addr) (c : Nat) (l : List Int) (hr : RowI wx a c l) (hf : ∀ F : Nat → Nat → Prop, (∀ i (h : i < os.length), At wx os[i].1 (F i) os[i].2 ∧ ∀ k, F i k → w.heap.size ≤ k) → 0 < l.length → ∀ x, a = some x → ∀ i, i < os.length → ¬ F i x.block) : Env At w os ((a, c, l) :: ns) bs cs wx := by
  obtain ⟨F, h1, h2, h3, h4, h5⟩ := h.sets
  refine ⟨h.tab, h.below, ⟨F, h1, h2, fun r hr' => ?_, h4, h5⟩, fun r hr' => ?_, h.bools, h.boxes⟩
  · rcases List.mem_cons.1 hr' with rfl | q
    · exact hf F h1
    · exact h3 r q
  · rcases List.mem_cons.1 hr' with rfl | q
    · exact hr
    · exact h.nums r q
theorem Env.bool (h : Env At w os ns bs cs wx) (A : Api At) (a : Option Addr) (c : Nat) (l : List Bool) (hr : RowB wx a c l) (hf : ∀ F : Nat → Nat → Prop, (∀ i (h : i < os.length), At wx os[i].1 (F i) os[i].2 ∧ ∀ k, F i k → w.heap.size ≤ k) → 0 < l.length → ∀ x, a = some x → ∀ i, i < os.length → ¬ F i x.block) : Env At w os ns ((a, c, l) :: bs) cs wx := by
  obtain ⟨F, h1, h2, h3, h4, h5⟩ := h.sets
  refine ⟨h.tab, h.below, ⟨F, h1, h2, h3, fun r hr' => ?_, h5⟩, h.nums, fun r hr' => ?_, h.boxes⟩
  · rcases List.mem_cons.1 hr' with rfl | q
    · exact hf F h1
    · exact h4 r q
  · rcases List.mem_cons.1 hr' with rfl | q
    · exact hr
    · exact h.bools r q
/-- A row that the call before handed back. -/
theorem Env.num_new (h : Env At w os ns bs cs wx) (A : Api At) (hb : Below wx.heap.size wx w') (a : Option Addr) (c : Nat) (l : List Int) (hr : RowI w' a c l) (hfr : Fresh wx.heap.size a) : Env At w os ((a, c, l) :: ns) bs cs w' := by
  obtain ⟨F, h1, h2, h3, h4, h5⟩ := h.sets
  have h' := h.read A hb
  refine ⟨h'.tab, h'.below, ⟨F, fun i hi => ⟨A.keep (h1 i hi).1 (Only.of_below (S := fun _ => False) hb) (fun k _ q => q), (h1 i hi).2⟩, h2, fun r hr' => ?_, h4, h5⟩, fun r hr' => ?_, h'.bools, h'.boxes⟩
  · rcases List.mem_cons.1 hr' with rfl | q
    · intro _ x e i hi hF
      have := A.lt (h1 i hi).1 _ hF
      have := hfr x e
      omega
    · exact h3 r q
  · rcases List.mem_cons.1 hr' with rfl | q
    · exact hr
    · exact h'.nums r q
theorem Env.bool_new (h : Env At w os ns bs cs wx) (A : Api At) (hb : Below wx.heap.size wx w') (a : Option Addr) (c : Nat) (l : List Bool) (hr : RowB w' a c l) (hfr : Fresh wx.heap.size a) : Env At w os ns ((a, c, l) :: bs) cs w' := by
  obtain ⟨F, h1, h2, h3, h4, h5⟩ := h.sets
  have h' := h.read A hb
  refine ⟨h'.tab, h'.below, ⟨F, fun i hi => ⟨A.keep (h1 i hi).1 (Only.of_below (S := fun _ => False) hb) (fun k _ q => q), (h1 i hi).2⟩, h2, h3, fun r hr' => ?_, h5⟩, h'.nums, fun r hr' => ?_, h'.boxes⟩
  · rcases List.mem_cons.1 hr' with rfl | q
    · intro _ x e i hi hF
      have := A.lt (h1 i hi).1 _ hF
      have := hfr x e
      omega
    · exact h4 r q
  · rcases List.mem_cons.1 hr' with rfl | q
    · exact hr
    · exact h'.bools r q
/-- A box is laid. -/
theorem Env.box (h : Env At w os ns bs cs wx) (A : Api At) (c : Array Value) (T : TypeId) {b : Nat} (hb : b = wx.heap.size) : Env At w os ns bs ((b, c) :: cs) (wx.alloc (.cells c T)) := by
  have hbl : Below wx.heap.size wx (wx.alloc (.cells c T)) := (Below.refl _ _).alloc (Nat.le_refl _) _
  obtain ⟨F, h1, h2, h3, h4, h5⟩ := h.sets
  have h' := h.read A hbl
  refine ⟨h'.tab, h'.below, ⟨F, fun i hi => ⟨A.keep (h1 i hi).1 (Only.of_below (S := fun _ => False) hbl) (fun k _ q => q), (h1 i hi).2⟩, h2, h3, h4, fun r hr' => ?_⟩, h'.nums, h'.bools, fun r hr' => ?_⟩
  · rcases List.mem_cons.1 hr' with rfl | q
    · intro i hi hF
      have := A.lt (h1 i hi).1 _ hF
      subst hb
      simp at this
    · exact h5 r q
  · rcases List.mem_cons.1 hr' with rfl | q
    · exact Is.made _ _ _ hb
    · exact h'.boxes r q
/-- A row of numbers is laid. -/
theorem Env.lay (h : Env At w os ns bs cs wx) (A : Api At) (l : List Int) (T : TypeId) {b n : Nat} (hb : b = wx.heap.size) (hn : n = l.length) (hl : l.length ≤ 1000) (hw : ∀ x ∈ l, (Lit.int .i64 x).wf = true) : Env At w os ((some ⟨b, 0, none⟩, n, l) :: ns) bs cs (wx.alloc (.cells (l.map (Value.int .i64)).toArray T)) := by
  have hbl : Below wx.heap.size wx (wx.alloc (.cells (l.map (Value.int .i64)).toArray T)) := (Below.refl _ _).alloc (Nat.le_refl _) _
  refine h.num_new A hbl _ _ _ ⟨by omega, ⟨by omega, fun i hi => ⟨b, 0, rfl, ?_, ?_⟩⟩, fun e => by cases e⟩ (fun x e => by cases e; simp [hb])
  · rw [Nat.zero_add]
    refine (Is.made wx _ T hb).cell i ?_
    simp [List.getD_eq_getElem?_getD, List.getElem?_eq_getElem hi]
  · show (Lit.int .i64 (l.getD i 0)).wf = true
    rw [List.getD_eq_getElem?_getD, List.getElem?_eq_getElem hi]
    exact hw _ (List.getElem_mem hi)
theorem Env.cell (h : Env At w os ns bs cs wx) {b : Nat} {c : Array Value} (hb : (b, c) ∈ cs) (i : Nat) {v : Value} (hv : c[i]? = some v) : wx.cell? ⟨b, i, none⟩ = some v := (h.boxes _ hb).cell i hv
/-- A set is made. -/
theorem Env.made (h : Env At w os ns bs cs wx) (A : Api At) (hb : Below wx.heap.size wx w') {p : Value} {G : Nat → Prop} {m : List Bool} (hp : At w' p G m) (hG : ∀ k, G k → wx.heap.size ≤ k) : Env At w (os ++ [(p, m)]) ns bs cs w' := by
  obtain ⟨F, h1, h2, h3, h4, h5⟩ := h.sets
  have h' := h.read A hb
  have e : ∀ i, i < os.length → (fun i => if i < os.length then F i else G) i = F i := fun i hi => by simp [hi]
  have e2 : (fun i => if i < os.length then F i else G) os.length = G := by simp
  refine ⟨h'.tab, h'.below, ⟨fun i => if i < os.length then F i else G, fun i hi => ?_, fun i j k hi hj hij hF => ?_, fun r hr hl x ex i hi => ?_, fun r hr hl x ex i hi => ?_, fun r hr i hi => ?_⟩, h'.nums, h'.bools, h'.boxes⟩
  · rcases Nat.lt_or_ge i os.length with q | q
    · simp only [q, if_true, List.getElem_append_left q]
      exact ⟨A.keep (h1 i q).1 (Only.of_below (S := fun _ => False) hb) (fun k _ q => q), (h1 i q).2⟩
    · obtain rfl : i = os.length := by simp at hi; omega
      simp only [Nat.lt_irrefl, if_false, List.getElem_append_right (Nat.le_refl _), Nat.sub_self, List.getElem_cons_zero]
      exact ⟨hp, fun k hk => Nat.le_trans h.size (hG k hk)⟩
  · simp only [List.length_append, List.length_cons, List.length_nil] at hi hj
    rcases Nat.lt_or_ge i os.length with qi | qi
    · rcases Nat.lt_or_ge j os.length with qj | qj
      · simp only [qi, qj, if_true] at hF ⊢
        exact h2 i j k qi qj hij hF
      · simp only [qi, if_true, show ¬ j < os.length by omega, if_false] at hF ⊢
        intro g
        have := A.lt (h1 i qi).1 k hF
        have := hG k g
        omega
    · rcases Nat.lt_or_ge j os.length with qj | qj
      · simp only [qj, if_true, show ¬ i < os.length by omega, if_false] at hF ⊢
        intro g
        have := A.lt (h1 j qj).1 k g
        have := hG k hF
        omega
      · omega
  · simp only [List.length_append, List.length_cons, List.length_nil] at hi
    rcases Nat.lt_or_ge i os.length with q | q
    · simp only [q, if_true]
      exact h3 r hr hl x ex i q
    · simp only [show ¬ i < os.length by omega, if_false]
      intro g
      have := (h.nums r hr).lt hl x ex
      have := hG _ g
      omega
  · simp only [List.length_append, List.length_cons, List.length_nil] at hi
    rcases Nat.lt_or_ge i os.length with q | q
    · simp only [q, if_true]
      exact h4 r hr hl x ex i q
    · simp only [show ¬ i < os.length by omega, if_false]
      intro g
      have := (h.bools r hr).lt hl x ex
      have := hG _ g
      omega
  · simp only [List.length_append, List.length_cons, List.length_nil] at hi
    rcases Nat.lt_or_ge i os.length with q | q
    · simp only [q, if_true]
      exact h5 r hr i q
    · simp only [show ¬ i < os.length by omega, if_false]
      intro g
      have := (h.boxes r hr).lt
      have := hG _ g
      omega
/-- A set is turned. -/
theorem turnF (h : Env At w os ns bs cs wx) (A : Api At) (i : Nat) (hi : i < os.length) (m' : List Bool) (F : Nat → Nat → Prop) (h1 : ∀ i (h : i < os.length), At wx os[i].1 (F i) os[i].2 ∧ ∀ k, F i k → w.heap.size ≤ k) (h2 : ∀ i j k, i < os.length → j < os.length → i ≠ j → F i k → ¬ F j k)
    (h3 : ∀ r ∈ ns, 0 < r.2.2.length → ∀ x, r.1 = some x → ∀ i, i < os.length → ¬ F i x.block) (h4 : ∀ r ∈ bs, 0 < r.2.2.length → ∀ x, r.1 = some x → ∀ i, i < os.length → ¬ F i x.block) (h5 : ∀ b ∈ cs, ∀ i, i < os.length → ¬ F i b.1)
    (G : Nat → Prop) (g1 : At w' os[i].1 G m') (g2 : ∀ k, G k → F i k ∨ wx.heap.size ≤ k) (g3 : Only (F i) wx w') : Env At w (os.set i (os[i].1, m')) ns bs cs w' := by
  have hbel : Below w.heap.size wx w' := g3.below (fun k hk => (h1 i hi).2 k hk) h.size
  refine ⟨h.tab, h.below.trans hbel, ⟨fun j => if j = i then G else F j, fun j hj => ?_, fun a b k ha hb hab hFa => ?_, fun r hr hl x ex j hj => ?_, fun r hr hl x ex j hj => ?_, fun r hr j hj => ?_⟩,
    fun r hr => (h.nums r hr).only g3 (fun hl x ex => h3 r hr hl x ex i hi), fun r hr => (h.bools r hr).only g3 (fun hl x ex => h4 r hr hl x ex i hi), fun r hr => (h.boxes r hr).keep g3 (h5 r hr i hi)⟩
  · rw [List.length_set] at hj
    by_cases e : j = i
    · subst e
      simp only [if_true, List.getElem_set_self]
      exact ⟨g1, fun k hk => (g2 k hk).elim (fun q => (h1 j hi).2 k q) (fun q => Nat.le_trans h.size q)⟩
    · simp only [e, if_false, List.getElem_set_ne (Ne.symm e)]
      exact ⟨A.keep (h1 j hj).1 g3 (fun k hk q => h2 j i k hj hi e hk q), (h1 j hj).2⟩
  · rw [List.length_set] at ha hb
    by_cases ea : a = i
    · have eb : b ≠ i := fun q => hab (ea.trans q.symm)
      simp only [ea, if_true, eb, if_false] at hFa ⊢
      rcases g2 k hFa with q | q
      · exact h2 i b k hi hb (Ne.symm eb) q
      · intro g
        have := A.lt (h1 b hb).1 k g
        omega
    · by_cases eb : b = i
      · simp only [ea, if_false, eb, if_true] at hFa ⊢
        intro g
        rcases g2 k g with q | q
        · exact h2 a i k ha hi ea hFa q
        · have := A.lt (h1 a ha).1 k hFa
          omega
      · simp only [ea, eb, if_false] at hFa ⊢
        exact h2 a b k ha hb hab hFa
  · rw [List.length_set] at hj
    by_cases e : j = i
    · simp only [e, if_true]
      intro g
      rcases g2 _ g with q | q
      · exact h3 r hr hl x ex i hi q
      · have := (h.nums r hr).lt hl x ex
        omega
    · simp only [e, if_false]
      exact h3 r hr hl x ex j hj
  · rw [List.length_set] at hj
    by_cases e : j = i
    · simp only [e, if_true]
      intro g
      rcases g2 _ g with q | q
      · exact h4 r hr hl x ex i hi q
      · have := (h.bools r hr).lt hl x ex
        omega
    · simp only [e, if_false]
      exact h4 r hr hl x ex j hj
  · rw [List.length_set] at hj
    by_cases e : j = i
    · simp only [e, if_true]
      intro g
      rcases g2 _ g with q | q
      · exact h5 r hr i hi q
      · have := (h.boxes r hr).lt
        omega
    · simp only [e, if_false]
      exact h5 r hr j hj
theorem Env.at (h : Env At w os ns bs cs wx) (i : Nat) {p : Value} {m : List Bool} (hi : os[i]? = some (p, m)) : ∃ F, At wx p F m := by
  obtain ⟨F, h1, _⟩ := h.sets
  obtain ⟨hl, e⟩ := List.getElem?_eq_some_iff.1 hi
  have := (h1 i hl).1
  rw [e] at this
  exact ⟨_, this⟩
end
end Go.Proofs.YtbljbhgelcakdaaDoor.Bit
