/- A set is made one with another one. -/
import Derived.Test.YtbljbhgelcakdaaDoorBitIn
namespace Go.Proofs.YtbljbhgelcakdaaDoor.Bit
open Go.RowKit Go.Proofs.YtbljbhgelcakdaaDoor.Dig Go.Proofs.YtbljbhgelcakdaaDoor.Mem Go.Shelf
set_option linter.unusedVariables false
set_option linter.unusedSimpArgs false
attribute [local go_sem] Oper.semAt_some

/-- Words of which those at some places have turned. -/
def modW (g : Nat → Nat) (ws : List Nat) (pre : List Int) : List Nat := (List.range ws.length).map fun i : Nat => if (i : Int) ∈ pre then g i else ws.getD i 0
theorem modW_length (g : Nat → Nat) (ws : List Nat) (pre : List Int) : (modW g ws pre).length = ws.length := by simp [modW]
theorem modW_getD {g : Nat → Nat} {ws : List Nat} {pre : List Int} {i : Nat} (hi : i < ws.length) : (modW g ws pre).getD i 0 = if (i : Int) ∈ pre then g i else ws.getD i 0 := by
  simp [modW, List.getD_eq_getElem?_getD, hi]
theorem modW_over {g : Nat → Nat} {ws : List Nat} {pre : List Int} {i : Nat} (hi : ws.length ≤ i) : (modW g ws pre).getD i 0 = 0 := by
  rw [List.getD_eq_getElem?_getD, List.getElem?_eq_none (by rw [modW_length]; exact hi)]; rfl
theorem ext_getN {a b : List Nat} (hl : a.length = b.length) (h : ∀ k, k < a.length → a.getD k 0 = b.getD k 0) : a = b := by
  apply List.ext_getElem hl
  intro i h1 h2
  have := h i h1
  rw [List.getD_eq_getElem?_getD, List.getD_eq_getElem?_getD, List.getElem?_eq_getElem h1, List.getElem?_eq_getElem h2] at this
  exact this
theorem modW_nil (g : Nat → Nat) (ws : List Nat) : modW g ws [] = ws := ext_getN (modW_length _ _ _) (fun k hk => by rw [modW_length] at hk; rw [modW_getD hk]; simp)
theorem modW_set {g : Nat → Nat} {ws : List Nat} {pre : List Int} {k : Nat} : modW g ws (pre ++ [(k : Int)]) = (modW g ws pre).set k (g k) := by
  refine ext_getN (by rw [List.length_set, modW_length, modW_length]) (fun i hi => ?_)
  rw [modW_length] at hi
  have e0 : ((modW g ws pre).set k (g k)).getD i 0 = if k = i then g k else (modW g ws pre).getD i 0 := by
    rw [List.getD_eq_getElem?_getD, List.getElem?_set]
    by_cases e : k = i
    · subst e; rw [if_pos rfl, if_pos rfl, if_pos (by rw [modW_length]; exact hi)]; rfl
    · rw [if_neg e, if_neg e, ← List.getD_eq_getElem?_getD]
  rw [modW_getD hi, e0]
  by_cases e : k = i
  · subst e
    rw [if_pos rfl, if_pos (by simp)]
  · rw [if_neg e, modW_getD hi]
    have : ((i : Int) ∈ pre ++ [(k : Int)]) ↔ (i : Int) ∈ pre := by
      rw [List.mem_append, List.mem_singleton]
      exact ⟨fun q => q.elim id (fun q => by omega), .inl⟩
    simp only [this]
theorem modW_same {g : Nat → Nat} {ws : List Nat} {pre : List Int} {k : Nat} (h : k < ws.length → g k = ws.getD k 0) : modW g ws (pre ++ [(k : Int)]) = modW g ws pre := by
  refine ext_getN (by rw [modW_length, modW_length]) (fun i hi => ?_)
  rw [modW_length] at hi
  rw [modW_getD hi, modW_getD hi]
  by_cases e : k = i
  · subst e
    rw [if_pos (by simp), h hi]
    split <;> rfl
  · have : ((i : Int) ∈ pre ++ [(k : Int)]) ↔ (i : Int) ∈ pre := by
      rw [List.mem_append, List.mem_singleton]
      exact ⟨fun q => q.elim id (fun q => by omega), .inl⟩
    simp only [this]
theorem modW_lt {g : Nat → Nat} {ws : List Nat} {pre : List Int} (hw : ∀ i, ws.getD i 0 < 18446744073709551616) (hg : ∀ i, g i < 18446744073709551616) (i : Nat) : (modW g ws pre).getD i 0 < 18446744073709551616 := by
  rcases Nat.lt_or_ge i ws.length with q | q
  · rw [modW_getD q]
    split
    · exact hg i
    · exact hw i
  · rw [modW_over q]; decide
theorem modW_tight {n : Nat} {g : Nat → Nat} {ws : List Nat} {pre : List Int} (ht : Tight n ws) (hg : ∀ k, n ≤ k → (g (k / 64)).testBit (k % 64) = false) : Tight n (modW g ws pre) := fun k hk => by
  rcases Nat.lt_or_ge (k / 64) ws.length with q | q
  · rw [modW_getD q]
    split
    · exact hg k hk
    · exact ht k hk
  · rw [modW_over q]; simp
theorem Wd.mod {w : World} {b g n c : Nat} {ws ws' : List Nat} (h : Wd w b g n c ws) (e : ws' = ws) : Wd w b g n c ws' := e ▸ h
/-- What a loop keeps that turns blocks of S. -/
structure Fo (S : Nat → Prop) (w : World) (bs : List (Nat × Array Value)) (W : World) : Prop where
  only : Only S w W
  boxes : ∀ r ∈ bs, Is W r.1 r.2
theorem Fr.fo {S : Nat → Prop} {w W : World} {bs : List (Nat × Array Value)} (h : Fr w bs W) : Fo S w bs W := ⟨Only.of_below h.below, h.boxes⟩
theorem Fo.one {S : Nat → Prop} {w W : World} {bs : List (Nat × Array Value)} (h : Fo S w bs W) {b : Nat} {v : Value} (hb : (b, #[v]) ∈ bs) : W.cell? ⟨b, 0, none⟩ = some v ∧ W.frozen? ⟨b, 0, none⟩ = false := ⟨(h.boxes _ hb).cell 0 rfl, (h.boxes _ hb).frozen 0⟩
theorem only_off {S : Nat → Prop} {w W V : World} {B : Nat} (h : Only S w W) (hB : w.heap.size ≤ B) {row : Option Nat} (hg : W.grownBy V row) (hr : ∀ r, row = some r → B ≤ r ∧ ∃ o : Obj, W.heap[r]? = some o ∧ o.isCells = false) : Only S w V :=
  h.trans' (S' := fun k => row = some k) ⟨hg.os, hg.tape, hg.output, hg.size, fun k hk hn => hg.block k hk (fun e => hn e.symm)⟩ (fun i e => .inr (Nat.le_trans hB (hr i e).1))
theorem Fo.off {S : Nat → Prop} {w W V : World} {bs : List (Nat × Array Value)} {B : Nat} (h : Fo S w bs W) (hB : w.heap.size ≤ B) {row : Option Nat} (hg : W.grownBy V row) (hr : ∀ r, row = some r → B ≤ r ∧ ∃ o : Obj, W.heap[r]? = some o ∧ o.isCells = false) : Fo S w bs V :=
  ⟨only_off h.only hB hg hr, fun r hr' => is_off (h.boxes r hr') hg (fun q e => (hr q e).2)⟩
theorem wd_off {W V : World} {b g n c : Nat} {ws : List Nat} (h : Wd W b g n c ws) {row : Option Nat} (hg : W.grownBy V row) (hr : ∀ r, row = some r → ∃ o : Obj, W.heap[r]? = some o ∧ o.isCells = false) : Wd V b g n c ws :=
  ⟨is_off h.box hg hr, is_off h.row hg hr, h.ne, h.le, h.len, h.cnt, h.lt, h.tight⟩
/-- A word of the set is turned: the boxes lie elsewhere. -/
theorem Fo.put {S : Nat → Prop} {w W : World} {bs : List (Nat × Array Value)} (h : Fo S w bs W) {g i : Nat} {v : Value} (hg : S g) (hn : ∀ r ∈ bs, r.1 ≠ g) : Fo S w bs (W.setCell ⟨g, i, none⟩ v) :=
  ⟨h.only.setCell (p := ⟨g, i, none⟩) (.inl hg) v, fun r hr => (h.boxes r hr).other (p := ⟨g, i, none⟩) (Ne.symm (hn r hr)) v⟩
theorem Fo.drewN {S : Nat → Prop} {w W : World} {bs : List (Nat × Array Value)} (h : Fo S w bs W) (m : Nat) : Fo S w bs (W.drewN m) := ⟨h.only.drewN m, fun r hr => (h.boxes r hr).drewN m⟩
theorem Wd.drewN {W : World} {b g n c : Nat} {ws : List Nat} (h : Wd W b g n c ws) (m : Nat) : Wd (W.drewN m) b g n c ws := ⟨h.box.drewN m, h.row.drewN m, h.ne, h.le, h.len, h.cnt, h.lt, h.tight⟩
theorem Fo.drew {S : Nat → Prop} {w W : World} {bs : List (Nat × Array Value)} (h : Fo S w bs W) : Fo S w bs W.drew := ⟨h.only.drew, fun r hr => (h.boxes r hr).drew⟩
theorem Wd.drew {W : World} {b g n c : Nat} {ws : List Nat} (h : Wd W b g n c ws) : Wd W.drew b g n c ws := ⟨h.box.drew, h.row.drew, h.ne, h.le, h.len, h.cnt, h.lt, h.tight⟩
theorem SetI.only {w W : World} {p : Value} {F S : Nat → Prop} {n c : Nat} {ws : List Nat} (h : SetI w p F n c ws) (ho : Only S w W) (hs : ∀ k, S k → ¬ F k) : SetI W p F n c ws := h.keep ho (fun k hk q => hs k q hk)
def orG (n : Nat) (ws us : List Nat) (i : Nat) : Nat := ws.getD i 0 ||| (us.getD i 0 &&& fitN n i)
theorem tight_word {n : Nat} {ws : List Nat} (ht : Tight n ws) {i j : Nat} (hj : j < 64) (h : (ws.getD i 0).testBit j = true) : 64 * i + j < n := by
  apply Nat.lt_of_not_le
  intro q
  have := ht _ q
  rw [show (64 * i + j) / 64 = i by omega, show (64 * i + j) % 64 = j by omega, h] at this
  cases this
set_option maxRecDepth 100000 in
set_option maxHeartbeats 2000000 in
theorem or_wd {w : World} {b g : Nat} {p2 : Value} {F2 : Nat → Prop} {n c n2 c2 : Nat} {ws us : List Nat} (h : Wd w b g n c ws) (h2 : SetI w p2 F2 n2 c2 us) (hd : ∀ k, k = b ∨ k = g → ¬ F2 k) :
    Calls Tryd.prog 27 #[.pointer (some ⟨b, 0, none⟩), p2] w fun e w' => e = .returned (.tuple #[]) ∧ Wd w' b g n c (modW (orG n ws us) ws (upW us 0 c2)) ∧ Only (fun k => k = b ∨ k = g) w w' := by
  obtain ⟨e1, e2, e3, e4, e5, e6, ⟨q2, rfl⟩, e7⟩ := h2.facts
  have HS2 := hide h2
  have HW := hide h
  have HD := hide hd
  have hws : ∀ i, ws.getD i 0 < 18446744073709551616 := fun i => by
    rcases Nat.lt_or_ge i c with q | q
    · exact h.lt i q
    · rw [List.getD_eq_getElem?_getD, List.getElem?_eq_none (by have := h.len; omega)]; simp
  have HG : Hid (∀ i, orG n ws us i < 18446744073709551616) := hide (fun i => by
    have h1 : ws.getD i 0 < 2 ^ 64 := by have := hws i; omega
    have h2 : us.getD i 0 &&& fitN n i < 2 ^ 64 := Nat.and_lt_two_pow _ (by have := fitN_lt n i; omega)
    have := Nat.or_lt_two_pow h1 h2
    unfold orG
    omega)
  have HT : Hid (∀ k, n ≤ k → (orG n ws us (k / 64)).testBit (k % 64) = false) := hide (fun k hk => by
    unfold orG
    rw [Nat.testBit_or, Nat.testBit_and, h.tight k hk, fitN_bit n _ _ (Nat.mod_lt _ (by decide)), decide_eq_false (by omega)]
    simp)
  have HX := hide hws
  have hbl := h.box.lt
  have hgl := h.row.lt
  have hcb := h.bound
  have hnl := h.le
  have HL := hide h.len
  clear h h2 e6 e7 hd hws
  refine (callsIn_wide (n := 3)).1 ?_
  refine callsIn_of_wp_marks Tryd.func27 rfl trivial ?_ rfl
  simp only [Tryd.ntmps27, List.size_toArray, List.length_cons, List.length_nil, Nat.reduceAdd, Nat.reduceSub, Array.replicate_succ, Array.replicate_zero, List.push_toArray, List.append_toArray, List.nil_append, List.cons_append]
  gi_wp2_with (refine ⟨trivial, ?_⟩; gi_at_call 33; go_must ((with_reducible refine (callsIn_wide.2 (from_any _ _ _)).mono ?_); rintro e w9 ⟨rfl, rfl⟩))
  obtain ⟨W0, hW0⟩ : ∃ W0, W0 = ((w.alloc (.cells #[.pointer (some ⟨b, 0, none⟩)] 24)).alloc (.cells #[.pointer q2] 24)).alloc (.cells #[.int .i64 0] 3) := ⟨_, rfl⟩
  have hsz : W0.heap.size = w.heap.size + 3 := by rw [hW0]; simp
  have F0 : Fr w [(w.heap.size, #[.pointer (some ⟨b, 0, none⟩)]), (w.heap.size + 1, #[.pointer q2]), (w.heap.size + 1 + 1, #[.int .i64 0])] W0 := by
    rw [hW0]
    refine Fr.sub (((Fr.start w).push #[.pointer (some ⟨b, 0, none⟩)] _ (b := w.heap.size) rfl |>.push #[.pointer q2] _ (b := w.heap.size + 1) (by simp)).push #[.int .i64 0] _ (b := w.heap.size + 1 + 1) (by simp)) (fun r hr => ?_)
    simp only [List.mem_cons, List.not_mem_nil, or_false] at hr ⊢
    rcases hr with rfl | rfl | rfl <;> simp
  rw [← hW0]
  clear hW0
  have hst := from_still HS2.out (w.heap.size + 1) (w.heap.size + 1 + 1) 0 (fun pre W => Wd W b g n c (modW (orG n ws us) ws pre) ∧ Fo (fun k => k = b ∨ k = g) w [(w.heap.size, #[.pointer (some ⟨b, 0, none⟩)]), (w.heap.size + 1, #[.pointer q2]), (w.heap.size + 1 + 1, #[.int .i64 0])] W) (by omega) (fun pre W ⟨_, hF⟩ => ⟨(hF.one (b := w.heap.size + 1) (v := .pointer q2) (by simp)).1, (hF.one (b := w.heap.size + 1 + 1) (v := .int .i64 0) (by simp)).1, HS2.out.only hF.only HD.out⟩)
  refine range_led (n := 3) rfl (by omega) rfl trivial (enters_of Tryd.func40 (by kernel_rfl) rfl) _ (fun _ _ _ => False) hst (fun _ => rfl) ?hI (fun _ _ _ _ _ hs _ _ => hs.elim) ⟨(HW.out.below F0.below).mod (modW_nil _ _), F0.fo⟩
    (fun x => { tmps := #[.pointer (some ⟨b, 0, none⟩), .pointer q2, .pointer (some ⟨w.heap.size, 0, none⟩), undef, .int .i64 x, .int .u64 ((us.getD x.toNat 0 : Nat) : Int), .pointer q2, .func (.func 40) #[] #[.pointer (some ⟨w.heap.size + 1, 0, none⟩), .pointer (some ⟨w.heap.size + 1 + 1, 0, none⟩)], .int .i64 x, .int .u64 ((us.getD x.toNat 0 : Nat) : Int), undef, undef, undef, undef, undef, undef, undef, undef, undef, undef, undef, undef, undef, undef, undef, undef, undef], defers := [] }) ?assign ?body ?done ?stop
  case hI =>
    rintro pre A V row ⟨hk, hF⟩ hg hr
    exact ⟨wd_off hk hg (fun r e => (hr r e).2), hF.off (by omega) hg hr⟩
  case assign =>
    intro l x W K hK
    simp only [encW]
    gi_wp2
    exact hK
  case body =>
    rintro l pre x W ⟨hz, hF⟩ ⟨i, rfl, _, hi, hx, e⟩
    have hk0 := (hF.one (b := w.heap.size) (v := .pointer (some ⟨b, 0, none⟩)) (by simp)).1
    have hx2 := e5 i
    have hfl := fitN_lt n i
    have HFT := hide (fit_s (w := W) (p := .pointer (some ⟨b, 0, none⟩)) (.inr ⟨b, g, rfl, hz, rfl⟩) i (by omega))
    obtain ⟨y, hy⟩ : ∃ y, y = us.getD i 0 := ⟨_, rfl⟩
    obtain ⟨f, hf⟩ : ∃ f, f = fitN n i := ⟨_, rfl⟩
    obtain ⟨z, hz'⟩ : ∃ z, z = y &&& f := ⟨_, rfl⟩
    have HOG : Hid (orG n ws us i = ws.getD i 0 ||| z) := hide (by rw [hz', hy, hf]; rfl)
    simp only [Int.toNat_natCast]
    rw [← hy] at hx2 ⊢
    rw [← hf] at hfl HFT
    have HEA := hide (bits_and64 y f hx2 hfl)
    rw [← hz'] at HEA
    have hEA : bits .and .u64 (y : Int) (f : Int) = (z : Int) := HEA.out
    have hd : 1 ≤ 3 - 1 - 1 := by omega
    have hic : z ≠ 0 → i < c := fun h0 => by
      obtain ⟨j, hj⟩ := Nat.exists_testBit_of_ne_zero h0
      rw [hz', Nat.testBit_and, Bool.and_eq_true] at hj
      have hj64 : j < 64 := by
        apply Nat.lt_of_not_le
        intro q
        have := Nat.testBit_lt_two_pow (Nat.lt_of_lt_of_le hfl (by have := Nat.pow_le_pow_right (n := 2) (by decide) q; omega))
        rw [this] at hj
        cases hj.2
      rw [hf, fitN_bit n i j hj64, decide_eq_true_eq] at hj
      have := HW.out.cnt
      omega
    have hzl : z < 18446744073709551616 := by rw [hz']; exact Nat.lt_of_le_of_lt Nat.and_le_left hx2
    have HZ := hide hz
    have HF := hide hF
    have HNI : Hid (¬ (i : Int) ∈ pre) := hide (fun q => by rw [e] at q; obtain ⟨j, e2, _, q2, _⟩ := mem_upW.1 q; omega)
    clear hy hf hz' hz hF e HEA
    by_cases h0 : z = 0
    · subst h0
      have HE : Hid (modW (orG n ws us) ws (pre ++ [(i : Int)]) = modW (orG n ws us) ws pre) := hide (modW_same (fun _ => by rw [HOG.out]; simp))
      gi_wp2_with (refine ⟨trivial, ?_⟩; gi_at_call 30; go_must ((refine (CallsIn.inRound l (callsIn_wide.2 (Hid.out HFT))).mono ?_); rintro e w1 ⟨rfl, rfl⟩))
      exact ⟨KeepsFrom.refl _ _, HZ.out.mod HE.out, HF.out⟩
    · have h0' : ¬ (z : Int) = 0 := by omega
      have hic' := hic h0
      have hcell := HZ.out.word hic'
      have hfr := HZ.out.row.frozen i
      have h1 := HZ.out.cells.2
      rw [modW_getD (by rw [← HL.out]; exact hic'), if_neg HNI.out] at hcell
      have hxl := HX.out i
      have HE : Hid (modW (orG n ws us) ws (pre ++ [(i : Int)]) = (modW (orG n ws us) ws pre).set i (orG n ws us i)) := hide modW_set
      obtain ⟨x, hx'⟩ : ∃ x, x = ws.getD i 0 := ⟨_, rfl⟩
      obtain ⟨o, ho⟩ : ∃ o, o = x ||| z := ⟨_, rfl⟩
      rw [← hx'] at hcell hxl HOG
      have HOB := hide (bits_or64 x z hxl hzl)
      rw [← ho] at HOB HOG
      have hOB : bits .or .u64 (x : Int) (z : Int) = (o : Int) := HOB.out
      clear hx' ho HOB hic
      gi_wp2_with (refine ⟨trivial, ?_⟩; gi_at_call 30; go_must ((refine (CallsIn.inRound l (callsIn_wide.2 (Hid.out HFT))).mono ?_); rintro e w1 ⟨rfl, rfl⟩))
      refine ⟨(KeepsOthers.setCell w1 _ _).from _, ?_, HF.out.put (.inr rfl) (fun r hr => ?_)⟩
      · have := HZ.out.set (i := i) (x := orG n ws us i) (HG.out i) (by rw [← HE.out]; exact modW_tight HW.out.tight HT.out)
        rw [HOG.out] at this
        exact this.mod (by rw [HE.out, HOG.out])
      · simp only [List.mem_cons, List.not_mem_nil, or_false] at hr
        rcases hr with rfl | rfl | rfl <;> simp <;> omega
  case done =>
    rintro D xs W hD rfl ⟨hz, hF⟩ hK
    have HZ := hide hz
    have HF := hide hF
    clear hz hF
    gi_wp2
    refine ⟨by simp, .inl ⟨_, _, rfl, run_takeDeferred hK, ?_⟩⟩
    have hg := grownBy_putObj' W D (.deferred none)
    have hr : ∀ r, some D = some r → W0.heap.size ≤ r ∧ ∃ o : Obj, W.heap[r]? = some o ∧ o.isCells = false := fun r e => by cases e; exact ⟨hD, _, hK, rfl⟩
    exact ⟨_, results_none rfl _ _ _, rfl, wd_off HZ.out hg (fun r e => (hr r e).2), only_off HF.out.only (by omega) hg hr⟩
  case stop =>
    rintro D cc pre W hD _ h _
    exact h.elim
end Go.Proofs.YtbljbhgelcakdaaDoor.Bit
