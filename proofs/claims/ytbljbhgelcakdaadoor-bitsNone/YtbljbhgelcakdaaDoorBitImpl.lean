/- The program's sets keep the contracts: api, and iter. -/
import Derived.Test.YtbljbhgelcakdaaDoorBitCount
import Derived.Test.YtbljbhgelcakdaaDoorBitFull
import Derived.Test.YtbljbhgelcakdaaDoorBitAnd
import Derived.Test.YtbljbhgelcakdaaDoorBitList
import Derived.Test.YtbljbhgelcakdaaDoorBitGoes
namespace Go.Proofs.YtbljbhgelcakdaaDoor.Bit
open Go.RowKit Go.Proofs.YtbljbhgelcakdaaDoor.Dig Go.Proofs.YtbljbhgelcakdaaDoor.Mem Go.Shelf
set_option linter.unusedVariables false
set_option linter.unusedSimpArgs false
attribute [local go_sem] Oper.semAt_some

theorem and_bits {n n2 c c2 : Nat} {ws us : List Nat} (hc : c = ws.length) (hn : n ≤ 64 * c) (h2 : Tight n2 us) : bitsW n (modW (andG ws us) ws (upW ws 0 c)) = withB (bitsW n ws) (bitsW n2 us) 1 := by
  refine up_bits (c2 := c2) hc hn h2 (fun k hk => ?_) (fun k hk q => ?_)
  · unfold andG withF
    rw [if_neg (by decide), if_pos rfl, Nat.testBit_and]
  · rw [zero_up hc q]
    simp [withF]
theorem minus_bits {n n2 c c2 : Nat} {ws us : List Nat} (hc : c = ws.length) (hn : n ≤ 64 * c) (h2 : Tight n2 us) (hw : ∀ i, ws.getD i 0 < 18446744073709551616) (hu : ∀ i, us.getD i 0 < 18446744073709551616) : bitsW n (modW (minG ws us) ws (upW ws 0 c)) = withB (bitsW n ws) (bitsW n2 us) 2 := by
  refine up_bits (c2 := c2) hc hn h2 (fun k hk => ?_) (fun k hk q => ?_)
  · unfold minG withF
    rw [if_neg (by decide), if_neg (by decide), if_pos rfl, andn_bit (hw _) (hu _)]
  · rw [zero_up hc q]
    simp [withF]
theorem new_at (b : Bool) (n c : Nat) (k : Int) (hn : n = (max 0 (min k 65536)).toNat) (ws : List Nat) (e : bitsW n ws = List.replicate n b) : newB k b = bitsW n ws := by rw [e, hn]; rfl
set_option maxRecDepth 100000 in
set_option maxHeartbeats 2000000 in
/-- Into a set that is not there nothing is put. -/
theorem or_nil {w : World} {p2 : Value} {F2 : Nat → Prop} {n2 c2 : Nat} {us : List Nat} (h2 : SetI w p2 F2 n2 c2 us) :
    Calls Tryd.prog 27 #[.pointer none, p2] w fun e w' => e = .returned (.tuple #[]) ∧ Below w.heap.size w w' := by
  obtain ⟨e1, e2, e3, e4, e5, e6, ⟨q2, rfl⟩, e7⟩ := h2.facts
  have HS2 := hide h2
  clear h2 e6 e7
  refine (callsIn_wide (n := 3)).1 ?_
  refine callsIn_of_wp_marks Tryd.func27 rfl trivial ?_ rfl
  simp only [Tryd.ntmps27, List.size_toArray, List.length_cons, List.length_nil, Nat.reduceAdd, Nat.reduceSub, Array.replicate_succ, Array.replicate_zero, List.push_toArray, List.append_toArray, List.nil_append, List.cons_append]
  gi_wp2_with (refine ⟨trivial, ?_⟩; gi_at_call 33; go_must ((with_reducible refine (callsIn_wide.2 (from_any _ _ _)).mono ?_); rintro e w9 ⟨rfl, rfl⟩))
  obtain ⟨W0, hW0⟩ : ∃ W0, W0 = ((w.alloc (.cells #[.pointer none] 24)).alloc (.cells #[.pointer q2] 24)).alloc (.cells #[.int .i64 0] 3) := ⟨_, rfl⟩
  have hsz : W0.heap.size = w.heap.size + 3 := by rw [hW0]; simp
  have F0 : Fr w [(w.heap.size, #[.pointer none]), (w.heap.size + 1, #[.pointer q2]), (w.heap.size + 1 + 1, #[.int .i64 0])] W0 := by
    rw [hW0]
    refine Fr.sub (((Fr.start w).push #[.pointer none] _ (b := w.heap.size) rfl |>.push #[.pointer q2] _ (b := w.heap.size + 1) (by simp)).push #[.int .i64 0] _ (b := w.heap.size + 1 + 1) (by simp)) (fun r hr => ?_)
    simp only [List.mem_cons, List.not_mem_nil, or_false] at hr ⊢
    rcases hr with rfl | rfl | rfl <;> simp
  rw [← hW0]
  clear hW0
  have hst := from_still HS2.out (w.heap.size + 1) (w.heap.size + 1 + 1) 0 (fun pre W => Fr w [(w.heap.size, #[.pointer none]), (w.heap.size + 1, #[.pointer q2]), (w.heap.size + 1 + 1, #[.int .i64 0])] W) (by omega) (fun pre W hF => ⟨(hF.one (b := w.heap.size + 1) (v := .pointer q2) (by simp)).1, (hF.one (b := w.heap.size + 1 + 1) (v := .int .i64 0) (by simp)).1, HS2.out.below hF.below⟩)
  refine range_led (n := 3) rfl (by omega) rfl trivial (enters_of Tryd.func40 (by kernel_rfl) rfl) _ (fun _ _ _ => False) hst (fun _ => rfl) ?hI (fun _ _ _ _ _ hs _ _ => hs.elim) F0
    (fun x => { tmps := #[.pointer none, .pointer q2, .pointer (some ⟨w.heap.size, 0, none⟩), undef, .int .i64 x, .int .u64 ((us.getD x.toNat 0 : Nat) : Int), .pointer q2, .func (.func 40) #[] #[.pointer (some ⟨w.heap.size + 1, 0, none⟩), .pointer (some ⟨w.heap.size + 1 + 1, 0, none⟩)], .int .i64 x, .int .u64 ((us.getD x.toNat 0 : Nat) : Int), undef, undef, undef, undef, undef, undef, undef, undef, undef, undef, undef, undef, undef, undef, undef, undef, undef], defers := [] }) ?assign ?body ?done ?stop
  case hI =>
    rintro pre A V row hF hg hr
    exact hF.off (by omega) hg hr
  case assign =>
    intro l x W K hK
    simp only [encW]
    gi_wp2
    exact hK
  case body =>
    rintro l pre x W hF ⟨i, rfl, _, hi, hx, e⟩
    have hk0 := (hF.one (b := w.heap.size) (v := .pointer none) (by simp)).1
    have hx2 := e5 i
    have e0 : fitN 0 i = 0 := by simp [fitN]
    have HFT := hide (fit_s (w := W) (p := .pointer none) (n := 0) (.inl ⟨rfl, rfl, rfl, rfl, rfl⟩) i (by omega))
    rw [e0] at HFT
    obtain ⟨y, hy⟩ : ∃ y, y = us.getD i 0 := ⟨_, rfl⟩
    simp only [Int.toNat_natCast]
    rw [← hy] at hx2 ⊢
    have hEA : bits .and .u64 (y : Int) ((0 : Nat) : Int) = 0 := by rw [bits_and64 y 0 hx2 (by decide), Nat.and_zero]; rfl
    have hEA2 : bits .and .u64 (y : Int) 0 = 0 := hEA
    have hd : 1 ≤ 3 - 1 - 1 := by omega
    have HF := hide hF
    clear hy hF e hEA
    gi_wp2_with (refine ⟨trivial, ?_⟩; gi_at_call 30; go_must ((refine (CallsIn.inRound l (callsIn_wide.2 (Hid.out HFT))).mono ?_); rintro e w1 ⟨rfl, rfl⟩))
    exact ⟨KeepsFrom.refl _ _, HF.out⟩
  case done =>
    rintro D xs W hD rfl hF hK
    have HB := hide hF.below
    clear hF
    gi_wp2
    refine ⟨by simp, .inl ⟨_, _, rfl, run_takeDeferred hK, ?_⟩⟩
    exact ⟨_, results_none rfl _ _ _, rfl, HB.out.trans (belowK_b (w := w) (Nat.le_refl _) W D _ _ (by omega) hK rfl rfl)⟩
  case stop =>
    rintro D cc pre W hD _ h _
    exact h.elim
theorem withB_nil (m : List Bool) (how : Int) : withB [] m how = [] := rfl
theorem api : Api AtI where
  ptr h := by obtain ⟨_, q⟩ := at_len h; exact q
  lt h := by
    obtain ⟨n, c, ws, h2, rfl⟩ := h.set
    exact h2.facts.2.2.2.2.2.2.2
  len h := (at_len h).1
  keep h ho hs := h.keep ho hs
  nil w := .inl ⟨rfl, rfl, rfl⟩
  new k w hk := (new_any k w).mono fun e w' ⟨n, c, hn, he, hw, hb⟩ => ⟨_, _, he, .inr ⟨_, _, n, c, _, rfl, hw, new_at false n c k hn _ (bitsW_new _ _), rfl⟩, fun j hj => by omega, hb⟩
  full k w hk := (full_any k w).mono fun e w' ⟨n, c, hn, he, hw, hb⟩ => ⟨_, _, he, .inr ⟨_, _, n, c, _, rfl, hw, new_at true n c k hn _ (fullW_bits (by have := hw.cnt; omega)), rfl⟩, fun j hj => by omega, hb⟩
  put a ca l h hr hl hs := by
    obtain ⟨n, c, ws, h2, rfl⟩ := h.set
    exact (put_s h2 a ca l hr hl hs).mono fun e w' ⟨he, ws', h3, h4, h5⟩ => ⟨he, _, by rw [← h4]; exact h3.at, fun k hk => .inl hk, h5⟩
  drop a ca l h hr hl hs := by
    obtain ⟨n, c, ws, h2, rfl⟩ := h.set
    exact (drop_s h2 a ca l hr hl hs).mono fun e w' ⟨he, ws', h3, h4, h5⟩ => ⟨he, _, by rw [← h4]; exact h3.at, fun k hk => .inl hk, h5⟩
  or h h2 hd := by
    obtain ⟨n, c, ws, h3, rfl⟩ := h.set
    obtain ⟨n2, c2, us, h4, rfl⟩ := h2.set
    have f := h3.facts
    have g := h4.facts
    rcases h3 with ⟨rfl, rfl, rfl, rfl, rfl⟩ | ⟨b, gg, rfl, hw, rfl⟩
    · exact (or_nil h4).mono fun e w' ⟨he, hb⟩ => ⟨he, _, .inl ⟨rfl, rfl, rfl⟩, fun k hk => hk.elim, Only.of_below hb⟩
    · exact (or_wd hw h4 hd).mono fun e w' ⟨he, hw', ho⟩ => ⟨he, _, .inr ⟨b, gg, n, c, _, rfl, hw', (or_bits f.1 f.2.2.2.1 g.1 g.2.2.2.2.2.1).symm, rfl⟩, fun k hk => .inl hk, ho⟩
  and h h2 hd := by
    obtain ⟨n, c, ws, h3, rfl⟩ := h.set
    obtain ⟨n2, c2, us, h4, rfl⟩ := h2.set
    have f := h3.facts
    have g := h4.facts
    rcases h3 with ⟨rfl, rfl, rfl, rfl, rfl⟩ | ⟨b, gg, rfl, hw, rfl⟩
    · obtain ⟨q2, rfl⟩ := g.2.2.2.2.2.2.1
      exact (and_nil q2).mono fun e w' ⟨he, hb⟩ => ⟨he, _, .inl ⟨rfl, rfl, rfl⟩, fun k hk => hk.elim, Only.of_below hb⟩
    · exact (and_wd hw h4 hd).mono fun e w' ⟨he, hw', ho⟩ => ⟨he, _, .inr ⟨b, gg, n, c, _, rfl, hw', (and_bits (c2 := c2) f.1 f.2.2.2.1 g.2.2.2.2.2.1).symm, rfl⟩, fun k hk => .inl hk, ho⟩
  minus h h2 hd := by
    obtain ⟨n, c, ws, h3, rfl⟩ := h.set
    obtain ⟨n2, c2, us, h4, rfl⟩ := h2.set
    have f := h3.facts
    have g := h4.facts
    rcases h3 with ⟨rfl, rfl, rfl, rfl, rfl⟩ | ⟨b, gg, rfl, hw, rfl⟩
    · obtain ⟨q2, rfl⟩ := g.2.2.2.2.2.2.1
      exact (minus_nil q2).mono fun e w' ⟨he, hb⟩ => ⟨he, _, .inl ⟨rfl, rfl, rfl⟩, fun k hk => hk.elim, Only.of_below hb⟩
    · exact (minus_wd hw h4 hd).mono fun e w' ⟨he, hw', ho⟩ => ⟨he, _, .inr ⟨b, gg, n, c, _, rfl, hw', (minus_bits (c2 := c2) f.1 f.2.2.2.1 g.2.2.2.2.2.1 f.2.2.2.2.1 g.2.2.2.2.1).symm, rfl⟩, fun k hk => .inl hk, ho⟩
  room h := by
    obtain ⟨n, c, ws, h2, rfl⟩ := h.set
    rw [bitsW_length]
    exact (room_s h2).mono fun e w' ⟨he, hw⟩ => ⟨he, by rw [hw]; exact Below.refl _ _⟩
  count h := by
    obtain ⟨n, c, ws, h2, rfl⟩ := h.set
    exact count_s h2
  list hT h := list_any hT h
  has k hk h := by
    obtain ⟨n, c, ws, h2, rfl⟩ := h.set
    exact (has_s h2 k hk).mono fun e w' ⟨he, hw⟩ => ⟨he, by rw [hw]; exact Below.refl _ _⟩
  next k hk hT h := next_at k hk hT h
  clone h := by
    obtain ⟨n, c, ws, h2, rfl⟩ := h.set
    exact (clone_s h2).mono fun e w' ⟨b, g, c', ws', he, hw, hm, h3, h4, hb⟩ => ⟨_, _, he, .inr ⟨b, g, n, c', ws', rfl, hw, hm.symm, rfl⟩, fun k hk => by omega, hb⟩
  same h h2 := by
    obtain ⟨n, c, ws, h3, rfl⟩ := h.set
    obtain ⟨n2, c2, us, h4, rfl⟩ := h2.set
    exact same_s h3 h4
  all h := by
    obtain ⟨_, q, rfl⟩ := at_len h
    exact (all_any q _).mono fun e w' ⟨he, hw⟩ => ⟨_, he, fun W => by kernel_rfl, by rw [hw]; exact (Below.refl _ _).alloc (Nat.le_refl _) _⟩
theorem iter : IterApi AtI where
  cells h k hk := by
    obtain ⟨n, c, ws, h2, rfl⟩ := h.set
    rcases h2 with ⟨rfl, rfl, rfl, rfl, rfl⟩ | ⟨b, gg, rfl, hw, rfl⟩
    · exact hk.elim
    · rcases hk with rfl | rfl
      · obtain ⟨T, hT⟩ := hw.box
        exact ⟨_, hT, rfl⟩
      · obtain ⟨T, hT⟩ := hw.row
        exact ⟨_, hT, rfl⟩
  iter hT h := by
    obtain ⟨_, q, rfl⟩ := at_len h
    refine (all_any q _).mono fun e w' ⟨he, hw⟩ => ?_
    subst hw
    exact ⟨_, _, [(_, #[.pointer q])], he, enters_of Tryd.func37 (by kernel_rfl) rfl, fun W => by kernel_rfl, (Below.refl _ _).alloc (Nat.le_refl _) _, fun r hr => by
      obtain rfl := List.mem_singleton.1 hr
      exact ⟨Is.made _ _ _ rfl, Nat.le_refl _⟩, fun I mOf hI => allc_led _ _ I mOf (fun pre W h => by
      obtain ⟨h1, h2, F', h3⟩ := hI pre W h
      exact ⟨(h1 _ (List.mem_singleton.2 rfl)).cell 0 rfl, h2, F', h3⟩)⟩
end Go.Proofs.YtbljbhgelcakdaaDoor.Bit
