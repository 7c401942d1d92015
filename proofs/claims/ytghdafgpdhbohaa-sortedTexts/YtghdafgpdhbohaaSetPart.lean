/- What of a set is in another one, or is not. -/
import Derived.Test.YtghdafgpdhbohaaSetIter
import Derived.Test.YtghdafgpdhbohaaSetBox
namespace Go.Proofs.Ytghdafgpdhbohaa.Sets
open Go.RowKit Go.Proofs.Ytghdafgpdhbohaa.Dig Go.Proofs.Ytghdafgpdhbohaa.Mem Go.Shelf
set_option linter.unusedVariables false
set_option linter.unusedSimpArgs false
attribute [local go_sem] Oper.semAt_some

def partL (t : List Int) (inn : Bool) (s : List Int) : List Int := s.filter fun x => decide (x ∈ t) == inn
theorem partL_hit {t : List Int} {inn : Bool} (pre : List Int) {x : Int} (h : (decide (x ∈ t) == inn) = true) : partL t inn (pre ++ [x]) = partL t inn pre ++ [x] := by simp only [partL, List.filter_append, List.filter_cons, h, if_true, List.filter_nil]
theorem partL_miss {t : List Int} {inn : Bool} (pre : List Int) {x : Int} (h : (decide (x ∈ t) == inn) = false) : partL t inn (pre ++ [x]) = partL t inn pre := by simp [partL, h]
theorem partL_le (t : List Int) (inn : Bool) (s : List Int) : (partL t inn s).length ≤ s.length := List.length_filter_le _ _
/-- Behind a region that drew: the world may be whatever has kept what was there. -/
theorem gen_world {K : Act → World → Prop} {Q : Exit → Act → World → Prop} {a : Act} {W W2 : World} (hb : Below W.heap.size W W2) (h : ∀ W2, Below W.heap.size W W2 → Exit.then K Q .normal a W2) : Exit.then K Q .normal a W2 := h _ hb
/-- A row that is owned, read. -/
theorem rowv_of_own {w : World} {base : Nat} {a : Option Addr} {n c : Nat} {l : List Int} (h : w.ownsRow base 3 1 (.slice a n c) l.length (l.map (Value.int .i64))) (hl : l.length ≤ 1000000) (hw : ∀ n ∈ l, (Lit.int .i64 n).wf = true) : n = l.length ∧ RowV w a c l := by
  obtain ⟨a', c', e, hr⟩ := own_rowv h (by omega) hw
  injection e with e1 e2 e3
  subst e1; subst e2; subst e3
  exact ⟨rfl, hr⟩
theorem own_form {w : World} {base e : TypeId} {v : Value} {n : Nat} {xs : List Value} (h : w.ownsRow base e 1 v n xs) : ∃ a c, v = .slice a n c := by
  rcases h.2 with ⟨rfl, h0⟩ | ⟨g, cap, cur, rfl, _⟩
  · have : n = 0 := by omega
    exact ⟨none, 0, by rw [this]⟩
  · exact ⟨_, _, rfl⟩
theorem fresh_own {w : World} {base e : TypeId} {a : Option Addr} {n m c : Nat} {xs : List Value} (h : w.ownsRow base e 1 (.slice a n c) n xs) : FreshV base (.agg #[.slice a m c]) := fun b o sp n' c' q _ => by
  injection q with q
  simp at q
  obtain ⟨rfl, rfl, rfl⟩ := q
  exact (World.ownsRow.lt h b rfl).1
def PB (w : World) (a2 : Option Addr) (m c2 : Nat) (inn : Bool) : List (Nat × TypeId × Value) := [(w.heap.size + 1, 25, .slice a2 m c2), (w.heap.size + 2, 4, .bool inn), (w.heap.size + 3, 25, .slice none 0 0)]
set_option maxRecDepth 100000 in
set_option maxHeartbeats 2000000 in
theorem part_any (v tv : Value) (s t : List Int) (inn : Bool) (w : World) (h : SetV w v s) (ht : SetV w tv t) (hs : s.length ≤ 500000) (htl : t.length ≤ 500000) (hrt : Rising ltI t) :
    Calls Try.prog 35 #[v, tv, .bool inn] w fun e w' => ∃ v', e = .returned v' ∧ SetV w' v' (partL t inn s) ∧ FreshV w.heap.size v' ∧ Below w.heap.size w w' := by
  have HS := hide h
  have HT := hide ht
  obtain ⟨a, c, rfl, hr⟩ := h
  obtain ⟨a2, c2, rfl, hr2⟩ := ht
  have HW := hide hr.wf
  obtain ⟨i0, hi, hz0, hz1, hz2⟩ := info_parts Try.infoSetInt
  obtain ⟨n, hn⟩ : ∃ n, n = s.length := ⟨_, rfl⟩
  obtain ⟨m, hm⟩ : ∃ m, m = t.length := ⟨_, rfl⟩
  rw [← hn, ← hm]
  rw [← hn] at HS hs
  rw [← hm] at HT
  have hblk : ∀ b off, a = some ⟨b, off, none⟩ → 0 < s.length → b < w.heap.size := fun b off e hp => by
    obtain ⟨b', off', e', hc⟩ := hr.at hp
    rw [e] at e'
    cases e'
    exact lt_of_cell hc
  refine (callsIn_wide (n := 3)).1 ?_
  refine callsIn_of_wp_marks Try.func35 rfl trivial ?_ rfl
  simp only [Try.ntmps35, List.size_toArray, List.length_cons, List.length_nil, Nat.reduceAdd, Nat.reduceSub, Array.replicate_succ, Array.replicate_zero, List.push_toArray, List.append_toArray, List.nil_append, List.cons_append]
  have HN := hide hn
  have HM := hide hm
  have HR := hide hr
  have HB := hide hblk
  have HRT := hide hrt
  have HTL := hide htl
  clear hn hm hr hr2 hblk hrt htl
  gi_wp2_with (refine ⟨trivial, ?_⟩; gi_at_call 22; go_must ((with_reducible refine (callsIn_wide.2 (all_at _ _ _ _)).mono ?_); rintro e w9 ⟨B, hB9, rfl, hc9, hb9⟩; have HC9 := hide hc9; have HB9 := hide hb9; have HBB := hide hB9; clear hc9 hb9 hB9))
  obtain ⟨w5, hw5⟩ : ∃ w5, w5 = ((((w.alloc (.cells #[.slice a n c] 25)).alloc (.cells #[.slice a2 m c2] 25)).alloc (.cells #[.bool inn] 4)).alloc (.cells #[.slice none 0 0] 25)).alloc (.cells #[.slice none 0 0] 22) := ⟨_, rfl⟩
  have hbw : Below w.heap.size w w5 := by rw [hw5]; exact (((((Below.refl _ _).alloc (Nat.le_refl _) _).alloc (by simp) _).alloc (by simp; omega) _).alloc (by simp; omega) _).alloc (by simp; omega) _
  have hsz : w5.heap.size = w.heap.size + 5 := by rw [hw5]; simp
  have L0 : LI 3 22 (Value.int .i64) w (PB w a2 m c2 inn) (w.heap.size + 4) (.slice none 0 0) (partL t inn []) w5 := by
    have b1 := (((Boxed.new (w.alloc (.cells #[.slice a n c] 25)) 25 (.slice a2 m c2)).alloc (.cells #[.bool inn] 4)).alloc (.cells #[.slice none 0 0] 25)).alloc (.cells #[.slice none 0 0] 22)
    have b2 := ((Boxed.new ((w.alloc (.cells #[.slice a n c] 25)).alloc (.cells #[.slice a2 m c2] 25)) 4 (.bool inn)).alloc (.cells #[.slice none 0 0] 25)).alloc (.cells #[.slice none 0 0] 22)
    have b3 := (Boxed.new (((w.alloc (.cells #[.slice a n c] 25)).alloc (.cells #[.slice a2 m c2] 25)).alloc (.cells #[.bool inn] 4)) 25 (.slice none 0 0)).alloc (.cells #[.slice none 0 0] 22)
    have b4 := Boxed.new ((((w.alloc (.cells #[.slice a n c] 25)).alloc (.cells #[.slice a2 m c2] 25)).alloc (.cells #[.bool inn] 4)).alloc (.cells #[.slice none 0 0] 25)) 22 (.slice none 0 0)
    simp only [World.size_alloc] at b1 b2 b3 b4
    rw [← hw5] at b1 b2 b3 b4
    refine ⟨fun p hp => ?_, b4, World.ownsRow_nil _ _ _ _, by decide, by omega, hbw⟩
    simp only [PB, List.mem_cons, List.not_mem_nil, or_false] at hp
    rcases hp with rfl | rfl | rfl
    · exact ⟨b1, show (25 : Nat) ≠ 3 by decide, by simp⟩
    · exact ⟨b2, show (4 : Nat) ≠ 3 by decide, by simp⟩
    · exact ⟨b3, show (25 : Nat) ≠ 3 by decide, by simp⟩
  rw [← hw5] at HB9 HBB
  have L9 := hide (L0.keep HB9.out)
  have hB5 := HBB.out
  have hIt : IterV w9 (.func (.func 49) #[] #[.pointer (some ⟨B, 0, none⟩)]) B s := ⟨rfl, a, c, by rw [HN.out] at HC9; exact HC9.out, (HR.out.keep hbw).keep HB9.out⟩
  have hS9 : w5.heap.size ≤ w9.heap.size := HB9.out.size
  have hst := vals_stops Fence.wide (3 - 1) trivial rfl (by omega) B w.heap.size _ s (by rw [← HN.out]; omega) w9 hIt (by omega) (fun b off ⟨c', hc'⟩ hp => HB.out b off (by
    have := HC9.out
    rw [hc'] at this
    cases this
    rfl) hp)
  clear hIt L0 hbw
  have HST := hide hst
  clear hst
  refine wpIn_rangeFunc_ownG rfl (by omega) (gf := 49) (lb := #[.pointer (some ⟨B, 0, none⟩)]) rfl trivial (enters_of Try.func49 (by kernel_rfl) rfl) HST.out belowK_t (belowK_b (by omega)) (Below.refl _ _) (fun _ => rfl)
    (fun pre W => ∃ v, LI 3 22 (Value.int .i64) w (PB w a2 m c2 inn) (w.heap.size + 4) v (partL t inn pre) W)
    (fun _ _ _ => False)
    (fun pre W W' row hs hg hr => by obtain ⟨v, hv⟩ := hs; exact ⟨v, hv.turn (by omega) hg hr⟩)
    (fun _ _ _ _ _ hs _ _ => hs)
    ⟨_, L9.out⟩
    (fun x => { tmps := #[.agg #[.slice a n c], .agg #[.slice a2 m c2], .bool inn, .pointer (some ⟨w.heap.size, 0, none⟩), .pointer (some ⟨w.heap.size + 1, 0, none⟩), .pointer (some ⟨w.heap.size + 2, 0, none⟩), .pointer (some ⟨w.heap.size + 3, 0, none⟩), .pointer (some ⟨w.heap.size + 4, 0, none⟩), .int .i64 x, .agg #[.slice a n c], .func (.func 49) #[] #[.pointer (some ⟨B, 0, none⟩)], .int .i64 x, undef, undef, undef, undef, undef, undef, undef, undef, undef, undef, undef], defers := [] }) ?assign ?body ?done ?stop
  case assign =>
    intro l x W K hK
    gi_wp2
    exact hK
  case body =>
    rintro l pre x W ⟨v, hL⟩ hlt
    have c4 := (hL.boxes (w.heap.size + 1, 25, .slice a2 m c2) (by simp [PB])).1.cell
    have c5 := (hL.boxes (w.heap.size + 2, 4, .bool inn) (by simp [PB])).1.cell
    have HL := hide hL
    have HTW := hide (HT.out.keep hL.below)
    have hpl := partL_le t inn pre
    obtain ⟨k, hk⟩ : ∃ k, k = (partL t inn pre).length := ⟨_, rfl⟩
    have HK : Hid (k = (partL t inn pre).length) := hk
    have HK2 : Hid (k < 500000) := hide (by have := HN.out; omega)
    obtain ⟨q, hq⟩ : ∃ q, Hid (decide (x ∈ t) = q) := ⟨_, rfl⟩
    have hd : 1 ≤ 3 - 1 - 1 := by omega
    have hmx : Try.prog.follows .mixedOrders = true := by kernel_rfl
    clear hL hpl hk hlt
    by_cases hqi : (q == inn) = true
    · have HP : Hid (partL t inn (pre ++ [x]) = partL t inn pre ++ [x]) := partL_hit pre (by rw [hq.out]; exact hqi)
      gi_wp2
      gi_region_with_o (refine ⟨trivial, ?_⟩; gi_at_call 19; go_must ((refine (CallsIn.inRound l (callsIn_wide.2 (has_any _ t x _ (HTW.out.keep (by repeat (first | exact Below.refl _ _ | apply Below.drew))) (by have := HTL.out; omega) HRT.out))).mono ?_); rw [hq.out]; rintro e w1 ⟨rfl, hb1⟩; have hb2 : Below W.heap.size W w1 := Below.trans (by repeat (first | exact Below.refl _ _ | apply Below.drew)) hb1; have HB2 := hide hb2; have c51 := (boxed_below (HL.out.boxes (w.heap.size + 2, 4, .bool inn) (by simp [PB])).1 hb2).cell; clear hb1 hb2))
      all_goals (refine gen_world (W := W) (by repeat (first | exact HB2.out | apply Below.drew)) ?_; clear HB2 c51; clear w1; intro W2 hb2)
      all_goals
        have hL2 := HL.out.keep hb2
        have HL2 := hide hL2
        have HBW := hide hb2
        have hc := hL2.box.cell
        have hrow := hL2.own
        rw [← HK.out] at hrow
        have hsz2 := hL2.below.size
        clear hL2 hb2 c4 c5
        gi_wp2_with (gi_at_builtin; refine wpListIn_append_own _ rfl _ _ 22 rfl w.heap.size 3 i0 (.int .i64 0) 1 8 Try.underlying22 hi hz0 hz1 hz2 rfl (by decide) _ _ _ rfl (hrow.alloc _) ⟨W2.heap.size, 0, none⟩ 1 1 [.int .i64 x] rfl rfl (cell_one_new _ _ _) (by simp [Value.oneCell']) (by have := HK2.out; unfold maxLen; omega) (by have := HK2.out; omega) (by simp; omega) ?_; intro v' w3 hown' hgrow _; obtain ⟨g', cap', rfl⟩ := ownsRow_succ hown'; obtain ⟨hv1, hL3, hk3, hb3⟩ := HL2.out.push (l' := partL t inn pre ++ [x]) hown' (by rw [List.length_append, ← HK.out]; rfl) (by simp) hgrow; have hc1 := hv1.cell; have hf1 := hv1.frozen; have HL3 := hide hL3; have HK3 := hide hk3; have HB3 := hide hb3; clear hL3 hk3 hb3 hown' hgrow hv1)
        exact ⟨(keepsFrom_below _ HBW.out).trans (HK3.out.from _), (HBW.out.mono (by have := HL.out.below.size; omega)).trans HB3.out, _, by rw [HP.out]; exact HL3.out⟩
    · have hqi2 : (q == inn) = false := by simpa using hqi
      have HP : Hid (partL t inn (pre ++ [x]) = partL t inn pre) := partL_miss pre (by rw [hq.out]; exact hqi2)
      clear hqi
      gi_wp2
      gi_region_with_o (refine ⟨trivial, ?_⟩; gi_at_call 19; go_must ((refine (CallsIn.inRound l (callsIn_wide.2 (has_any _ t x _ (HTW.out.keep (by repeat (first | exact Below.refl _ _ | apply Below.drew))) (by have := HTL.out; omega) HRT.out))).mono ?_); rw [hq.out]; rintro e w1 ⟨rfl, hb1⟩; have hb2 : Below W.heap.size W w1 := Below.trans (by repeat (first | exact Below.refl _ _ | apply Below.drew)) hb1; have HB2 := hide hb2; have c51 := (boxed_below (HL.out.boxes (w.heap.size + 2, 4, .bool inn) (by simp [PB])).1 hb2).cell; clear hb1 hb2))
      all_goals (refine gen_world (W := W) (by repeat (first | exact HB2.out | apply Below.drew)) ?_; clear HB2 c51; clear w1; intro W2 hb2)
      all_goals
        have hL2 := HL.out.keep hb2
        have HL2 := hide hL2
        have HBW := hide hb2
        clear hL2 hb2 c4 c5
        gi_wp2
        exact ⟨keepsFrom_below _ HBW.out, HBW.out.mono HL.out.below.size, _, by rw [HP.out]; exact HL2.out⟩
  case done =>
    rintro D ys W hD rfl ⟨v, hL⟩ hK
    have hsz2 := hL.below.size
    obtain ⟨a4, c4, rfl⟩ := own_form hL.own
    have h6 := (hL.boxes (w.heap.size + 3, 25, .slice none 0 0) (by simp [PB])).1
    have h6c := h6.cell
    have h6f := h6.frozen
    have h7c := hL.box.cell
    have HL := hide hL
    obtain ⟨k, hk⟩ : ∃ k, k = (partL t inn ys).length := ⟨_, rfl⟩
    rw [← hk] at h7c
    have HK := hide hk
    clear hL hk h6
    gi_wp2
    have hK' := (KeepsOthers.setCell W ⟨w.heap.size + 3, 0, none⟩ (.slice a4 k c4)).same D _ hK rfl
    refine ⟨by simp, .inl ⟨_, _, rfl, run_takeDeferred hK', ?_⟩⟩
    have hcell := World.cell?_setCell_same' W ⟨w.heap.size + 3, 0, none⟩ (.slice a4 k c4) (by rw [h6c]; rfl)
    have hc5 := cell_kept hcell (grownBy_putObj' _ D (.deferred none)) (fun r e => by cases e; exact ⟨_, hK', rfl⟩)
    have h6 := HL.out.boxes (w.heap.size + 3, 25, .slice none 0 0) (by simp [PB])
    have hown := ownsRow_putObj (HL.out.own.kept (grownBy_setCell' W (w.heap.size + 3) (.slice a4 k c4)) (.inr (h6.1.not_row h6.2.1 HL.out.own).symm)) (.deferred none) hK' rfl
    have hrow := (rowv_of_own hown (by have := partL_le t inn ys; have := HN.out; omega) (fun z hz => HW.out z (List.mem_filter.1 hz).1)).2
    exact ⟨.agg #[.slice a4 k c4], by simp [results, Try.f35, go_sem, hc5], _, rfl, ⟨a4, c4, by rw [HK.out], hrow⟩, (by rw [HK.out]; exact fresh_own hown), (HL.out.below.setCell (p := ⟨w.heap.size + 3, 0, none⟩) (by simp) _).trans (belowK_b (w := w) (Nat.le_refl _) _ D _ _ (by omega) hK' rfl rfl)⟩
  case stop =>
    rintro D c pre W _ _ h _
    exact h.elim
end Go.Proofs.Ytghdafgpdhbohaa.Sets
