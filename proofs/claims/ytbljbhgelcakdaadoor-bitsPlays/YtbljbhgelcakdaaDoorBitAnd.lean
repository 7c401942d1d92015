/- A set is cut to another one, and made less by it. -/
import Derived.Test.YtbljbhgelcakdaaDoorBitOr
import Derived.Test.YtbljbhgelcakdaaDoorRoundQuiet
namespace Go.Proofs.YtbljbhgelcakdaaDoor.Bit
open Go.RowKit Go.Proofs.YtbljbhgelcakdaaDoor Go.Proofs.YtbljbhgelcakdaaDoor.Dig Go.Proofs.YtbljbhgelcakdaaDoor.Mem Go.Shelf
set_option linter.unusedVariables false
set_option linter.unusedSimpArgs false
attribute [local go_sem] Oper.semAt_some

def andG (ws us : List Nat) (i : Nat) : Nat := ws.getD i 0 &&& us.getD i 0
def minG (ws us : List Nat) (i : Nat) : Nat := andn (ws.getD i 0) (us.getD i 0)
set_option maxRecDepth 100000 in
set_option maxHeartbeats 2000000 in
theorem and_nil {w : World} (q2 : Option Addr) :
    Calls Tryd.prog 28 #[.pointer none, .pointer q2] w fun e w' => e = .returned (.tuple #[]) ∧ Below w.heap.size w w' := by
  refine (callsIn_wide (n := 3)).1 ?_
  refine callsIn_of_wp_marks Tryd.func28 rfl trivial ?_ rfl
  simp only [Tryd.ntmps28, List.size_toArray, List.length_cons, List.length_nil, Nat.reduceAdd, Nat.reduceSub, Array.replicate_succ, Array.replicate_zero, List.push_toArray, List.append_toArray, List.nil_append, List.cons_append]
  gi_wp2_with (refine ⟨trivial, ?_⟩; gi_at_call 33; go_must ((with_reducible refine (callsIn_wide.2 (from_any _ _ _)).mono ?_); rintro e w9 ⟨rfl, rfl⟩))
  obtain ⟨W0, hW0⟩ : ∃ W0, W0 = (((w.alloc (.cells #[.pointer none] 24)).alloc (.cells #[.pointer q2] 24)).alloc (.cells #[.pointer none] 24)).alloc (.cells #[.int .i64 0] 3) := ⟨_, rfl⟩
  have hsz : W0.heap.size = w.heap.size + 4 := by rw [hW0]; simp
  have F0 : Fr w [(w.heap.size + 1 + 1, #[.pointer none])] W0 := by
    rw [hW0]
    refine Fr.sub ((((Fr.start w).push #[.pointer none] _ (b := w.heap.size) rfl |>.push #[.pointer q2] _ (b := w.heap.size + 1) (by simp)).push #[.pointer none] _ (b := w.heap.size + 1 + 1) (by simp)).push #[.int .i64 0] _ (b := w.heap.size + 1 + 1 + 1) (by simp)) (fun r hr => ?_)
    simp only [List.mem_cons, List.not_mem_nil, or_false] at hr ⊢
    rcases hr with rfl <;> simp
  rw [← hW0]
  clear hW0
  have hst := fromc_nil (w.heap.size + 1 + 1) (w.heap.size + 1 + 1 + 1) 0 (fun pre W => Fr w [(w.heap.size + 1 + 1, #[.pointer none])] W) (fun pre W hF => (hF.one (b := w.heap.size + 1 + 1) (v := .pointer none) (by simp)).1)
  refine range_led (n := 3) rfl (by omega) rfl trivial (enters_of Tryd.func40 (by kernel_rfl) rfl) _ (fun _ _ _ => False) hst (fun _ => rfl) ?hI (fun _ _ _ _ _ hs _ _ => hs.elim) F0
    (fun x => { tmps := #[.pointer none, .pointer q2, .pointer (some ⟨w.heap.size, 0, none⟩), .pointer (some ⟨w.heap.size + 1, 0, none⟩), .int .i64 x, .int .u64 ((([] : List Nat).getD x.toNat 0 : Nat) : Int), .pointer none, .func (.func 40) #[] #[.pointer (some ⟨w.heap.size + 1 + 1, 0, none⟩), .pointer (some ⟨w.heap.size + 1 + 1 + 1, 0, none⟩)], .int .i64 x, .int .u64 ((([] : List Nat).getD x.toNat 0 : Nat) : Int), undef, undef, undef, undef, undef, undef, undef, undef, undef, undef, undef], defers := [] }) ?assign ?body ?done ?stop
  case hI =>
    rintro pre A V row hF hg hr
    exact hF.off (by omega) hg hr
  case assign =>
    intro l x W K hK
    simp only [encW]
    gi_wp2
    exact hK
  case body =>
    rintro l pre x W hF ⟨k, rfl, _, hk, _⟩
    omega
  case done =>
    rintro D xs W hD rfl hF hK
    have HB := hide hF.below
    clear hF
    gi_wp2
    refine ⟨by simp, .inl ⟨_, _, rfl, run_takeDeferred hK, ?_⟩⟩
    exact ⟨_, results_none rfl _ _ _, rfl, HB.out.trans (belowK_b (w := w) (Nat.le_refl _) W D _ _ (by omega) hK rfl rfl)⟩
  case stop =>
    rintro D cc pre W hD _ h _
    exact h.elim
set_option maxRecDepth 100000 in
set_option maxHeartbeats 4000000 in
theorem and_wd {w : World} {b g : Nat} {p2 : Value} {F2 : Nat → Prop} {n c n2 c2 : Nat} {ws us : List Nat} (h : Wd w b g n c ws) (h2 : SetI w p2 F2 n2 c2 us) (hd : ∀ k, k = b ∨ k = g → ¬ F2 k) :
    Calls Tryd.prog 28 #[.pointer (some ⟨b, 0, none⟩), p2] w fun e w' => e = .returned (.tuple #[]) ∧ Wd w' b g n c (modW (andG ws us) ws (upW ws 0 c)) ∧ Only (fun k => k = b ∨ k = g) w w' := by
  obtain ⟨e1, e2, e3, e4, e5, e6, ⟨q2, rfl⟩, e7⟩ := h2.facts
  have HS2 := hide h2
  have HW := hide h
  have HD := hide hd
  have hws : ∀ i, ws.getD i 0 < 18446744073709551616 := fun i => by
    rcases Nat.lt_or_ge i c with q | q
    · exact h.lt i q
    · rw [List.getD_eq_getElem?_getD, List.getElem?_eq_none (by have := h.len; omega)]; simp
  have HG : Hid (∀ i, andG ws us i < 18446744073709551616) := hide (fun i => Nat.lt_of_le_of_lt Nat.and_le_left (hws i))
  have HT : Hid (∀ k, n ≤ k → (andG ws us (k / 64)).testBit (k % 64) = false) := hide (fun k hk => by
    unfold andG
    rw [Nat.testBit_and, h.tight k hk, Bool.false_and])
  have HX := hide hws
  have hbl := h.box.lt
  have hgl := h.row.lt
  have hcb := h.bound
  have hnl := h.le
  have hlen := h.len
  have HL := hide h.len
  clear h h2 e6 e7 hd hws
  refine (callsIn_wide (n := 3)).1 ?_
  refine callsIn_of_wp_marks Tryd.func28 rfl trivial ?_ rfl
  simp only [Tryd.ntmps28, List.size_toArray, List.length_cons, List.length_nil, Nat.reduceAdd, Nat.reduceSub, Array.replicate_succ, Array.replicate_zero, List.push_toArray, List.append_toArray, List.nil_append, List.cons_append]
  gi_wp2_with (refine ⟨trivial, ?_⟩; gi_at_call 33; go_must ((with_reducible refine (callsIn_wide.2 (from_any _ _ _)).mono ?_); rintro e w9 ⟨rfl, rfl⟩))
  obtain ⟨W0, hW0⟩ : ∃ W0, W0 = (((w.alloc (.cells #[.pointer (some ⟨b, 0, none⟩)] 24)).alloc (.cells #[.pointer q2] 24)).alloc (.cells #[.pointer (some ⟨b, 0, none⟩)] 24)).alloc (.cells #[.int .i64 0] 3) := ⟨_, rfl⟩
  have hsz : W0.heap.size = w.heap.size + 4 := by rw [hW0]; simp
  have F0 : Fr w [(w.heap.size, #[.pointer (some ⟨b, 0, none⟩)]), (w.heap.size + 1, #[.pointer q2]), (w.heap.size + 1 + 1, #[.pointer (some ⟨b, 0, none⟩)]), (w.heap.size + 1 + 1 + 1, #[.int .i64 0])] W0 := by
    rw [hW0]
    refine Fr.sub ((((Fr.start w).push #[.pointer (some ⟨b, 0, none⟩)] _ (b := w.heap.size) rfl |>.push #[.pointer q2] _ (b := w.heap.size + 1) (by simp)).push #[.pointer (some ⟨b, 0, none⟩)] _ (b := w.heap.size + 1 + 1) (by simp)).push #[.int .i64 0] _ (b := w.heap.size + 1 + 1 + 1) (by simp)) (fun r hr => ?_)
    simp only [List.mem_cons, List.not_mem_nil, or_false] at hr ⊢
    rcases hr with rfl | rfl | rfl | rfl <;> simp
  rw [← hW0]
  clear hW0
  have hst := from_led (.pointer (some ⟨b, 0, none⟩)) (w.heap.size + 1 + 1) (w.heap.size + 1 + 1 + 1) c 0 ws (fun pre W => Wd W b g n c (modW (andG ws us) ws pre) ∧ Fo (fun k => k = b ∨ k = g) w [(w.heap.size, #[.pointer (some ⟨b, 0, none⟩)]), (w.heap.size + 1, #[.pointer q2]), (w.heap.size + 1 + 1, #[.pointer (some ⟨b, 0, none⟩)]), (w.heap.size + 1 + 1 + 1, #[.int .i64 0])] W) hlen hcb (by omega) (fun pre W ⟨_, hF⟩ => ⟨(hF.one (b := w.heap.size + 1 + 1) (v := .pointer (some ⟨b, 0, none⟩)) (by simp)).1, (hF.one (b := w.heap.size + 1 + 1 + 1) (v := .int .i64 0) (by simp)).1⟩)
    (.inr ⟨b, g, rfl, fun pre W ⟨hz, _⟩ => ⟨hz.cells.2, fun k e _ hk => by
      have hcell := hz.word hk
      rw [modW_getD (by rw [← hlen]; exact hk), if_neg (fun q => by rw [e] at q; obtain ⟨j, e2, _, q2, _⟩ := mem_upW.1 q; omega)] at hcell
      exact hcell⟩⟩)
  refine range_led (n := 3) rfl (by omega) rfl trivial (enters_of Tryd.func40 (by kernel_rfl) rfl) _ (fun _ _ _ => False) hst (fun _ => rfl) ?hI (fun _ _ _ _ _ hs _ _ => hs.elim) ⟨(HW.out.below F0.below).mod (modW_nil _ _), F0.fo⟩
    (fun x => { tmps := #[.pointer (some ⟨b, 0, none⟩), .pointer q2, .pointer (some ⟨w.heap.size, 0, none⟩), .pointer (some ⟨w.heap.size + 1, 0, none⟩), .int .i64 x, .int .u64 ((ws.getD x.toNat 0 : Nat) : Int), .pointer (some ⟨b, 0, none⟩), .func (.func 40) #[] #[.pointer (some ⟨w.heap.size + 1 + 1, 0, none⟩), .pointer (some ⟨w.heap.size + 1 + 1 + 1, 0, none⟩)], .int .i64 x, .int .u64 ((ws.getD x.toNat 0 : Nat) : Int), undef, undef, undef, undef, undef, undef, undef, undef, undef, undef, undef], defers := [] }) ?assign ?body ?done ?stop
  case hI =>
    rintro pre A V row ⟨hk, hF⟩ hg hr
    exact ⟨wd_off hk hg (fun r e => (hr r e).2), hF.off (by omega) hg hr⟩
  case assign =>
    intro l x W K hK
    simp only [encW]
    gi_wp2
    exact hK
  case body =>
    rintro l pre x W ⟨hz, hF⟩ ⟨i, rfl, _, hi, hx, e⟩
    have hk0 := (hF.one (b := w.heap.size) (v := .pointer (some ⟨b, 0, none⟩)) (by simp)).1
    have hk1 := (hF.one (b := w.heap.size + 1) (v := .pointer q2) (by simp)).1
    have hcell := hz.word hi
    have hfr := hz.row.frozen i
    have h1 := hz.cells.2
    rw [modW_getD (by rw [← hlen]; exact hi), if_neg (fun q => by rw [e] at q; obtain ⟨j, e2, _, q2, _⟩ := mem_upW.1 q; omega)] at hcell
    have hxl := HX.out i
    have hul := e5 i
    have HE : Hid (modW (andG ws us) ws (pre ++ [(i : Int)]) = (modW (andG ws us) ws pre).set i (andG ws us i)) := hide modW_set
    obtain ⟨x, hx'⟩ : ∃ x, x = ws.getD i 0 := ⟨_, rfl⟩
    obtain ⟨u, hu⟩ : ∃ u, u = us.getD i 0 := ⟨_, rfl⟩
    obtain ⟨o, ho⟩ : ∃ o, o = andG ws us i := ⟨_, rfl⟩
    have HWD : Hid (∀ W', Below W.heap.size W W' → Calls Tryd.prog 35 #[.pointer q2, .int .i64 (i : Int)] W' fun e w' => e = .returned (.int .u64 (u : Int)) ∧ w' = W') := hide (fun W' hb => by rw [hu]; exact word_s ((HS2.out.only hF.only HD.out).below hb) i (by omega))
    simp only [Int.toNat_natCast]
    rw [← hx'] at hcell hxl ⊢
    rw [← hu] at hul
    have HOB : Hid (bits .and .u64 (x : Int) (u : Int) = (o : Int)) := hide (by rw [bits_and64 x u hxl hul, ho, hx', hu]; rfl)
    have hOB : bits .and .u64 (x : Int) (u : Int) = (o : Int) := HOB.out
    have hd : 1 ≤ 3 - 1 - 1 := by omega
    have hmx : Tryd.prog.follows .mixedOrders = true := by kernel_rfl
    have HZ := hide hz
    have HF := hide hF
    have HO := hide ho
    clear hx' hu ho HOB hz hF e
    gi_wp2
    refine Round.wpIn_round_store (F := Fence.wide) (k := 11) hmx rfl rfl rfl (by kernel_rfl) (by kernel_rfl) (by kernel_rfl) (by kernel_rfl) ?_
    simp only [List.set]

    repeat (first | (gi_big_quiet_step (fail)) | (refine BigFrame.wpQuietIn_want (fun _ _ _ _ => trivial) rfl ?_; intro K hK; gi_big_quiet_op; gi_big_quiet_call ((gi_at_call 35; refine CallsIn.quiet_of_same (callsIn_wide.2 (HWD.out _ ⟨rfl, rfl, rfl, Nat.le_refl _, fun _ _ => rfl⟩))))))
    refine Round.wpQuietIn_last ?_
    rintro w' ⟨nq, rfl⟩
    refine wpOpIn_step rfl (fun K hK => ?_)
    go_simp
    refine hK _ _ ?_
    clear hK K
    refine ⟨⟨by simp [World.setCell], fun j o _ hj ho => ((KeepsOthers.setCell (W.drewN nq) _ _).from 0).same _ _ (Nat.zero_le _) hj ho⟩, ?_, (HF.out.drewN nq).put (.inr rfl) (fun r hr => ?_)⟩
    · have := (HZ.out.drewN nq).set (i := i) (x := andG ws us i) (HG.out i) (by rw [← HE.out]; exact modW_tight HW.out.tight HT.out)
      rw [← HO.out] at this
      exact this.mod (by rw [HE.out, HO.out])
    · simp only [List.mem_cons, List.not_mem_nil, or_false] at hr
      rcases hr with rfl | rfl | rfl | rfl <;> simp <;> omega
  case done =>
    rintro D xs W hD rfl ⟨hz, hF⟩ hK
    have HZ := hide hz
    have HF := hide hF
    clear hz hF
    gi_wp2
    refine ⟨by simp, .inl ⟨_, _, rfl, run_takeDeferred hK, ?_⟩⟩
    have hg := grownBy_putObj' W D (.deferred none)
    have hr : ∀ r, some D = some r → W0.heap.size ≤ r ∧ ∃ o : Obj, W.heap[r]? = some o ∧ o.isCells = false := fun r e => by cases e; exact ⟨hD, _, hK, rfl⟩
    exact ⟨_, results_none rfl _ _ _, rfl, wd_off HZ.out hg (fun r e => (hr r e).2), only_off HF.out.only (by omega) hg hr⟩
  case stop =>
    rintro D cc pre W hD _ h _
    exact h.elim
set_option maxRecDepth 100000 in
set_option maxHeartbeats 2000000 in
theorem minus_nil {w : World} (q2 : Option Addr) :
    Calls Tryd.prog 29 #[.pointer none, .pointer q2] w fun e w' => e = .returned (.tuple #[]) ∧ Below w.heap.size w w' := by
  refine (callsIn_wide (n := 3)).1 ?_
  refine callsIn_of_wp_marks Tryd.func29 rfl trivial ?_ rfl
  simp only [Tryd.ntmps29, List.size_toArray, List.length_cons, List.length_nil, Nat.reduceAdd, Nat.reduceSub, Array.replicate_succ, Array.replicate_zero, List.push_toArray, List.append_toArray, List.nil_append, List.cons_append]
  gi_wp2_with (refine ⟨trivial, ?_⟩; gi_at_call 33; go_must ((with_reducible refine (callsIn_wide.2 (from_any _ _ _)).mono ?_); rintro e w9 ⟨rfl, rfl⟩))
  obtain ⟨W0, hW0⟩ : ∃ W0, W0 = (((w.alloc (.cells #[.pointer none] 24)).alloc (.cells #[.pointer q2] 24)).alloc (.cells #[.pointer none] 24)).alloc (.cells #[.int .i64 0] 3) := ⟨_, rfl⟩
  have hsz : W0.heap.size = w.heap.size + 4 := by rw [hW0]; simp
  have F0 : Fr w [(w.heap.size + 1 + 1, #[.pointer none])] W0 := by
    rw [hW0]
    refine Fr.sub ((((Fr.start w).push #[.pointer none] _ (b := w.heap.size) rfl |>.push #[.pointer q2] _ (b := w.heap.size + 1) (by simp)).push #[.pointer none] _ (b := w.heap.size + 1 + 1) (by simp)).push #[.int .i64 0] _ (b := w.heap.size + 1 + 1 + 1) (by simp)) (fun r hr => ?_)
    simp only [List.mem_cons, List.not_mem_nil, or_false] at hr ⊢
    rcases hr with rfl <;> simp
  rw [← hW0]
  clear hW0
  have hst := fromc_nil (w.heap.size + 1 + 1) (w.heap.size + 1 + 1 + 1) 0 (fun pre W => Fr w [(w.heap.size + 1 + 1, #[.pointer none])] W) (fun pre W hF => (hF.one (b := w.heap.size + 1 + 1) (v := .pointer none) (by simp)).1)
  refine range_led (n := 3) rfl (by omega) rfl trivial (enters_of Tryd.func40 (by kernel_rfl) rfl) _ (fun _ _ _ => False) hst (fun _ => rfl) ?hI (fun _ _ _ _ _ hs _ _ => hs.elim) F0
    (fun x => { tmps := #[.pointer none, .pointer q2, .pointer (some ⟨w.heap.size, 0, none⟩), .pointer (some ⟨w.heap.size + 1, 0, none⟩), .int .i64 x, .int .u64 ((([] : List Nat).getD x.toNat 0 : Nat) : Int), .pointer none, .func (.func 40) #[] #[.pointer (some ⟨w.heap.size + 1 + 1, 0, none⟩), .pointer (some ⟨w.heap.size + 1 + 1 + 1, 0, none⟩)], .int .i64 x, .int .u64 ((([] : List Nat).getD x.toNat 0 : Nat) : Int), undef, undef, undef, undef, undef, undef, undef, undef, undef, undef, undef], defers := [] }) ?assign ?body ?done ?stop
  case hI =>
    rintro pre A V row hF hg hr
    exact hF.off (by omega) hg hr
  case assign =>
    intro l x W K hK
    simp only [encW]
    gi_wp2
    exact hK
  case body =>
    rintro l pre x W hF ⟨k, rfl, _, hk, _⟩
    omega
  case done =>
    rintro D xs W hD rfl hF hK
    have HB := hide hF.below
    clear hF
    gi_wp2
    refine ⟨by simp, .inl ⟨_, _, rfl, run_takeDeferred hK, ?_⟩⟩
    exact ⟨_, results_none rfl _ _ _, rfl, HB.out.trans (belowK_b (w := w) (Nat.le_refl _) W D _ _ (by omega) hK rfl rfl)⟩
  case stop =>
    rintro D cc pre W hD _ h _
    exact h.elim
set_option maxRecDepth 100000 in
set_option maxHeartbeats 4000000 in
theorem minus_wd {w : World} {b g : Nat} {p2 : Value} {F2 : Nat → Prop} {n c n2 c2 : Nat} {ws us : List Nat} (h : Wd w b g n c ws) (h2 : SetI w p2 F2 n2 c2 us) (hd : ∀ k, k = b ∨ k = g → ¬ F2 k) :
    Calls Tryd.prog 29 #[.pointer (some ⟨b, 0, none⟩), p2] w fun e w' => e = .returned (.tuple #[]) ∧ Wd w' b g n c (modW (minG ws us) ws (upW ws 0 c)) ∧ Only (fun k => k = b ∨ k = g) w w' := by
  obtain ⟨e1, e2, e3, e4, e5, e6, ⟨q2, rfl⟩, e7⟩ := h2.facts
  have HS2 := hide h2
  have HW := hide h
  have HD := hide hd
  have hws : ∀ i, ws.getD i 0 < 18446744073709551616 := fun i => by
    rcases Nat.lt_or_ge i c with q | q
    · exact h.lt i q
    · rw [List.getD_eq_getElem?_getD, List.getElem?_eq_none (by have := h.len; omega)]; simp
  have HG : Hid (∀ i, minG ws us i < 18446744073709551616) := hide (fun i => Nat.lt_of_le_of_lt Nat.and_le_left (hws i))
  have HT : Hid (∀ k, n ≤ k → (minG ws us (k / 64)).testBit (k % 64) = false) := hide (fun k hk => by
    unfold minG
    rw [andn_bit (hws _) (e5 _), h.tight k hk, Bool.false_and])
  have HX := hide hws
  have hbl := h.box.lt
  have hgl := h.row.lt
  have hcb := h.bound
  have hnl := h.le
  have hlen := h.len
  have HL := hide h.len
  clear h h2 e6 e7 hd hws
  refine (callsIn_wide (n := 3)).1 ?_
  refine callsIn_of_wp_marks Tryd.func29 rfl trivial ?_ rfl
  simp only [Tryd.ntmps29, List.size_toArray, List.length_cons, List.length_nil, Nat.reduceAdd, Nat.reduceSub, Array.replicate_succ, Array.replicate_zero, List.push_toArray, List.append_toArray, List.nil_append, List.cons_append]
  gi_wp2_with (refine ⟨trivial, ?_⟩; gi_at_call 33; go_must ((with_reducible refine (callsIn_wide.2 (from_any _ _ _)).mono ?_); rintro e w9 ⟨rfl, rfl⟩))
  obtain ⟨W0, hW0⟩ : ∃ W0, W0 = (((w.alloc (.cells #[.pointer (some ⟨b, 0, none⟩)] 24)).alloc (.cells #[.pointer q2] 24)).alloc (.cells #[.pointer (some ⟨b, 0, none⟩)] 24)).alloc (.cells #[.int .i64 0] 3) := ⟨_, rfl⟩
  have hsz : W0.heap.size = w.heap.size + 4 := by rw [hW0]; simp
  have F0 : Fr w [(w.heap.size, #[.pointer (some ⟨b, 0, none⟩)]), (w.heap.size + 1, #[.pointer q2]), (w.heap.size + 1 + 1, #[.pointer (some ⟨b, 0, none⟩)]), (w.heap.size + 1 + 1 + 1, #[.int .i64 0])] W0 := by
    rw [hW0]
    refine Fr.sub ((((Fr.start w).push #[.pointer (some ⟨b, 0, none⟩)] _ (b := w.heap.size) rfl |>.push #[.pointer q2] _ (b := w.heap.size + 1) (by simp)).push #[.pointer (some ⟨b, 0, none⟩)] _ (b := w.heap.size + 1 + 1) (by simp)).push #[.int .i64 0] _ (b := w.heap.size + 1 + 1 + 1) (by simp)) (fun r hr => ?_)
    simp only [List.mem_cons, List.not_mem_nil, or_false] at hr ⊢
    rcases hr with rfl | rfl | rfl | rfl <;> simp
  rw [← hW0]
  clear hW0
  have hst := from_led (.pointer (some ⟨b, 0, none⟩)) (w.heap.size + 1 + 1) (w.heap.size + 1 + 1 + 1) c 0 ws (fun pre W => Wd W b g n c (modW (minG ws us) ws pre) ∧ Fo (fun k => k = b ∨ k = g) w [(w.heap.size, #[.pointer (some ⟨b, 0, none⟩)]), (w.heap.size + 1, #[.pointer q2]), (w.heap.size + 1 + 1, #[.pointer (some ⟨b, 0, none⟩)]), (w.heap.size + 1 + 1 + 1, #[.int .i64 0])] W) hlen hcb (by omega) (fun pre W ⟨_, hF⟩ => ⟨(hF.one (b := w.heap.size + 1 + 1) (v := .pointer (some ⟨b, 0, none⟩)) (by simp)).1, (hF.one (b := w.heap.size + 1 + 1 + 1) (v := .int .i64 0) (by simp)).1⟩)
    (.inr ⟨b, g, rfl, fun pre W ⟨hz, _⟩ => ⟨hz.cells.2, fun k e _ hk => by
      have hcell := hz.word hk
      rw [modW_getD (by rw [← hlen]; exact hk), if_neg (fun q => by rw [e] at q; obtain ⟨j, e2, _, q2, _⟩ := mem_upW.1 q; omega)] at hcell
      exact hcell⟩⟩)
  refine range_led (n := 3) rfl (by omega) rfl trivial (enters_of Tryd.func40 (by kernel_rfl) rfl) _ (fun _ _ _ => False) hst (fun _ => rfl) ?hI (fun _ _ _ _ _ hs _ _ => hs.elim) ⟨(HW.out.below F0.below).mod (modW_nil _ _), F0.fo⟩
    (fun x => { tmps := #[.pointer (some ⟨b, 0, none⟩), .pointer q2, .pointer (some ⟨w.heap.size, 0, none⟩), .pointer (some ⟨w.heap.size + 1, 0, none⟩), .int .i64 x, .int .u64 ((ws.getD x.toNat 0 : Nat) : Int), .pointer (some ⟨b, 0, none⟩), .func (.func 40) #[] #[.pointer (some ⟨w.heap.size + 1 + 1, 0, none⟩), .pointer (some ⟨w.heap.size + 1 + 1 + 1, 0, none⟩)], .int .i64 x, .int .u64 ((ws.getD x.toNat 0 : Nat) : Int), undef, undef, undef, undef, undef, undef, undef, undef, undef, undef, undef], defers := [] }) ?assign ?body ?done ?stop
  case hI =>
    rintro pre A V row ⟨hk, hF⟩ hg hr
    exact ⟨wd_off hk hg (fun r e => (hr r e).2), hF.off (by omega) hg hr⟩
  case assign =>
    intro l x W K hK
    simp only [encW]
    gi_wp2
    exact hK
  case body =>
    rintro l pre x W ⟨hz, hF⟩ ⟨i, rfl, _, hi, hx, e⟩
    have hk0 := (hF.one (b := w.heap.size) (v := .pointer (some ⟨b, 0, none⟩)) (by simp)).1
    have hk1 := (hF.one (b := w.heap.size + 1) (v := .pointer q2) (by simp)).1
    have hcell := hz.word hi
    have hfr := hz.row.frozen i
    have h1 := hz.cells.2
    rw [modW_getD (by rw [← hlen]; exact hi), if_neg (fun q => by rw [e] at q; obtain ⟨j, e2, _, q2, _⟩ := mem_upW.1 q; omega)] at hcell
    have hxl := HX.out i
    have hul := e5 i
    have HE : Hid (modW (minG ws us) ws (pre ++ [(i : Int)]) = (modW (minG ws us) ws pre).set i (minG ws us i)) := hide modW_set
    obtain ⟨x, hx'⟩ : ∃ x, x = ws.getD i 0 := ⟨_, rfl⟩
    obtain ⟨u, hu⟩ : ∃ u, u = us.getD i 0 := ⟨_, rfl⟩
    obtain ⟨o, ho⟩ : ∃ o, o = minG ws us i := ⟨_, rfl⟩
    have HWD : Hid (∀ W', Below W.heap.size W W' → Calls Tryd.prog 35 #[.pointer q2, .int .i64 (i : Int)] W' fun e w' => e = .returned (.int .u64 (u : Int)) ∧ w' = W') := hide (fun W' hb => by rw [hu]; exact word_s ((HS2.out.only hF.only HD.out).below hb) i (by omega))
    simp only [Int.toNat_natCast]
    rw [← hx'] at hcell hxl ⊢
    rw [← hu] at hul
    have HOB : Hid (bits .andNot .u64 (x : Int) (u : Int) = (o : Int)) := hide (by rw [bits_andn hxl hul, ho, hx', hu]; rfl)
    have hOB : bits .andNot .u64 (x : Int) (u : Int) = (o : Int) := HOB.out
    have hd : 1 ≤ 3 - 1 - 1 := by omega
    have hmx : Tryd.prog.follows .mixedOrders = true := by kernel_rfl
    have HZ := hide hz
    have HF := hide hF
    have HO := hide ho
    clear hx' hu ho HOB hz hF e
    gi_wp2
    refine Round.wpIn_round_store (F := Fence.wide) (k := 11) hmx rfl rfl rfl (by kernel_rfl) (by kernel_rfl) (by kernel_rfl) (by kernel_rfl) ?_
    simp only [List.set]

    repeat (first | (gi_big_quiet_step (fail)) | (refine BigFrame.wpQuietIn_want (fun _ _ _ _ => trivial) rfl ?_; intro K hK; gi_big_quiet_op; gi_big_quiet_call ((gi_at_call 35; refine CallsIn.quiet_of_same (callsIn_wide.2 (HWD.out _ ⟨rfl, rfl, rfl, Nat.le_refl _, fun _ _ => rfl⟩))))))
    refine Round.wpQuietIn_last ?_
    rintro w' ⟨nq, rfl⟩
    refine wpOpIn_step rfl (fun K hK => ?_)
    go_simp
    refine hK _ _ ?_
    clear hK K
    refine ⟨⟨by simp [World.setCell], fun j o _ hj ho => ((KeepsOthers.setCell (W.drewN nq) _ _).from 0).same _ _ (Nat.zero_le _) hj ho⟩, ?_, (HF.out.drewN nq).put (.inr rfl) (fun r hr => ?_)⟩
    · have := (HZ.out.drewN nq).set (i := i) (x := minG ws us i) (HG.out i) (by rw [← HE.out]; exact modW_tight HW.out.tight HT.out)
      rw [← HO.out] at this
      exact this.mod (by rw [HE.out, HO.out])
    · simp only [List.mem_cons, List.not_mem_nil, or_false] at hr
      rcases hr with rfl | rfl | rfl | rfl <;> simp <;> omega
  case done =>
    rintro D xs W hD rfl ⟨hz, hF⟩ hK
    have HZ := hide hz
    have HF := hide hF
    clear hz hF
    gi_wp2
    refine ⟨by simp, .inl ⟨_, _, rfl, run_takeDeferred hK, ?_⟩⟩
    have hg := grownBy_putObj' W D (.deferred none)
    have hr : ∀ r, some D = some r → W0.heap.size ≤ r ∧ ∃ o : Obj, W.heap[r]? = some o ∧ o.isCells = false := fun r e => by cases e; exact ⟨hD, _, hK, rfl⟩
    exact ⟨_, results_none rfl _ _ _, rfl, wd_off HZ.out hg (fun r e => (hr r e).2), only_off HF.out.only (by omega) hg hr⟩
  case stop =>
    rintro D cc pre W hD _ h _
    exact h.elim
end Go.Proofs.YtbljbhgelcakdaaDoor.Bit
