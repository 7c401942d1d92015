/- Joined out of the texts TabMake, TabView, in that order. -/
import Derived.Test.YtkinmllflodhaaaGreatAll11
import Derived.Test.YtkinmllflodhaaaGreatAll12
import Derived.Test.YtkinmllflodhaaaGreatAll9
import Derived.Sort.CutIn
import Derived.Deep.RegionHeld3
/- New. -/
namespace Go.Proofs.YtkinmllflodhaaaGreat.Tab
open Go.RowKit Go.Proofs.YtkinmllflodhaaaGreat.Dig Go.Proofs.YtkinmllflodhaaaGreat.Mem Go.Proofs.YtkinmllflodhaaaGreat.Hist Go.Proofs.YtkinmllflodhaaaGreat.Own Go.Proofs.YtkinmllflodhaaaGreat.Thing Go.Proofs.YtkinmllflodhaaaGreat.Sets Go.Shelf Go.Proofs.YtkinmllflodhaaaGreat.Keys
set_option linter.unusedVariables false
set_option linter.unusedSimpArgs false
attribute [local go_sem] Oper.semAt_some

/-- Four new maps are a table of nothing. -/
theorem tab0 (w : World) (base : Nat) (hb : base ≤ w.heap.size) : TabAt base ⟨w.heap.size, w.heap.size + 1, w.heap.size + 2, w.heap.size + 3, fun _ => none, fun _ => none, fun _ => [], fun _ => none⟩ (tb []) 0 ((((w.alloc (.map #[] 0)).alloc (.map #[] 0)).alloc (.map #[] 0)).alloc (.map #[] 0)) := by
  rw [tb_nil]
  exact {
    n01 := by show w.heap.size ≠ w.heap.size + 1; omega
    n02 := by show w.heap.size ≠ w.heap.size + 2; omega
    n03 := by show w.heap.size ≠ w.heap.size + 3; omega
    n12 := by show w.heap.size + 1 ≠ w.heap.size + 2; omega
    n13 := by show w.heap.size + 1 ≠ w.heap.size + 3; omega
    n23 := by show w.heap.size + 2 ≠ w.heap.size + 3; omega
    m0 := (((MapAt.made w rfl).keep (Only.of_below (S := fun _ => False) ((((Below.refl _ _).alloc (Nat.le_refl _) _).alloc (by simp) _).alloc (by simp) _)) (fun q => q)))
    m1 := (MapAt.made (w.alloc (.map #[] 0)) (by simp)).keep (Only.of_below (S := fun _ => False) (((Below.refl _ _).alloc (Nat.le_refl _) _).alloc (by simp) _)) (fun q => q)
    m2 := (MapAt.made ((w.alloc (.map #[] 0)).alloc (.map #[] 0)) (by simp)).keep (Only.of_below (S := fun _ => False) ((Below.refl _ _).alloc (Nat.le_refl _) _)) (fun q => q)
    m3 := MapAt.made (((w.alloc (.map #[] 0)).alloc (.map #[] 0)).alloc (.map #[] 0)) (by simp)
    ra := fun p => World.ownsRow_nil _ _ _ _
    aw := fun p x hx => by simp at hx
    rr := fun p => World.ownsRow_nil _ _ _ _
    rs := fun k => AllAt.nil _
    rw := fun p => World.ownsRow_nil _ _ _ _
    da := fun p q _ => .inl rfl
    dr := fun p q _ => .inl rfl
    dw := fun p q _ => .inl rfl
    la := fun p => Nat.le_refl _
    lr := fun p => Nat.le_refl _
    lw := fun p => Nat.le_refl _ }
theorem tab0F (w : World) : ∀ k, (⟨w.heap.size, w.heap.size + 1, w.heap.size + 2, w.heap.size + 3, fun _ => none, fun _ => none, fun _ => [], fun _ => none⟩ : TD).F k → w.heap.size ≤ k := by
  rintro k (e | e | e | e | ⟨p, e⟩ | ⟨p, e⟩ | ⟨p, e⟩ | ⟨j, c, hc, _⟩)
  · exact Nat.le_of_eq e.symm
  · rw [show k = w.heap.size + 1 from e]; omega
  · rw [show k = w.heap.size + 2 from e]; omega
  · rw [show k = w.heap.size + 3 from e]; omega
  · cases e
  · cases e
  · cases e
  · simp at hc
/-- Blocks that are kept as they are. -/
def rgT (lo hi : Nat) : Th where
  P w := hi ≤ w.heap.size
  F k := lo ≤ k ∧ k < hi
  keep h ho hs := Nat.le_trans h ho.size
  lt h k hk := Nat.lt_of_lt_of_le hk.2 h
/-- What New hands back: a table's box, and what lies behind it. -/
structure Made (w : World) (bT : Nat) (ts : List TxnM) (w' : World) : Prop where
  ex : ∃ (d : TD) (us : List TxnM) (n : Nat) (ia : Option Addr) (ic : Nat) (ka : Option Addr) (kc : Nat), Ord ts us ∧ TabAt w.heap.size d (tb (flat us)) n w' ∧ Is w' bT (tabBox (.slice ia (idsOf us).length ic) (.slice ka (docKeys ts).length kc) d) ∧ RowV w' ia ic (idsOf us) ∧ RowV w' ka kc (docKeys ts) ∧ n ≤ 100000
  below : Below w.heap.size w w'
  ge : w.heap.size ≤ bT
theorem rowv_only {w w' : World} {a : Option Addr} {c : Nat} {l : List Int} {S : Nat → Prop} (h : RowV w a c l) (ho : Only S w w') (hs : ∀ b i u, w.cell? ⟨b, i, none⟩ = some (.int .i64 u) → ¬ S b) : RowV w' a c l :=
  ⟨h.cap, ⟨h.rd.1, fun i hi => by
    obtain ⟨b, off, e, hc, hw⟩ := h.rd.2 i hi
    exact ⟨b, off, e, ho.cell hc (hs b _ _ hc), hw⟩⟩, h.nil⟩
theorem box_noint {w : World} {b i : Nat} {u : Int} {i0 i1 : Value} {d : TD} (h : Is w b (tabBox i0 i1 d)) (h0 : ∀ n, i0 ≠ .int .i64 n) (h1 : ∀ n, i1 ≠ .int .i64 n) : w.cell? ⟨b, i, none⟩ ≠ some (.int .i64 u) := fun hc => by
  obtain ⟨T, hT⟩ := h
  simp only [World.cell?, hT, tabBox] at hc
  match i, hc with
  | 0, hc => simp at hc; exact h0 _ hc
  | 1, hc => simp at hc; exact h1 _ hc
  | 2, hc => simp at hc
  | 3, hc => simp at hc
  | 4, hc => simp at hc
  | 5, hc => simp at hc
  | i + 6, hc => simp at hc
def FewT (ts : List TxnM) : Prop := ts.length ≤ 1000 ∧ opsN ts ≤ 1000 ∧ Lists 10000 ts
set_option maxRecDepth 100000 in
set_option maxHeartbeats 4000000 in
theorem new_any (tv : Value) (ts : List TxnM) (w : World) (h : TxnsAt (fun b => b < w.heap.size) w tv ts) (hf : Few4 ts) (hf2 : FewT ts) :
    Calls Tryz.prog 8 #[.agg #[tv]] w fun e w' => (checkS ts ≠ 0 ∧ e = .returned (.tuple #[.pointer none, .int .i64 (checkS ts)]) ∧ Below w.heap.size w w') ∨ (checkS ts = 0 ∧ ∃ bT, e = .returned (.tuple #[.pointer (some ⟨bT, 0, none⟩), .int .i64 0]) ∧ Made w bT ts w') := by
  obtain ⟨a, c, rfl, _, _⟩ := h.shape
  obtain ⟨ln, hln⟩ : ∃ ln, ln = ts.length := ⟨_, rfl⟩
  rw [← hln] at h ⊢
  have HLN := hide hln
  have HH := hide h
  have HF := hide hf
  have HF2 := hide hf2
  obtain ⟨ec, hec⟩ : ∃ ec, ec = checkS ts := ⟨_, rfl⟩
  have HEC := hide hec
  rw [← hec]
  clear h hf hf2 hln hec
  refine (callsIn_wide (n := 3)).1 ?_
  refine callsIn_of_wp_marks Tryz.func8 rfl trivial ?_ rfl
  simp only [Tryz.ntmps8, List.size_toArray, List.length_cons, List.length_nil, Nat.reduceAdd, Nat.reduceSub, Array.replicate_succ, Array.replicate_zero, List.push_toArray, List.append_toArray, List.nil_append, List.cons_append]
  obtain ⟨w1, hw1⟩ : ∃ w1, w1 = w.alloc (.cells #[.slice a ln c] 24) := ⟨_, rfl⟩
  have hB1 : Below w.heap.size w w1 := by rw [hw1]; exact (Below.refl _ _).alloc (Nat.le_refl _) _
  have hX1 : Is w1 w.heap.size #[.slice a ln c] := by rw [hw1]; exact Is.made w _ _ rfl
  have HCK : Hid (Calls Tryz.prog 34 #[.agg #[.slice a ln c]] w1 fun e w' => e = .returned (.int .i64 ec) ∧ Below w1.heap.size w1 w') := by
    have := check_any (fun b => b < w.heap.size) (.slice a ln c) ts w1 (HH.out.only (Only.of_below (S := fun _ => False) hB1) (fun _ _ q => q)) (fun b q => by have := hB1.size; omega) HF.out
    rw [← HEC.out] at this
    exact this
  have HB1 := hide hB1
  have HX1 := hide hX1
  have hmm := @run_makeMap Tryz.prog
  subst hw1
  clear hB1 hX1
  by_cases h0 : ec = 0
  · subst h0
    have HIO : Hid (∀ W, Below w.heap.size w W → Calls Tryz.prog 35 #[.slice a ln c] W fun e w' => ∃ (va : Option Addr) (vn vc : Nat) (us : List TxnM), e = .returned (.slice va vn vc) ∧ Hid (vn = us.length ∧ us.Perm ts ∧ us.Pairwise (fun a b => a.id ≤ b.id) ∧ TxnsAt (fun b => b < w.heap.size ∨ W.heap.size ≤ b) w' (.slice va vn vc) us ∧ Below W.heap.size W w')) := hide fun W hW => by
      refine (inorder_any (.slice a ln c) ts w W HH.out (by have := HF2.out.1; omega) hW).mono ?_
      rintro e w' ⟨v, us, rfl, h1, h2, h3, h4⟩
      obtain ⟨va, vc, rfl, _, _⟩ := h3.shape
      exact ⟨va, _, vc, us, rfl, rfl, h1, h2, h3, h4⟩
    gi_upto_region 5 with (refine ⟨trivial, ?_⟩; gi_at_call 34; go_must ((with_reducible refine (callsIn_wide.2 (Hid.out HCK)).mono ?_); rintro e w9 ⟨rfl, hb9⟩; have HB9 := hide hb9; have x9 : w9.cell? ⟨w.heap.size, 0, none⟩ = some (.slice a ln c) := (HX1.out.below hb9).cell 0 rfl; have hz9 := hb9.size; have hz1 := HX1.out.lt; have hn9 : w.heap.size < w9.heap.size := (by omega); clear hb9))
    obtain ⟨bT, hbT⟩ : ∃ bT, bT = w9.heap.size + 1 + 1 + 1 + 1 := ⟨_, rfl⟩
    rw [← hbT]
    obtain ⟨w10, hw10⟩ : ∃ w10, w10 = ((((((w9.alloc (.map #[] 0)).alloc (.map #[] 0)).alloc (.map #[] 0)).alloc (.map #[] 0)).alloc (.cells #[.slice none 0 0, .slice none 0 0, .map (some w9.heap.size), .map (some (w9.heap.size + 1)), .map (some (w9.heap.size + 1 + 1)), .map (some (w9.heap.size + 1 + 1 + 1))] 80)).alloc (.cells #[.pointer (some ⟨bT, 0, none⟩)] 28)) := ⟨_, rfl⟩
    obtain ⟨d0, hd0⟩ : ∃ d0 : TD, d0 = ⟨w9.heap.size, w9.heap.size + 1, w9.heap.size + 2, w9.heap.size + 3, fun _ => none, fun _ => none, fun _ => [], fun _ => none⟩ := ⟨_, rfl⟩
    rw [← hw10]
    have hb9 : Below w.heap.size w w9 := HB1.out.trans (HB9.out.mono HB1.out.size)
    have hK10 : Kn w [boxT (bT + 1) #[.pointer (some ⟨bT, 0, none⟩)], boxT bT (tabBox (.slice none 0 0) (.slice none 0 0) d0), tabT w.heap.size d0 (tb []) 0, boxT w.heap.size #[.slice a ln c]] w10 := by
      have h1 : Kn w [boxT w.heap.size #[.slice a ln c]] w9 := ((Kn.start w).more hb9 (t' := boxT w.heap.size #[.slice a ln c]) (HX1.out.below HB9.out) (fun k hk => by cases hk; exact Nat.le_refl _))
      have h2 : Kn w [tabT w.heap.size d0 (tb []) 0, boxT w.heap.size #[.slice a ln c]] ((((w9.alloc (.map #[] 0)).alloc (.map #[] 0)).alloc (.map #[] 0)).alloc (.map #[] 0)) :=
        h1.more (t' := tabT w.heap.size d0 (tb []) 0) (((((Below.refl _ _).alloc (Nat.le_refl _) _).alloc (by simp) _).alloc (by simp; omega) _).alloc (by simp; omega) _) (by rw [hd0]; exact tab0 w9 w.heap.size (by omega)) (by rw [hd0]; exact tab0F w9)
      have h3 := box0 (g := bT) h2 (tabBox (.slice none 0 0) (.slice none 0 0) d0) 80 (by rw [hbT]; simp)
      have h4 := box0 (g := bT + 1) h3 #[.pointer (some ⟨bT, 0, none⟩)] 28 (by rw [hbT]; simp)
      rw [hw10]
      have e : tabBox (.slice none 0 0) (.slice none 0 0) d0 = #[.slice none 0 0, .slice none 0 0, .map (some w9.heap.size), .map (some (w9.heap.size + 1)), .map (some (w9.heap.size + 1 + 1)), .map (some (w9.heap.size + 1 + 1 + 1))] := by rw [hd0]; rfl
      rw [e] at h4
      rw [e]
      exact h4
    have hz10 := hK10.below.size
    have hm0 : d0.b0 < bT ∧ d0.b1 < bT ∧ d0.b2 < bT ∧ d0.b3 < bT := by rw [hd0, hbT]; exact ⟨by show w9.heap.size < _; omega, by show w9.heap.size + 1 < _; omega, by show w9.heap.size + 2 < _; omega, by show w9.heap.size + 3 < _; omega⟩
    have HK10 := hide hK10
    have HM0 := hide hm0
    have h10 : w10.cell? ⟨w.heap.size, 0, none⟩ = some (.slice a ln c) := (show Is w10 w.heap.size #[.slice a ln c] from Knget (pre := [_, _, _]) hK10).cell 0 rfl
    have hbT9 : w9.heap.size < bT := by omega
    clear hw10 hd0 hK10 hm0 x9 hbT
    gi_upto_region 6 with (refine ⟨trivial, ?_⟩; gi_at_call 35; go_must ((with_reducible refine (callsIn_wide.2 (Hid.out HIO _ HK10.out.below)).mono ?_); rintro e w11 ⟨va, vn, vc, us, rfl, hR⟩; have HR := hide hR.out; have HK11 := hide (HK10.out.more HR.out.2.2.2.2 (t' := rgT w10.heap.size w11.heap.size) (Nat.le_refl _) (fun k hk => hk.1)); clear hR))
    refine wpIn_wide.2 ?_
    refine wp_region_noPanic ?_
    have p11 : w11.cell? ⟨bT + 1, 0, none⟩ = some (.pointer (some ⟨bT, 0, none⟩)) := (show Is w11 (bT + 1) #[.pointer (some ⟨bT, 0, none⟩)] from Knget (pre := [_]) HK11.out).cell 0 rfl
    obtain ⟨WD, hWD⟩ : ∃ WD, WD = w11.drew := ⟨_, rfl⟩
    have hBD : Below w11.heap.size w11 WD := by rw [hWD]; exact (Below.refl _ _).drew
    have HCM : Hid (Calls Tryz.prog 36 #[.slice va vn vc] WD fun e w' => ∃ (ia : Option Addr) (ic : Nat), e = .returned (.slice ia (idsOf us).length ic) ∧ Hid (w'.ownsRow WD.heap.size 3 1 (.slice ia (idsOf us).length ic) (idsOf us).length ((idsOf us).map (Value.int .i64)) ∧ Below WD.heap.size WD w')) := by
      have hul : us.length ≤ 100000 := by have := HR.out.2.1.length_eq; have := HF2.out.1; omega
      refine (commit_any (.slice va vn vc) us WD ((HR.out.2.2.2.1.lt.only (Only.of_below (S := fun _ => False) hBD) (fun _ _ q => q)).mono fun b q => by have := hBD.size; omega) hul).mono ?_
      rintro e w' ⟨v, rfl, h1, h2⟩
      obtain ⟨ia, ic, rfl⟩ := Own.own_form h1
      exact ⟨ia, ic, rfl, h1, h2⟩
    have HKD := hide (HK11.out.keep hBD)
    have HBD := hide hBD
    have pD : WD.cell? ⟨bT + 1, 0, none⟩ = some (.pointer (some ⟨bT, 0, none⟩)) := (show Is WD (bT + 1) #[.pointer (some ⟨bT, 0, none⟩)] from Knget (pre := [_]) HKD.out).cell 0 rfl
    refine Last.region_last (k := 5) (S := fun w' : World => w'.cell? ⟨bT + 1, 0, none⟩ = some (.pointer (some ⟨bT, 0, none⟩))) (by kernel_rfl) rfl rfl (by kernel_rfl) (by kernel_rfl) ?_
    rw [← hWD]
    clear hWD hBD p11 h10 HCK HIO hmm
    refine wpAnyH_take (i := 0) (v := ?_) rfl (by kernel_rfl) (by kernel_rfl) (by kernel_rfl) (fun _ _ _ h => h) (Or.inl ⟨by rfl, ?_⟩) (by assumption) ?_
    rotate_left
    · (intro w hSw; (try dsimp only at hSw); go_simp; try with_reducible rfl)
    try simp only [List.getElem_toArray, List.getElem_cons_succ, List.getElem_cons_zero, Act.put, List.setIfInBounds_toArray, List.set_cons_zero, List.set_cons_succ]
    refine wpAnyH_take (i := 1) (v := ?_) rfl (by kernel_rfl) (by kernel_rfl) (by kernel_rfl) (fun _ _ _ h => h) (Or.inl ⟨by rfl, ?_⟩) (by assumption) ?_
    rotate_left
    · (intro w hSw; (try dsimp only at hSw); go_simp; try with_reducible rfl)
    try simp only [List.getElem_toArray, List.getElem_cons_succ, List.getElem_cons_zero, Act.put, List.setIfInBounds_toArray, List.set_cons_zero, List.set_cons_succ]
    refine wpAnyH_ready (rs := [2]) (by kernel_rfl) (by simp) ?_
    refine AllReadyH.cons (by rfl) (fun KK hKK => ?_) AllReadyH.nil
    simp only [List.getElem_toArray, List.getElem_cons_succ, List.getElem_cons_zero]
    go_simp
    go_at_call 36
    (with_reducible refine (Hid.out HCM).mono ?_)
    rintro e w12 ⟨ia, ic, rfl, hC⟩
    obtain ⟨il, hil⟩ : ∃ il, il = (idsOf us).length := ⟨_, rfl⟩
    rw [← hil] at hC ⊢
    have HC := hide hC.out
    have HIL := hide hil
    have HK12 := hide (HKD.out.more HC.out.2 (t' := ownN WD.heap.size 3 1 (.slice ia il ic) il ((idsOf us).map (Value.int .i64))) HC.out.1 (fun k hk => (World.ownsRow.lt HC.out.1 k hk).1))
    have p12 : w12.cell? ⟨bT + 1, 0, none⟩ = some (.pointer (some ⟨bT, 0, none⟩)) := (show Is w12 (bT + 1) #[.pointer (some ⟨bT, 0, none⟩)] from Knget (pre := [_, _]) HK12.out).cell 0 rfl
    clear hC hil
    refine hKK.out _ _ p12 (fun hH2 => ?_)
    clear hKK KK
    try simp only [List.getElem_toArray, List.getElem_cons_succ, List.getElem_cons_zero, Act.put, List.setIfInBounds_toArray, List.set_cons_zero, List.set_cons_succ]
    refine wpAnyH_take (i := 3) (v := ?_) rfl (by kernel_rfl) (by kernel_rfl) (by kernel_rfl) (fun _ _ _ h => h) (Or.inl ⟨by rfl, ?_⟩) (by assumption) ?_
    rotate_left
    · (intro w hSw; (try dsimp only at hSw); go_simp; try with_reducible rfl)
    try simp only [List.getElem_toArray, List.getElem_cons_succ, List.getElem_cons_zero, Act.put, List.setIfInBounds_toArray, List.set_cons_zero, List.set_cons_succ]
    refine wpAnyH_take (i := 4) (v := ?_) rfl (by kernel_rfl) (by kernel_rfl) (by kernel_rfl) (fun _ _ _ h => h) (Or.inl ⟨by rfl, ?_⟩) (by assumption) ?_
    rotate_left
    · (intro w hSw; (try dsimp only at hSw); go_simp; try with_reducible rfl)
    try simp only [List.getElem_toArray, List.getElem_cons_succ, List.getElem_cons_zero, Act.put, List.setIfInBounds_toArray, List.set_cons_zero, List.set_cons_succ]
    have t12 : w12.cell? ⟨bT, 0, none⟩ = some (.slice none 0 0) := (show Is w12 bT (tabBox (.slice none 0 0) (.slice none 0 0) d0) from Knget (pre := [_, _, _]) HK12.out).cell 0 rfl
    have tf12 := (show Is w12 bT (tabBox (.slice none 0 0) (.slice none 0 0) d0) from Knget (pre := [_, _, _]) HK12.out).frozen 0
    refine wpAnyH_done (by kernel_rfl) ?_ _
    refine Last.done_last ?_
    refine wpOp_step rfl (fun KK hKK => ?_)
    simp only [List.getElem_toArray, List.getElem_cons_succ, List.getElem_cons_zero]
    go_simp
    refine hKK _ _ ?_
    clear hKK
    go_simp
    refine NoPanic.normal ?_
    gi_upto_region 7 with fail
    have HK13 := hide (putBox (pre := [_, _, _]) HK12.out 0 (.slice ia il ic) (cs' := tabBox (.slice ia il ic) (.slice none 0 0) d0) rfl (Knget (pre := [_, _, _]) HK12.out))
    have HO13 := hide (show Only (fun k => k = bT) w11 (w12.setCell ⟨bT, 0, none⟩ (.slice ia il ic)) from Only.setCell (S := fun k => k = bT) ((Only.of_below HBD.out).trans (Only.of_below HC.out.2)) (p := ⟨bT, 0, none⟩) (.inl rfl) _)
    generalize (w12.setCell ⟨bT, 0, none⟩ (.slice ia il ic)) = w13 at HK13 HO13 ⊢
    clear t12 tf12 p12 hH2 pD
    obtain ⟨bK, hbK⟩ : ∃ bK, bK = w13.heap.size := ⟨_, rfl⟩
    gi_wp2_with (refine ⟨trivial, ?_⟩; gi_at_call 37; go_must ((with_reducible refine (callsIn_wide.2 (opsf_any _ _ _ _)).mono ?_); rintro e wq ⟨rfl, rfl⟩))
    obtain ⟨w15, hw15⟩ : ∃ w15, w15 = (w13.alloc (.cells #[.slice none 0 0] 36)).alloc (.cells #[.slice va vn vc] 22) := ⟨_, rfl⟩
    rw [← hw15]
    have HK15 : Hid (Kn w [boxT (bK + 1) #[.slice va vn vc], boxT bK #[.slice none 0 0], ownN w.heap.size 3 1 (.slice none 0 0) 0 [], ownN WD.heap.size 3 1 (.slice ia il ic) il ((idsOf us).map (Value.int .i64)), rgT w10.heap.size w11.heap.size, boxT (bT + 1) #[.pointer (some ⟨bT, 0, none⟩)], boxT bT (tabBox (.slice ia il ic) (.slice none 0 0) d0), tabT w.heap.size d0 (tb []) 0, boxT w.heap.size #[.slice a ln c]] w15) := by
      rw [hw15]
      exact box0 (box0 (ownNil HK13.out w.heap.size 3 1) #[.slice none 0 0] 36 hbK) #[.slice va vn vc] 22 (by rw [hbK]; simp)
    have hz15 : bK + 1 < w15.heap.size := (show Is w15 (bK + 1) #[.slice va vn vc] from HK15.out.hd).lt
    obtain ⟨FF, hFF⟩ : ∃ FF : Nat → Prop, FF = fun b => (b < w.heap.size ∨ w10.heap.size ≤ b) ∧ b < w11.heap.size := ⟨_, rfl⟩
    have HFF := hide hFF
    have hTX : Hid (TxnsAt FF w11 (.slice va vn vc) us) := hide (by rw [hFF]; exact HR.out.2.2.2.1.lt)
    rw [← hbK]
    have hd0b : d0.b0 < bT ∧ d0.b1 < bT ∧ d0.b2 < bT ∧ d0.b3 < bT := HM0.out
    have hbTl : bT < w15.heap.size := (show Is w15 bT (tabBox (.slice ia il ic) (.slice none 0 0) d0) from Knget (pre := [_, _, _, _, _, _]) HK15.out).lt
    have h1115 : w11.heap.size ≤ w15.heap.size := by have := HBD.out.size; have := HC.out.2.size; have h := (show w11.heap.size ≤ w15.heap.size from (show (rgT w10.heap.size w11.heap.size).P w15 from Knget (pre := [_, _, _, _]) HK15.out)); exact h
    have hFl : ∀ k, FF k → k < w11.heap.size := fun k hk => by rw [HFF.out] at hk; exact hk.2
    have hbxb : ∀ d : TD, tabBox (.slice ia il ic) (.slice none 0 0) d = tabBox (.slice ia il ic) (.slice none 0 0) d0 → d.b0 = d0.b0 ∧ d.b1 = d0.b1 ∧ d.b2 = d0.b2 ∧ d.b3 = d0.b3 := fun d h => by simpa [tabBox] using h
    have hlus : us.length ≤ 1000 ∧ opsN us ≤ 1000 := by
      refine ⟨by have := HR.out.2.1.length_eq; have := HF2.out.1; omega, ?_⟩
      have : opsN us = opsN ts := (HR.out.2.1.map _).sum_nat
      have := HF2.out.2.1
      omega
    have hopl : ∀ t ∈ us, t.ops.length ≤ 100000 ∧ ∀ o ∈ t.ops, o.list.length ≤ 100000 := fun t ht => ⟨by
      obtain ⟨i, hi, rfl⟩ := List.mem_iff_getElem.1 ht
      have := ops_le hi
      omega, fun o ho => by have := HF2.out.2.2 t (HR.out.2.1.mem_iff.1 ht) o ho; omega⟩
    have hbTw : w.heap.size ≤ bT := Knlt (pre := [_]) HK10.out bT rfl
    have hbT10 : bT < w10.heap.size := (show Is w10 bT _ from Knget (pre := [_]) HK10.out).lt
    have hK0 : KF FF w11 w15 := by
      rw [hw15]
      exact KF.of_only ((HO13.out.alloc _).alloc _) (fun k hk e => by rw [HFF.out] at hk; omega)
    have HK0 := hide hK0
    have HBXB := hide hbxb
    have HFL := hide hFl
    have HLUS := hide hlus
    have HOPL := hide hopl
    have hbKl : bK < w15.heap.size := by omega
    obtain ⟨i0, hi, hz0, hz1, hz2⟩ := info_parts Tryz.infoTI
    clear hw15 hFF hK0 hbxb hFl hlus hopl hbK
    refine wpIn_rangeFunc_ownH (w0 := w15) (N := 1000) (encs := fun x : Item FF w11 => itemE x) (S := fun ys => ys.map (·.s) = flat us) (Sp := fun _ => True) (Kp := KT FF w15.heap.size) rfl (by omega) (gf := 67) (lb := #[.pointer (some ⟨bK + 1, 0, none⟩)]) rfl trivial (enters_of Tryz.func67 (by kernel_rfl) rfl)
      (fun l J Jx W hW hJ hJx hY h0 => opsc_in Fence.wide (3 - 1) trivial rfl (by omega) l (bK + 1) W.heap.size 1000 w15.heap.size (.slice va vn vc) us w11 FF hTX.out (by have := HLUS.out.1; omega) HOPL.out (by rw [flat_len]; exact HLUS.out.2) J Jx hJ hY W hW.size (HK0.out.trans (KF.of_only (Only.of_below (S := fun _ => False) hW) (fun _ _ q => q))) ((show Is W (bK + 1) #[.slice va vn vc] from (show Is w15 (bK + 1) #[.slice va vn vc] from HK15.out.hd).below hW).cell 0 rfl) h0) KT_t (KT_b (fun k hk => Nat.lt_of_lt_of_le (HFL.out k hk) h1115)) (Below.refl _ _) (fun _ => rfl)
      (fun pre W => KF FF w15 W ∧ ∃ (d : TD) (ka : Option Addr) (kc : Nat), tabBox (.slice ia il ic) (.slice none 0 0) d = tabBox (.slice ia il ic) (.slice none 0 0) d0 ∧ Kn w [boxT bK #[.slice ka pre.length kc], ownN w.heap.size 3 1 (.slice ka pre.length kc) pre.length ((pre.map (·.s.o.key)).map (Value.int .i64)), ownN WD.heap.size 3 1 (.slice ia il ic) il ((idsOf us).map (Value.int .i64)), rgT w10.heap.size w11.heap.size, boxT (bT + 1) #[.pointer (some ⟨bT, 0, none⟩)], boxT bT (tabBox (.slice ia il ic) (.slice none 0 0) d0), tabT w.heap.size d (tb (pre.map (·.s))) (3 * pre.length)] W)
      (fun _ _ _ => False)
      (fun pre W W' row hs hg hr => by
        obtain ⟨hKF, d, ka, kc, hbx, hk⟩ := hs
        obtain ⟨e0, e1, e2, e3⟩ := HBXB.out d hbx
        refine ⟨hKF.trans ⟨hg.size, fun k hk2 hl => hg.block k hl (fun e => ?_)⟩, d, ka, kc, hbx, Kn_fixed hk (fun t ht => ?_) (by omega) hg hr⟩
        · have := (hr k e.symm).1
          have := HFL.out k hk2
          omega
        · simp only [List.mem_cons, List.not_mem_nil, or_false] at ht
          rcases ht with rfl | rfl | rfl | rfl | rfl | rfl | rfl
          · exact fixed_box _ _ _
          · exact fixed_own _ _ _ _ _ _ _
          · exact fixed_own _ _ _ _ _ _ _
          · exact fun W W' row h hg _ => Nat.le_trans h hg.size
          · exact fixed_box _ _ _
          · exact fixed_box _ _ _
          · exact fixed_tab (by omega))
      (fun _ _ _ _ _ hs _ _ => hs)
      ⟨⟨Nat.le_refl _, fun _ _ _ => rfl⟩, d0, none, 0, rfl, by
        exact HK15.out.sub (.cons _ (.cons_cons _ (.cons_cons _ (.cons_cons _ (.cons_cons _ (.cons_cons _ (.cons_cons _ (.cons_cons _ (List.nil_sublist _)))))))))⟩
      (fun x a' W => ∃ B1 B2, w15.heap.size ≤ B1 ∧ w15.heap.size ≤ B2 ∧ W.heap[B1]? = some (.cells #[.int .i64 x.s.id, .int .i64 (x.s.op : Int), .bool x.s.ab] 87) ∧ W.heap[B2]? = some (.cells #[.bool x.s.o.read, .int .i64 x.s.o.key, .int .i64 x.s.o.value, .slice x.a x.s.o.list.length x.c] 57) ∧ a' = { tmps := #[.agg #[.slice a ln c], .pointer (some ⟨w.heap.size, 0, none⟩), .pointer none, .int .i64 0, .int .i64 0, .pointer (some ⟨bT + 1, 0, none⟩), .slice va vn vc, .pointer (some ⟨bK, 0, none⟩), .pointer (some ⟨B1, 0, none⟩), .pointer (some ⟨B2, 0, none⟩), .agg #[.slice a ln c], .int .i64 0, .int .i64 0, .bool false, undef, .map (some w9.heap.size), .map (some (w9.heap.size + 1)), .map (some (w9.heap.size + 1 + 1)), .map (some (w9.heap.size + 1 + 1 + 1)), .agg #[.slice none 0 0, .slice none 0 0, .map (some w9.heap.size), .map (some (w9.heap.size + 1)), .map (some (w9.heap.size + 1 + 1)), .map (some (w9.heap.size + 1 + 1 + 1))], .pointer (some ⟨bT, 0, none⟩), .pointer (some ⟨w.heap.size, 0, none⟩), .slice a ln c, .slice va vn vc, .pointer (some ⟨bT, 0, none⟩), .slice va vn vc, .slice ia il ic, .pointer (some ⟨bT, 0, none⟩), .pointer (some ⟨bT, 0, none⟩), .slice va vn vc, .func (.func 67) #[] #[.pointer (some ⟨bK + 1, 0, none⟩)], .agg #[.int .i64 x.s.id, .int .i64 (x.s.op : Int), .bool x.s.ab], .agg #[.bool x.s.o.read, .int .i64 x.s.o.key, .int .i64 x.s.o.value, .slice x.a x.s.o.list.length x.c], undef, undef, undef, undef, undef, undef, undef, undef, undef, undef, undef, undef, undef, undef, undef, undef], defers := [] })
      (fun x a' _ W W' row hs hg hr => by
        obtain ⟨B1, B2, h1, h2, e1, e2, h3⟩ := hs
        have aux : ∀ {b : Nat} {cs : Array Value} {T : TypeId}, W.heap[b]? = some (.cells cs T) → W'.heap[b]? = some (.cells cs T) := fun {b cs T} hb => by
          refine (hg.block b (Array.getElem?_eq_some_iff.1 hb).1 (fun e => ?_)).trans hb
          obtain ⟨_, o, q1, q2⟩ := hr b e.symm
          rw [hb] at q1; cases q1; simp [Obj.isCells] at q2
        exact ⟨B1, B2, h1, h2, aux e1, aux e2, h3⟩) ?assign ?body ?done ?stop
    case assign =>
      rintro l pre x W K ⟨hKF, d, ka, kc, hbx, hk⟩ hK
      have hsW : w15.heap.size ≤ W.heap.size := hKF.1
      unfold itemE
      gi_wp2
      have ho : Below W.heap.size W ((W.alloc (.cells #[.int .i64 x.s.id, .int .i64 (x.s.op : Int), .bool x.s.ab] 87)).alloc (.cells #[.bool x.s.o.read, .int .i64 x.s.o.key, .int .i64 x.s.o.value, .slice x.a x.s.o.list.length x.c] 57)) := ((Below.refl _ _).alloc (Nat.le_refl _) _).alloc (by simp) _
      refine hK _ _ (keeps_only (Only.of_below (S := fun _ => False) ho) (fun _ q => q.elim)) ⟨KF.of_only (Only.of_below (S := fun _ => False) ho) (fun _ _ q => q), fun k cs _ hk2 => ho.block k (Array.getElem?_eq_some_iff.1 hk2).1⟩ ⟨hKF.trans (KF.of_only (Only.of_below (S := fun _ => False) ho) (fun _ _ q => q)), d, ka, kc, hbx, hk.keep ho⟩ ⟨W.heap.size, W.heap.size + 1, hsW, by omega, ?_, ?_, rfl⟩
      · exact (Below.heap_alloc _ _ _ (by simp)).trans (World.alloc_heap_new _ _)
      · have := World.alloc_heap_new (W.alloc (.cells #[.int .i64 x.s.id, .int .i64 (x.s.op : Int), .bool x.s.ab] 87)) (.cells #[.bool x.s.o.read, .int .i64 x.s.o.key, .int .i64 x.s.o.value, .slice x.a x.s.o.list.length x.c] 57)
        rwa [World.size_alloc] at this
    case body =>
      rintro l pre x a' W hl hrec ⟨hKF, d, ka, kc, hbx, hk⟩ ⟨B1, B2, hB1, hB2, e1, e2, rfl⟩ hlt
      have hsW : w15.heap.size ≤ W.heap.size := hKF.1
      have c0 : W.cell? ⟨bK, 0, none⟩ = some (.slice ka pre.length kc) := (show Is W bK #[.slice ka pre.length kc] from hk.hd).cell 0 rfl
      have hwW := hk.below.size
      have X1 : Is W B1 #[.int .i64 x.s.id, .int .i64 (x.s.op : Int), .bool x.s.ab] := ⟨_, e1⟩
      have X2 : Is W B2 #[.bool x.s.o.read, .int .i64 x.s.o.key, .int .i64 x.s.o.value, .slice x.a x.s.o.list.length x.c] := ⟨_, e2⟩
      have y1 : W.cell? ⟨B2, 1, none⟩ = some (.int .i64 x.s.o.key) := X2.cell 1 rfl
      have hbB : Below W.heap.size W (W.alloc (.cells #[.int .i64 x.s.o.key] 3)) := (Below.refl _ _).alloc (Nat.le_refl _) _
      have hkB := hk.keep hbB
      have hown : (W.alloc (.cells #[.int .i64 x.s.o.key] 3)).ownsRow w.heap.size 3 1 (.slice ka pre.length kc) pre.length ((pre.map (·.s.o.key)).map (Value.int .i64)) := Knget (pre := [_]) hkB
      have nB1 : ∀ g, (Value.slice ka pre.length kc).ownBlock = some g → g ≠ B1 ∧ g ≠ B2 := fun g hg => by
        obtain ⟨cur, q⟩ := own_obj (Knget (pre := [_]) hk) hg
        exact ⟨fun e => (by subst e; rw [e1] at q; cases q), fun e => (by subst e; rw [e2] at q; cases q)⟩
      obtain ⟨ss, hss⟩ : ∃ ss, ss = pre.map (·.s) := ⟨_, rfl⟩
      obtain ⟨m, hm⟩ : ∃ m, m = pre.length := ⟨_, rfl⟩
      have HKF := hide hKF
      have HK0W := hide hk
      have HKB := hide hkB
      have HX1 := hide X1
      have HX2 := hide X2
      have HNB := hide nB1
      have HBX := hide hbx
      have HSS := hide hss
      have HBB := hide hbB
      have HE1 := hide e1
      have HE2 := hide e2
      clear hKF hk hkB X1 X2 nB1 hbx hss hm hbB e1 e2
      have hNT : Hid (∀ W' d (ka' : Option Addr) (kc' : Nat), Kn w [boxT bK #[.slice ka' (pre.length + 1) kc'], ownN w.heap.size 3 1 (.slice ka' (pre.length + 1) kc') (pre.length + 1) (((pre ++ [x]).map (·.s.o.key)).map (Value.int .i64)), ownN WD.heap.size 3 1 (.slice ia il ic) il ((idsOf us).map (Value.int .i64)), rgT w10.heap.size w11.heap.size, boxT (bT + 1) #[.pointer (some ⟨bT, 0, none⟩)], boxT bT (tabBox (.slice ia il ic) (.slice none 0 0) d0), tabT w.heap.size d (tb ss) (3 * pre.length)] W' → tabBox (.slice ia il ic) (.slice none 0 0) d = tabBox (.slice ia il ic) (.slice none 0 0) d0 → KF FF w15 W' → W.heap.size ≤ W'.heap.size →
          Calls Tryz.prog 38 #[.pointer (some ⟨bT, 0, none⟩), .agg #[.int .i64 x.s.id, .int .i64 (x.s.op : Int), .bool x.s.ab], .agg #[.bool x.s.o.read, .int .i64 x.s.o.key, .int .i64 x.s.o.value, .slice x.a x.s.o.list.length x.c]] W' fun e w' => e = .returned (.tuple #[]) ∧ Hid (∃ d', TabAt w.heap.size d' (tb (ss ++ [x.s])) (3 * pre.length + 3) w' ∧ Only d.T W' w' ∧ (∀ k, d'.F k → d.F k ∨ W'.heap.size ≤ k) ∧ tabBox (.slice ia il ic) (.slice none 0 0) d' = tabBox (.slice ia il ic) (.slice none 0 0) d)) := hide fun W' d ka' kc' hkn hbx hkf hsz => by
        have hseq := (show Sep (boxT bT (tabBox (.slice ia il ic) (.slice none 0 0) d0)) (tabT w.heap.size d (tb ss) (3 * pre.length)) from sep_of (pre := [_, _, _, _, _]) hkn (by simp))
        have hrow := ints_rowv (ints_kf x.row (HK0.out.trans hkf)) (by have := x.len; omega)
        have := note_any (base := w.heap.size) (bT := bT) (.slice ia il ic) (.slice none 0 0) x.s x.a x.c W' (Knget (pre := [_, _, _, _, _, _]) hkn) (by rw [hbx]; exact Knget (pre := [_, _, _, _, _]) hkn) (fun hF => hseq bT rfl hF) hkn.below.size (by omega) x.wid x.wkey x.wval hrow.2 x.len
        refine this.mono ?_
        rintro e w' ⟨rfl, d', h1, h2, h3, h4⟩
        rw [tb_step] at h1
        exact ⟨rfl, d', h1, h2, h3, h4⟩
      have hd1 : 1 ≤ 3 - 1 - 1 := by omega
      gi_upto_region 12 with (gi_at_builtin; go_must ((refine wpListIn_append_own_at _ rfl _ _ 36 rfl w.heap.size 3 i0 (.int .i64 0) 1 8 Tryz.underlying36 hi hz0 hz1 hz2 rfl (by decide) (.slice ka pre.length kc) pre.length ((pre.map (·.s.o.key)).map (Value.int .i64)) rfl hown ⟨W.heap.size, 0, none⟩ 1 1 [.int .i64 x.s.o.key] rfl rfl (cell_one_new _ _ _) (by simp [Value.oneCell']) (by unfold maxLen; omega) (by omega) (by simp; omega) ?_); intro v4 w4 hown4 hg4 _ hat4; have HG4 := hide hg4; have HK4 := hide (growAt (pre := [_]) HKB.out hown4 hg4 hat4); obtain ⟨a4, c4, rfl⟩ := Own.own_form hown4; have c4' : w4.cell? ⟨bK, 0, none⟩ = some (.slice ka pre.length kc) := (show Is w4 bK #[.slice ka pre.length kc] from HK4.out.hd).cell 0 rfl; have f4 := (show Is w4 bK #[.slice ka pre.length kc] from HK4.out.hd).frozen 0; clear hown4 hg4 hat4))
      have hbT15 : bT + 1 < w15.heap.size := (show Is w15 (bT + 1) #[.pointer (some ⟨bT, 0, none⟩)] from Knget (pre := [_, _, _, _, _]) HK15.out).lt
      have HK5 := hide (putBox (pre := []) HK4.out 0 (.slice a4 (pre.length + 1) c4) (cs' := #[.slice a4 (pre.length + 1) c4]) rfl HK4.out.hd)
      have HO5 := hide (show Only (fun k => k = bK ∨ (Value.slice ka pre.length kc).ownBlock = some k) W (w4.setCell ⟨bK, 0, none⟩ (.slice a4 (pre.length + 1) c4)) from Only.setCell (S := fun k => k = bK ∨ (Value.slice ka pre.length kc).ownBlock = some k) ((Only.of_below HBB.out).trans ((only_grown HG4.out).mono fun k e => .inr e)) (p := ⟨bK, 0, none⟩) (.inl (.inl rfl)) _)
      generalize (w4.setCell ⟨bK, 0, none⟩ (.slice a4 (pre.length + 1) c4)) = w5 at HK5 HO5 ⊢
      have hS1 : ¬ (B1 = bK ∨ (Value.slice ka pre.length kc).ownBlock = some B1) := fun q => by
        rcases q with q | q
        · omega
        · exact (HNB.out B1 q).1 rfl
      have hS2 : ¬ (B2 = bK ∨ (Value.slice ka pre.length kc).ownBlock = some B2) := fun q => by
        rcases q with q | q
        · omega
        · exact (HNB.out B2 q).2 rfl
      have z1 := HX1.out.keep HO5.out hS1
      have z2 := HX2.out.keep HO5.out hS2
      have u0 : w5.cell? ⟨B1, 0, none⟩ = some (.int .i64 x.s.id) := z1.cell 0 rfl
      have u1 : w5.cell? ⟨B1, 1, none⟩ = some (.int .i64 (x.s.op : Int)) := z1.cell 1 rfl
      have u2 : w5.cell? ⟨B1, 2, none⟩ = some (.bool x.s.ab) := z1.cell 2 rfl
      have v0 : w5.cell? ⟨B2, 0, none⟩ = some (.bool x.s.o.read) := z2.cell 0 rfl
      have v1 : w5.cell? ⟨B2, 1, none⟩ = some (.int .i64 x.s.o.key) := z2.cell 1 rfl
      have v2 : w5.cell? ⟨B2, 2, none⟩ = some (.int .i64 x.s.o.value) := z2.cell 2 rfl
      have v3 : w5.cell? ⟨B2, 3, none⟩ = some (.slice x.a x.s.o.list.length x.c) := z2.cell 3 rfl
      have hKk : Hid (Kn w [boxT bK #[.slice a4 (pre.length + 1) c4], ownN w.heap.size 3 1 (.slice a4 (pre.length + 1) c4) (pre.length + 1) (((pre ++ [x]).map (·.s.o.key)).map (Value.int .i64)), ownN WD.heap.size 3 1 (.slice ia il ic) il ((idsOf us).map (Value.int .i64)), rgT w10.heap.size w11.heap.size, boxT (bT + 1) #[.pointer (some ⟨bT, 0, none⟩)], boxT bT (tabBox (.slice ia il ic) (.slice none 0 0) d0), tabT w.heap.size d (tb ss) (3 * pre.length)] w5) := by
        have e : ((pre ++ [x]).map (·.s.o.key)).map (Value.int .i64) = (pre.map (·.s.o.key)).map (Value.int .i64) ++ [.int .i64 x.s.o.key] := by simp
        rw [e, HSS.out]
        exact HK5.out
      have pw5 : w5.cell? ⟨bT + 1, 0, none⟩ = some (.pointer (some ⟨bT, 0, none⟩)) := (show Is w5 (bT + 1) #[.pointer (some ⟨bT, 0, none⟩)] from Knget (pre := [_, _, _, _]) hKk.out).cell 0 rfl
      have hge5 : ∀ k, (k = bK ∨ (Value.slice ka pre.length kc).ownBlock = some k) → w.heap.size ≤ k ∧ ¬ (w10.heap.size ≤ k ∧ k < w11.heap.size) := fun k hk => by
        rcases hk with hk | hk
        · exact ⟨Knlt (pre := []) HK0W.out k hk, (show Sep (boxT bK #[.slice ka pre.length kc]) (rgT w10.heap.size w11.heap.size) from sep_of (pre := []) HK0W.out (by simp)) k hk⟩
        · exact ⟨Knlt (pre := [_]) HK0W.out k hk, (show Sep (ownN w.heap.size 3 1 (.slice ka pre.length kc) pre.length ((pre.map (·.s.o.key)).map (Value.int .i64))) (rgT w10.heap.size w11.heap.size) from sep_of (pre := [_]) HK0W.out (by simp)) k hk⟩
      have hkf5 : KF FF W w5 := KF.of_only HO5.out fun k hk hs => by
        rw [HFF.out] at hk
        obtain ⟨h1, h2⟩ := hge5 k hs
        rcases hk.1 with q | q
        · omega
        · exact h2 ⟨q, hk.2⟩
      have HC := hide (hNT.out w5 d a4 c4 hKk.out HBX.out (HKF.out.trans hkf5) HO5.out.size)
      have HGE5 := hide hge5
      have HKF5 := hide hkf5
      clear z1 z2 hS1 hS2 hge5 hkf5 c4' f4 c0 y1 hown
      gi_wp2_with (refine ⟨trivial, ?_⟩; gi_at_call 38; go_must ((refine (CallsIn.inRound l (callsIn_wide.2 (Hid.out HC))).mono ?_); rintro e w6 ⟨rfl, hE⟩))
      obtain ⟨d', q1, q2, q3, q4⟩ := hE.out
      have hsz5 := HO5.out.size
      have hsz6 := q2.size
      have hgeT : ∀ k, d.T k → w.heap.size ≤ k ∧ ¬ (w10.heap.size ≤ k ∧ k < w11.heap.size) := fun k hk =>
        ⟨Knlt (pre := [_, _, _, _, _, _]) hKk.out k (TD.T_F hk), fun hr => (show Sep (rgT w10.heap.size w11.heap.size) (tabT w.heap.size d (tb ss) (3 * pre.length)) from sep_of (pre := [_, _, _]) hKk.out (by simp)) k hr (TD.T_F hk)⟩
      have hkf6 : KF FF w5 w6 := KF.of_only q2 fun k hk hs => by
        rw [HFF.out] at hk
        obtain ⟨h1, h2⟩ := hgeT k hs
        rcases hk.1 with q | q
        · omega
        · exact h2 ⟨q, hk.2⟩
      have hK6 := turnAt (pre := [_, _, _, _, _, _]) (post := []) (t' := tabT w.heap.size d' (tb (ss ++ [x.s])) (3 * pre.length + 3)) hKk.out q1 (q2.mono fun k hk => TD.T_F hk) q3
      obtain ⟨eb0, eb1, eb2, eb3⟩ := HBXB.out d HBX.out
      have hob : ∀ k, d.T k → k < w15.heap.size ∨ ∃ cs T, w5.heap[k]? = some (.cells cs T) ∧ T ≠ 55 := fun k hk => by
        rcases (show TabAt w.heap.size d (tb ss) (3 * pre.length) w5 from Knget (pre := [_, _, _, _, _, _]) hKk.out).objT hk with q | ⟨cur, T, q, hT⟩
        · exact .inl (by omega)
        · refine .inr ⟨cur, T, q, ?_⟩
          rcases hT with rfl | rfl | rfl <;> decide
      have hob5 : ∀ k, (k = bK ∨ (Value.slice ka pre.length kc).ownBlock = some k) → k < w15.heap.size ∨ ∃ cs T, W.heap[k]? = some (.cells cs T) ∧ T ≠ 55 := fun k hk => by
        rcases hk with hk | hk
        · exact .inl (by omega)
        · obtain ⟨cur, q⟩ := own_obj (Knget (pre := [_]) HK0W.out) hk
          exact .inr ⟨cur, _, q, by decide⟩
      refine ⟨(keeps_only HO5.out fun k hk => ?_).trans (keeps_only q2 fun k hk => ?_), KT_t ⟨HKF5.out, fun k cs hl hk => HO5.out.block k (Array.getElem?_eq_some_iff.1 hk).1 fun hs => ?_⟩ ⟨hkf6, fun k cs hl hk => q2.block k (Array.getElem?_eq_some_iff.1 hk).1 fun hs => ?_⟩, (HKF.out.trans HKF5.out).trans hkf6, d', a4, c4, q4.trans HBX.out, ?_⟩
      · rcases hob5 k hk with q | ⟨cs, T, q, _⟩
        · exact .inl q
        · exact .inr ⟨cs, T, q⟩
      · rcases hob k hk with q | ⟨cs, T, q, _⟩
        · exact .inl q
        · exact .inr ⟨cs, T, q⟩
      · rcases hob5 k hs with q | ⟨cs', T, q, hT⟩
        · omega
        · rw [hk] at q; cases q; exact hT rfl
      · rcases hob k hs with q | ⟨cs', T, q, hT⟩
        · omega
        · rw [hk] at q; cases q; exact hT rfl
      · have e1 : (pre ++ [x]).map (·.s) = ss ++ [x.s] := by rw [HSS.out]; simp
        rw [List.length_append, List.length_singleton, e1, Nat.mul_add]
        exact hK6
    case done =>
      rintro D ys W hD hS ⟨hKF, d, ka, kc, hbx, hk⟩ hDf
      have hc0 : W.cell? ⟨bT + 1, 0, none⟩ = some (.pointer (some ⟨bT, 0, none⟩)) := (show Is W (bT + 1) #[.pointer (some ⟨bT, 0, none⟩)] from Knget (pre := [_, _, _, _]) hk).cell 0 rfl
      have hc1 : W.cell? ⟨bK, 0, none⟩ = some (.slice ka ys.length kc) := (show Is W bK #[.slice ka ys.length kc] from hk.hd).cell 0 rfl
      obtain ⟨ks, hks⟩ : ∃ ks, ks = ys.map (·.s.o.key) := ⟨_, rfl⟩
      have hkl : ks.length = ys.length := by rw [hks]; simp
      have hyl : ys.length ≤ 1000 := by
        have := congrArg List.length hS
        rw [List.length_map, flat_len] at this
        have := HLUS.out.2
        omega
      have hkeys : setL ltI ks = docKeys ts := by
        have : ks = (flat us).map (·.o.key) := by rw [← hS, hks]; simp
        rw [this, flat_keys]
        exact setL_congr totI fun x => (HR.out.2.1.flatMap_right _).mem_iff
      have hrow := own_rowv (l := ks) (v := .slice ka ys.length kc) (base := w.heap.size) (w := W) (by rw [hkl, hks]; exact Knget (pre := [_]) hk) (by omega) (fun n hn => by rw [hks] at hn; obtain ⟨x, _, rfl⟩ := List.mem_map.1 hn; exact x.wkey)
      have HKK := hide hk
      have HBX := hide hbx
      have HSY := hide hS
      have HDF := hide hDf
      have HKL := hide hkl
      have HKY := hide hkeys
      have HRW := hide hrow
      clear hk hbx hS hDf hkl hkeys hks hrow
      gi_upto_region 13 with fail
      refine wpIn_wide.2 ?_
      refine wp_region_noPanic ?_
      obtain ⟨ka2, kc2, ekv, hrv⟩ := HRW.out
      obtain ⟨rfl, hyk, rfl⟩ : ka = ka2 ∧ ys.length = ks.length ∧ kc = kc2 := by simpa using ekv
      clear hyk
      have HRV := hide hrv
      obtain ⟨WE, hWE⟩ : ∃ WE, WE = W.drew := ⟨_, rfl⟩
      have hBE : Below W.heap.size W WE := by rw [hWE]; exact (Below.refl _ _).drew
      have SE : WE.cell? ⟨bT + 1, 0, none⟩ = some (.pointer (some ⟨bT, 0, none⟩)) ∧ WE.cell? ⟨bK, 0, none⟩ = some (.slice ka ys.length kc) := by
        have kp : ∀ {g i : Nat} {u : Value}, W.cell? ⟨g, i, none⟩ = some u → WE.cell? ⟨g, i, none⟩ = some u := fun hc => (hBE.cell (p := ⟨_, _, none⟩) (lt_of_cell hc)).trans hc
        exact ⟨kp hc0, kp hc1⟩
      have HOF : Hid (Calls Tryz.prog 39 #[.slice ka ys.length kc] WE fun e w' => ∃ (sa : Option Addr) (sn sc : Nat), e = .returned (.agg #[.slice sa sn sc]) ∧ Hid (sn = (docKeys ts).length ∧ RowV w' sa sc (docKeys ts) ∧ Below WE.heap.size WE w')) := by
        have h1 := of_any ka kc ks WE (HRV.out.keep hBE) (by have := HKL.out; omega)
        rw [HKL.out, HKY.out] at h1
        refine h1.mono ?_
        rintro e w' ⟨v, rfl, ⟨sa, sc, rfl, hr⟩, _, hb⟩
        exact ⟨sa, _, sc, rfl, rfl, hr, hb⟩
      refine Last.region_last (k := 6) (S := fun w' : World => w'.cell? ⟨bT + 1, 0, none⟩ = some (.pointer (some ⟨bT, 0, none⟩)) ∧ w'.cell? ⟨bK, 0, none⟩ = some (.slice ka ys.length kc)) (by kernel_rfl) rfl rfl (by kernel_rfl) (by kernel_rfl) ?_
      rw [← hWE]
      have HBE := hide hBE
      clear hWE hBE hc0 hc1 ekv hrv
      refine wpAnyH_take (i := 0) (v := ?_) rfl (by kernel_rfl) (by kernel_rfl) (by kernel_rfl) (fun _ _ _ h => h) (Or.inl ⟨by rfl, ?_⟩) (by assumption) ?_
      rotate_left
      · (intro w hSw; (try dsimp only at hSw); go_simp; try with_reducible rfl)
      try simp only [List.getElem_toArray, List.getElem_cons_succ, List.getElem_cons_zero, Act.put, List.setIfInBounds_toArray, List.set_cons_zero, List.set_cons_succ]
      refine wpAnyH_take (i := 1) (v := ?_) rfl (by kernel_rfl) (by kernel_rfl) (by kernel_rfl) (fun _ _ _ h => h) (Or.inl ⟨by rfl, ?_⟩) (by assumption) ?_
      rotate_left
      · (intro w hSw; (try dsimp only at hSw); go_simp; try with_reducible rfl)
      try simp only [List.getElem_toArray, List.getElem_cons_succ, List.getElem_cons_zero, Act.put, List.setIfInBounds_toArray, List.set_cons_zero, List.set_cons_succ]
      refine wpAnyH_ready (rs := [2]) (by kernel_rfl) (by simp) ?_
      refine AllReadyH.cons (by rfl) (fun KK hKK => ?_) AllReadyH.nil
      simp only [List.getElem_toArray, List.getElem_cons_succ, List.getElem_cons_zero]
      go_simp
      go_at_call 39
      (with_reducible refine (Hid.out HOF).mono ?_)
      rintro e w7 ⟨sa, sn, sc, rfl, hR7⟩
      have HR7 := hide hR7.out
      clear hR7
      have S7 : w7.cell? ⟨bT + 1, 0, none⟩ = some (.pointer (some ⟨bT, 0, none⟩)) ∧ w7.cell? ⟨bK, 0, none⟩ = some (.slice ka ys.length kc) := by
        have kp : ∀ {g i : Nat} {u : Value}, WE.cell? ⟨g, i, none⟩ = some u → w7.cell? ⟨g, i, none⟩ = some u := fun hc => (HR7.out.2.2.cell (p := ⟨_, _, none⟩) (lt_of_cell hc)).trans hc
        exact ⟨kp SE.1, kp SE.2⟩
      refine hKK.out _ _ S7 (fun hH5 => ?_)
      clear hKK KK
      try simp only [List.getElem_toArray, List.getElem_cons_succ, List.getElem_cons_zero, Act.put, List.setIfInBounds_toArray, List.set_cons_zero, List.set_cons_succ]
      clear SE
      have HLS : Hid (Calls Tryz.prog 40 #[.agg #[.slice sa sn sc]] w7 fun e w' => ∃ (la lc : _), e = .returned (.slice la sn lc) ∧ Hid (RowV w' la lc (docKeys ts) ∧ Below w7.heap.size w7 w')) := by
        have hdl : (docKeys ts).length ≤ 1000000 := by
          rw [← HKY.out]
          have := setL_length (lt := ltI) ks
          have := HKL.out
          omega
        have h1 := list_any (.agg #[.slice sa sn sc]) (docKeys ts) w7 ⟨sa, sc, by rw [HR7.out.1], HR7.out.2.1⟩ hdl
        rw [← HR7.out.1] at h1
        refine h1.mono ?_
        rintro e w' ⟨⟨la, lc, rfl, h2⟩, h3⟩
        exact ⟨la, lc, rfl, h2, h3⟩
      refine wpAnyH_ready (rs := [3]) (by kernel_rfl) (by simp) ?_
      refine AllReadyH.cons (by rfl) (fun KK hKK => ?_) AllReadyH.nil
      simp only [List.getElem_toArray, List.getElem_cons_succ, List.getElem_cons_zero]
      go_simp
      go_at_call 40
      (with_reducible refine (Hid.out HLS).mono ?_)
      rintro e w8 ⟨la, lc, rfl, hR8⟩
      have HR8 := hide hR8.out
      clear hR8
      have S8 : w8.cell? ⟨bT + 1, 0, none⟩ = some (.pointer (some ⟨bT, 0, none⟩)) ∧ w8.cell? ⟨bK, 0, none⟩ = some (.slice ka ys.length kc) := by
        have kp : ∀ {g i : Nat} {u : Value}, w7.cell? ⟨g, i, none⟩ = some u → w8.cell? ⟨g, i, none⟩ = some u := fun hc => (HR8.out.2.cell (p := ⟨_, _, none⟩) (lt_of_cell hc)).trans hc
        exact ⟨kp S7.1, kp S7.2⟩
      refine hKK.out _ _ S8 (fun hH6 => ?_)
      clear hKK KK
      try simp only [List.getElem_toArray, List.getElem_cons_succ, List.getElem_cons_zero, Act.put, List.setIfInBounds_toArray, List.set_cons_zero, List.set_cons_succ]
      clear S7
      refine wpAnyH_take (i := 4) (v := ?_) rfl (by kernel_rfl) (by kernel_rfl) (by kernel_rfl) (fun _ _ _ h => h) (Or.inl ⟨by rfl, ?_⟩) (by assumption) ?_
      rotate_left
      · (intro w hSw; (try dsimp only at hSw); go_simp; try with_reducible rfl)
      try simp only [List.getElem_toArray, List.getElem_cons_succ, List.getElem_cons_zero, Act.put, List.setIfInBounds_toArray, List.set_cons_zero, List.set_cons_succ]
      refine wpAnyH_take (i := 5) (v := ?_) rfl (by kernel_rfl) (by kernel_rfl) (by kernel_rfl) (fun _ _ _ h => h) (Or.inl ⟨by rfl, ?_⟩) (by assumption) ?_
      rotate_left
      · (intro w hSw; (try dsimp only at hSw); go_simp; try with_reducible rfl)
      try simp only [List.getElem_toArray, List.getElem_cons_succ, List.getElem_cons_zero, Act.put, List.setIfInBounds_toArray, List.set_cons_zero, List.set_cons_succ]
      have hB8 : Below W.heap.size W w8 := (HBE.out.trans (HR7.out.2.2.mono HBE.out.size)).trans (HR8.out.2.mono (Nat.le_trans HBE.out.size HR7.out.2.2.size))
      have HK8 := hide (HKK.out.keep hB8)
      have t8 : w8.cell? ⟨bT, 1, none⟩ = some (.slice none 0 0) := (show Is w8 bT (tabBox (.slice ia il ic) (.slice none 0 0) d0) from Knget (pre := [_, _, _, _, _]) HK8.out).cell 1 rfl
      have tf8 := (show Is w8 bT (tabBox (.slice ia il ic) (.slice none 0 0) d0) from Knget (pre := [_, _, _, _, _]) HK8.out).frozen 1
      have hnoi : ∀ i u, w8.cell? ⟨bT, i, none⟩ ≠ some (.int .i64 u) := fun i u => box_noint (show Is w8 bT (tabBox (.slice ia il ic) (.slice none 0 0) d0) from Knget (pre := [_, _, _, _, _]) HK8.out) (fun n => by simp) (fun n => by simp)
      refine wpAnyH_done (by kernel_rfl) ?_ _
      refine Last.done_last ?_
      refine wpOp_step rfl (fun KK hKK => ?_)
      simp only [List.getElem_toArray, List.getElem_cons_succ, List.getElem_cons_zero]
      go_simp
      refine hKK _ _ ?_
      clear hKK
      go_simp
      refine NoPanic.normal ?_
      have HK9 := hide (putBox (pre := [_, _, _, _, _]) HK8.out 1 (.slice la sn lc) (cs' := tabBox (.slice ia il ic) (.slice la sn lc) d0) rfl (Knget (pre := [_, _, _, _, _]) HK8.out))
      have HO9 := hide (show Only (fun k => k = bT) w8 (w8.setCell ⟨bT, 1, none⟩ (.slice la sn lc)) from Only.setCell (S := fun k => k = bT) (Only.refl _ _) (p := ⟨bT, 1, none⟩) (.inl rfl) _)
      have hRK := rowv_only HR8.out.1 HO9.out (fun b i u hc e => hnoi i u (by rw [← e]; exact hc))
      have HRK := hide hRK
      have hDT : bT ≠ D := fun e => by
        obtain ⟨T, hT⟩ := (show Is W bT _ from Knget (pre := [_, _, _, _, _]) HKK.out)
        rw [e, HDF.out] at hT
        cases hT
      have hD9 : (w8.setCell ⟨bT, 1, none⟩ (.slice la sn lc)).heap[D]? = some (.deferred (some [])) := by
        rw [HO9.out.block D (Nat.lt_of_lt_of_le (Array.getElem?_eq_some_iff.1 HDF.out).1 hB8.size) (fun e => hDT e.symm), hB8.block D (Array.getElem?_eq_some_iff.1 HDF.out).1]
        exact HDF.out
      generalize (w8.setCell ⟨bT, 1, none⟩ (.slice la sn lc)) = w9' at HK9 HO9 HRK hD9 ⊢
      have p9 : w9'.cell? ⟨bT + 1, 0, none⟩ = some (.pointer (some ⟨bT, 0, none⟩)) := (show Is w9' (bT + 1) #[.pointer (some ⟨bT, 0, none⟩)] from Knget (pre := [_, _, _, _]) HK9.out).cell 0 rfl
      clear hRK t8 tf8 hnoi hH6 hH5 S8
      gi_wp2
      refine ⟨by simp, .inl ⟨_, _, rfl, run_takeDeferred hD9, ?_⟩⟩
      refine ⟨_, results_tmp2 rfl _ _ _, bT, rfl, ?_⟩
      have hgD := grownBy_putObj' w9' D (.deferred none)
      obtain ⟨eb0, eb1, eb2, eb3⟩ := HBXB.out d HBX.out
      have hrD : ∀ r, some D = some r → w15.heap.size ≤ r ∧ ∃ o : Obj, w9'.heap[r]? = some o ∧ o.isCells = false := fun r e => by cases e; exact ⟨hD, _, hD9, rfl⟩
      have hKf := Kn_fixed (B := w15.heap.size) HK9.out (fun t ht => by
        simp only [List.cons_append, List.nil_append, List.mem_cons, List.not_mem_nil, or_false] at ht
        rcases ht with rfl | rfl | rfl | rfl | rfl | rfl | rfl
        · exact fixed_box _ _ _
        · exact fixed_own _ _ _ _ _ _ _
        · exact fixed_own _ _ _ _ _ _ _
        · exact fun W W' row h hg _ => Nat.le_trans h hg.size
        · exact fixed_box _ _ _
        · exact fixed_box _ _ _
        · exact fixed_tab (by omega)) (by omega) hgD hrD
      have hids := own_rowv (l := idsOf us) (v := .slice ia il ic) (base := WD.heap.size) (w := w9'.putObj D (.deferred none)) (by rw [← HIL.out]; exact Knget (pre := [_, _]) hKf) (by have := ids_le us; have := HLUS.out.1; omega) (fun n hn => by
        obtain ⟨t, ht, rfl⟩ := List.mem_map.1 hn
        obtain ⟨i, hi2, rfl⟩ := List.mem_iff_getElem.1 (List.mem_filter.1 ht).1
        have hat := HR.out.2.2.2.1
        obtain ⟨va', vc', hsh, _, _⟩ := hat.shape
        rw [hsh] at hat
        obtain ⟨_, _, _, _, _, _, _, _, _, _, _, wid⟩ := hat.at hi2
        exact wid)
      obtain ⟨ia2, ic2, eiv, hirow⟩ := hids
      obtain ⟨rfl, _, rfl⟩ : ia = ia2 ∧ il = (idsOf us).length ∧ ic = ic2 := by simpa using eiv
      refine ⟨⟨d, us, 3 * ys.length, ia, ic, la, lc, ⟨HR.out.2.1, ?_⟩, ?_, ?_, hirow, ?_, by omega⟩, hKf.below, hbTw⟩
      · have huq : Uq ts := valid_uq (checkS_ok HEC.out.symm).1
        have hne : us.Pairwise fun a b => a.id ≠ b.id := (HR.out.2.1.pairwise_iff (fun {a b} (h : a.id ≠ b.id) => h.symm)).2 huq.ids
        exact (HR.out.2.2.1.and hne).imp fun h => by
          obtain ⟨h1, h2⟩ := h
          omega
      · rw [← HSY.out]
        exact Knget (pre := [_, _, _, _, _, _]) hKf
      · have e : tabBox (.slice ia (idsOf us).length ic) (.slice la (docKeys ts).length lc) d = tabBox (.slice ia il ic) (.slice la sn lc) d0 := by
          rw [← HIL.out, ← HR7.out.1]
          simp [tabBox, eb0, eb1, eb2, eb3]
        rw [e]
        exact Knget (pre := [_, _, _, _, _]) hKf
      · exact rowv_only HRK.out (only_grown hgD) (fun b i u hc e => by
          cases e
          simp [World.cell?, hD9] at hc)
    case stop =>
      rintro D c pre W _ _ h _
      exact h.elim
  · gi_wp2_with (refine ⟨trivial, ?_⟩; gi_at_call 34; go_must ((with_reducible refine (callsIn_wide.2 (Hid.out HCK)).mono ?_); rintro e w9 ⟨rfl, hb9⟩; have HB9 := hide hb9; clear hb9))
    exact ⟨_, results_tmp2 rfl _ _ _, .inl ⟨h0, rfl, HB1.out.trans (HB9.out.mono HB1.out.size)⟩⟩
end Go.Proofs.YtkinmllflodhaaaGreat.Tab

/- What a table says, wherever it lies: made, bare, or nil. -/
namespace Go.Proofs.YtkinmllflodhaaaGreat.Tab
open Go.RowKit Go.Proofs.YtkinmllflodhaaaGreat.Dig Go.Proofs.YtkinmllflodhaaaGreat.Mem Go.Proofs.YtkinmllflodhaaaGreat.Hist Go.Proofs.YtkinmllflodhaaaGreat.Own Go.Proofs.YtkinmllflodhaaaGreat.Thing Go.Proofs.YtkinmllflodhaaaGreat.Sets Go.Shelf Go.Proofs.YtkinmllflodhaaaGreat.Keys
set_option linter.unusedVariables false
set_option linter.unusedSimpArgs false

def RdV (w : World) (c : List Value) (r : RdM) : Prop := ∃ la lc oa oc, c = [.int .i64 r.txn, .int .i64 (r.op : Int), .int .i64 r.key, .slice la r.list.length lc, .slice oa r.own.length oc] ∧ RowV w la lc r.list ∧ RowV w oa oc r.own
/-- A row of elements of five cells. -/
def Row5 (w : World) (a : Option Addr) (n : Nat) (xs : List Value) : Prop := xs.length = n * 5 ∧ ∀ i u, xs[i]? = some u → ∃ b, a = some ⟨b, 0, none⟩ ∧ w.cell? ⟨b, i, none⟩ = some u
def wrO (m : Option WrM) : Value := match m with
  | some m => wrV m
  | none => .agg #[.int .i64 0, .int .i64 0, .int .i64 0, .int .i64 0, .bool false]
structure Maps4 (w : World) (m0 m1 m2 m3 : Option Nat) (s : Tb) : Prop where
  l0 : ∀ p, appOk p → (Instr.lookup 75 (.map m0) (.agg #[.int .i64 p.1, .int .i64 p.2]) true).run Tryz.prog w = .ok (.tuple #[wrO (s.wr p), .bool (s.wr p).isSome]) w
  l1 : ∀ p, appOk p → ∃ a c, (Instr.lookup 76 (.map m1) (.agg #[.int .i64 p.1, .int .i64 p.2]) false).run Tryz.prog w = .ok (.slice a (s.ap p).length c) w ∧ RowV w a c (s.ap p)
  l2 : ∀ k, nameOk k → ∃ a c cs, (Instr.lookup 77 (.map m2) (.int .i64 k) false).run Tryz.prog w = .ok (.slice a (s.rd k).length c) w ∧ Row5 w a (s.rd k).length cs.flatten ∧ AllAt (RdV w) cs (s.rd k)
  l3 : ∀ k, nameOk k → ∃ a c, (Instr.lookup 78 (.map m3) (.int .i64 k) false).run Tryz.prog w = .ok (.slice a (s.ws k).length c) w ∧ Row5 w a (s.ws k).length ((s.ws k).flatMap wrC)
structure Vw (w : World) (bT : Nat) (ids keys : List Int) (s : Tb) : Prop where
  ex : ∃ ia ic ka kc m0 m1 m2 m3, Is w bT #[.slice ia ids.length ic, .slice ka keys.length kc, .map m0, .map m1, .map m2, .map m3] ∧ RowV w ia ic ids ∧ RowV w ka kc keys ∧ ∀ W, Below w.heap.size w W → Maps4 W m0 m1 m2 m3 s
theorem Vw.keep {w w' : World} {bT : Nat} {ids keys : List Int} {s : Tb} (h : Vw w bT ids keys s) (hb : Below w.heap.size w w') : Vw w' bT ids keys s := by
  obtain ⟨ia, ic, ka, kc, m0, m1, m2, m3, h1, h2, h3, h4⟩ := h.ex
  exact ⟨ia, ic, ka, kc, m0, m1, m2, m3, h1.below hb, h2.keep hb, h3.keep hb, fun W hW => h4 W (hb.trans (hW.mono hb.size))⟩
theorem own_row5 {w : World} {base : Nat} {e : TypeId} {v : Value} {n : Nat} {xs : List Value} (h : w.ownsRow base e 5 v n xs) : ∃ a c, v = .slice a n c ∧ Row5 w a n xs := by
  obtain ⟨a, c, rfl⟩ := Own.own_form (show (ownN base e 5 v n xs).P w from h)
  refine ⟨a, c, rfl, h.1, fun i u hu => ?_⟩
  obtain ⟨g, c', e1, hc, _⟩ := own_at (show (ownN base e 5 (.slice a n c) n xs).P w from h) hu
  cases e1
  exact ⟨g, rfl, hc⟩
theorem TabAt.maps {base n : Nat} {d : TD} {s : Tb} {w : World} (h : TabAt base d s n w) (hn : n ≤ 100000) (hl : ∀ k, ∀ r ∈ s.rd k, r.list.length ≤ 1000000 ∧ r.own.length ≤ 1000000) : Maps4 w (some d.b0) (some d.b1) (some d.b2) (some d.b3) s where
  l0 p hp := by
    have := h.m0.look_ok (T := 75) (E := 64) tappIs Tryz.underlying75 (zeroW w) (x := p) hp
    refine this.trans ?_
    cases s.wr p <;> rfl
  l1 p hp := by
    have := h.m1.look (T := 76) (E := 36) tpartIs Tryz.underlying76 (zeroI w) (x := p) hp
    obtain ⟨a, c, e, hr⟩ := own_rowv (h.ra p) (by have := h.la p; omega) (h.aw p)
    exact ⟨a, c, by rw [← e]; exact this, hr⟩
  l2 k hk := by
    have := h.m2.look (T := 77) (E := 94) idIs Tryz.underlying77 (zeroR w) (x := k) hk
    obtain ⟨a, c, e, hr⟩ := own_row5 (h.rr k)
    refine ⟨a, c, d.cR k, by rw [← e]; exact this, hr, ⟨(h.rs k).1, fun i c r hc hrr => ?_⟩⟩
    obtain ⟨lv, ov, rfl, h1, h2⟩ := (h.rs k).2 i c r hc hrr
    obtain ⟨la, lc, rfl⟩ := h1.slice
    obtain ⟨oa, oc, rfl⟩ := h2.slice
    have hll := hl k r (List.mem_of_getElem? hrr)
    exact ⟨la, lc, oa, oc, rfl, (h1.row (by omega)).2, (h2.row (by omega)).2⟩
  l3 k hk := by
    have := h.m3.look (T := 78) (E := 120) idIs Tryz.underlying78 (zeroWs w) (x := k) hk
    obtain ⟨a, c, e, hr⟩ := own_row5 (h.rw k)
    exact ⟨a, c, by rw [← e]; exact this, hr⟩
theorem row_nil (w : World) : RowV w none 0 [] := ⟨Nat.le_refl _, ⟨by simp, fun i hi => by simp at hi⟩, fun _ => rfl⟩
theorem row5_nil (w : World) (a : Option Addr) : Row5 w a 0 [] := ⟨rfl, fun i u hu => by simp at hu⟩
theorem maps_none (w : World) : Maps4 w none none none none (tb []) where
  l0 p hp := nil_look_ok (T := 75) (E := 64) tappIs Tryz.underlying75 (zeroW w) (x := p) hp
  l1 p hp := ⟨none, 0, nil_look (T := 76) (E := 36) tpartIs Tryz.underlying76 (zeroI w) (x := p) hp, row_nil w⟩
  l2 k hk := ⟨none, 0, [], nil_look (T := 77) (E := 94) idIs Tryz.underlying77 (zeroR w) (x := k) hk, row5_nil w none, AllAt.nil _⟩
  l3 k hk := ⟨none, 0, nil_look (T := 78) (E := 120) idIs Tryz.underlying78 (zeroWs w) (x := k) hk, row5_nil w none⟩
/-- A table that no call made. -/
theorem vw_bare (w : World) {b : Nat} (h : Is w b #[.slice none 0 0, .slice none 0 0, .map none, .map none, .map none, .map none]) : Vw w b [] [] (tb []) :=
  ⟨none, 0, none, 0, none, none, none, none, h, row_nil w, row_nil w, fun W _ => maps_none W⟩
/-- A value that is a table, or nil. -/
def TabV (w : World) (v : Value) (ids keys : List Int) (s : Tb) : Prop := (v = .pointer none ∧ ids = [] ∧ keys = [] ∧ s = tb []) ∨ ∃ bT, v = .pointer (some ⟨bT, 0, none⟩) ∧ Vw w bT ids keys s
theorem TabV.keep {w w' : World} {v : Value} {ids keys : List Int} {s : Tb} (h : TabV w v ids keys s) (hb : Below w.heap.size w w') : TabV w' v ids keys s := by
  rcases h with h | ⟨bT, e, h⟩
  · exact .inl h
  · exact .inr ⟨bT, e, h.keep hb⟩
theorem opsN_len {us : List TxnM} : (flat us).length = opsN us := flat_len us
theorem readsG_own (k : Int) : ∀ (done a : List Spot), ∀ r ∈ readsG done a k, r.own.length ≤ done.length + a.length ∧ ∃ x ∈ a, r.list = x.o.list
  | _, [], r, hr => by simp [readsG] at hr
  | done, x :: a, r, hr => by
    rw [readsG] at hr
    rcases List.mem_append.1 hr with q | q
    · split at q
      · simp at q
        subst q
        refine ⟨?_, x, by simp, rfl⟩
        have := appsP_le done (x.id, x.o.key)
        simp only [rdOf, List.length_cons]
        omega
      · simp at q
    · obtain ⟨h1, y, hy, e⟩ := readsG_own k (done ++ [x]) a r q
      exact ⟨by simp at h1 ⊢; omega, y, List.mem_cons_of_mem _ hy, e⟩
theorem Made.vw {w w' : World} {bT : Nat} {ts : List TxnM} (h : Made w bT ts w') (hf : FewT ts) : ∃ us, Ord ts us ∧ Vw w' bT (idsOf us) (docKeys ts) (tb (flat us)) := by
  obtain ⟨d, us, n, ia, ic, ka, kc, ho, ht, hi, h1, h2, hn⟩ := h.ex
  refine ⟨us, ho, ⟨ia, ic, ka, kc, some d.b0, some d.b1, some d.b2, some d.b3, hi, h1, h2, fun W hW => (ht.keep (Only.of_below (S := fun _ => False) hW) (fun _ _ q => q)).maps hn fun k r hr => ?_⟩⟩
  obtain ⟨e1, x, hx, e2⟩ := readsG_own k [] (flat us) r hr
  have hlen : (flat us).length ≤ 1000 := by
    rw [flat_len]
    have : opsN us = opsN ts := (ho.1.map _).sum_nat
    have := hf.2.1
    omega
  refine ⟨?_, by simp at e1; omega⟩
  obtain ⟨t, htm, hx⟩ := List.mem_flatMap.1 hx
  rw [spots_mk] at hx
  have hxo : x.o ∈ t.ops := by
    have := List.mem_map_of_mem (f := fun s : Spot => s.o) hx
    rwa [mk_ops] at this
  rw [e2]
  have := hf.2.2 t (ho.1.mem_iff.1 htm) x.o hxo
  omega
set_option maxRecDepth 100000 in
theorem orn_any (v : Value) (ids keys : List Int) (s : Tb) (w : World) (h : TabV w v ids keys s) :
    Calls Tryz.prog 43 #[v] w fun e w' => ∃ bT, e = .returned (.pointer (some ⟨bT, 0, none⟩)) ∧ Hid (Vw w' bT ids keys s) ∧ Hid (Below w.heap.size w w') := by
  rcases h with ⟨rfl, rfl, rfl, rfl⟩ | ⟨bT, rfl, h⟩
  · go_enter Tryz.func43, Tryz.ntmps43
    go_wp2
    go_ret
    exact ⟨_, rfl, vw_bare _ (Is.made _ _ _ rfl), (Below.refl _ _).alloc (Nat.le_refl _) _⟩
  · have HH := hide h
    clear h
    go_enter Tryz.func43, Tryz.ntmps43
    go_wp2
    go_ret
    exact ⟨_, rfl, HH, Below.refl _ _⟩
end Go.Proofs.YtkinmllflodhaaaGreat.Tab
