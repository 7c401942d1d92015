/- Joined out of the texts DqsRun, DqsNew, DqsAdd, DqsPE, PoolWorks, in that order. -/
import Derived.Test.YtkjhamcmhijhgaaGreatAll7
import Derived.Test.YtkjhamcmhijhgaaGreatAll8
import Derived.Maps.OwnIn
import Derived.Sort.LoopGhostIn
/- A run: steps by the script, till nobody is ready, or it is cancelled. -/
namespace Go.Proofs.YtkjhamcmhijhgaaGreat.DqS
open Go.RowKit Go.Proofs.YtkjhamcmhijhgaaGreat.Dig Go.Proofs.YtkjhamcmhijhgaaGreat.Mem Go.Proofs.YtkjhamcmhijhgaaGreat.Dq Go.Proofs.YtkjhamcmhijhgaaGreat.Bit Go.Proofs.YtkjhamcmhijhgaaGreat.Thing Go.Proofs.YtkjhamcmhijhgaaGreat.Pool Go.Proofs.YtkjhamcmhijhgaaGreat.Sets Go.Proofs.YtkjhamcmhijhgaaGreat.Pick Go.Shelf
set_option linter.unusedVariables false
set_option linter.unusedSimpArgs false
attribute [local go_sem] Oper.semAt_some

/-- What comes of a job, and what a pool's other thing is behind so many jobs: what Run asks of the function that does them. -/
def Does (w : World) (p : Nat) (doF : Value) (of : (List UInt8) → List (List UInt8)) (G : (List UInt8) → Prop) (D : List (List UInt8) → Th → Prop) : Prop :=
  ∀ (dn : List (List UInt8)) (t : Th) (ts : List Th) (ks : List Wk) (b sb nx st : Nat) (v : Value) (k : Nat) (κ : Wk) (wy : World), D dn t → Hid (Kn w (wsT b ks :: boxT p (pcells b ks.length sb nx dn.length st v) :: t :: ts) wy) → ks[k]? = some κ → G κ.x → ks.length ≤ 64 → dn.length ≤ 1000000 → κ.l.length ≤ 300000 →
    Calls Tryz.prog 43 #[.pointer (some ⟨p, 0, none⟩), .int .i64 (k : Int), doF] wy fun e w' => e = .returned (.tuple #[]) ∧ ∃ r' t', Hid (Kn w (wsT b (ks.set k { κ with r := r', l := κ.l ++ of κ.x, x := ([] : List UInt8), h := false, u := false }) :: boxT p (pcells b ks.length sb nx (dn.length + 1) st v) :: t' :: ts) w') ∧ Hid (D (dn ++ [κ.x]) t')
/-- All jobs are of a kind. -/
def AllG (G : (List UInt8) → Prop) (ks : List (W1 (List UInt8))) : Prop := ∀ κ ∈ ks, (∀ x ∈ κ.l, G x) ∧ (κ.h = true → G κ.x)
section
variable {G : (List UInt8) → Prop} {of : (List UInt8) → List (List UInt8)} {s : PS (List UInt8)} {k : Nat}
theorem allG_set {ks : List (W1 (List UInt8))} (h : AllG G ks) {κ : W1 (List UInt8)} (hk : (∀ x ∈ κ.l, G x) ∧ (κ.h = true → G κ.x)) (k : Nat) : AllG G (ks.set k κ) := fun κ' hκ => by
  rcases List.mem_or_eq_of_mem_set hκ with q | q
  · exact h κ' q
  · rw [q]; exact hk
theorem allG_step (hof : ∀ x, G x → ∀ y ∈ of x, G y) (h : AllG G s.ks) (hr : rdy s.ks k = true) : AllG G (stepK of ([] : List UInt8) s k).ks := by
  rcases step_cases of ([] : List UInt8) hr with ⟨κ, h1, h2, h3⟩ | ⟨κ, l, x, h1, h2, h3, h4⟩ | ⟨κ, z, κz, x, l, d, h1, h2, h3, h4, h5, h6, h7, h8, h9, h10⟩
  · obtain ⟨g1, g2⟩ := h κ (List.mem_of_getElem? h1)
    rw [h3]
    refine allG_set h ⟨fun x hx => ?_, fun q => by cases q⟩ k
    rcases List.mem_append.1 hx with q | q
    · exact g1 x q
    · exact hof _ (g2 h2) x q
  · obtain ⟨g1, g2⟩ := h κ (List.mem_of_getElem? h1)
    rw [h4]
    exact allG_set h ⟨fun y hy => g1 y (by rw [h3]; simp [hy]), fun _ => g1 x (by rw [h3]; simp)⟩ k
  · obtain ⟨g1, g2⟩ := h κz (List.mem_of_getElem? h7)
    rw [h10]
    exact allG_set (κ := ⟨[], x, true⟩) (allG_set (κ := ⟨l, κz.x, κz.h⟩) h ⟨fun y hy => g1 y (by rw [h8]; exact List.mem_cons_of_mem _ hy), g2⟩ z) ⟨fun y hy => absurd hy List.not_mem_nil, fun _ => g1 x (by rw [h8]; exact List.mem_cons_self)⟩ k
end
/-- What a run knows between two steps. -/
structure RunR (w : World) (p b sb : Nat) (L : List Int) (c : Int) (G : (List UInt8) → Prop) (J : (List UInt8) → Nat) (of : (List UInt8) → List (List UInt8)) (D : List (List UInt8) → Th → Prop) (Ds : List Nat) (t : Th) (ts : List Th) (ks : List Wk) (v : Value) (s : PS (List UInt8)) (n mm : Nat) (R : PS (List UInt8) × Nat × Int) (W : World) : Prop where
  se : SE w sb L c n (wsT b ks :: boxT p (pcells b ks.length sb s.nx s.dn.length s.st v) :: ownT w.heap.size 3 v s.who.length (s.who.map (Value.int .i64)) :: t :: (Ds.map markT ++ ts)) W
  dt : D s.dn t
  eq : wl ks = s.ks
  idle : ∀ κ ∈ ks, κ.u = false
  len : ks.length ≤ 64
  all : AllG G s.ks
  less : todo J s.ks < mm
  is : runS of ([] : List UInt8) L c mm s n = R
  small : mm + n ≤ 200000 ∧ s.dn.length + mm ≤ 500000 ∧ s.st + mm ≤ 500000 ∧ s.who.length + mm ≤ 500000
section
variable {w wx W' : World} {p b sb : Nat} {L : List Int} {c : Int} {G : (List UInt8) → Prop} {J : (List UInt8) → Nat} {of : (List UInt8) → List (List UInt8)} {D : List (List UInt8) → Th → Prop} {Ds : List Nat} {t t' : Th} {ts : List Th} {ks ks' : List Wk} {v v' : Value} {s : PS (List UInt8)} {n mm k : Nat} {R : PS (List UInt8) × Nat × Int}
theorem RunR.pos (h : RunR w p b sb L c G J of D Ds t ts ks v s n mm R wx) : ∃ m, mm = m + 1 := ⟨mm - 1, by have := h.less; omega⟩
theorem RunR.over0 (h : RunR w p b sb L c G J of D Ds t ts ks v s n mm R wx) (h0 : readyL s.ks = []) : R = (s, n, 0) := by
  obtain ⟨m, rfl⟩ := h.pos
  rw [← h.is]
  exact run_none of ([] : List UInt8) L c h0
theorem RunR.over8 (h : RunR w p b sb L c G J of D Ds t ts ks v s n mm R wx) (h0 : readyL s.ks ≠ []) (ho : over c n = true) : R = (s, n, 8) := by
  obtain ⟨m, rfl⟩ := h.pos
  rw [← h.is]
  exact run_over of ([] : List UInt8) L c h0 ho
theorem RunR.next {M : Nat} (h : RunR w p b sb L c G J of D Ds t ts ks v s n mm R wx) (hJ : ∀ x, J x = 1 + ((of x).map J).sum) (hof : ∀ x, G x → ∀ y ∈ of x, G y) (h0 : readyL s.ks ≠ []) (ho : over c n = false) (hk : told L n (readyL s.ks) = (k : Int)) (hr : rdy s.ks k = true)
    (hse : SE w sb L c (n + 1) (wsT b ks' :: boxT p (pcells b ks'.length sb (stepK of ([] : List UInt8) s k).nx (stepK of ([] : List UInt8) s k).dn.length (stepK of ([] : List UInt8) s k).st v') :: ownT w.heap.size 3 v' (stepK of ([] : List UInt8) s k).who.length ((stepK of ([] : List UInt8) s k).who.map (Value.int .i64)) :: t' :: ((M :: Ds).map markT ++ ts)) W')
    (hdt : D (stepK of ([] : List UInt8) s k).dn t') (heq : wl ks' = (stepK of ([] : List UInt8) s k).ks) (hi : ∀ κ ∈ ks', κ.u = false) : RunR w p b sb L c G J of D (M :: Ds) t' ts ks' v' (stepK of ([] : List UInt8) s k) (n + 1) (mm - 1) R W' := by
  obtain ⟨m, rfl⟩ := h.pos
  obtain ⟨l1, l2, l3, l4, l5⟩ := step_len (of := of) (d0 := ([] : List UInt8)) hr
  have ht := step_todo (d0 := ([] : List UInt8)) hJ hr
  have hl := h.less
  have hs := h.small
  refine ⟨hse, hdt, heq, hi, ?_, allG_step hof h.all hr, by omega, ?_, by omega⟩
  · rw [← wl_length, heq, l1, ← h.eq, wl_length]; exact h.len
  · rw [← h.is, run_next of ([] : List UInt8) L c h0 ho hk]; rfl
end
section
variable {w W w' : World} {p b n sb nx dn st : Nat} {v v' : Value} {ks : List Wk} {ts : List Th}
theorem whoK {base m m' : Nat} {e : TypeId} {xs xs' : List Value} (h : Kn w (wsT b ks :: boxT p (pcells b n sb nx dn st v) :: ownT base e v m xs :: ts) W) (ho : w'.ownsRow base e 1 v' m' xs') (hg : W.grownBy w' v.ownBlock) (hat : v'.ownBlock = v.ownBlock ∨ v'.ownBlock = some W.heap.size) :
    Kn w (wsT b ks :: boxT p (pcells b n sb nx dn st v) :: ownT base e v' m' xs' :: ts) w' :=
  Kn.turnAt (pre := [_, _]) (t := ownT base e v m xs) (t' := ownT base e v' m' xs') h ho ⟨hg.os, hg.tape, hg.output, hg.size, fun k hk hn => hg.block k hk (fun e => hn e.symm)⟩ (fun k hk => by
    have hk' : v'.ownBlock = some k := hk
    rcases hat with q | q
    · exact .inl (by show v.ownBlock = some k; rw [← q]; exact hk')
    · rw [q] at hk'
      exact .inr (Nat.le_of_eq (Option.some.inj hk')))
theorem whoS (h : Kn w (wsT b ks :: boxT p (pcells b n sb nx dn st v) :: ts) W) (v' : Value) : Kn w (wsT b ks :: boxT p (pcells b n sb nx dn st v') :: ts) (W.setCell ⟨p, 5, none⟩ v') := by
  refine Kn.turnAt (pre := [_]) (t := boxT p (pcells b n sb nx dn st v)) (t' := boxT p (pcells b n sb nx dn st v')) h ?_ ((Only.refl _ _).put 5 _) (fun _ e => .inl e)
  have := (Kn.hd2 h).set 5 v'
  refine this.eq ?_
  simp [pcells]
end
theorem stepK_held {of : (List UInt8) → List (List UInt8)} {s : PS (List UInt8)} {k : Nat} {κ : W1 (List UInt8)} (h : s.ks[k]? = some κ) (hh : κ.h = true) : stepK of ([] : List UInt8) s k = { s with ks := s.ks.set k ⟨κ.l ++ of κ.x, ([] : List UInt8), false⟩, dn := s.dn ++ [κ.x], who := s.who ++ [(k : Int)] } := by
  unfold stepK
  simp [h, hh]
set_option maxRecDepth 100000 in
set_option maxHeartbeats 16000000 in
theorem run_any {w wx : World} {p b sb : Nat} {L : List Int} {c : Int} {G : (List UInt8) → Prop} {J : (List UInt8) → Nat} {of : (List UInt8) → List (List UInt8)} {D : List (List UInt8) → Th → Prop} {t : Th} {ts : List Th} {ks : List Wk} {v : Value} {s : PS (List UInt8)} {n mm : Nat} {R : PS (List UInt8) × Nat × Int} {doF : Value}
    (h : RunR w p b sb L c G J of D [] t ts ks v s n mm R wx) (hJ : ∀ x, J x = 1 + ((of x).map J).sum) (hof : ∀ x, G x → ∀ y ∈ of x, G y) (hdo : Does w p doF of G D) :
    Calls Tryz.prog 24 #[.pointer (some ⟨p, 0, none⟩), doF] wx fun e w' => e = .returned (.int .i64 R.2.2) ∧ ∃ ks' v' t', Hid (SE w sb L c R.2.1 (wsT b ks' :: boxT p (pcells b ks'.length sb R.1.nx R.1.dn.length R.1.st v') :: ownT w.heap.size 3 v' R.1.who.length (R.1.who.map (Value.int .i64)) :: t' :: ts) w') ∧ Hid (wl ks' = R.1.ks ∧ (∀ κ ∈ ks', κ.u = false) ∧ D R.1.dn t') := by
  have H := hide h
  obtain ⟨_, _, hkn⟩ := h.se
  obtain ⟨⟨c0, c1, _⟩, _⟩ := six (Kn.hd3 hkn)
  clear hkn h
  refine (callsIn_wide (n := 3)).1 ?_
  refine callsIn_of_wp_marks Tryz.func24 rfl trivial ?_ rfl
  simp only [Tryz.ntmps24, List.size_toArray, List.length_cons, List.length_nil, Nat.reduceAdd, Nat.reduceSub, Array.replicate_succ, Array.replicate_zero, List.push_toArray, List.append_toArray, List.nil_append, List.cons_append]
  gi_wp2
  refine wpIn_loop_ghost_k (fun mm a W => ∃ u2 u3 u4 u5 u6 u7 u8 u9 u10 u11 u12 u13 u14 u15 u16 u17 u18 u19 u20 u21 u22 u23 u24 u25 u26 u27 u28 u29 u30 u31 u32 u33 u34 u35 u36 u37 u38 u39 u40 u41 u42 u43 u44 u45 u46 u47 u48 u49 u50 u51 u52 u53 u54 u55 u56 u57 u58 u59 u60 u61 u62 u63 u64 Ds t ks v s n, a = { tmps := #[.pointer (some ⟨p, 0, none⟩), doF, u2, u3, u4, u5, u6, u7, u8, u9, u10, u11, u12, u13, u14, u15, u16, u17, u18, u19, u20, u21, u22, u23, u24, u25, u26, u27, u28, u29, u30, u31, u32, u33, u34, u35, u36, u37, u38, u39, u40, u41, u42, u43, u44, u45, u46, u47, u48, u49, u50, u51, u52, u53, u54, u55, u56, u57, u58, u59, u60, u61, u62, u63, u64], defers := Ds.map mkD } ∧ RunR w p b sb L c G J of D Ds t ts ks v s n mm R W) mm ?start ?round
  case start => exact ⟨_, _, _, _, _, _, _, _, _, _, _, _, _, _, _, _, _, _, _, _, _, _, _, _, _, _, _, _, _, _, _, _, _, _, _, _, _, _, _, _, _, _, _, _, _, _, _, _, _, _, _, _, _, _, _, _, _, _, _, _, _, _, _, [], t, ks, v, s, n, rfl, H.out⟩
  case round =>
    clear H c0 c1
    rintro mm a0 wr ⟨u2, u3, u4, u5, u6, u7, u8, u9, u10, u11, u12, u13, u14, u15, u16, u17, u18, u19, u20, u21, u22, u23, u24, u25, u26, u27, u28, u29, u30, u31, u32, u33, u34, u35, u36, u37, u38, u39, u40, u41, u42, u43, u44, u45, u46, u47, u48, u49, u50, u51, u52, u53, u54, u55, u56, u57, u58, u59, u60, u61, u62, u63, u64, Ds, t, ks, v, s, n, rfl, hR⟩ JJ KK hJJ hKK
    have H := hide hR
    obtain ⟨pa, pc, hkn⟩ := hR.se
    obtain ⟨⟨c0, c1, _⟩, _⟩ := six (Kn.hd3 hkn)
    have HKN := hide hkn
    have HJJ := hide hJJ
    clear hkn hR hJJ
    gi_wp2_with (refine ⟨trivial, ?_⟩; gi_at_call 42; go_must ((with_reducible refine (callsIn_wide.2 (ready_clo _ _)).mono ?_); rintro e w9 ⟨rfl, rfl⟩))
    obtain ⟨W0, hW0⟩ : ∃ W0, W0 = (wr.alloc (.cells #[.slice none 0 0] 22)).alloc (.cells #[.pointer (some ⟨p, 0, none⟩)] 50) := ⟨_, rfl⟩
    have hsz : W0.heap.size = wr.heap.size + 2 := by rw [hW0]; simp
    have hb2 : Below wr.heap.size wr W0 := by rw [hW0]; exact ((Below.refl _ _).alloc (Nat.le_refl _) _).alloc (by simp) _
    have L0 : LI 3 22 (Value.int .i64) wr [(wr.heap.size + 1, 50, .pointer (some ⟨p, 0, none⟩))] wr.heap.size (.slice none 0 0) ([] : List Int) W0 := by
      refine ⟨fun q hq => ?_, ?_, World.ownsRow_nil _ _ _ _, by decide, by omega, hb2⟩
      · obtain rfl := List.mem_singleton.1 hq
        refine ⟨?_, show (50 : Nat) ≠ 3 by decide, by simp⟩
        rw [hW0]
        have := Boxed.new (wr.alloc (.cells #[.slice none 0 0] 22)) 50 (.pointer (some ⟨p, 0, none⟩))
        simpa using this
      · rw [hW0]
        have := Boxed.new wr 22 (.slice none 0 0)
        exact boxed_below this ((Below.refl _ _).alloc (by simp) _)
    rw [← hW0]
    clear hW0 hb2
    have HW : Hid (waitL (wl ks) ≤ 1000000) := hide (by
      have h1 := H.out.less
      have h2 := H.out.small
      have h3 := (left_todo (J := J) (fun x => by rw [hJ]; omega) s.ks).2
      rw [H.out.eq]
      unfold leftL at h3
      omega)
    obtain ⟨i0, hi, hz0, hz1, hz2⟩ := info_parts Tryz.infoInt
    have hst := readyc_led (wr.heap.size + 1) p b sb s.nx s.dn.length s.st v ks H.out.len HW.out H.out.idle (fun pre W => ∃ va, LI 3 22 (Value.int .i64) wr [(wr.heap.size + 1, 50, .pointer (some ⟨p, 0, none⟩))] wr.heap.size va pre W) (fun pre W ⟨va, hL⟩ => ⟨(hL.boxes (wr.heap.size + 1, 50, .pointer (some ⟨p, 0, none⟩)) (by simp)).1.cell, Kn.hd3 (HKN.out.keep hL.below), Kn.hd2 (HKN.out.keep hL.below)⟩)
    refine range_led (n := 3) rfl (by omega) rfl trivial (enters_of Tryz.func66 (by kernel_rfl) rfl) _ (fun _ _ _ => False) hst (fun _ => rfl) ?hI (fun _ _ _ _ _ hs _ _ => hs.elim) ⟨_, L0⟩
      (fun x => { tmps := #[.pointer (some ⟨p, 0, none⟩), doF, u2, u3, u4, .pointer (some ⟨wr.heap.size, 0, none⟩), .int .i64 x, u7, u8, u9, u10, u11, u12, u13, u14, u15, u16, u17, .pointer (some ⟨p, 0, none⟩), .func (.func 66) #[] #[.pointer (some ⟨wr.heap.size + 1, 0, none⟩)], .int .i64 x, u21, u22, u23, u24, u25, u26, u27, u28, u29, u30, u31, u32, u33, u34, u35, u36, u37, u38, u39, u40, u41, u42, u43, u44, u45, u46, u47, u48, u49, u50, u51, u52, u53, u54, u55, u56, u57, u58, u59, u60, u61, u62, u63, u64], defers := [] }) ?assign ?body ?done ?stop
    case hI =>
      rintro pre A V row ⟨va, hL⟩ hg hr
      exact ⟨va, hL.turn (by omega) hg hr⟩
    case assign =>
      intro f x W K hK
      simp only [encR]
      gi_wp2
      exact hK
    case body =>
      rintro f pre x W ⟨va, hL⟩ ⟨k, rfl, hk, rfl⟩
      have hc := hL.box.cell
      have hrow := hL.own
      have hsz2 := hL.below.size
      have hkl : (readyTo (wl ks) k).length ≤ 64 := Nat.le_trans (readyTo_length _ _) (by have := rdy_lt hk; rw [wl_length] at this; have := H.out.len; omega)
      obtain ⟨q, hq⟩ : ∃ q, q = (readyTo (wl ks) k).length := ⟨_, rfl⟩
      have HQ := hide hq
      rw [← hq] at hrow hkl
      have HL := hide hL
      have hd : 1 ≤ 3 - 1 - 1 := by omega
      clear hL hk hq hst
      gi_wp2_with (gi_at_builtin; refine wpListIn_append_own _ rfl _ _ 22 rfl wr.heap.size 3 i0 (.int .i64 0) 1 8 Tryz.underlying22 hi hz0 hz1 hz2 rfl (by decide) _ _ _ rfl (hrow.alloc _) ⟨W.heap.size, 0, none⟩ 1 1 [.int .i64 (k : Int)] rfl rfl (cell_one_new _ _ _) (by simp [Value.oneCell']) (by unfold maxLen; omega) (by omega) (by simp; omega) ?_; intro v' w3 hown' hgrow _; obtain ⟨g', cap', rfl⟩ := ownsRow_succ hown'; obtain ⟨hv1, hL3, hk3, hb3⟩ := HL.out.push (l' := readyTo (wl ks) k ++ [(k : Int)]) hown' (by rw [List.length_append, ← HQ.out]; rfl) (by rw [List.map_append]; rfl) hgrow; have hc1 := hv1.cell; have hf1 := hv1.frozen; have HL3 := hide hL3; have HK3 := hide hk3; clear hL3 hk3 hb3 hown' hgrow hv1)
      exact ⟨HK3.out.from _, _, HL3.out⟩
    case stop =>
      rintro D cc pre W hD _ h _
      exact h.elim
    case done =>
      rintro M xs W hM rfl ⟨va, hL⟩ hK
      obtain ⟨ra, rc, rfl, hrow, -⟩ := OwnI.row (show OwnI wr.heap.size W va (readyL (wl ks)) from hL.own) (by have := readyTo_length (wl ks) (wl ks).length; have h2 := H.out.len; rw [wl_length] at this; unfold readyL; rw [wl_length]; omega) (fun z hz => by
        obtain ⟨j, rfl, hj⟩ := Pool.mem_ready.1 hz
        have := rdy_lt hj
        rw [wl_length] at this
        have h2 := H.out.len
        exact wf_of_i64 (by omega) (by omega))
      have hP : Is W wr.heap.size #[.slice ra (readyL (wl ks)).length rc] := ⟨22, hL.box⟩
      have HK9 : Hid (Kn w (boxT wr.heap.size #[.slice ra (readyL (wl ks)).length rc] :: markT M :: scrT sb pa pc L c n :: wsT b ks :: boxT p (pcells b ks.length sb s.nx s.dn.length s.st v) :: ownT w.heap.size 3 v s.who.length (s.who.map (Value.int .i64)) :: t :: (Ds.map markT ++ ts)) W) := hide (Kn.more2 HKN.out hL.below hP hK (fun j e => by cases e; exact Nat.le_refl _) (fun j e => by cases e; omega) (fun j e1 e2 => by cases e1; have : wr.heap.size = M := e2; omega))
      have HROW := hide hrow
      have HEQ := hide H.out.eq
      have hcP := hP.cell 0 (v := .slice ra (readyL (wl ks)).length rc) rfl
      clear hL hK hrow hP L0 hst HW c0 c1 HKN
      rw [HEQ.out] at HROW HK9 hcP
      by_cases h0 : readyL s.ks = []
      · have HR0 := hide (H.out.over0 h0)
        rw [h0] at hcP
        clear HROW
        gi_wp2
        have hq : Kn w ((M :: Ds).map markT ++ (scrT sb pa pc L c n :: wsT b ks :: boxT p (pcells b ks.length sb s.nx s.dn.length s.st v) :: ownT w.heap.size 3 v s.who.length (s.who.map (Value.int .i64)) :: t :: ts)) W := HK9.out.tail.perm (.cons _ (List.perm_append_comm_assoc [_, _, _, _, _] _ _))
        refine leaves_marks (fun W' => results_tmp rfl _ _ _) (M :: Ds) W hq (fun W' hW' => ?_)
        rw [HR0.out]
        exact ⟨rfl, ks, v, t, ⟨pa, pc, hW'⟩, HEQ.out, H.out.idle, H.out.dt⟩
      · obtain ⟨q, hq⟩ : ∃ q, q = (readyL s.ks).length := ⟨_, rfl⟩
        have hq0 : 0 < q := by rw [hq]; exact List.length_pos_iff.2 h0
        have hq64 : q ≤ 64 := by
          have h1 := readyTo_length s.ks s.ks.length
          have h2 := H.out.len
          rw [hq]
          unfold readyL
          rw [← wl_length, H.out.eq] at h2
          omega
        have HSE : Hid (SE w sb L c n (wsT b ks :: boxT p (pcells b ks.length sb s.nx s.dn.length s.st v) :: ownT w.heap.size 3 v s.who.length (s.who.map (Value.int .i64)) :: t :: boxT wr.heap.size #[.slice ra (readyL s.ks).length rc] :: markT M :: (Ds.map markT ++ ts)) W.drew) := hide ⟨pa, pc, (HK9.out.perm (List.perm_append_comm_assoc [_, _] [_, _, _, _, _] _)).keep (Below.refl _ _).drew⟩
        have hn6 : n ≤ 1000000 := by have := H.out.small; omega
        have HSTEP := fun (x e : Int) (n' : Nat) (hs : StepIs L c n (readyL s.ks) x e n') => stepE HSE hn6 hq (by rw [← hq]; omega) (HROW.out.keep (Below.refl _ _).drew) hs
        have hS : Hid (∀ n' w', SE w sb L c n' (wsT b ks :: boxT p (pcells b ks.length sb s.nx s.dn.length s.st v) :: ownT w.heap.size 3 v s.who.length (s.who.map (Value.int .i64)) :: t :: boxT wr.heap.size #[.slice ra q rc] :: markT M :: (Ds.map markT ++ ts)) w' → w'.cell? ⟨p, 1, none⟩ = some (.pointer (some ⟨sb, 0, none⟩)) ∧ w'.cell? ⟨wr.heap.size, 0, none⟩ = some (.slice ra q rc)) := hide (fun n' w' ⟨_, _, z⟩ => ⟨(six (Kn.hd3 z)).1.2.1, (Kn.hd6 z).cell 0 rfl⟩)
        have c1 : W.cell? ⟨p, 1, none⟩ = some (.pointer (some ⟨sb, 0, none⟩)) := (six (Kn.hd5 HK9.out)).1.2.1
        rw [← hq] at hcP HSE HSTEP
        have g0 : ((q : Int) == 0) = false := by simp; omega
        cases ho : over c n with
        | true =>
          have HR0 := hide (H.out.over8 h0 ho)
          have HST := hide (HSTEP 0 8 n ⟨step_over ho⟩)
          clear HSTEP HK9 HROW hq
          gi_wp2
          refine wpIn_wide.2 ?_
          go_region_held3 (fun w' => w'.cell? ⟨p, 1, none⟩ = some (.pointer (some ⟨sb, 0, none⟩)) ∧ w'.cell? ⟨wr.heap.size, 0, none⟩ = some (.slice ra q rc)) (first | exact ⟨by assumption, by assumption⟩ | go_keep)
            (first | (go_at_call 30; (with_reducible refine (Hid.out HST).mono ?_); rintro e w5 ⟨rfl, K5⟩; obtain ⟨e1, e2⟩ := hS.out _ _ K5.out))
          go_simp
          gi_wp2
          obtain ⟨pa5, pc5, hk5⟩ := K5.out
          have hq : Kn w ((M :: Ds).map markT ++ (scrT sb pa5 pc5 L c n :: wsT b ks :: boxT p (pcells b ks.length sb s.nx s.dn.length s.st v) :: ownT w.heap.size 3 v s.who.length (s.who.map (Value.int .i64)) :: t :: ts)) w5 := (Kn.sub (ts' := [_, _, _, _, _] ++ (markT M :: (Ds.map markT ++ ts))) hk5 (.cons_cons _ (.cons_cons _ (.cons_cons _ (.cons_cons _ (.cons_cons _ (.cons _ (List.Sublist.refl _)))))))).perm (List.perm_append_comm_assoc [_, _, _, _, _] (markT M :: Ds.map markT) _)
          refine leaves_marks (fun W' => results_tmp rfl _ _ _) (M :: Ds) w5 hq (fun W' hW' => ?_)
          rw [HR0.out]
          exact ⟨rfl, ks, v, t, ⟨pa5, pc5, hW'⟩, HEQ.out, H.out.idle, H.out.dt⟩
        | false =>
          obtain ⟨k, hk, hrd⟩ := told_rdy L n h0
          have HST := hide (HSTEP k 0 (n + 1) ⟨by rw [step_told ho h0, hk]⟩)
          clear HSTEP HK9 HROW hq
          gi_wp2
          refine wpIn_wide.2 ?_
          go_region_held3 (fun w' => w'.cell? ⟨p, 1, none⟩ = some (.pointer (some ⟨sb, 0, none⟩)) ∧ w'.cell? ⟨wr.heap.size, 0, none⟩ = some (.slice ra q rc)) (first | exact ⟨by assumption, by assumption⟩ | go_keep)
            (first | (go_at_call 30; (with_reducible refine (Hid.out HST).mono ?_); rintro e w5 ⟨rfl, K5⟩; obtain ⟨e1, e2⟩ := hS.out _ _ K5.out))
          go_simp
          obtain ⟨pa5, pc5, hk5⟩ := K5.out
          have K6 : Hid (Kn w (wsT b ks :: boxT p (pcells b ks.length sb s.nx s.dn.length s.st v) :: ownT w.heap.size 3 v s.who.length (s.who.map (Value.int .i64)) :: scrT sb pa5 pc5 L c (n + 1) :: t :: markT M :: (Ds.map markT ++ ts)) w5) := hide ((Kn.sub (ts' := scrT sb pa5 pc5 L c (n + 1) :: ([_, _, _] ++ t :: (markT M :: (Ds.map markT ++ ts)))) hk5 (.cons_cons _ (.cons_cons _ (.cons_cons _ (.cons_cons _ (.cons_cons _ (.cons _ (List.Sublist.refl _)))))))).perm List.perm_middle.symm)
          have hks : k < ks.length := by have := rdy_lt hrd; rw [← HEQ.out, wl_length] at this; exact this
          obtain ⟨κ, hκ⟩ : ∃ κ, ks[k]? = some κ := ⟨ks[k], by simp [hks]⟩
          have HKS := hide hκ
          have hki : (k : Int) < ks.length := by omega
          have hw6 := K6.out.below.size
          obtain ⟨lw, hlw⟩ : ∃ lw, lw = s.who.length := ⟨_, rfl⟩
          have hlw2 : lw ≤ 500000 := by have := H.out.small; omega
          have HLW := hide hlw
          have HKD := hide hk
          have HRD := hide hrd
          have H0 := hide h0
          have HO := hide ho
          rw [← hlw] at K6
          have c5 := (six (Kn.hd2 K6.out)).1.2.2.2.2.2
          have hsk : s.ks[k]? = some κ.p := by rw [← HEQ.out]; exact wl_at hκ
          have HSK := hide hsk
          clear hk5 K5 hκ hlw hsk hk h0 ho hrd hcP c1 e1 e2
          cases hh : κ.h with
          | false =>
            gi_wp2_with (first
              | (gi_at_builtin; go_must ((refine wpListIn_append_own_at _ rfl _ _ 22 rfl w.heap.size 3 i0 (.int .i64 0) 1 8 Tryz.underlying22 hi hz0 hz1 hz2 rfl (by decide) v lw (s.who.map (Value.int .i64)) rfl (World.ownsRow.alloc (Kn.hd3 K6.out) _) ⟨w5.heap.size, 0, none⟩ 1 1 [.int .i64 (k : Int)] rfl rfl (cell_one_new _ _ _) (by simp [Value.oneCell']) (by unfold maxLen; omega) (by omega) (by simp; omega) ?_); intro v6 w6 hown6 hg6 _ hat6; obtain ⟨a6, c6, rfl⟩ := Dq.own_form hown6; have KA := hide (whoK (K6.out.keep (w' := w5.alloc (.cells #[.int .i64 (k : Int)] 3)) ((Below.refl _ _).alloc (Nat.le_refl _) _)) hown6 hg6 hat6); have a5 := (six (Kn.hd2 KA.out)).1.2.2.2.2.2; have af5 := (six (Kn.hd2 KA.out)).2 5; have KB := hide (whoS KA.out (.slice a6 (lw + 1) c6)); have a0 := (six (Kn.hd2 KB.out)).1.1; have a4 := (KB.out.hd.at HKS.out).1.2.1; rw [hh] at a4; clear hown6 hg6 hat6))
              | (refine ⟨trivial, ?_⟩; gi_at_call 44; go_must ((with_reducible refine (callsIn_wide.2 (takeK (of := of) (k := k) KB HEQ.out H.out.idle HRD.out HKS.out hh H.out.len (by have := H.out.small; omega))).mono ?_); rintro e w8 ⟨rfl, ks8, K8, H8, H9⟩)))
            refine Handed.intro (mm - 1) (by have := H.out.less; omega) (HJJ.out _ _ _ ⟨_, _, _, _, _, _, _, _, _, _, _, _, _, _, _, _, _, _, _, _, _, _, _, _, _, _, _, _, _, _, _, _, _, _, _, _, _, _, _, _, _, _, _, _, _, _, _, _, _, _, _, _, _, _, _, _, _, _, _, _, _, _, _, M :: Ds, t, ks8, .slice a6 (lw + 1) c6, stepK of ([] : List UInt8) s k, n + 1, rfl, ?_⟩)
            refine H.out.next hJ hof H0.out HO.out HKD.out HRD.out ⟨pa5, pc5, ?_⟩ (by rw [H9.out.1]; exact H.out.dt) H8.out.1 H8.out.2
            obtain ⟨e1, e2⟩ := H9.out
            have e3 := (step_len (of := of) (d0 := ([] : List UInt8)) HRD.out).2.2.1
            rw [e1, e2, e3, List.length_append, List.map_append, ← HLW.out]
            exact K8.out.perm (List.perm_middle (l₁ := [_, _, _]))
          | true =>
            have HDO : Hid (∀ wy a6 c6, Hid (Kn w (wsT b ks :: boxT p (pcells b ks.length sb s.nx s.dn.length s.st (.slice a6 (lw + 1) c6)) :: ownT w.heap.size 3 (.slice a6 (lw + 1) c6) (lw + 1) (s.who.map (Value.int .i64) ++ [Value.int .i64 (k : Int)]) :: scrT sb pa5 pc5 L c (n + 1) :: t :: markT M :: (Ds.map markT ++ ts)) wy) → _) := hide (fun wy a6 c6 z => hdo s.dn t (ownT w.heap.size 3 (.slice a6 (lw + 1) c6) (lw + 1) (s.who.map (Value.int .i64) ++ [Value.int .i64 (k : Int)]) :: scrT sb pa5 pc5 L c (n + 1) :: markT M :: (Ds.map markT ++ ts)) ks b sb s.nx s.st (.slice a6 (lw + 1) c6) k κ wy H.out.dt (hide (z.out.perm (.cons _ (.cons _ (List.perm_middle (l₁ := [_, _])))))) HKS.out ((H.out.all κ.p (List.mem_of_getElem? HSK.out)).2 hh) H.out.len (by have := H.out.small; omega) (by
              have h1 := len_todo (J := J) (fun x => by rw [hJ]; omega) HSK.out
              have h2 := H.out.small
              have h3 := H.out.less
              have h4 : κ.p.l.length = κ.l.length := rfl
              omega))
            gi_wp2_with (first
              | (gi_at_builtin; go_must ((refine wpListIn_append_own_at _ rfl _ _ 22 rfl w.heap.size 3 i0 (.int .i64 0) 1 8 Tryz.underlying22 hi hz0 hz1 hz2 rfl (by decide) v lw (s.who.map (Value.int .i64)) rfl (World.ownsRow.alloc (Kn.hd3 K6.out) _) ⟨w5.heap.size, 0, none⟩ 1 1 [.int .i64 (k : Int)] rfl rfl (cell_one_new _ _ _) (by simp [Value.oneCell']) (by unfold maxLen; omega) (by omega) (by simp; omega) ?_); intro v6 w6 hown6 hg6 _ hat6; obtain ⟨a6, c6, rfl⟩ := Dq.own_form hown6; have KA := hide (whoK (K6.out.keep (w' := w5.alloc (.cells #[.int .i64 (k : Int)] 3)) ((Below.refl _ _).alloc (Nat.le_refl _) _)) hown6 hg6 hat6); have a5 := (six (Kn.hd2 KA.out)).1.2.2.2.2.2; have af5 := (six (Kn.hd2 KA.out)).2 5; have KB := hide (whoS KA.out (.slice a6 (lw + 1) c6)); have a0 := (six (Kn.hd2 KB.out)).1.1; have a4 := (KB.out.hd.at HKS.out).1.2.1; rw [hh] at a4; clear hown6 hg6 hat6))
              | (refine ⟨trivial, ?_⟩; gi_at_call 43; go_must ((with_reducible refine (callsIn_wide.2 (HDO.out _ _ _ KB)).mono ?_); rintro e w8 ⟨rfl, r8, t8, K8, HT8⟩)))
            refine Handed.intro (mm - 1) (by have := H.out.less; omega) (HJJ.out _ _ _ ⟨_, _, _, _, _, _, _, _, _, _, _, _, _, _, _, _, _, _, _, _, _, _, _, _, _, _, _, _, _, _, _, _, _, _, _, _, _, _, _, _, _, _, _, _, _, _, _, _, _, _, _, _, _, _, _, _, _, _, _, _, _, _, _, M :: Ds, t8, ks.set k { κ with r := r8, l := κ.l ++ of κ.x, x := ([] : List UInt8), h := false, u := false }, .slice a6 (lw + 1) c6, stepK of ([] : List UInt8) s k, n + 1, rfl, ?_⟩)
            have e0 := stepK_held (of := of) HSK.out hh
            refine H.out.next hJ hof H0.out HO.out HKD.out HRD.out ⟨pa5, pc5, ?_⟩ (by rw [e0]; exact HT8.out) ?_ (wl_u H.out.idle rfl)
            · have q1 : (s.who ++ [(k : Int)]).length = lw + 1 := by rw [List.length_append, ← HLW.out]; rfl
              have q2 : (s.dn ++ [κ.p.x]).length = s.dn.length + 1 := by simp
              rw [e0]
              dsimp only
              rw [q1, q2, List.map_append, List.length_set]
              exact K8.out.perm ((List.Perm.cons _ (.cons _ (List.perm_middle (l₁ := [_, _]).symm))).trans (List.perm_middle (l₁ := [_, _, _])))
            · rw [e0, wl_set, HEQ.out]
              rfl
end Go.Proofs.YtkjhamcmhijhgaaGreat.DqS

/- A pool is made; jobs are added; who took the steps. -/
namespace Go.Proofs.YtkjhamcmhijhgaaGreat.DqS
open Go.RowKit Go.Proofs.YtkjhamcmhijhgaaGreat.Dig Go.Proofs.YtkjhamcmhijhgaaGreat.Mem Go.Proofs.YtkjhamcmhijhgaaGreat.Dq Go.Proofs.YtkjhamcmhijhgaaGreat.Bit Go.Proofs.YtkjhamcmhijhgaaGreat.Thing Go.Proofs.YtkjhamcmhijhgaaGreat.Pool Go.Proofs.YtkjhamcmhijhgaaGreat.Sets Go.Proofs.YtkjhamcmhijhgaaGreat.Pick Go.Shelf
set_option linter.unusedVariables false
set_option linter.unusedSimpArgs false

/-- A worker that has nothing yet. -/
def wk0 : Wk := ⟨.bare, [], ([] : List UInt8), false, false⟩
def zeroW : Value := .agg #[.slice none 0 0, .int .i64 0, .int .i64 0, (Value.string ⟨#[]⟩), .bool false, .bool false]
theorem Tryz.infoW : (Tryz.prog.info? 85).map (fun i => (i.zero, i.size, i.bytes)) = some (some zeroW, 6, 64) := by kernel_rfl
theorem wk0_cells : wk0.cells = [.slice none 0 0, .int .i64 0, .int .i64 0, (Value.string ⟨#[]⟩), .bool false, .bool false] := rfl
theorem madeCells_wk (n : Nat) : madeCells zeroW.cells (n * 6) = flat (List.replicate n wk0) := by
  rw [show zeroW.cells = #[.slice none 0 0, .int .i64 0, .int .i64 0, (Value.string ⟨#[]⟩), .bool false, .bool false] from rfl]
  apply Array.ext_getElem?
  intro j
  rcases Nat.lt_or_ge j (n * 6) with q | q
  · obtain ⟨k, i, hi, rfl⟩ : ∃ k i, i < 6 ∧ j = k * 6 + i := ⟨j / 6, j % 6, Nat.mod_lt _ (by omega), by omega⟩
    have hk : k < n := by omega
    rw [flat_at (κ := wk0) (by simp [hk]) hi, wk0_cells]
    have hm : (k * 6 + i) % 6 = i := by omega
    simp [madeCells, hm, q]
    obtain rfl | rfl | rfl | rfl | rfl | rfl : i = 0 ∨ i = 1 ∨ i = 2 ∨ i = 3 ∨ i = 4 ∨ i = 5 := by omega
    all_goals rfl
  · rw [Array.getElem?_eq_none (by simp [madeCells]; omega), Array.getElem?_eq_none (by rw [flat_size]; simpa using q)]
theorem mk_wks (n : Nat) (hn : n ≤ 1000) : ∀ w : World, (Instr.makeSlice 78 (.int .i64 (n : Int)) (.int .i64 (n : Int))).run Tryz.prog w = .ok (.slice (some ⟨w.heap.size, 0, none⟩) n n) (w.alloc (.cells (flat (List.replicate n wk0)) 85)) := by
  intro w
  obtain ⟨i0, hi, hz0, hz1, hz2⟩ := info_parts Tryz.infoW
  have hr := run_makeSlice (P := Tryz.prog) w 78 85 i0 zeroW Tryz.underlying78 hi hz0 .i64 .i64 (n : Int) (n : Int) (by omega) (by omega) (by rw [hz1]; simp [zeroW, Value.cells]; omega) (by rw [hz2]; omega) (by omega)
  simp only [Int.toNat_natCast] at hr
  rw [hz1, madeCells_wk] at hr
  simpa using hr
theorem new_no (r : Int) (q : Value) (h : r < 1 ∨ 64 < r) (w : World) : Calls Tryz.prog 22 #[.int .i64 r, q] w fun e w' => e = .returned (.tuple #[.pointer none, .int .i64 7]) ∧ w' = w := by
  by_cases g1 : r < 1
  · go_enter Tryz.func22, Tryz.ntmps22
    go_wp2
    refine bodyPost_ret (v := .tuple #[.pointer none, .int .i64 7]) (by simp [results, Tryz.results22, go_sem]) rfl ?_
    exact ⟨rfl, rfl⟩
  · have g2 : (64 : Int) < r := by omega
    clear h
    go_enter Tryz.func22, Tryz.ntmps22
    go_wp2
    refine bodyPost_ret (v := .tuple #[.pointer none, .int .i64 7]) (by simp [results, Tryz.results22, go_sem]) rfl ?_
    exact ⟨rfl, rfl⟩
/-- A script that tells that it is none. -/
theorem new_none (r : Int) (q : Value) (h1 : 1 ≤ r) (h2 : r ≤ 64) (w : World) (hs : Calls Tryz.prog 30 #[q, .slice none 0 0] w fun e w' => e = .returned (.tuple #[.int .i64 0, .int .i64 1]) ∧ w' = w) : Calls Tryz.prog 22 #[.int .i64 r, q] w fun e w' => e = .returned (.tuple #[.pointer none, .int .i64 1]) ∧ w' = w := by
  have HS := hide hs
  have g1 : ¬ r < 1 := by omega
  have g2 : ¬ 64 < r := by omega
  clear hs
  go_enter Tryz.func22, Tryz.ntmps22
  go_wp2_with (go_at_call 30; go_must ((with_reducible refine (Hid.out HS).mono ?_); rintro e w9 ⟨rfl, rfl⟩))
  refine bodyPost_ret (v := .tuple #[.pointer none, .int .i64 1]) (by simp [results, Tryz.results22, go_sem]) rfl ?_
  exact ⟨rfl, rfl⟩
section
variable {w wx w' : World} {sb n : Nat} {L : List Int} {c : Int} {ts : List Th}
theorem rowi_nil (w : World) : RowI w none 0 [] := ⟨Nat.le_refl _, ⟨by simp, fun i hi => by simp at hi⟩, fun _ => rfl⟩
theorem ws_made (w : World) (n : Nat) (T : TypeId) {b : Nat} (hb : b = w.heap.size) : Ws (w.alloc (.cells (flat (List.replicate n wk0)) T)) b (List.replicate n wk0) :=
  ⟨Is.made w _ T hb, fun κ hκ => by obtain ⟨_, rfl⟩ := List.mem_replicate.1 hκ; exact ⟨rfl, fun q => q⟩, by
    rw [List.pairwise_iff_getElem]
    intro i j hi hj hij g hg
    rw [List.getElem_replicate] at hg
    exact hg.elim⟩
set_option maxHeartbeats 1000000 in
theorem newP (h : Hid (SE w sb L c n ts wx)) (hn : n ≤ 1000000) (r : Nat) (h1 : 1 ≤ r) (h2 : r ≤ 64) : Calls Tryz.prog 22 #[.int .i64 (r : Int), .pointer (some ⟨sb, 0, none⟩)] wx fun e w' => ∃ p b, e = .returned (.tuple #[.pointer (some ⟨p, 0, none⟩), .int .i64 0]) ∧
    Hid (SE w sb L c n (wsT b (List.replicate r wk0) :: boxT p (pcells b r sb 0 0 0 (.slice none 0 0)) :: ownT w.heap.size 3 (.slice none 0 0) 0 [] :: ts) w') := by
  obtain ⟨x, e, n', hs⟩ := StepIs.ex L c n []
  have HS := stepE h hn (k := 0) rfl (by simp) (rowi_nil wx) hs
  have he : (e = 8 ∨ e = 10) ∧ n' = n := by
    have := hs.is
    unfold stepS at this
    split at this
    · simp at this; exact ⟨.inl this.2.1.symm, this.2.2.symm⟩
    · simp at this; exact ⟨.inr this.2.1.symm, this.2.2.symm⟩
  obtain ⟨he, rfl⟩ := he
  have hmk := mk_wks r (by omega)
  have g1 : ¬ (r : Int) < 1 := by omega
  have g2 : ¬ (64 : Int) < (r : Int) := by omega
  have g3 : (e == 1) = false := by rcases he with rfl | rfl <;> rfl
  replace HS := hide HS
  clear h hs he
  go_enter Tryz.func22, Tryz.ntmps22
  go_wp2_with (go_at_call 30; go_must ((with_reducible refine (Hid.out HS).mono ?_); rintro e w5 ⟨rfl, K5⟩))
  refine bodyPost_ret (v := .tuple #[.pointer (some ⟨w5.heap.size + 1, 0, none⟩), .int .i64 0]) (by simp [results, Tryz.results22, go_sem]) rfl ?_
  refine ⟨w5.heap.size + 1, w5.heap.size, rfl, ?_⟩
  have hb1 : Below w5.heap.size w5 (w5.alloc (.cells (flat (List.replicate r wk0)) 85)) := (Below.refl _ _).alloc (Nat.le_refl _) _
  have k1 := K5.out.more (t := ownT w.heap.size 3 (.slice none 0 0) 0 []) (w' := w5) (Below.refl _ _) (World.ownsRow_nil _ _ _ _) (fun k hk => by cases hk)
  have k2 := k1.more (t := wsT w5.heap.size (List.replicate r wk0)) hb1 (ws_made w5 r 85 rfl) (fun j hj => by
    rcases hj with rfl | ⟨κ, hκ, hj⟩
    · exact Nat.le_refl _
    · obtain ⟨_, rfl⟩ := List.mem_replicate.1 hκ
      exact hj.elim)
  have k3 := k2.more (t := boxT (w5.heap.size + 1) (pcells w5.heap.size r sb 0 0 0 (.slice none 0 0))) (w' := (w5.alloc (.cells (flat (List.replicate r wk0)) 85)).alloc (.cells #[.slice (some ⟨w5.heap.size, 0, none⟩) r r, .pointer (some ⟨sb, 0, none⟩), .int .i64 0, .int .i64 0, .int .i64 0, .slice none 0 0] 80)) ((Below.refl _ _).alloc (Nat.le_refl _) _) (Is.made _ _ _ (by simp)) (fun k hk => by cases hk; simp)
  exact k3.perm (.swap _ _ _)
end
end Go.Proofs.YtkjhamcmhijhgaaGreat.DqS

/- Jobs are added; who took the steps; pools that are not there, or that no call made. -/
namespace Go.Proofs.YtkjhamcmhijhgaaGreat.DqS
open Go.RowKit Go.Proofs.YtkjhamcmhijhgaaGreat.Dig Go.Proofs.YtkjhamcmhijhgaaGreat.Mem Go.Proofs.YtkjhamcmhijhgaaGreat.Dq Go.Proofs.YtkjhamcmhijhgaaGreat.Bit Go.Proofs.YtkjhamcmhijhgaaGreat.Thing Go.Proofs.YtkjhamcmhijhgaaGreat.Pool Go.Proofs.YtkjhamcmhijhgaaGreat.Sets Go.Proofs.YtkjhamcmhijhgaaGreat.Pick Go.Shelf
set_option linter.unusedVariables false
set_option linter.unusedSimpArgs false

theorem add_nil (r : Value) (w : World) : Calls Tryz.prog 23 #[.pointer none, r] w fun e w' => e = .returned (.tuple #[]) ∧ w' = w := by
  go_enter Tryz.func23, Tryz.ntmps23
  go_wp2
  refine bodyPost_ret (results_none rfl _ _ _) rfl ?_
  exact ⟨rfl, rfl⟩
theorem add_un {w : World} {p : Nat} (h : Is w p unmade) (r : Value) : Calls Tryz.prog 23 #[.pointer (some ⟨p, 0, none⟩), r] w fun e w' => e = .returned (.tuple #[]) ∧ w' = w := by
  obtain ⟨c0, c1, c2, c3, c4, c5⟩ := six0 h
  clear h
  go_enter Tryz.func23, Tryz.ntmps23
  go_wp2
  refine bodyPost_ret (results_none rfl _ _ _) rfl ?_
  exact ⟨rfl, rfl⟩
theorem run_nil (f : Value) (w : World) : Calls Tryz.prog 24 #[.pointer none, f] w fun e w' => e = .returned (.int .i64 1) ∧ w' = w := by
  go_enter Tryz.func24, Tryz.ntmps24
  go_wp2
  go_ret
  exact ⟨rfl, rfl⟩
theorem run_un {w : World} {p : Nat} (h : Is w p unmade) (f : Value) : Calls Tryz.prog 24 #[.pointer (some ⟨p, 0, none⟩), f] w fun e w' => e = .returned (.int .i64 1) ∧ w' = w := by
  obtain ⟨c0, c1, c2, c3, c4, c5⟩ := six0 h
  clear h
  go_enter Tryz.func24, Tryz.ntmps24
  go_wp2
  go_ret
  exact ⟨rfl, rfl⟩
theorem who_nil (w : World) : Calls Tryz.prog 28 #[.pointer none] w fun e w' => e = .returned (.slice none 0 0) ∧ w' = w := by
  go_enter Tryz.func28, Tryz.ntmps28
  go_wp2
  go_ret
  exact ⟨rfl, rfl⟩
theorem who_at {w : World} {p : Nat} {a : Option Addr} {c : Nat} {l : List Int} (h : w.cell? ⟨p, 5, none⟩ = some (.slice a l.length c)) (hr : RowV w a c l) (hl : l.length ≤ 1000000) : Calls Tryz.prog 28 #[.pointer (some ⟨p, 0, none⟩)] w fun e w' => (∃ a' c', e = .returned (.slice a' l.length c') ∧ RowV w' a' c' l ∧ ∀ x, a' = some x → w.heap.size ≤ x.block) ∧ Below w.heap.size w w' := by
  have HC := hide (clone_fresh a c l w hr hl)
  obtain ⟨m, hm⟩ : ∃ m, m = l.length := ⟨_, rfl⟩
  rw [← hm] at h HC ⊢
  clear hr hm
  go_enter Tryz.func28, Tryz.ntmps28
  go_wp2_with (go_at_call 29; go_must ((with_reducible refine (Hid.out HC).mono ?_); rintro e w9 ⟨⟨a', c', rfl, h1, h2⟩, h3⟩))
  go_ret
  exact ⟨⟨a', c', rfl, h1, h2⟩, h3⟩
section
variable {w wx w' : World} {b p sb dn st : Nat} {v : Value} {ks : List Wk} {ts : List Th} {s : PS (List UInt8)}
/-- One more is added: nothing else than the rows, and who is next, has turned. -/
theorem addS_at {ks : List Wk} {κ : Wk} (hs : wl ks = s.ks) (hk : ks[s.nx]? = some κ) (x : (List UInt8)) : addS s x = { s with ks := s.ks.set s.nx ⟨κ.l ++ [x], κ.x, κ.h⟩, nx := (s.nx + 1) % s.ks.length } := by
  unfold addS
  rw [← hs, wl_at hk]
  rfl
theorem nextS {n q : Nat} (h : Kn w (wsT b ks :: boxT p (pcells b q sb n dn st v) :: ts) wx) (m : Nat) : Kn w (wsT b ks :: boxT p (pcells b q sb m dn st v) :: ts) (wx.setCell ⟨p, 2, none⟩ (.int .i64 (m : Int))) := by
  refine Kn.turnAt (pre := [_]) (t := boxT p (pcells b q sb n dn st v)) (t' := boxT p (pcells b q sb m dn st v)) h ?_ ((Only.refl _ _).put 2 _) (fun _ e => .inl e)
  have := (Kn.hd2 h).set 2 (.int .i64 (m : Int))
  refine this.eq ?_
  simp [pcells]
set_option maxHeartbeats 4000000 in
theorem addK (h : Hid (Kn w (wsT b ks :: boxT p (pcells b ks.length sb s.nx dn st v) :: ts) wx)) (hs : wl ks = s.ks) (hu : ∀ κ ∈ ks, κ.u = false) (hnx : s.nx < ks.length) (hn : ks.length ≤ 64) {a : Option Addr} {m c : Nat} {l : List (List UInt8)} (hm : m = l.length) (hl : l.length ≤ 1000) (hw : waitL s.ks ≤ 300000)
    (hR : ∀ W ks' nx', Kn w (wsT b ks' :: boxT p (pcells b ks'.length sb nx' dn st v) :: ts) W → RowE W a l) :
    Calls Tryz.prog 23 #[.pointer (some ⟨p, 0, none⟩), .slice a m c] wx fun e w' => e = .returned (.tuple #[]) ∧ ∃ ks', Hid (Kn w (wsT b ks' :: boxT p (pcells b ks'.length sb (addL s l).nx dn st v) :: ts) w') ∧ Hid (wl ks' = (addL s l).ks ∧ (∀ κ ∈ ks', κ.u = false)) := by
  obtain ⟨⟨c0, c1, c2, _⟩, _⟩ := six (Kn.hd2 h.out)
  have H := hide h.out
  have HR := hide hR
  have HS := hide hs
  have HU := hide hu
  have HM := hide hm
  have HW := hide hw
  have HNX := hide hnx
  have HLN := hide (wl_length ks)
  have HN64 := hide hn
  have hm1000 : m ≤ 1000 := by omega
  clear h hR hs hu hm hl hw hnx hn
  go_enter Tryz.func23, Tryz.ntmps23
  go_wp2
  clear c0 c1 c2
  go_loopw [17] (fun i wr => ∃ j : Nat, j ≤ m ∧ i = .int .i64 (j : Int) ∧ ∃ ks', Kn w (wsT b ks' :: boxT p (pcells b ks'.length sb (addL s (l.take j)).nx dn st v) :: ts) wr ∧ wl ks' = (addL s (l.take j)).ks ∧ (∀ κ ∈ ks', κ.u = false)) (fun i _ => m - (intOf i).toNat)
  case atStart => exact ⟨0, Nat.zero_le _, rfl, ks, H.out, HS.out, HU.out⟩
  case round =>
    obtain ⟨j, hj, rfl, k1, hK, hE, hU⟩ := hrel
    by_cases hlt : j < m
    · obtain ⟨bo, off, rfl, hc⟩ := HR.out wr k1 _ hK j (by rw [← HM.out]; exact hlt)
      obtain ⟨x, hx⟩ : ∃ x, x = l.getD j ([] : List UInt8) := ⟨_, rfl⟩
      rw [← hx] at hc
      have HT : Hid (addL s (l.take (j + 1)) = addS (addL s (l.take j)) x) := hide (by
        rw [List.take_add_one, hx, List.getD_eq_getElem?_getD, List.getElem?_eq_getElem (by rw [← HM.out]; exact hlt)]
        unfold addL
        rw [List.foldl_append]
        rfl)
      obtain ⟨s1, hs1⟩ : ∃ s1, s1 = addL s (l.take j) := ⟨_, rfl⟩
      have hkl : k1.length = ks.length := by rw [← wl_length, hE, ← HLN.out, HS.out]; exact (addL_sum (fun _ => 1) (l.take j) (by rw [← HS.out, wl_length]; exact HNX.out)).2.1
      have hnx1 : s1.nx < k1.length := by
        have := (addL_sum (fun _ => 1) (l.take j) (s := s) (by rw [← HS.out, wl_length]; exact HNX.out)).2.2.1
        rw [← HS.out, wl_length] at this
        rw [hs1, hkl]
        exact this
      rw [← hs1] at HT hK hE
      obtain ⟨κ, hκ⟩ : ∃ κ, k1[s1.nx]? = some κ := ⟨k1[s1.nx], by simp [hnx1]⟩
      have hκl : κ.l.length ≤ 400000 := by
        have e1 : waitL s1.ks ≤ waitL s.ks + j := by
          rw [hs1]
          have e := fun ks : List (W1 (List UInt8)) => (left_sum ks)
          have q1 : ∀ (l : List (List UInt8)) (s : PS (List UInt8)), s.nx < s.ks.length → waitL (addL s l).ks = waitL s.ks + l.length := by
            intro l
            induction l with
            | nil => intro s _; rfl
            | cons y l ih =>
              intro s hq
              have e2 : addL s (y :: l) = addL (addS s y) l := rfl
              obtain ⟨_, p2, p3, _⟩ := add_sum (fun _ => 1) hq y
              rw [e2, ih (addS s y) (by omega)]
              obtain ⟨κ0, hk0⟩ : ∃ κ0, s.ks[s.nx]? = some κ0 := ⟨s.ks[s.nx], by simp [hq]⟩
              have := sum_set (fun κ : W1 (List UInt8) => κ.l.length) s.ks s.nx κ0 ⟨κ0.l ++ [y], κ0.x, κ0.h⟩ hk0
              unfold addS waitL
              rw [hk0]
              simp at this ⊢
              omega
          rw [q1 _ _ (by rw [← HS.out, wl_length]; exact HNX.out), List.length_take]
          omega
        have e2 : κ.l.length ≤ waitL s1.ks := by
          rw [← hE]
          exact sum_get (fun κ : W1 (List UInt8) => κ.l.length) (wl k1) s1.nx κ.p (wl_at hκ)
        have := HW.out
        omega
      have HAD := hide (addS_at hE hκ x)
      have HK := hide hK
      have HP : Hid (∀ wy, Kn w (wsT b k1 :: boxT p (pcells b k1.length sb s1.nx dn st v) :: ts) wy → _) := hide (fun wy z => pushK (hide z) hκ x hκl)
      obtain ⟨⟨c0, _, c2, _⟩, _⟩ := six (Kn.hd2 hK)
      have hli : (j : Int) < m := by omega
      have hni : (s1.nx : Int) < (k1.length : Int) := by omega
      have hmod : ((s1.nx : Int) + 1).tmod (k1.length : Int) = (((s1.nx + 1) % k1.length : Nat) : Int) := by
        rw [← tmod_nat]; simp
      have hk64 : k1.length ≤ 64 := by rw [hkl]; exact HN64.out
      obtain ⟨m1, hm1⟩ : ∃ m1, m1 = k1.length := ⟨_, rfl⟩
      have HM1 := hide hm1
      obtain ⟨x1, hx1⟩ : ∃ x1, x1 = s1.nx := ⟨_, rfl⟩
      have HX1 := hide hx1
      obtain ⟨z1, hz1⟩ : ∃ z1, z1 = (s1.nx + 1) % k1.length := ⟨_, rfl⟩
      have HZ1 := hide hz1
      have hm0 : ¬ (m1 : Int) = 0 := by omega
      have KD : Hid (Kn w (wsT b k1 :: boxT p (pcells b k1.length sb s1.nx dn st v) :: ts) wr.drew) := hide (HK.out.keep (Below.refl _ _).drew)
      have HPD := hide (HP.out _ KD.out)
      rw [← hz1] at hmod
      rw [← hx1] at c2 hni hmod HPD
      rw [← hm1] at c0 hni hmod hk64
      have HU9 := hide hU
      have HE9 := hide hE
      have HKK := hide hκ
      clear hK hE hx hs1 hκ hκl hnx1 hkl hm1 hx1 hz1 HP hU
      go_wp2
      go_region_held3 (fun w' => w'.cell? ⟨p, 0, none⟩ = some (.slice (some ⟨b, 0, none⟩) m1 m1) ∧ w'.cell? ⟨p, 2, none⟩ = some (.int .i64 (x1 : Int))) (first | exact ⟨by assumption, by assumption⟩ | go_keep)
        (first | (go_at_call 41; (with_reducible refine (Hid.out HPD).mono ?_); rintro e w7 ⟨rfl, r7, K7⟩; have e0 := (six (Kn.hd2 K7.out)).1.1; have e2 := (six (Kn.hd2 K7.out)).1.2.2.1; have ef := (six (Kn.hd2 K7.out)).2 2; rw [← HM1.out] at e0))
      go_simp
      have KG := hide (nextS (K7.out.keep (w' := w7.drew) (Below.refl _ _).drew) z1)
      go_wp2
      go_region
      all_goals
        go_wp2
        go_roundw
        case rel =>
          refine ⟨j + 1, by omega, by simp, k1.set x1 { κ with r := r7, l := κ.l ++ [x] }, ?_, ?_, wl_u HU9.out (HU9.out κ (List.mem_of_getElem? HKK.out))⟩
          · rw [HT.out, HAD.out, List.length_set]
            have e : (s1.nx + 1) % s1.ks.length = z1 := by rw [HZ1.out, ← wl_length, HE9.out]
            show Kn w (wsT b _ :: boxT p (pcells b k1.length sb ((s1.nx + 1) % s1.ks.length) dn st v) :: ts) _
            rw [e]
            exact KG.out
          · rw [HT.out, HAD.out, wl_set, HE9.out, HX1.out]
            rfl
        case measure => simp [intOf]; omega
    · obtain rfl : j = m := by omega
      have hli : ¬ (j : Int) < j := by omega
      rw [List.take_of_length_le (by rw [HM.out]; exact Nat.le_refl _)] at hK hE
      have HK := hide hK
      have HE := hide hE
      have HU1 := hide hU
      clear hK hE hU
      go_wp2
      go_end0
      exact ⟨rfl, k1, HK.out, HE.out, HU1.out⟩
end
end Go.Proofs.YtkjhamcmhijhgaaGreat.DqS

/- What a law knows of its pool, beside other things. -/
namespace Go.Proofs.YtkjhamcmhijhgaaGreat.DqS
open Go.RowKit Go.Proofs.YtkjhamcmhijhgaaGreat.Dig Go.Proofs.YtkjhamcmhijhgaaGreat.Mem Go.Proofs.YtkjhamcmhijhgaaGreat.Dq Go.Proofs.YtkjhamcmhijhgaaGreat.Bit Go.Proofs.YtkjhamcmhijhgaaGreat.Thing Go.Proofs.YtkjhamcmhijhgaaGreat.Pool Go.Proofs.YtkjhamcmhijhgaaGreat.Sets Go.Proofs.YtkjhamcmhijhgaaGreat.Pick Go.Shelf
set_option linter.unusedVariables false
set_option linter.unusedSimpArgs false

/-- Nothing at all. -/
def noT : Th where
  P _ := True
  F _ := False
  keep _ _ _ := trivial
  lt _ _ h := h.elim
structure PL (w : World) (p sb : Nat) (L : List Int) (c : Int) (n : Nat) (s : PS (List UInt8)) (ts : List Th) (wx : World) : Prop where
  is : ∃ b ks v, SE w sb L c n (wsT b ks :: boxT p (pcells b ks.length sb s.nx s.dn.length s.st v) :: ownT w.heap.size 3 v s.who.length (s.who.map (Value.int .i64)) :: ts) wx ∧ wl ks = s.ks ∧ (∀ κ ∈ ks, κ.u = false)
  len : s.ks.length ≤ 64
  who : WhoS s
section
variable {w wx w' : World} {p sb : Nat} {L : List Int} {c : Int} {n : Nat} {s : PS (List UInt8)} {ts ts' : List Th}
theorem PL.se (h : PL w p sb L c n s ts wx) : SE w sb L c n ts wx := by
  obtain ⟨⟨b, ks, v, h1, _⟩, _⟩ := h
  exact h1.sub (.cons _ (.cons _ (.cons _ (List.Sublist.refl _))))
theorem PL.kn (h : PL w p sb L c n s ts wx) : Kn w ts wx := h.se.kn
theorem PL.below (h : PL w p sb L c n s ts wx) : Below w.heap.size w wx := h.kn.below
theorem PL.keep (h : PL w p sb L c n s ts wx) (hb : Below wx.heap.size wx w') : PL w p sb L c n s ts w' := by
  obtain ⟨⟨b, ks, v, h1, h2⟩, h3, h4⟩ := h
  exact ⟨⟨b, ks, v, h1.keep hb, h2⟩, h3, h4⟩
theorem PL.more {t : Th} (h : PL w p sb L c n s ts wx) (hb : Below wx.heap.size wx w') (hp : t.P w') (hf : ∀ k, t.F k → wx.heap.size ≤ k) : PL w p sb L c n s (t :: ts) w' := by
  obtain ⟨⟨b, ks, v, h1, h2⟩, h3, h4⟩ := h
  exact ⟨⟨b, ks, v, (h1.more hb hp hf).perm (List.perm_middle (l₁ := [_, _, _])).symm, h2⟩, h3, h4⟩
theorem PL.sub (h : PL w p sb L c n s ts wx) (hs : ts'.Sublist ts) : PL w p sb L c n s ts' wx := by
  obtain ⟨⟨b, ks, v, h1, h2⟩, h3, h4⟩ := h
  exact ⟨⟨b, ks, v, h1.sub (.cons_cons _ (.cons_cons _ (.cons_cons _ hs))), h2⟩, h3, h4⟩
theorem PL.nothing (h : PL w p sb L c n s ts wx) : PL w p sb L c n s (noT :: ts) wx := h.more (Below.refl _ _) trivial (fun _ q => q.elim)
/-- Another pool beside it, or another script: the pool is a thing like others. -/
theorem newL (h : Hid (SE w sb L c n ts wx)) (hn : n ≤ 1000000) (r : Nat) (h1 : 1 ≤ r) (h2 : r ≤ 64) {z : Int} (hz : z = (r : Int)) : Calls Tryz.prog 22 #[.int .i64 z, .pointer (some ⟨sb, 0, none⟩)] wx fun e w' => ∃ p, e = .returned (.tuple #[.pointer (some ⟨p, 0, none⟩), .int .i64 0]) ∧ Hid (PL w p sb L c n (newS ([] : List UInt8) r) ts w') := by
  subst hz
  refine (newP h hn r h1 h2).mono ?_
  rintro e w' ⟨p, b, rfl, K⟩
  refine ⟨p, rfl, ⟨b, List.replicate r wk0, .slice none 0 0, ?_, by simp [wl, newS, wk0, Wk.p], fun κ hκ => by obtain ⟨_, rfl⟩ := List.mem_replicate.1 hκ; rfl⟩, by simp [newS]; omega, fun x hx => by cases hx⟩
  have e : (List.replicate r wk0).length = r := by simp
  rw [e]
  exact K.out
theorem addP (h : Hid (PL w p sb L c n s ts wx)) (hnx : s.nx < s.ks.length) {a : Option Addr} {m c' : Nat} {l : List (List UInt8)} (hm : m = l.length) (hl : l.length ≤ 1000) (hw : waitL s.ks ≤ 300000) (hR : ∀ W, Kn w ts W → RowE W a l) :
    Calls Tryz.prog 23 #[.pointer (some ⟨p, 0, none⟩), .slice a m c'] wx fun e w' => e = .returned (.tuple #[]) ∧ Hid (PL w p sb L c n (addL s l) ts w') := by
  obtain ⟨⟨b, ks, v, ⟨pa, pc, h1⟩, h2, h3⟩, h4, h5⟩ := h.out
  have hlen : ks.length = s.ks.length := by rw [← h2, wl_length]
  refine (addK (s := s) (hide (h1.perm (List.perm_middle (l₁ := [_, _, _])).symm)) h2 h3 (by omega) (by omega) hm hl hw (fun W ks' nx' z => hR W z.tail.tail.tail.tail)).mono ?_
  rintro e w' ⟨rfl, ks', K, H⟩
  obtain ⟨_, a2, a3, a4, a5, a6⟩ := addL_sum (fun _ => 1) l hnx
  refine ⟨rfl, ⟨b, ks', v, ⟨pa, pc, ?_⟩, H.out.1, H.out.2⟩, by rw [a2]; exact h4, fun x hx => h5 x (by rw [← a6]; exact hx)⟩
  rw [a4, a5, a6]
  exact K.out.perm (List.perm_middle (l₁ := [_, _, _]))
theorem runP {t : Th} {G : (List UInt8) → Prop} {J : (List UInt8) → Nat} {of : (List UInt8) → List (List UInt8)} {D : List (List UInt8) → Th → Prop} {mm : Nat} {doF : Value} {s' : PS (List UInt8)} {n' : Nat} {E : Int} (h : Hid (PL w p sb L c n s (t :: ts) wx)) (hdt : D s.dn t) (hall : AllG G s.ks) (hJ : ∀ x, J x = 1 + ((of x).map J).sum) (hof : ∀ x, G x → ∀ y ∈ of x, G y) (hdo : Does w p doF of G D)
    (hless : todo J s.ks < mm) (hsm : mm + n ≤ 200000 ∧ s.dn.length + mm ≤ 500000 ∧ s.st + mm ≤ 500000 ∧ s.who.length + mm ≤ 500000) (hrun : runS of ([] : List UInt8) L c mm s n = (s', n', E)) :
    Calls Tryz.prog 24 #[.pointer (some ⟨p, 0, none⟩), doF] wx fun e w' => e = .returned (.int .i64 E) ∧ ∃ t', Hid (PL w p sb L c n' s' (t' :: ts) w') ∧ Hid (D s'.dn t') := by
  obtain ⟨⟨b, ks, v, h1, h2, h3⟩, h4, h5⟩ := h.out
  have hlen : ks.length = s.ks.length := by rw [← h2, wl_length]
  have hran := (run_ran (d0 := ([] : List UInt8)) (L := L) (c := c) (g := fun _ => 1) hJ hJ mm s n hless).len
  have hwho := run_who (of := of) (d0 := ([] : List UInt8)) (L := L) (c := c) mm s n h4 h5
  rw [hrun] at hran hwho
  refine (run_any (mm := mm) (R := (s', n', E)) ⟨h1, hdt, h2, h3, by omega, hall, hless, hrun, hsm⟩ hJ hof hdo).mono ?_
  rintro e w' ⟨rfl, ks', v', t', K, H⟩
  exact ⟨rfl, t', ⟨⟨b, ks', v', K.out, H.out.1, H.out.2.1⟩, by rw [hran]; exact h4, hwho⟩, H.out.2.2⟩
theorem PL.box (h : PL w p sb L c n s ts wx) : ∃ b ks v, Is wx p (pcells b ks.length sb s.nx s.dn.length s.st v) ∧ Ws wx b ks ∧ wl ks = s.ks ∧ OwnI w.heap.size wx v s.who := by
  obtain ⟨⟨b, ks, v, ⟨pa, pc, h1⟩, h2, h3⟩, h4, h5⟩ := h
  exact ⟨b, ks, v, Kn.hd3 h1, Kn.hd2 h1, h2, Kn.hd4 h1⟩
theorem doneP (h : Hid (PL w p sb L c n s ts wx)) {z : Int} (hz : z = s.dn.length) : Calls Tryz.prog 25 #[.pointer (some ⟨p, 0, none⟩)] wx fun e w' => e = .returned (.int .i64 z) ∧ w' = wx := by
  subst hz
  obtain ⟨b, ks, v, h1, _⟩ := h.out.box
  exact done_any h1
theorem stolenP (h : Hid (PL w p sb L c n s ts wx)) {z : Int} (hz : z = s.st) : Calls Tryz.prog 26 #[.pointer (some ⟨p, 0, none⟩)] wx fun e w' => e = .returned (.int .i64 z) ∧ w' = wx := by
  subst hz
  obtain ⟨b, ks, v, h1, _⟩ := h.out.box
  exact stolen_any h1
theorem leftP (h : Hid (PL w p sb L c n s ts wx)) (hl : waitL s.ks ≤ 1000000) {z : Int} (hz : z = leftL s.ks) : Calls Tryz.prog 27 #[.pointer (some ⟨p, 0, none⟩)] wx fun e w' => e = .returned (.int .i64 z) ∧ w' = wx := by
  subst hz
  obtain ⟨b, ks, v, h1, h2, h3, _⟩ := h.out.box
  have := left_any h1 h2 (by rw [← wl_length, h3]; exact h.out.len) (by rw [h3]; exact hl)
  rw [h3] at this
  exact this
theorem stepsP (h : Hid (PL w p sb L c n s ts wx)) {z : Int} (hz : z = n) : Calls Tryz.prog 21 #[.pointer (some ⟨sb, 0, none⟩)] wx fun e w' => e = .returned (.int .i64 z) ∧ w' = wx := stepsE (hide h.out.se) hz
theorem whoP (h : Hid (PL w p sb L c n s ts wx)) (hl : s.who.length ≤ 1000000) {m : Nat} (hm : m = s.who.length) : Calls Tryz.prog 28 #[.pointer (some ⟨p, 0, none⟩)] wx fun e w' => ∃ a c', e = .returned (.slice a m c') ∧ Hid (RowI w' a c' s.who ∧ ∀ x, a = some x → wx.heap.size ≤ x.block) ∧ Hid (PL w p sb L c n s ts w') ∧ Hid (Below wx.heap.size wx w') := by
  subst hm
  obtain ⟨b, ks, v, h1, h2, h3, h4⟩ := h.out.box
  obtain ⟨a, c', rfl, hr, _⟩ := h4.row (by omega) (fun z hz => by have := h.out.who z hz; exact wf_of_i64 (by omega) (by omega))
  refine (who_at (six h1).1.2.2.2.2.2 ⟨hr.cap, hr.rd, hr.nil⟩ hl).mono ?_
  rintro e w' ⟨⟨a', c1, rfl, q1, q2⟩, q3⟩
  exact ⟨a', c1, rfl, ⟨⟨q1.cap, q1.rd, q1.nil⟩, q2⟩, h.out.keep q3, q3⟩
/-- Of nothing jobs come. -/
theorem does_nil (p : Nat) (G : (List UInt8) → Prop) : Does w p .nilFunc (fun _ => []) G (fun _ t => t = noT) := by
  intro dn t ts ks b sb nx st v k κ wy hd h hk hg hn hdn hl
  refine (work_nil h hk hn hdn).mono ?_
  rintro e w' ⟨rfl, K⟩
  refine ⟨rfl, κ.r, t, ?_, hd⟩
  have e : κ.l ++ (fun _ : (List UInt8) => ([] : List (List UInt8))) κ.x = κ.l := List.append_nil _
  rw [e]
  exact K
end
end Go.Proofs.YtkjhamcmhijhgaaGreat.DqS

/- works of layer 10: two jobs, of which nothing comes. -/
namespace Go.Proofs.YtkjhamcmhijhgaaGreat.Pool
open Go.RowKit Go.Proofs.YtkjhamcmhijhgaaGreat.Dig Go.Proofs.YtkjhamcmhijhgaaGreat.Mem Go.Proofs.YtkjhamcmhijhgaaGreat.Dq Go.Proofs.YtkjhamcmhijhgaaGreat.Thing Go.Proofs.YtkjhamcmhijhgaaGreat.Pick Go.Proofs.YtkjhamcmhijhgaaGreat.Sets
set_option linter.unusedVariables false
set_option linter.unusedSimpArgs false

def twoS : PS (List UInt8) := addL (newS [] 2) [[97], [98]]
theorem two_run : ∃ s', runS (fun _ => []) [] [] (-1) 5 twoS 0 = (s', 4, 0) ∧ s'.dn.length = 2 ∧ s'.st = 1 ∧ s'.who = [0, 0, 0, 0] ∧ waitL s'.ks = 0 ∧ leftL s'.ks = 0 := ⟨(runS (fun _ => []) [] [] (-1) 5 twoS 0).1, by kernel_rfl, by kernel_rfl, by kernel_rfl, by kernel_rfl, by kernel_rfl, by kernel_rfl⟩
theorem two_less : todo (fun _ => 1) twoS.ks < 5 := by
  have : todo (fun _ => 1) twoS.ks = 4 := by kernel_rfl
  omega
theorem same_four {w wx w' : World} {p sb n : Nat} {L : List Int} {c : Int} {s : PS (List UInt8)} {ts : List Th} {a : Option Addr} {c' : Nat} (h : Hid (RowI w' a c' s.who ∧ ∀ x, a = some x → wx.heap.size ≤ x.block)) (hp : Hid (DqS.PL w p sb L c n s ts w')) (hw : Hid (s.who = [0, 0, 0, 0])) :
    Hid (Calls Tryz.prog 14 #[.slice a 4 c', .slice (some ⟨w'.heap.size, 0, none⟩) 4 4] (w'.alloc (.cells #[.int .i64 0, .int .i64 0, .int .i64 0, .int .i64 0] 3)) fun e w2 => e = .returned (.bool true) ∧ Below (w'.alloc (.cells #[.int .i64 0, .int .i64 0, .int .i64 0, .int .i64 0] 3)).heap.size (w'.alloc (.cells #[.int .i64 0, .int .i64 0, .int .i64 0, .int .i64 0] 3)) w2) := by
  have h1 := h.out.1
  rw [hw.out] at h1
  exact hide (same_rows a (some ⟨w'.heap.size, 0, none⟩) c' 4 [0, 0, 0, 0] [0, 0, 0, 0] _ ((row_v h1).keep ((Below.refl _ _).alloc (Nat.le_refl _) _)) (row_v (rowi_made w' [0, 0, 0, 0] 3 (n := 4) rfl rfl (by simp) (wfl_of (by decide)))) rfl)
set_option maxHeartbeats 4000000 in
set_option maxRecDepth 20000 in
theorem works10_any (w : World) : Calls Tryz.prog 5 #[] w fun e w' => e = .returned (.bool true) ∧ Below w.heap.size w w' := by
  have N0 := hide (newE (w := w) (wx := w) (L := []) (hide (Kn.start w)) (DqS.rowi_nil w) (m := 0) rfl (by simp) (-1))
  obtain ⟨s', z1, z2, z3, z4, z5, z6⟩ := two_run
  have Z1 := hide z1
  have Z2 := hide z2
  have Z3 := hide z3
  have Z4 := hide z4
  have Z5 := hide z5
  have Z6 := hide z6
  clear z1 z2 z3 z4 z5 z6
  go_enter Tryz.func5, Tryz.ntmps5
  go_wp2_with (first
    | (go_at_call 6; (with_reducible refine (Hid.out N0).mono ?_); go_must (clear N0; rintro e w1 ⟨sb, rfl, H1⟩; have P1 := hide (DqS.newL H1 (by decide) 2 (by decide) (by decide) (z := 2) rfl)))
    | (go_at_call 22; (with_reducible refine (Hid.out P1).mono ?_); go_must (clear P1; rintro e w2 ⟨p, rfl, H2⟩; have H3 := hide (H2.out.more (t := boxT w2.heap.size #[.string ⟨#[97]⟩, .string ⟨#[98]⟩]) (w' := w2.alloc (.cells #[.string ⟨#[97]⟩, .string ⟨#[98]⟩] 9)) ((Below.refl _ _).alloc (Nat.le_refl _) _) (Is.made _ _ _ rfl) (fun k hk => by cases hk; exact Nat.le_refl _)); have A1 := hide (DqS.addP H3 (by decide) (l := [[97], [98]]) (a := some ⟨w2.heap.size, 0, none⟩) (m := 2) (c' := 2) rfl (by decide) (by decide) (fun W hK i hi => by have h2 : i = 0 ∨ i = 1 := (by simp at hi; omega); rcases h2 with rfl | rfl; exact ⟨_, _, rfl, hK.hd.cell 0 rfl⟩; exact ⟨_, _, rfl, hK.hd.cell 1 rfl⟩))))
    | (go_at_call 23; go_must ((with_reducible refine (Hid.out A1).mono ?_); clear A1; rintro e w3 ⟨rfl, H4⟩; have R1 := hide (DqS.runP (mm := 5) (s' := s') (n' := 4) (E := 0) (G := fun _ => True) (J := fun _ => 1) (of := fun _ => []) (D := fun _ t => t = DqS.noT) (hide H4.out.nothing) rfl (fun κ hκ => ⟨fun _ _ => trivial, fun _ => trivial⟩) (fun _ => rfl) (fun _ _ _ _ => trivial) (DqS.does_nil _ _) two_less (by decide) Z1.out)))
    | (go_at_call 24; go_must ((with_reducible refine (Hid.out R1).mono ?_); clear R1; rintro e w4 ⟨rfl, t4, H5, -⟩))
    | (go_at_call 6; go_must ((with_reducible refine (new_any (L := []) (-1) (DqS.rowi_nil _) (m := 0) rfl (by simp)).mono ?_); rintro e w5 ⟨b5, pa5, pc5, rfl, -, -, hb5⟩; have H6 := hide (H5.out.keep hb5); clear hb5))
    | (go_at_call 22; go_must ((with_reducible refine (DqS.new_no 0 _ (.inl (by decide)) _).mono ?_); rintro e w6 ⟨rfl, rfl⟩))
    | (go_at_call 25; go_must ((with_reducible refine (DqS.doneP H6 (z := 2) (by rw [Z2.out]; decide)).mono ?_); rintro e w7 ⟨rfl, rfl⟩))
    | (go_at_call 26; go_must ((with_reducible refine (DqS.stolenP H6 (z := 1) (by rw [Z3.out]; decide)).mono ?_); rintro e w8 ⟨rfl, rfl⟩))
    | (go_at_call 27; go_must ((with_reducible refine (DqS.leftP H6 (by rw [Z5.out]; decide) (z := 0) (by rw [Z6.out]; decide)).mono ?_); rintro e w9 ⟨rfl, rfl⟩))
    | (go_at_call 28; go_must ((with_reducible refine (DqS.whoP H6 (by rw [Z4.out]; decide) (m := 4) (by rw [Z4.out]; decide)).mono ?_); rintro e w10 ⟨a10, c10, rfl, HW, H7, -⟩; have SM := same_four HW H7 Z4))
    | (go_at_call 14; go_must ((with_reducible refine (Hid.out SM).mono ?_); rintro e w11 ⟨rfl, hb11⟩)))
  go_ret
  refine ⟨rfl, H7.out.below.trans ?_⟩
  have h1 := H7.out.below.size
  exact ((Below.refl _ _).alloc (by omega) _).trans (hb11.mono (by simp; omega))
end Go.Proofs.YtkjhamcmhijhgaaGreat.Pool
