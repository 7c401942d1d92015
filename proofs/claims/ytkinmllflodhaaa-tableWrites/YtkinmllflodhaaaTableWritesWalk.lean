/- TableWrites, walked. -/
import Derived.Test.YtkinmllflodhaaaAll17
import Derived.Test.YtkinmllflodhaaaAll18
namespace Go.Proofs.Ytkinmllflodhaaa.Walk
open Go.RowKit Go.Proofs.Ytkinmllflodhaaa.Dig Go.Proofs.Ytkinmllflodhaaa.Mem Go.Proofs.Ytkinmllflodhaaa.Hist Go.Proofs.Ytkinmllflodhaaa.Own Go.Proofs.Ytkinmllflodhaaa.Thing Go.Proofs.Ytkinmllflodhaaa.Sets Go.Shelf Go.Proofs.Ytkinmllflodhaaa.Keys Go.Proofs.Ytkinmllflodhaaa.Tab Go.Proofs.Ytkinmllflodhaaa.Ro
set_option linter.unusedVariables false
set_option linter.unusedSimpArgs false
attribute [local go_sem] Oper.semAt_some

/-- The boxes of the law's own. -/
structure WB (w : World) (key : Int) (nn : Nat) (r : Bool) (W : World) : Prop where
  k1 : Is W (w.heap.size + 1) #[.int .i64 key]
  k2 : Is W (w.heap.size + 1 + 1) #[.int .u8 (nn : Int)]
  k3 : Is W (w.heap.size + 1 + 1 + 1) #[.bool r]
theorem WB.keep {w W W' : World} {key : Int} {nn : Nat} {r : Bool} (h : WB w key nn r W) (hb : Below W.heap.size W W') : WB w key nn r W' := ⟨h.k1.below hb, h.k2.below hb, h.k3.below hb⟩
theorem exit_n {Q : Exit → Act → World → Prop} {a : Act} {w : World} (h : Exit.inBlock 0 Q .normal a w) : Exit.inBlock 0 Q (.exit 0) a w := by
  simp only [Exit.inBlock, if_true] at h ⊢
  exact h
theorem docWrites_at {ts : List TxnM} {key : Int} : ∀ m ∈ docWrites ts key, m.key = key ∧ m.ab = false := fun m hm => by
  obtain ⟨id, _, h⟩ := List.mem_flatMap.1 hm
  obtain ⟨p, _, rfl⟩ := List.mem_map.1 h
  exact ⟨rfl, rfl⟩
set_option maxRecDepth 100000 in
set_option maxHeartbeats 4000000 in
theorem walk_tableWrites (w : World) (ta : Option Addr) (tcap : Nat) (ts : List TxnM) (ht : TxnsAt (fun b => b < w.heap.size) w (.slice ta ts.length tcap) ts) (key : Int) (hkey : (Lit.int .i64 key).wf = true) (n : Int) (hnb : (Lit.int .u8 n).wf = true) :
    Calls Try.prog 5 #[.agg #[.slice ta ts.length tcap], .int .i64 key, .int .u8 n] w fun e w' => e = .returned (.bool true) ∧ Below w.heap.size w w' := by
  have hbt := bounds_u8 hnb
  obtain ⟨nn, rfl⟩ : ∃ nn : Nat, n = nn := ⟨n.toNat, by omega⟩
  obtain ⟨N, hN⟩ : ∃ N, N = ts.length := ⟨_, rfl⟩
  rw [← hN] at ht ⊢
  have hseq : ∀ (p : Option Addr) (W : World), (binOp .eql 51 (.func (.func 65) #[] #[.pointer p]) Value.nilFunc).run Try.prog W = .ok (.bool false) W := fun p W => by kernel_rfl
  obtain ⟨w0, hw0⟩ : ∃ w0, w0 = (((w.alloc (.cells #[.slice ta N tcap] 24)).alloc (.cells #[.int .i64 key] 3)).alloc (.cells #[.int .u8 (nn : Int)] 5)).alloc (.cells #[.bool false] 4) := ⟨_, rfl⟩
  have H0 : Hid (LH w ta N tcap ts w0) := hide (by rw [hw0]; exact (((LH.start ht).keep ((Below.refl _ _).alloc (Nat.le_refl _) _)).keep ((Below.refl _ _).alloc (Nat.le_refl _) _)).keep ((Below.refl _ _).alloc (Nat.le_refl _) _))
  have B0 : Hid (WB w key nn false w0) := hide (by
    rw [hw0]
    refine ⟨((Is.made (w.alloc (.cells #[.slice ta N tcap] 24)) #[.int .i64 key] 3 (by simp)).alloc _).alloc _, (Is.made _ #[.int .u8 (nn : Int)] 5 (by simp)).alloc _, Is.made _ #[.bool false] 4 (by simp)⟩)
  have c1 := H0.out.c
  obtain ⟨ec, hec⟩ : ∃ ec, ec = checkS ts := ⟨_, rfl⟩
  have EC := hide hec
  have HKEY := hide hkey
  have hnn : nn ≤ 255 := by omega
  clear ht hec hN hkey hnb hbt
  refine (callsIn_wide (n := 3)).1 ?_
  refine callsIn_of_wp_marks Try.func5 rfl trivial ?_ rfl
  simp only [Try.ntmps5, List.size_toArray, List.length_cons, List.length_nil, Nat.reduceAdd, Nat.reduceSub, Array.replicate_succ, Array.replicate_zero, List.push_toArray, List.append_toArray, List.nil_append, List.cons_append]
  have f8 : Fence.wide.fn 8 := trivial
  have f10 : Fence.wide.fn 10 := trivial
  gi_upto_region 1 with fail
  rw [← hw0]
  clear hw0
  gi_wp2_with fail
  refine ⟨trivial, ?_⟩
  gi_at_call 7
  (with_reducible refine (callsIn_wide.2 (fewLB H0)).mono ?_)
  rintro e w1 ⟨r, rfl, hf, hb1⟩
  have H1 := hide (H0.out.keep hb1.out)
  have B1 := hide (B0.out.keep hb1.out)
  cases r with
  | false =>
    gi_wp2_with (gi_at_call 8; go_must ((with_reducible refine (callsIn_wide.2 (worksLT _)).mono ?_); rintro e w2 ⟨rfl, hb2⟩; have B2 := B1.out.keep hb2.out; have r2 : w2.cell? ⟨w.heap.size + 1 + 1 + 1, 0, none⟩ = some (.bool false) := B2.k3.cell 0 rfl; have rf2 := B2.k3.frozen 0; have R2 := hide B2.k3; clear B2))
    have R3 : Is (w2.setCell ⟨w.heap.size + 1 + 1 + 1, 0, none⟩ (.bool true)) (w.heap.size + 1 + 1 + 1) #[.bool true] := (R2.out.set 0 (.bool true)).eq rfl
    have c3 : (w2.setCell ⟨w.heap.size + 1 + 1 + 1, 0, none⟩ (.bool true)).cell? ⟨w.heap.size + 1 + 1 + 1, 0, none⟩ = some (.bool true) := R3.cell 0 rfl
    have hbf : Below w.heap.size w (w2.setCell ⟨w.heap.size + 1 + 1 + 1, 0, none⟩ (.bool true)) := ((H1.out.keep hb2.out).below).setCell (p := ⟨w.heap.size + 1 + 1 + 1, 0, none⟩) (by show w.heap.size ≤ w.heap.size + 1 + 1 + 1; omega) (.bool true)
    exact ⟨.bool true, by simp [results, Try.f5, go_sem, c3], rfl, hbf⟩
  | true =>
    have HF : Hid (FewH ts) := hide (hf.out rfl)
    have c2 := H1.out.c
    clear hf c1 H0 B0
    by_cases h0 : ec = 0
    rotate_left
    · gi_wp2_with (first
        | (gi_at_call 10; go_must ((with_reducible refine (callsIn_wide.2 (rcheckLH H1 HF EC)).mono ?_); rintro e w3 ⟨rfl, hb3⟩))
        | (gi_at_call 8; go_must ((with_reducible refine (callsIn_wide.2 (worksLT _)).mono ?_); rintro e w4 ⟨rfl, hb4⟩; have B4 := (B1.out.keep hb3.out).keep hb4.out; have r2 : w4.cell? ⟨w.heap.size + 1 + 1 + 1, 0, none⟩ = some (.bool false) := B4.k3.cell 0 rfl; have rf2 := B4.k3.frozen 0; have R2 := hide B4.k3; clear B4)))
      have R3 : Is (w4.setCell ⟨w.heap.size + 1 + 1 + 1, 0, none⟩ (.bool true)) (w.heap.size + 1 + 1 + 1) #[.bool true] := (R2.out.set 0 (.bool true)).eq rfl
      have c3 : (w4.setCell ⟨w.heap.size + 1 + 1 + 1, 0, none⟩ (.bool true)).cell? ⟨w.heap.size + 1 + 1 + 1, 0, none⟩ = some (.bool true) := R3.cell 0 rfl
      have hbf : Below w.heap.size w (w4.setCell ⟨w.heap.size + 1 + 1 + 1, 0, none⟩ (.bool true)) := (((H1.out.keep hb3.out).keep hb4.out).below).setCell (p := ⟨w.heap.size + 1 + 1 + 1, 0, none⟩) (by show w.heap.size ≤ w.heap.size + 1 + 1 + 1; omega) (.bool true)
      exact ⟨.bool true, by simp [results, Try.f5, go_sem, c3], rfl, hbf⟩
    subst h0
    gi_upto_region 3 with (first
        | (gi_at_call 10; go_must ((with_reducible refine (callsIn_wide.2 (rcheckLH H1 HF EC)).mono ?_); rintro e w2 ⟨rfl, hb2⟩))
        | (gi_at_call 8; go_must ((with_reducible refine (callsIn_wide.2 (worksLT _)).mono ?_); rintro e w3 ⟨rfl, hb3⟩)))
    have H3 := hide ((H1.out.keep hb2.out).keep hb3.out)
    have B3 := hide ((B1.out.keep hb2.out).keep hb3.out)
    have c3 := H3.out.c
    have CN := hide (newLB H3 HF EC)
    clear c2 H1 B1
    gi_upto_region 4 with (refine ⟨trivial, ?_⟩; gi_at_call 9; go_must ((with_reducible refine (callsIn_wide.2 (Hid.out CN)).mono ?_); rintro e w4 ⟨bT, us, rfl, hb4, htab, hou⟩))
    have H4 := hide (H3.out.keep hb4.out)
    have B4 := hide (B3.out.keep hb4.out)
    clear c3 CN H3 B3
    have c4 : w4.cell? ⟨w.heap.size + 1, 0, none⟩ = some (.int .i64 key) := B4.out.k1.cell 0 rfl
    have CW : Hid (Calls Try.prog 22 #[.pointer (some ⟨bT, 0, none⟩), .int .i64 key] w4 fun e w' => ∃ B, e = .returned (.func (.func 65) #[] #[.pointer (some ⟨B, 0, none⟩)]) ∧ Hid (w4.heap.size ≤ B ∧ (∃ a c, w'.cell? ⟨B, 0, none⟩ = some (.slice a (docWrites ts key).length c) ∧ Row5 w' a (docWrites ts key).length ((docWrites ts key).flatMap wrC)) ∧ Below w4.heap.size w4 w')) := hide (by
      have := writes_any _ _ _ _ key w4 htab.out HKEY.out
      rw [show (tb (flat us)).ws key = docWrites ts key from writes_ord hou.out.1 hou.out.2 key] at this
      exact this)
    gi_upto_region 7 with (refine ⟨trivial, ?_⟩; gi_at_call 22; go_must ((with_reducible refine (callsIn_wide.2 (Hid.out CW)).mono ?_); rintro e w5 ⟨B, rfl, hz5⟩))
    have H5 := hide (H4.out.keep hz5.out.2.2)
    have B5 := hide (B4.out.keep hz5.out.2.2)
    clear c4 CW H4 B4
    have c5 := H5.out.c
    have k5 : w5.cell? ⟨w.heap.size + 1, 0, none⟩ = some (.int .i64 key) := B5.out.k1.cell 0 rfl
    obtain ⟨m, hm⟩ : ∃ m, m = (docWrites ts key).length := ⟨_, rfl⟩
    have HM := hide hm
    have HM' := hide hm
    have HB3L := hide B5.out.k3.lt
    have CR : Hid (Calls Try.prog 23 #[.agg #[.slice ta N tcap], .int .i64 key] w5 fun e w' => ∃ a c, e = .returned (.slice a m c) ∧ Hid (Row5 w' a m ((docWrites ts key).flatMap wrC)) ∧ Hid (Below w5.heap.size w5 w')) := hide (by
      refine (rwrites_any _ _ ts key w5 H5.out.hist (fun b q => by have := H5.out.below.size; omega) (by have := HF.out.1; omega) HF.out).mono ?_
      rintro e w' ⟨⟨a, c, rfl, hr⟩, hb⟩
      exact ⟨a, c, by rw [hm], by rw [hm]; exact hr, hb⟩)
    clear hm
    gi_upto_region 8 with (refine ⟨trivial, ?_⟩; gi_at_call 23; go_must ((with_reducible refine (callsIn_wide.2 (Hid.out CR)).mono ?_); rintro e w6 ⟨ra, rc, rfl, hrow, hb6⟩))
    obtain ⟨w7, hw7⟩ : ∃ w7, w7 = w6.alloc (.cells #[.slice ra m rc] 53) := ⟨_, rfl⟩
    rw [← hw7]
    have hb7 : Below w6.heap.size w6 w7 := by rw [hw7]; exact (Below.refl _ _).alloc (Nat.le_refl _) _
    have X7 : Is w7 w6.heap.size #[.slice ra m rc] := by rw [hw7]; exact Is.made _ _ _ rfl
    have hs7 : w7.heap.size = w6.heap.size + 1 := by rw [hw7]; simp
    have HS7 := hide hs7
    have HB6S := hide hb6.out.size
    have HR7 := hide (hrow.out.keep hb7)
    have H7 := hide ((H5.out.keep hb6.out).keep hb7)
    have B7 := hide ((B5.out.keep hb6.out).keep hb7)
    have HW5 : Hid (Below w5.heap.size w5 w7) := hide (hb6.out.trans (hb7.mono hb6.out.size))
    clear hw7 c5 k5 CR H5 B5
    gi_upto_region 9 with fail
    obtain ⟨w8, hw8⟩ : ∃ w8, w8 = w7.alloc (.cells #[.int .i64 0] 3) := ⟨_, rfl⟩
    rw [← hw8]
    have hb8 : Below w7.heap.size w7 w8 := by rw [hw8]; exact (Below.refl _ _).alloc (Nat.le_refl _) _
    have K8 := hide (show Is w8 w7.heap.size #[.int .i64 0] by rw [hw8]; exact Is.made _ _ _ rfl)
    have hs8 : w8.heap.size = w7.heap.size + 1 := by rw [hw8]; simp
    have X8 := hide (X7.below hb8)
    have HR8 := hide (HR7.out.keep hb8)
    have H8 := hide (H7.out.keep hb8)
    have B8 := hide (B7.out.keep hb8)
    have HW8 : Hid (Below w5.heap.size w5 w8) := hide (HW5.out.trans (hb8.mono HW5.out.size))
    have HRB : Hid (∀ i u, ((docWrites ts key).flatMap wrC)[i]? = some u → ∃ b, ra = some ⟨b, 0, none⟩ ∧ b < w7.heap.size) := hide fun i u hu => by
      obtain ⟨b, e, c⟩ := HR7.out.2 i u hu
      exact ⟨b, e, lt_of_cell c⟩
    have HZ5 : Hid (w5.heap.size ≤ w7.heap.size) := hide HW5.out.size
    clear hw8 hb8 hb7 X7
    rw [hs7] at K8 HRB HZ5 hs8
    obtain ⟨BK, hBK⟩ : ∃ BK, BK = w6.heap.size + 1 := ⟨_, rfl⟩
    obtain ⟨BW, hBW⟩ : ∃ BW, BW = w6.heap.size := ⟨_, rfl⟩
    have HBK := hide hBK
    have HBW := hide hBW
    rw [← hBK] at K8 HRB HZ5 hs8 ⊢
    rw [← hBW] at X8 hBK ⊢
    clear hBW hs7
    obtain ⟨WS, hWS⟩ : ∃ WS, WS = docWrites ts key := ⟨_, rfl⟩
    have hwsA : ∀ x ∈ WS, x.key = key ∧ x.ab = false := by rw [hWS]; exact docWrites_at
    rw [← hWS] at HM HR8 HRB hz5
    have HWA := hide hwsA
    clear hWS hwsA
    have hm60 : m ≤ 1200 := by
      have h1 := wsP_le ts key (docIds ts).length (Nat.le_refl _)
      rw [wsP_all, ← HM'.out] at h1
      have h2 : (docIds ts).length * opsN ts ≤ 20 * 60 := Nat.mul_le_mul HF.out.ids HF.out.2.1
      omega
    have hBW0 : w.heap.size + 1 + 1 + 1 < BW := by have := HB6S.out; have := HB3L.out; rw [HBW.out]; omega
    have hne1 : ¬ BW = BK := by omega
    have hne2 : w.heap.size + 1 + 1 + 1 < BK := by omega
    clear hBK
    obtain ⟨ia, ic, hcB, hrB⟩ := hz5.out.2.1
    have hlB : w5.heap.size ≤ w8.heap.size := HW8.out.size
    have HSQ := hide (valwc_seq Fence.wide (3 - 1) trivial rfl (by omega) B ia ic WS w5 hrB (by rw [← HM.out]; omega) hcB)
    clear hcB hrB
    gi_wp2
    apply merge
    intro key'
    refine ranges rfl (by omega) (gf := 65) (lb := #[.pointer (some ⟨B, 0, none⟩)]) rfl trivial (enters_of Try.func65 (by kernel_rfl) rfl) HSQ.out HW8.out HW8.out.size (fun _ => rfl)
      (fun pre W => pre.length ≤ nn ∧ Is W BK #[.int .i64 (pre.length : Int)] ∧ Only (fun k => k = BK) w8 W)
      (fun c pre W => c = .exit 0 ∧ pre.length = nn + 1 ∧ pre.length ≤ m ∧ Is W BK #[.int .i64 (nn : Int)] ∧ Only (fun k => k = BK) w8 W)
      (fun pre W W' row hs hg hr => ⟨hs.1, own_is (β := Unit) (by omega) (fun _ => #[.int .i64 (pre.length : Int)]) () W W' row hs.2.1 hg hr, own_only (β := Unit) (Nat.le_refl _) () W W' row hs.2.2 hg hr⟩)
      (fun c pre W W' row hs hg hr => ⟨hs.1, hs.2.1, hs.2.2.1, own_is (β := Unit) (by omega) (fun _ => #[.int .i64 (nn : Int)]) () W W' row hs.2.2.2.1 hg hr, own_only (β := Unit) (Nat.le_refl _) () W W' row hs.2.2.2.2 hg hr⟩)
      ⟨Nat.zero_le _, K8.out, Only.refl _ _⟩ ?round ?done ?stop
    case done =>
      rintro D xs W hD rfl ⟨hp, hk, ho⟩ hDf
      have HK : Hid (Is W BK #[.int .i64 ((min m nn : Nat) : Int)]) := hide (by rw [HM.out, Nat.min_eq_left hp]; exact hk)
      have HD := hide hD
      have HO := hide ho
      have HDF := hide hDf
      clear hp hk ho hD hDf
      revert HDF; revert HO; revert HD; revert HK; revert W; revert D
      exact key'.out
    case stop =>
      rintro D c pre W hD ⟨rfl, hp, hpm, hk, ho⟩ hDf
      have HK : Hid (Is W BK #[.int .i64 ((min m nn : Nat) : Int)]) := hide (by rw [Nat.min_eq_right (by omega)]; exact hk)
      refine wpIn_exit (exit_n ?_)
      exact key'.out D W HK (hide hD) (hide ho) (hide hDf)
    case round =>
      rintro l pre x W hl ⟨hp, hk, ho⟩ hx
      have hx' := hx
      obtain ⟨hlt, hpre, hxe⟩ := hx'
      obtain ⟨j, hj⟩ : ∃ j, j = pre.length := ⟨_, rfl⟩
      rw [← hj] at hp hk
      have HJ := hide hj
      have HX := hide hx
      have HK := hide hk
      have HO := hide ho
      have hxa := HWA.out x (by rw [hxe]; exact List.getElem_mem _)
      have HXA := hide hxa
      clear hx hpre hxe hk ho hxa hlt hj
      obtain ⟨x0, x1, x2, x3, x4⟩ := x
      obtain ⟨rfl, rfl⟩ : x2 = key ∧ x4 = false := HXA.out
      dsimp only [wrA]
      have hzW : w8.heap.size ≤ W.heap.size := HO.out.size
      gi_wp2
      refine ⟨(KeepsOthers.alloc _ _).from _, (Below.refl _ _).alloc (by omega) _, fun W2 hg o ho1 ho2 => ?_⟩
      have hX1 : Is (W.alloc (.cells #[.int .i64 x0, .int .i64 (x1 : Int), .int .i64 x2, .int .i64 x3, .bool false] 41)) W.heap.size #[.int .i64 x0, .int .i64 (x1 : Int), .int .i64 x2, .int .i64 x3, .bool false] := Is.made _ _ _ rfl
      have hl1 : ∃ o : Obj, (W.alloc (.cells #[.int .i64 x0, .int .i64 (x1 : Int), .int .i64 x2, .int .i64 x3, .bool false] 41)).heap[l]? = some o ∧ o.isCells = false := ⟨o, ho1, ho2⟩
      have hX2 := hX1.keep (only_rec hg) (is_not hX1 hl1)
      have hK1 := HK.out.alloc (.cells #[.int .i64 x0, .int .i64 (x1 : Int), .int .i64 x2, .int .i64 x3, .bool false] 41)
      have hK2 := hK1.keep (only_rec hg) (is_not hK1 hl1)
      have hO2 : Only (fun k => k = BK) w8 W2 := (HO.out.alloc _).trans' (only_rec hg) (fun i e => .inr (by rw [e]; omega))
      have x10 : W2.cell? ⟨W.heap.size, 0, none⟩ = some (.int .i64 x0) := hX2.cell 0 rfl
      have x11 : W2.cell? ⟨W.heap.size, 1, none⟩ = some (.int .i64 (x1 : Int)) := hX2.cell 1 rfl
      have x12 : W2.cell? ⟨W.heap.size, 2, none⟩ = some (.int .i64 x2) := hX2.cell 2 rfl
      have x13 : W2.cell? ⟨W.heap.size, 3, none⟩ = some (.int .i64 x3) := hX2.cell 3 rfl
      have x14 : W2.cell? ⟨W.heap.size, 4, none⟩ = some (.bool false) := hX2.cell 4 rfl
      have c11 : W2.cell? ⟨BK, 0, none⟩ = some (.int .i64 (j : Int)) := hK2.cell 0 rfl
      have f11 := hK2.frozen 0
      have c10 : W2.cell? ⟨BW, 0, none⟩ = some (.slice ra m rc) := (X8.out.keep hO2 (by omega)).cell 0 rfl
      have c5 : W2.cell? ⟨w.heap.size + 1 + 1, 0, none⟩ = some (.int .u8 (nn : Int)) := (B8.out.k2.keep hO2 (by omega)).cell 0 rfl
      have c4 : W2.cell? ⟨w.heap.size + 1, 0, none⟩ = some (.int .i64 x2) := (B8.out.k1.keep hO2 (by omega)).cell 0 rfl
      obtain ⟨hlt, hpre, hxe⟩ := HX.out
      have hlt' : j < WS.length := by rw [HJ.out]; exact hlt
      have hxj : WS[j] = ⟨x0, x1, x2, x3, false⟩ := by simp only [HJ.out]; exact hxe.symm
      obtain ⟨rb, ro, rfl, hrl, d0, d1, d2, d3, d4⟩ := row5_at (ws := WS) (by rw [← HM.out]; exact HR8.out) hlt'
      obtain ⟨rb', erb, hrb⟩ := HRB.out _ _ (flat_get5 wrC wrC_len WS j hlt' 0 _ rfl)
      cases erb
      rw [hxj] at d0 d1 d3
      have e0 : W2.cell? ⟨rb, 0 + j * 5, none⟩ = some (.int .i64 x0) := hO2.cell d0 (by show ¬ rb = BK; omega)
      have e1 : W2.cell? ⟨rb, 0 + j * 5 + 1, none⟩ = some (.int .i64 (x1 : Int)) := hO2.cell d1 (by show ¬ rb = BK; omega)
      have e3 : W2.cell? ⟨rb, 0 + j * 5 + 3, none⟩ = some (.int .i64 x3) := hO2.cell d3 (by show ¬ rb = BK; omega)
      have hjm : j < m := by rw [HM.out]; exact hlt'
      have q7 : IntKind.i64.wrap (nn : Int) = nn := by rw [IntKind.wrap_i64]; omega
      have HO2 := hide hO2
      have HK2 := hide hK2
      rw [Nat.zero_add] at e0 e1 e3
      clear hX1 hl1 hX2 hK1 hK2 hO2 hlt hpre hxe hlt' hxj d0 d1 d2 d3 d4 hg ho1 ho2
      by_cases hjn : j = nn
      · subst hjn
        gi_wp2
        refine ⟨KeepsFrom.refl _ _, rfl, by rw [List.length_append, ← HJ.out]; rfl, by rw [List.length_append, ← HJ.out]; exact hjm, HK2.out, HO2.out⟩
      · have hjn' : ¬ (j : Int) = nn := by omega
        have hjm' : ¬ (j : Int) ≥ m := by omega
        have hjm2 : (j : Int) < m := by omega
        have hjm3 : ¬ m ≤ j := by omega
        gi_wp2
        refine Round.wpIn_region_reads (F := Fence.wide) (by kernel_rfl) (by kernel_rfl) (by kernel_rfl) ?_
        repeat (first | (gi_big_quiet_step (fail)) | (refine BigFrame.wpQuietIn_want (fun _ _ _ _ => trivial) rfl ?_; intro K hK; gi_big_quiet_op; gi_big_quiet_call ((fail))))
        refine wpQuietIn_nil ?_
        rintro _ ⟨nq, rfl⟩
        have HKN := hide (HK2.out.drewN nq)
        have c11' : (W2.drewN nq).cell? ⟨BK, 0, none⟩ = some (.int .i64 (j : Int)) := HKN.out.cell 0 rfl
        have f11' := HKN.out.frozen 0
        gi_wp2
        have hkd : KeepsFrom (BK + 1) W2 (W2.drewN nq) := ⟨Nat.le_refl _, fun k o _ h _ => h⟩
        refine ⟨hkd.trans ((KeepsOthers.setCell _ _ _).from _), (show Below w5.heap.size W2 (W2.drewN nq) from ⟨rfl, rfl, rfl, Nat.le_refl _, fun _ _ => rfl⟩).setCell (p := ⟨BK, 0, none⟩) HZ5.out _, ?_, ?_, ?_⟩
        · rw [List.length_append, ← HJ.out]
          show j + 1 ≤ nn
          omega
        · rw [List.length_append, ← HJ.out]
          exact (HKN.out.set 0 (.int .i64 ((j : Int) + 1))).eq (by simp)
        · exact (HO2.out.drewN nq).put 0 _
    intro D W HK HD HO HDF
    have XW : Is W BW #[.slice ra m rc] := X8.out.keep HO.out (by omega)
    have c10 : W.cell? ⟨BW, 0, none⟩ = some (.slice ra m rc) := XW.cell 0 rfl
    have c11 : W.cell? ⟨BK, 0, none⟩ = some (.int .i64 ((min m nn : Nat) : Int)) := HK.out.cell 0 rfl
    have c5 : W.cell? ⟨w.heap.size + 1 + 1, 0, none⟩ = some (.int .u8 (nn : Int)) := (B8.out.k2.keep HO.out (by omega)).cell 0 rfl
    have hk3 := B8.out.k3.keep HO.out (show ¬ w.heap.size + 1 + 1 + 1 = BK by omega)
    have c6 : W.cell? ⟨w.heap.size + 1 + 1 + 1, 0, none⟩ = some (.bool false) := hk3.cell 0 rfl
    have f6 := hk3.frozen 0
    have q7 : IntKind.i64.wrap (nn : Int) = nn := by rw [IntKind.wrap_i64]; omega
    have hbf : Below w.heap.size w (W.setCell ⟨w.heap.size + 1 + 1 + 1, 0, none⟩ (.bool true)) := (H8.out.below.trans (HO.out.below (B := w.heap.size) (fun i e => by omega) H8.out.below.size)).setCell (p := ⟨w.heap.size + 1 + 1 + 1, 0, none⟩) (by show w.heap.size ≤ w.heap.size + 1 + 1 + 1; omega) (.bool true)
    have hkf : Is (W.setCell ⟨w.heap.size + 1 + 1 + 1, 0, none⟩ (.bool true)) (w.heap.size + 1 + 1 + 1) #[.bool true] := (hk3.set 0 (.bool true)).eq rfl
    have hDn : ¬ D = w.heap.size + 1 + 1 + 1 := by have := HD.out; omega
    have d9 : (W.setCell ⟨w.heap.size + 1 + 1 + 1, 0, none⟩ (.bool true)).heap[D]? = some (.deferred (some [])) := (Below.heap_setCell _ _ _ _ hDn).trans HDF.out
    have hg := grownBy_putObj' (W.setCell ⟨w.heap.size + 1 + 1 + 1, 0, none⟩ (.bool true)) D (.deferred none)
    have hxf := hkf.keep (S := fun k => some D = some k) ⟨hg.os, hg.tape, hg.output, hg.size, fun k hk hn => hg.block k hk (fun e => hn e.symm)⟩ (fun e => hDn (Option.some.inj e))
    have hcf := hxf.cell 0 rfl
    have hbg := hbf.grown hg hbf.size (fun k e => by cases e; have := HD.out; omega)
    have D9 := hide d9
    have HCF := hide hcf
    have HBG := hide hbg
    clear hbf hkf hDn d9 hg hxf hcf hbg hk3 XW
    obtain ⟨kk, hkk⟩ : ∃ kk, kk = min m nn := ⟨_, rfl⟩
    rw [← hkk] at c11
    rcases Nat.lt_or_ge nn m with q2 | q2
    · obtain rfl : kk = nn := by omega
      clear hkk
      have q3 : (kk : Int) < m := by omega
      have q4 : min (m : Int) (kk : Int) = kk := by omega
      gi_wp2
      refine ⟨by simp, .inl ⟨_, _, rfl, run_takeDeferred D9.out, ?_⟩⟩
      exact ⟨.bool true, by simp [results, Try.f5, go_sem, HCF.out], rfl, HBG.out⟩
    · obtain rfl : kk = m := by omega
      clear hkk
      have q3 : ¬ (nn : Int) < kk := by omega
      have q4 : min (kk : Int) (nn : Int) = kk := by omega
      gi_wp2
      refine ⟨by simp, .inl ⟨_, _, rfl, run_takeDeferred D9.out, ?_⟩⟩
      exact ⟨.bool true, by simp [results, Try.f5, go_sem, HCF.out], rfl, HBG.out⟩
end Go.Proofs.Ytkinmllflodhaaa.Walk
