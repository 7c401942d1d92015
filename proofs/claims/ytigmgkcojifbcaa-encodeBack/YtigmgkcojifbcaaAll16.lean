/- Joined out of the texts HistRefAppend, HistRefAny, in that order. -/
import Derived.Test.YtigmgkcojifbcaaAll15
import Derived.Deep.DeepCutAuto
import Derived.Deep.RegionWith
/- The document's op, whole. -/
namespace Go.Proofs.Ytigmgkcojifbcaa.Hist
open Go.RowKit Go.Proofs.Ytigmgkcojifbcaa.Dig Go.Proofs.Ytigmgkcojifbcaa.Mem Go.Proofs.Ytigmgkcojifbcaa.Cur
set_option linter.unusedVariables false
set_option linter.unusedSimpArgs false

set_option maxRecDepth 20000 in
set_option maxHeartbeats 4000000 in
theorem rop_app (F : Nat → Prop) (tv : Value) (ts : List TxnM) (a : Option Addr) (len cap : Nat) (z : Nat → Int) (i : Nat) (most : Int) (w : World) (ht : TxnsAt F w tv ts) (hr : Rd .u8 w a len z) (hc : len ≤ cap) (hi : i < len) (hl : len ≤ 1000000) (hts : ts.length ≤ 100000) (hops : opsN ts ≤ 100000)
    (h0 : ¬ ts.length = 0) (h3 : ¬ most ≤ (opsN ts : Int)) (h1 : isB z len (i + 1) 32 = true) {n' : Int} {t : Nat} (g2 : t ≤ len) (g3 : 0 ≤ n') (g4 : n' ≤ 2147483647) (hp : parse z len ((i + 2 : Nat) : Int) = (n', (t : Int), true)) (hz : z i = 97) :
    Calls Try.prog 34 #[.agg #[tv], .slice a len cap, .int .i64 (i : Int), .int .i64 most] w fun e w' => ∃ tv', e = .returned (.tuple #[.agg #[tv'], .int .i64 ((opS z len most ts i).nx : Int), .int .i64 (opS z len most ts i).e, .int .i64 (opS z len most ts i).wh]) ∧ TxnsAt (fun b => F b ∨ w.heap.size ≤ b) w' tv' (opS z len most ts i).ts ∧ Below w.heap.size w w' := by
  obtain ⟨ta, tcap, rfl, hc1, hc2⟩ := ht.shape
  obtain ⟨m, hm⟩ : ∃ m, ts.length = m + 1 := ⟨ts.length - 1, by omega⟩
  have HM := hide hm
  rw [hm] at ht hc1 ⊢
  have hit : (i : Int) < (len : Int) := by omega
  have ST0 := hide (OpSt.start 24 ht hr)
  obtain ⟨hc0, -⟩ := Is.one ST0.out.hi
  obtain ⟨n, hn⟩ : ∃ n, (opsN ts : Int) = n := ⟨_, rfl⟩
  have HN := hide hn
  have B1 := hide h1
  have e2 : ((i + 2 : Nat) : Int) = (i : Int) + 2 := by push_cast; rfl
  have h0' : (((m + 1 : Nat) : Int) == 0) = false := by simp; omega
  have h0'' : (((m : Int) + 1) == 0) = false := by simp; omega
  have h3' : ¬ most ≤ n := by rw [← hn]; exact h3
  have HS0 : opS z len most ts i = appT z len ts n' t := by unfold opS; rw [if_neg h0, if_neg h3, if_neg (by rw [h1]; decide), hp, if_neg (by simp), if_neg (by rw [hz]; decide)]; rfl
  have hz114 : (z i == 114) = false := by rw [hz]; rfl
  have hrow : ∀ u ∈ ts, u.ops.length ≤ 1000000 := fun u hu => by obtain ⟨j, hj, rfl⟩ := List.mem_iff_getElem.1 hu; have := ops_le hj; omega
  obtain ⟨bb, off, rfl, hcl, hzz1, hzz2⟩ := hr.u8 hi
  rw [e2] at hp
  have HP := hide hp
  obtain ⟨b2, hb2⟩ : ∃ b, isB z len t 32 = b := ⟨_, rfl⟩
  have B2 := hide hb2
  cases b2 with
  | false =>
    have HS : Hid (opS z len most ts i = ⟨ts, 0, 4, (t : Int)⟩) := by show _ = _; rw [HS0]; unfold appT; rw [if_pos hb2]
    clear HS0 hb2 hp h0 h3 h1 hn hz ht hr hc1 hc2 hm hrow
    go_enter Try.func34, Try.ntmps34
    go_wp2_with (first | (go_at_call 25; go_must ((with_reducible refine (rops_any _ _ ts _ ST0.out.t (by omega) (by omega)).mono ?_); rw [HN.out]; rintro e w3 ⟨rfl, hb3⟩; have ST3 := hide (ST0.out.keep hb3); obtain ⟨hc3, hg3⟩ := Is.one ST3.out.hi; obtain ⟨hd3, hf3⟩ := Is.one ST3.out.hj; have hcz := bel_cell ST3.out.below hcl; have ST4 := hide (ST3.out.alloc (.cells #[.bool false, .int .i64 n', .int .i64 0, .slice none 0 0] 45)); have HO4 := hide (Is.made w3 #[.bool false, .int .i64 n', .int .i64 0, .slice none 0 0] 45 rfl); have hz3 : w.heap.size + 1 < w3.heap.size := ST3.out.hj.lt; have hh3 : w.heap.size < w3.heap.size := ST3.out.hi.lt; have hbl3 : bb < w3.heap.size := lt_of_cell hcz; clear hb3)) | (go_at_call 47; (with_reducible refine (ris_at _ len cap z (i + 1) _ 32 _ ST3.out.r (by omega) (by omega) B1).mono ?_); rintro e w' ⟨rfl, hw⟩; replace hw := hw.symm; subst hw) | (go_at_call 48; (with_reducible refine (rparse_eq _ len cap z _ _ ST3.out.r hc HP).mono ?_); rintro e w' ⟨rfl, hw⟩; replace hw := hw.symm; subst hw) | (go_at_call 47; (with_reducible refine (ris_at _ len cap z (t) _ 32 _ ST4.out.r (by omega) (by omega) B2).mono ?_); rintro e w' ⟨rfl, hw⟩; replace hw := hw.symm; subst hw))
    obtain ⟨k1, k2, k3⟩ := OpSt.leaf ST4.out
    rw [World.setCell_alloc_past _ _ _ _ hz3] at k1 k2 k3
    refine bodyPost_ret (v := .tuple #[.agg #[.slice ta (m + 1) tcap], .int .i64 0, .int .i64 4, .int .i64 (t : Int)]) (by simp [results, Try.results34, go_sem, k3]) rfl ⟨_, by rw [HS.out]; rfl, ?_, k2⟩
    rw [HS.out]
    exact k1.mono (fun b q => .inl q.1)
  | true =>
  have htl := (isB_iff.1 hb2).1
  have e3 : ((t + 1 : Nat) : Int) = (t : Int) + 1 := by push_cast; rfl
  rcases parse_two z len (t + 1) (by omega) with ⟨y, t', q1, q2, q3, q4, hpp⟩ | ⟨t', q1, q2, hpp⟩
  rotate_left
  · have HS : Hid (opS z len most ts i = ⟨ts, 0, 4, (t' : Int)⟩) := by show _ = _; rw [HS0]; unfold appT; rw [if_neg (by rw [hb2]; decide), hpp]; rfl
    rw [e3] at hpp
    have HQ := hide hpp
    clear HS0 hb2 hp hpp h0 h3 h1 hn hz ht hr hc1 hc2 hm hrow
    go_enter Try.func34, Try.ntmps34
    go_wp2_with (first | (go_at_call 25; go_must ((with_reducible refine (rops_any _ _ ts _ ST0.out.t (by omega) (by omega)).mono ?_); rw [HN.out]; rintro e w3 ⟨rfl, hb3⟩; have ST3 := hide (ST0.out.keep hb3); obtain ⟨hc3, hg3⟩ := Is.one ST3.out.hi; obtain ⟨hd3, hf3⟩ := Is.one ST3.out.hj; have hcz := bel_cell ST3.out.below hcl; have ST4 := hide (ST3.out.alloc (.cells #[.bool false, .int .i64 n', .int .i64 0, .slice none 0 0] 45)); have HO4 := hide (Is.made w3 #[.bool false, .int .i64 n', .int .i64 0, .slice none 0 0] 45 rfl); have hz3 : w.heap.size + 1 < w3.heap.size := ST3.out.hj.lt; have hh3 : w.heap.size < w3.heap.size := ST3.out.hi.lt; have hbl3 : bb < w3.heap.size := lt_of_cell hcz; clear hb3)) | (go_at_call 47; (with_reducible refine (ris_at _ len cap z (i + 1) _ 32 _ ST3.out.r (by omega) (by omega) B1).mono ?_); rintro e w' ⟨rfl, hw⟩; replace hw := hw.symm; subst hw) | (go_at_call 48; (with_reducible refine (rparse_eq _ len cap z _ _ ST3.out.r hc HP).mono ?_); rintro e w' ⟨rfl, hw⟩; replace hw := hw.symm; subst hw) | (go_at_call 47; (with_reducible refine (ris_at _ len cap z (t) _ 32 _ ST4.out.r (by omega) (by omega) B2).mono ?_); rintro e w' ⟨rfl, hw⟩; replace hw := hw.symm; subst hw) | (go_at_call 48; (with_reducible refine (rparse_eq _ len cap z _ _ ST4.out.r hc HQ).mono ?_); rintro e w' ⟨rfl, hw⟩; replace hw := hw.symm; subst hw))
    obtain ⟨k1, k2, k3⟩ := OpSt.leaf ST4.out
    rw [World.setCell_alloc_past _ _ _ _ hz3] at k1 k2 k3
    refine bodyPost_ret (v := .tuple #[.agg #[.slice ta (m + 1) tcap], .int .i64 0, .int .i64 4, .int .i64 (t' : Int)]) (by simp [results, Try.results34, go_sem, k3]) rfl ⟨_, by rw [HS.out]; rfl, ?_, k2⟩
    rw [HS.out]
    exact k1.mono (fun b q => .inl q.1)
  obtain ⟨b3, hb3⟩ : ∃ b, appB ts n' y = b := ⟨_, rfl⟩
  have HAB := hide hb3
  have HRW := hide hrow
  cases b3 with
  | true =>
    have HS : Hid (opS z len most ts i = ⟨ts, 0, 6, ((t + 1 : Nat) : Int)⟩) := by show _ = _; rw [HS0]; unfold appT; rw [if_neg (by rw [hb2]; decide), hpp, if_neg (by simp), if_pos hb3]
    rw [e3] at hpp
    have HQ := hide hpp
    clear HS0 hb2 hb3 hp hpp h0 h3 h1 hn hz ht hr hc1 hc2 hm hrow
    go_enter Try.func34, Try.ntmps34
    go_wp2_with (first | (go_at_call 25; go_must ((with_reducible refine (rops_any _ _ ts _ ST0.out.t (by omega) (by omega)).mono ?_); rw [HN.out]; rintro e w3 ⟨rfl, hb3⟩; have ST3 := hide (ST0.out.keep hb3); obtain ⟨hc3, hg3⟩ := Is.one ST3.out.hi; obtain ⟨hd3, hf3⟩ := Is.one ST3.out.hj; have hcz := bel_cell ST3.out.below hcl; have ST4 := hide (ST3.out.alloc (.cells #[.bool false, .int .i64 n', .int .i64 0, .slice none 0 0] 45)); have HO4 := hide (Is.made w3 #[.bool false, .int .i64 n', .int .i64 0, .slice none 0 0] 45 rfl); have hz3 : w.heap.size + 1 < w3.heap.size := ST3.out.hj.lt; have hh3 : w.heap.size < w3.heap.size := ST3.out.hi.lt; have hbl3 : bb < w3.heap.size := lt_of_cell hcz; clear hb3)) | (go_at_call 47; (with_reducible refine (ris_at _ len cap z (i + 1) _ 32 _ ST3.out.r (by omega) (by omega) B1).mono ?_); rintro e w' ⟨rfl, hw⟩; replace hw := hw.symm; subst hw) | (go_at_call 48; (with_reducible refine (rparse_eq _ len cap z _ _ ST3.out.r hc HP).mono ?_); rintro e w' ⟨rfl, hw⟩; replace hw := hw.symm; subst hw) | (go_at_call 47; (with_reducible refine (ris_at _ len cap z (t) _ 32 _ ST4.out.r (by omega) (by omega) B2).mono ?_); rintro e w' ⟨rfl, hw⟩; replace hw := hw.symm; subst hw) | (go_at_call 48; (with_reducible refine (rparse_eq _ len cap z _ _ ST4.out.r hc HQ).mono ?_); rintro e w' ⟨rfl, hw⟩; replace hw := hw.symm; subst hw) | (go_at_call 28; go_must ((with_reducible refine (rapp_any _ _ ts n' y _ ST4.out.t (by omega) HRW.out).mono ?_); rw [HAB.out]; rintro e w5 ⟨rfl, hb5⟩; have ST5 := hide (ST4.out.keep hb5); have HO5 := hide (HO4.out.below hb5); obtain ⟨⟨d0, d1, d2, d3⟩, f0, f1, f2, f3⟩ := HO5.out.four; obtain ⟨hc5, hg5⟩ := Is.one ST5.out.hi; obtain ⟨hd5, hf5⟩ := Is.one ST5.out.hj; clear hb5)))
    obtain ⟨k1, k2, k3⟩ := OpSt.leaf ST5.out
    refine bodyPost_ret (v := .tuple #[.agg #[.slice ta (m + 1) tcap], .int .i64 0, .int .i64 6, .int .i64 ((t : Int) + 1)]) (by simp [results, Try.results34, go_sem, k3]) rfl ⟨_, by rw [HS.out]; rfl, ?_, k2⟩
    rw [HS.out]
    exact k1.mono (fun b q => .inl q.1)
  | false =>
  have HS1 : opS z len most ts i = endL z len ts ⟨false, n', y, []⟩ t' := by rw [HS0]; unfold appT; rw [if_neg (by rw [hb2]; decide), hpp, if_neg (by simp), if_neg (by rw [hb3]; decide)]; rfl
  rw [e3] at hpp
  have HQ := hide hpp
  clear HS0 hb2 hb3 hp hpp h0 h3 h1 hn hz ht hr hc1 hc2 hm hrow
  go_enter Try.func34, Try.ntmps34
  go_upto_region 26 with (first | (go_at_call 25; go_must ((with_reducible refine (rops_any _ _ ts _ ST0.out.t (by omega) (by omega)).mono ?_); rw [HN.out]; rintro e w3 ⟨rfl, hb3⟩; have ST3 := hide (ST0.out.keep hb3); obtain ⟨hc3, hg3⟩ := Is.one ST3.out.hi; obtain ⟨hd3, hf3⟩ := Is.one ST3.out.hj; have hcz := bel_cell ST3.out.below hcl; have ST4 := hide (ST3.out.alloc (.cells #[.bool false, .int .i64 n', .int .i64 0, .slice none 0 0] 45)); have HO4 := hide (Is.made w3 #[.bool false, .int .i64 n', .int .i64 0, .slice none 0 0] 45 rfl); have hz3 : w.heap.size + 1 < w3.heap.size := ST3.out.hj.lt; have hh3 : w.heap.size < w3.heap.size := ST3.out.hi.lt; have hbl3 : bb < w3.heap.size := lt_of_cell hcz; clear hb3)) | (go_at_call 47; (with_reducible refine (ris_at _ len cap z (i + 1) _ 32 _ ST3.out.r (by omega) (by omega) B1).mono ?_); rintro e w' ⟨rfl, hw⟩; replace hw := hw.symm; subst hw) | (go_at_call 48; (with_reducible refine (rparse_eq _ len cap z _ _ ST3.out.r hc HP).mono ?_); rintro e w' ⟨rfl, hw⟩; replace hw := hw.symm; subst hw) | (go_at_call 47; (with_reducible refine (ris_at _ len cap z (t) _ 32 _ ST4.out.r (by omega) (by omega) B2).mono ?_); rintro e w' ⟨rfl, hw⟩; replace hw := hw.symm; subst hw) | (go_at_call 48; (with_reducible refine (rparse_eq _ len cap z _ _ ST4.out.r hc HQ).mono ?_); rintro e w' ⟨rfl, hw⟩; replace hw := hw.symm; subst hw) | (go_at_call 28; go_must ((with_reducible refine (rapp_any _ _ ts n' y _ ST4.out.t (by omega) HRW.out).mono ?_); rw [HAB.out]; rintro e w5 ⟨rfl, hb5⟩; have ST5 := hide (ST4.out.keep hb5); have HO5 := hide (HO4.out.below hb5); obtain ⟨⟨d0, d1, d2, d3⟩, f0, f1, f2, f3⟩ := HO5.out.four; obtain ⟨hc5, hg5⟩ := Is.one ST5.out.hi; obtain ⟨hd5, hf5⟩ := Is.one ST5.out.hj; clear hb5)))
  have hz5 : w3.heap.size < w5.heap.size := HO5.out.lt
  have ST6 := hide (ST5.out.put hz3 hz5 2 (.int .i64 y))
  have HO6 : Hid (Is (w5.setCell ⟨w3.heap.size, 2, none⟩ (.int .i64 y)) w3.heap.size #[.bool false, .int .i64 n', .int .i64 y, .slice none 0 0]) := HO5.out.set 2 _
  have HI6 : Hid (IntsAt (fun b => w.heap.size + 1 < b) (w5.setCell ⟨w3.heap.size, 2, none⟩ (.int .i64 y)) (.slice none 0 0) []) := hide IntsAt.nil
  have HZ6 : Hid (w.heap.size + 1 < (w5.setCell ⟨w3.heap.size, 2, none⟩ (.int .i64 y)).heap.size) := hide (by have := HO6.out.lt; omega)
  clear d0 d1 d2 d3 f0 f1 f2 f3 hc5 hg5 hd5 hf5 HO5 hz5
  have HWV : Hid ((Lit.int .i64 y).wf = true) := hide (wf_of_i64 (by omega) (by omega))
  generalize w5.setCell ⟨w3.heap.size, 2, none⟩ (.int .i64 y) = w6 at *
  clear ST5
  have HWF : Hid ((Lit.int .i64 n').wf = true ∧ (Lit.int .i64 ((⟨false, n', y, []⟩ : OpM)).value).wf = true) := hide ⟨wf_of_i64 (by omega) (by omega), HWV.out⟩
  obtain ⟨b10, hb10⟩ : ∃ b, isB z len t' 10 = b := ⟨_, rfl⟩
  have B5 := hide hb10
  cases b10 with
  | false =>
    have HS : Hid (opS z len most ts i = ⟨ts, 0, 4, (t' : Int)⟩) := by show _ = _; rw [HS1]; unfold endL; rw [if_pos hb10]
    clear HS1 hb10
    obtain ⟨hc6, hg6⟩ := Is.one ST6.out.hi
    obtain ⟨hd6, hf6⟩ := Is.one ST6.out.hj
    go_wp2_with (go_at_call 47; (with_reducible refine (ris_at _ len cap z (t') _ 10 _ ST6.out.r (by omega) (by omega) B5).mono ?_); rintro e w' ⟨rfl, hw⟩; replace hw := hw.symm; subst hw)
    obtain ⟨k1, k2, k3⟩ := OpSt.leaf ST6.out
    refine bodyPost_ret (v := .tuple #[.agg #[.slice ta (m + 1) tcap], .int .i64 0, .int .i64 4, .int .i64 (t' : Int)]) (by simp [results, Try.results34, go_sem, k3]) rfl ⟨_, by rw [HS.out]; rfl, ?_, k2⟩
    rw [HS.out]
    exact k1.mono (fun b q => .inl q.1)
  | true =>
  have HS : Hid (opS z len most ts i = ⟨addOp ts (⟨false, n', y, []⟩ : OpM), t' + 1, 0, 0⟩) := by show _ = _; rw [HS1]; unfold endL; rw [if_neg (by rw [hb10]; decide)]
  have ht1 : t' < len := (isB_iff.1 hb10).1
  clear HS1 hb10
  obtain ⟨hc6, hg6⟩ := Is.one ST6.out.hi
  have hh6 : w.heap.size < w6.heap.size := ST6.out.hi.lt
  obtain ⟨rows, ROW0, ALL0⟩ := ST6.out.t
  have hrl : rows.length = m + 1 := by rw [ALL0.1, HM.out]
  have hrl2 : rows.length ≤ 100000 := by rw [ALL0.1]; exact hts
  have ONE : Hid (∀ c ∈ rows, ∀ u ∈ c, u.oneCell' = true) := hide (txn_one ALL0)
  have HE6 : Hid (OwnC 48 3 (w.heap.size + 2) (w6.alloc (.cells #[] 48)) (.slice (some ⟨w6.heap.size, 0, none⟩) 0 0) []) := hide (own_empty 3 (at_new _ _ rfl) (by have := HZ6.out; omega))
  have HB6 : Hid (w.heap.size + 2 ≤ (w6.alloc (.cells #[] 48)).heap.size) := hide (by have := HZ6.out; simp; omega)
  have ROW := hide (ROW0.only (Only.of_below (S := fun _ => False) ((Below.refl w6.heap.size w6).alloc (Nat.le_refl _) (.cells #[] 48))) (fun _ _ q => q))
  have ALL := hide ALL0
  obtain ⟨j0, hj0, hjz0, hjz1, hjz2⟩ := info_parts Try.infoTxn
  have HJ0 : Hid (Try.prog.info? 48 = some j0 ∧ j0.zero = some (.agg #[.int .i64 0, .bool false, .slice none 0 0]) ∧ j0.size = 3 ∧ j0.bytes = 40) := ⟨hj0, hjz0, hjz1, hjz2⟩
  obtain ⟨i0, hi0, hiz0, hiz1, hiz2⟩ := info_parts Try.infoOp
  have HI0 : Hid (Try.prog.info? 45 = some i0 ∧ i0.zero = some (.agg #[.bool false, .int .i64 0, .int .i64 0, .slice none 0 0]) ∧ i0.size = 4 ∧ i0.bytes = 48) := ⟨hi0, hiz0, hiz1, hiz2⟩
  clear hj0 hjz0 hjz1 hjz2 hi0 hiz0 hiz1 hiz2 ROW0 ALL0
  go_wp2_with (first | (go_at_call 47; (with_reducible refine (ris_at _ len cap z (t') _ 10 _ ST6.out.r (by omega) (by omega) B5).mono ?_); rintro e w' ⟨rfl, hw⟩; replace hw := hw.symm; subst hw) | (at_builtin; (refine list_app_row rfl (.tmp 113) (.tmp 115) _ rfl 48 j0 _ 3 40 Try.underlying22 HJ0.out.1 HJ0.out.2.1 HJ0.out.2.2.1 HJ0.out.2.2.2 rfl (by omega) (by omega) (w.heap.size + 2) (.slice (some ⟨w6.heap.size, 0, none⟩) 0 0) [] rfl HE6.out _ (.slice ta (m + 1) tcap) rows rfl ROW.out ONE.out (by simp; omega) HB6.out ?_); intro v7 w7 hown7 ho7 hat7; go_must (obtain ⟨lg, lc7, rfl, -, -⟩ := own_len hown7 hrl; have HB7 : Hid (Below w6.heap.size w6 w7) := hide (Below.only ((Below.refl _ _).alloc (Nat.le_refl _) _) ho7 (fun k q => (by simp [Value.ownBlock] at q; omega)) (by simp)); have hlg6 : w6.heap.size ≤ lg := (by simp [Value.ownBlock] at hat7; omega); have HO7 : Hid (OwnC 48 3 (w.heap.size + 2) w7 (.slice (some ⟨lg, 0, none⟩) (m + 1) lc7) rows) := hide hown7; have ST7 := hide (ST6.out.keep HB7.out); have HOB7 := hide (HO6.out.below HB7.out); obtain ⟨⟨x0, x1, x2, x3⟩, -, -, -, -⟩ := HOB7.out.four; obtain ⟨hc7, hg7⟩ := Is.one ST7.out.hi; obtain ⟨hd7, hf7⟩ := Is.one ST7.out.hj; clear hown7 ho7 hat7)))
  have ALL7 := hide (ALL.out.mono (fun _ _ q => q.only (Only.of_below (S := fun _ => False) HB7.out) (fun _ _ r => r)))
  obtain ⟨oa, ocap, ocs, hr7, ht7, e7, ct, orow, oall, oid⟩ := copy_last HO7.out ALL7.out HM.out
  have HRM : Hid (∃ (hr : m < rows.length) (ht : m < ts.length), rows[m] = [.int .i64 ts[m].id, .bool ts[m].ab, .slice oa ts[m].ops.length ocap] ∧ AllAt (OpAt (fun b => F b ∧ b < w.heap.size) w7) ocs ts[m].ops ∧ (Lit.int .i64 ts[m].id).wf = true) := hide ⟨hr7, ht7, e7, oall, oid⟩
  have OROW := hide orow
  have OONE := hide (op_one oall)
  have hol : ocs.length ≤ 100000 := by rw [oall.1]; have := ops_le ht7; omega
  have hlg7 : lg < w7.heap.size := (HO7.out.lt lg rfl).2
  have hob7 : w3.heap.size < w7.heap.size := HOB7.out.lt
  have hhb7 : w.heap.size < w7.heap.size := ST7.out.hi.lt
  have hrb7 : w.heap.size + 1 < w7.heap.size := ST7.out.hj.lt
  have hmm1 : (m : Int) < (m : Int) + 1 := by omega
  have hn1 : lg ≠ w.heap.size := by have := HZ6.out; omega
  have hn2 : w.heap.size ≠ lg := by have := HZ6.out; omega
  have hn3 : lg ≠ w.heap.size + 1 := by have := HZ6.out; omega
  have hn4 : w.heap.size + 1 ≠ lg := by have := HZ6.out; omega
  clear orow oall oid e7
  have HS0 : (fun w' : World => w'.cell? ⟨lg, m * 3 + 2, none⟩ = some (.slice oa ts[m].ops.length ocap) ∧ w'.cell? ⟨w3.heap.size, 0, none⟩ = some (.bool false) ∧ w'.cell? ⟨w3.heap.size, 1, none⟩ = some (.int .i64 n') ∧ w'.cell? ⟨w3.heap.size, 2, none⟩ = some (.int .i64 y) ∧ w'.cell? ⟨w3.heap.size, 3, none⟩ = some (.slice none 0 0)) w7.drew := ⟨ct, x0, x1, x2, x3⟩
  refine Last.region_last (k := 14) (S := fun w' : World => w'.cell? ⟨lg, m * 3 + 2, none⟩ = some (.slice oa ts[m].ops.length ocap) ∧ w'.cell? ⟨w3.heap.size, 0, none⟩ = some (.bool false) ∧ w'.cell? ⟨w3.heap.size, 1, none⟩ = some (.int .i64 n') ∧ w'.cell? ⟨w3.heap.size, 2, none⟩ = some (.int .i64 y) ∧ w'.cell? ⟨w3.heap.size, 3, none⟩ = some (.slice none 0 0)) (by kernel_rfl) rfl rfl (by kernel_rfl) (by kernel_rfl) ?_
  refine wpAnyH_take (i := 0) (v := ?_) rfl (by kernel_rfl) (by kernel_rfl) (by kernel_rfl) (fun _ _ _ h => h) (Or.inl ⟨by rfl, ?_⟩) HS0 ?_
  rotate_left
  · intro w' hSw
    try dsimp only at hSw
    simp only [List.getElem_toArray, List.getElem_cons_zero, List.getElem_cons_succ]
    go_simp
    try with_reducible rfl
  try simp only [Act.put, List.getElem_toArray, List.getElem_cons_zero, List.getElem_cons_succ, List.setIfInBounds_toArray, List.set_cons_zero, List.set_cons_succ]
  refine wpAnyH_take (i := 1) (v := ?_) rfl (by kernel_rfl) (by kernel_rfl) (by kernel_rfl) (fun _ _ _ h => h) (Or.inl ⟨by rfl, ?_⟩) HS0 ?_
  rotate_left
  · intro w' hSw
    try dsimp only at hSw
    simp only [List.getElem_toArray, List.getElem_cons_zero, List.getElem_cons_succ]
    go_simp
    try with_reducible rfl
  try simp only [Act.put, List.getElem_toArray, List.getElem_cons_zero, List.getElem_cons_succ, List.setIfInBounds_toArray, List.set_cons_zero, List.set_cons_succ]
  refine wpAnyH_take (i := 3) (v := ?_) rfl (by kernel_rfl) (by kernel_rfl) (by kernel_rfl) (fun _ _ _ h => h) (Or.inl ⟨by rfl, ?_⟩) HS0 ?_
  rotate_left
  · intro w' hSw
    try dsimp only at hSw
    simp only [List.getElem_toArray, List.getElem_cons_zero, List.getElem_cons_succ]
    go_simp
    try with_reducible rfl
  try simp only [Act.put, List.getElem_toArray, List.getElem_cons_zero, List.getElem_cons_succ, List.setIfInBounds_toArray, List.set_cons_zero, List.set_cons_succ]
  refine wpAnyH_take (i := 4) (v := ?_) rfl (by kernel_rfl) (by kernel_rfl) (by kernel_rfl) (fun _ _ _ h => h) (Or.inl ⟨by rfl, ?_⟩) HS0 ?_
  rotate_left
  · intro w' hSw
    try dsimp only at hSw
    simp only [List.getElem_toArray, List.getElem_cons_zero, List.getElem_cons_succ]
    go_simp
    try with_reducible rfl
  try simp only [Act.put, List.getElem_toArray, List.getElem_cons_zero, List.getElem_cons_succ, List.setIfInBounds_toArray, List.set_cons_zero, List.set_cons_succ]
  refine wpAnyH_take (i := 5) (v := ?_) rfl (by kernel_rfl) (by kernel_rfl) (by kernel_rfl) (fun _ _ _ h => h) (Or.inl ⟨by rfl, ?_⟩) HS0 ?_
  rotate_left
  · intro w' hSw
    try dsimp only at hSw
    simp only [List.getElem_toArray, List.getElem_cons_zero, List.getElem_cons_succ]
    go_simp
    try with_reducible rfl
  try simp only [Act.put, List.getElem_toArray, List.getElem_cons_zero, List.getElem_cons_succ, List.setIfInBounds_toArray, List.set_cons_zero, List.set_cons_succ]
  refine wpAnyH_take (i := 6) (v := ?_) rfl (by kernel_rfl) (by kernel_rfl) (by kernel_rfl) (fun _ _ _ h => h) (Or.inl ⟨by rfl, ?_⟩) HS0 ?_
  rotate_left
  · intro w' hSw
    try dsimp only at hSw
    simp only [List.getElem_toArray, List.getElem_cons_zero, List.getElem_cons_succ]
    go_simp
    try with_reducible rfl
  try simp only [Act.put, List.getElem_toArray, List.getElem_cons_zero, List.getElem_cons_succ, List.setIfInBounds_toArray, List.set_cons_zero, List.set_cons_succ]
  refine wpAnyH_take (i := 7) (v := ?_) rfl (by kernel_rfl) (by kernel_rfl) (by kernel_rfl) (fun _ _ _ h => h) (Or.inl ⟨by rfl, ?_⟩) HS0 ?_
  rotate_left
  · intro w' hSw
    try dsimp only at hSw
    simp only [List.getElem_toArray, List.getElem_cons_zero, List.getElem_cons_succ]
    go_simp
    try with_reducible rfl
  try simp only [Act.put, List.getElem_toArray, List.getElem_cons_zero, List.getElem_cons_succ, List.setIfInBounds_toArray, List.set_cons_zero, List.set_cons_succ]
  refine wpAnyH_take (i := 9) (v := ?_) rfl (by kernel_rfl) (by kernel_rfl) (by kernel_rfl) (fun _ _ _ h => h) (Or.inl ⟨by rfl, ?_⟩) HS0 ?_
  rotate_left
  · intro w' hSw
    try dsimp only at hSw
    simp only [List.getElem_toArray, List.getElem_cons_zero, List.getElem_cons_succ]
    go_simp
    try with_reducible rfl
  try simp only [Act.put, List.getElem_toArray, List.getElem_cons_zero, List.getElem_cons_succ, List.setIfInBounds_toArray, List.set_cons_zero, List.set_cons_succ]
  refine wpAnyH_ready (rs := [2, 10]) (by kernel_rfl) (by simp) ?_
  refine AllReadyH.cons rfl (fun K hK => ?_) (AllReadyH.cons rfl (fun K hK => ?_) AllReadyH.nil)
  · skip
    (simp only [List.getElem_toArray, List.getElem_cons_zero, List.getElem_cons_succ])
    go_simp
    refine hK.out _ _ ⟨bel_cell (by repeat (first | exact Below.refl _ _ | exact BB8.out | refine Below.drew ?_ | refine Below.alloc ?_ (by first | omega | (simp; done) | (simp; omega)) _)) ct, bel_cell (by repeat (first | exact Below.refl _ _ | exact BB8.out | refine Below.drew ?_ | refine Below.alloc ?_ (by first | omega | (simp; done) | (simp; omega)) _)) x0, bel_cell (by repeat (first | exact Below.refl _ _ | exact BB8.out | refine Below.drew ?_ | refine Below.alloc ?_ (by first | omega | (simp; done) | (simp; omega)) _)) x1, bel_cell (by repeat (first | exact Below.refl _ _ | exact BB8.out | refine Below.drew ?_ | refine Below.alloc ?_ (by first | omega | (simp; done) | (simp; omega)) _)) x2, bel_cell (by repeat (first | exact Below.refl _ _ | exact BB8.out | refine Below.drew ?_ | refine Below.alloc ?_ (by first | omega | (simp; done) | (simp; omega)) _)) x3⟩ (fun HS1 => ?_)
    clear hK K
    try simp only [Act.put, List.getElem_toArray, List.getElem_cons_zero, List.getElem_cons_succ, List.setIfInBounds_toArray, List.set_cons_zero, List.set_cons_succ]
    refine wpAnyH_ready (rs := [8, 10]) (by kernel_rfl) (by simp) ?_
    refine AllReadyH.cons rfl (fun K hK => ?_) (AllReadyH.cons rfl (fun K hK => ?_) AllReadyH.nil)
    · skip
      ((refine step_app_row (by rfl) (.tmp 122) (.tmp 127) _ (by rfl) 45 i0 _ 4 48 Try.underlying46 HI0.out.1 HI0.out.2.1 HI0.out.2.2.1 HI0.out.2.2.2 rfl (by omega) (by omega) w7.heap.size _ [] (by rfl) (own_empty 4 (by first | exact at_new _ _ (by first | rfl | simp) | exact at_old _ _ _ (by first | rfl | simp) | (show (World.alloc _ _).heap[_]? = _; first | exact at_new _ _ (by first | rfl | simp) | exact at_old _ _ _ (by first | rfl | simp))) (by first | omega | (simp; done) | (simp; omega))) _ _ ocs (by rfl) (OROW.out.only (Only.of_below (S := fun _ => False) (by repeat (first | exact Below.refl _ _ | exact BB8.out | refine Below.drew ?_ | refine Below.alloc ?_ (by first | omega | (simp; done) | (simp; omega)) _))) (fun _ _ q => q)) OONE.out (by simp; omega) (by first | omega | (simp; done) | (simp; omega)) ?_); intro v8 w8 hown8 ho8 hat8; go_must (have BB8 : Hid (Below w7.heap.size w7 w8) := hide (Below.only (by repeat (first | exact Below.refl _ _ | exact BB8.out | refine Below.drew ?_ | refine Below.alloc ?_ (by first | omega | (simp; done) | (simp; omega)) _)) ho8 (fun k q => (by simp [Value.ownBlock] at q; omega)) (by first | omega | (simp; done) | (simp; omega))); have OW8 := hide hown8; have hz8 := BB8.out.size; (first | (have IB : Hid (Is w8 (w7.heap.size + 1) #[.bool false, .int .i64 n', .int .i64 y, .slice none 0 0]) := hide ((Is.drew (Is.made _ _ 45 (by first | rfl | simp))).keep ho8 (fun q => (by simp [Value.ownBlock] at q)))) | (have IB : Hid (Is w8 w7.heap.size #[.bool false, .int .i64 n', .int .i64 y, .slice none 0 0]) := hide ((Is.drew ((Is.made _ _ 45 (by first | rfl | simp)).alloc _)).keep ho8 (fun q => (by simp [Value.ownBlock] at q)))) | skip); clear hown8 ho8))
      refine hK.out _ _ ⟨bel_cell (by repeat (first | exact Below.refl _ _ | exact BB8.out | refine Below.drew ?_ | refine Below.alloc ?_ (by first | omega | (simp; done) | (simp; omega)) _)) ct, bel_cell (by repeat (first | exact Below.refl _ _ | exact BB8.out | refine Below.drew ?_ | refine Below.alloc ?_ (by first | omega | (simp; done) | (simp; omega)) _)) x0, bel_cell (by repeat (first | exact Below.refl _ _ | exact BB8.out | refine Below.drew ?_ | refine Below.alloc ?_ (by first | omega | (simp; done) | (simp; omega)) _)) x1, bel_cell (by repeat (first | exact Below.refl _ _ | exact BB8.out | refine Below.drew ?_ | refine Below.alloc ?_ (by first | omega | (simp; done) | (simp; omega)) _)) x2, bel_cell (by repeat (first | exact Below.refl _ _ | exact BB8.out | refine Below.drew ?_ | refine Below.alloc ?_ (by first | omega | (simp; done) | (simp; omega)) _)) x3⟩ (fun HS2 => ?_)
      clear hK K
      try simp only [Act.put, List.getElem_toArray, List.getElem_cons_zero, List.getElem_cons_succ, List.setIfInBounds_toArray, List.set_cons_zero, List.set_cons_succ]
      refine wpAnyH_ready (rs := [10]) (by kernel_rfl) (by simp) ?_
      refine AllReadyH.cons rfl (fun K hK => ?_) AllReadyH.nil
      (simp only [List.getElem_toArray, List.getElem_cons_zero, List.getElem_cons_succ])
      go_simp
      refine hK.out _ _ ⟨bel_cell (by repeat (first | exact Below.refl _ _ | exact BB8.out | refine Below.drew ?_ | refine Below.alloc ?_ (by first | omega | (simp; done) | (simp; omega)) _)) ct, bel_cell (by repeat (first | exact Below.refl _ _ | exact BB8.out | refine Below.drew ?_ | refine Below.alloc ?_ (by first | omega | (simp; done) | (simp; omega)) _)) x0, bel_cell (by repeat (first | exact Below.refl _ _ | exact BB8.out | refine Below.drew ?_ | refine Below.alloc ?_ (by first | omega | (simp; done) | (simp; omega)) _)) x1, bel_cell (by repeat (first | exact Below.refl _ _ | exact BB8.out | refine Below.drew ?_ | refine Below.alloc ?_ (by first | omega | (simp; done) | (simp; omega)) _)) x2, bel_cell (by repeat (first | exact Below.refl _ _ | exact BB8.out | refine Below.drew ?_ | refine Below.alloc ?_ (by first | omega | (simp; done) | (simp; omega)) _)) x3⟩ (fun HS3 => ?_)
      clear hK K
      try simp only [Act.put, List.getElem_toArray, List.getElem_cons_zero, List.getElem_cons_succ, List.setIfInBounds_toArray, List.set_cons_zero, List.set_cons_succ]
      refine wpAnyH_ready (rs := [11]) (by kernel_rfl) (by simp) ?_
      refine AllReadyH.cons rfl (fun K hK => ?_) AllReadyH.nil
      ((refine step_app_row (by rfl) (.tmp 128) (.tmp 130) _ (by rfl) 45 i0 _ 4 48 Try.underlying46 HI0.out.1 HI0.out.2.1 HI0.out.2.2.1 HI0.out.2.2.2 rfl (by omega) (by omega) w7.heap.size v8 ocs (by rfl) (by first | exact OW8.out | exact OW8.out.alloc _) _ _ [[.bool false, .int .i64 n', .int .i64 y, .slice none 0 0]] (by rfl) (RowAt.one rfl (by first | exact IB.out | exact Is.made _ _ _ rfl) (by omega) (by unfold maxLen; omega)) (by simp [Value.oneCell']) (by simp; omega) (by first | omega | (simp; done) | (simp; omega)) ?_); intro v9 w9 hown9 ho9 hat9; go_must (obtain ⟨g9, c9, rfl, -, -⟩ := own_snoc_some hown9 rfl; have BB9 : Hid (Below w7.heap.size w7 w9) := hide (Below.only (by repeat (first | exact Below.refl _ _ | exact BB8.out | refine Below.drew ?_ | refine Below.alloc ?_ (by first | omega | (simp; done) | (simp; omega)) _)) ho9 (fun k q => (OW8.out.lt k q).1) (by first | omega | (simp; done) | (simp; omega))); have ST9 := hide (ST7.out.keep BB9.out); have ct9 := bel_cell BB9.out ct; have y0 := bel_cell BB9.out x0; have y1 := bel_cell BB9.out x1; have y2 := bel_cell BB9.out x2; have y3 := bel_cell BB9.out x3; have ft9 := own_frozen (HO7.out.keep (Only.of_below (S := fun _ => False) BB9.out) (fun _ _ q => q)) (m * 3 + 2); obtain ⟨hc9, hg9⟩ := Is.one ST9.out.hi; obtain ⟨hd9, hf9⟩ := Is.one ST9.out.hj; have M := hide (ref_op_end (o := (⟨false, n', y, []⟩ : OpM)) ST7.out HO7.out ALL7.out HM.out hlg6 HZ6.out HB7.out HI6.out.lt (by exact HWF.out.1) (by exact HWF.out.2) HRM.out BB9.out hown9); clear hown9 ho9 hat9))
      refine hK.out _ _ ⟨ct9, y0, y1, y2, y3⟩ (fun HS4 => ?_)
      clear hK K
      try simp only [Act.put, List.getElem_toArray, List.getElem_cons_zero, List.getElem_cons_succ, List.setIfInBounds_toArray, List.set_cons_zero, List.set_cons_succ]
      refine wpAnyH_take (i := 12) (v := ?_) rfl (by kernel_rfl) (by kernel_rfl) (by kernel_rfl) (fun _ _ _ h => h) (Or.inl ⟨by rfl, ?_⟩) HS4 ?_
      rotate_left
      · intro w' hSw
        try dsimp only at hSw
        simp only [List.getElem_toArray, List.getElem_cons_zero, List.getElem_cons_succ]
        go_simp
        try with_reducible rfl
      try simp only [Act.put, List.getElem_toArray, List.getElem_cons_zero, List.getElem_cons_succ, List.setIfInBounds_toArray, List.set_cons_zero, List.set_cons_succ]
      refine wpAnyH_take (i := 13) (v := ?_) rfl (by kernel_rfl) (by kernel_rfl) (by kernel_rfl) (fun _ _ _ h => h) (Or.inl ⟨by rfl, ?_⟩) HS4 ?_
      rotate_left
      · intro w' hSw
        try dsimp only at hSw
        simp only [List.getElem_toArray, List.getElem_cons_zero, List.getElem_cons_succ]
        go_simp
        try with_reducible rfl
      try simp only [Act.put, List.getElem_toArray, List.getElem_cons_zero, List.getElem_cons_succ, List.setIfInBounds_toArray, List.set_cons_zero, List.set_cons_succ]
      refine wpAnyH_done (by kernel_rfl) ?_ _
      refine Last.done_last ?_
      refine wpOp_step rfl (fun K hK => ?_)
      simp only [List.getElem_toArray, List.getElem_cons_zero, List.getElem_cons_succ]
      go_simp
      refine hK _ _ ?_
      clear hK
      go_simp
      go_wp2
      obtain ⟨k1, k2, k3⟩ := M.out
      refine bodyPost_ret (v := .tuple #[.agg #[.slice (some ⟨lg, 0, none⟩) (m + 1) lc7], .int .i64 ((t' : Int) + 1), .int .i64 0, .int .i64 0]) (by simp [results, Try.results34, go_sem, k3]) rfl ⟨_, by rw [HS.out]; rfl, ?_, k2⟩
      rw [HS.out]
      exact k1.mono (fun b q => q)
    · skip
      (simp only [List.getElem_toArray, List.getElem_cons_zero, List.getElem_cons_succ])
      go_simp
      refine hK.out _ _ ⟨bel_cell (by repeat (first | exact Below.refl _ _ | exact BB8.out | refine Below.drew ?_ | refine Below.alloc ?_ (by first | omega | (simp; done) | (simp; omega)) _)) ct, bel_cell (by repeat (first | exact Below.refl _ _ | exact BB8.out | refine Below.drew ?_ | refine Below.alloc ?_ (by first | omega | (simp; done) | (simp; omega)) _)) x0, bel_cell (by repeat (first | exact Below.refl _ _ | exact BB8.out | refine Below.drew ?_ | refine Below.alloc ?_ (by first | omega | (simp; done) | (simp; omega)) _)) x1, bel_cell (by repeat (first | exact Below.refl _ _ | exact BB8.out | refine Below.drew ?_ | refine Below.alloc ?_ (by first | omega | (simp; done) | (simp; omega)) _)) x2, bel_cell (by repeat (first | exact Below.refl _ _ | exact BB8.out | refine Below.drew ?_ | refine Below.alloc ?_ (by first | omega | (simp; done) | (simp; omega)) _)) x3⟩ (fun HS2 => ?_)
      clear hK K
      try simp only [Act.put, List.getElem_toArray, List.getElem_cons_zero, List.getElem_cons_succ, List.setIfInBounds_toArray, List.set_cons_zero, List.set_cons_succ]
      refine wpAnyH_ready (rs := [8]) (by kernel_rfl) (by simp) ?_
      refine AllReadyH.cons rfl (fun K hK => ?_) AllReadyH.nil
      ((refine step_app_row (by rfl) (.tmp 122) (.tmp 127) _ (by rfl) 45 i0 _ 4 48 Try.underlying46 HI0.out.1 HI0.out.2.1 HI0.out.2.2.1 HI0.out.2.2.2 rfl (by omega) (by omega) w7.heap.size _ [] (by rfl) (own_empty 4 (by first | exact at_new _ _ (by first | rfl | simp) | exact at_old _ _ _ (by first | rfl | simp) | (show (World.alloc _ _).heap[_]? = _; first | exact at_new _ _ (by first | rfl | simp) | exact at_old _ _ _ (by first | rfl | simp))) (by first | omega | (simp; done) | (simp; omega))) _ _ ocs (by rfl) (OROW.out.only (Only.of_below (S := fun _ => False) (by repeat (first | exact Below.refl _ _ | exact BB8.out | refine Below.drew ?_ | refine Below.alloc ?_ (by first | omega | (simp; done) | (simp; omega)) _))) (fun _ _ q => q)) OONE.out (by simp; omega) (by first | omega | (simp; done) | (simp; omega)) ?_); intro v8 w8 hown8 ho8 hat8; go_must (have BB8 : Hid (Below w7.heap.size w7 w8) := hide (Below.only (by repeat (first | exact Below.refl _ _ | exact BB8.out | refine Below.drew ?_ | refine Below.alloc ?_ (by first | omega | (simp; done) | (simp; omega)) _)) ho8 (fun k q => (by simp [Value.ownBlock] at q; omega)) (by first | omega | (simp; done) | (simp; omega))); have OW8 := hide hown8; have hz8 := BB8.out.size; (first | (have IB : Hid (Is w8 (w7.heap.size + 1) #[.bool false, .int .i64 n', .int .i64 y, .slice none 0 0]) := hide ((Is.drew (Is.made _ _ 45 (by first | rfl | simp))).keep ho8 (fun q => (by simp [Value.ownBlock] at q)))) | (have IB : Hid (Is w8 w7.heap.size #[.bool false, .int .i64 n', .int .i64 y, .slice none 0 0]) := hide ((Is.drew ((Is.made _ _ 45 (by first | rfl | simp)).alloc _)).keep ho8 (fun q => (by simp [Value.ownBlock] at q)))) | skip); clear hown8 ho8))
      refine hK.out _ _ ⟨bel_cell (by repeat (first | exact Below.refl _ _ | exact BB8.out | refine Below.drew ?_ | refine Below.alloc ?_ (by first | omega | (simp; done) | (simp; omega)) _)) ct, bel_cell (by repeat (first | exact Below.refl _ _ | exact BB8.out | refine Below.drew ?_ | refine Below.alloc ?_ (by first | omega | (simp; done) | (simp; omega)) _)) x0, bel_cell (by repeat (first | exact Below.refl _ _ | exact BB8.out | refine Below.drew ?_ | refine Below.alloc ?_ (by first | omega | (simp; done) | (simp; omega)) _)) x1, bel_cell (by repeat (first | exact Below.refl _ _ | exact BB8.out | refine Below.drew ?_ | refine Below.alloc ?_ (by first | omega | (simp; done) | (simp; omega)) _)) x2, bel_cell (by repeat (first | exact Below.refl _ _ | exact BB8.out | refine Below.drew ?_ | refine Below.alloc ?_ (by first | omega | (simp; done) | (simp; omega)) _)) x3⟩ (fun HS3 => ?_)
      clear hK K
      try simp only [Act.put, List.getElem_toArray, List.getElem_cons_zero, List.getElem_cons_succ, List.setIfInBounds_toArray, List.set_cons_zero, List.set_cons_succ]
      refine wpAnyH_ready (rs := [11]) (by kernel_rfl) (by simp) ?_
      refine AllReadyH.cons rfl (fun K hK => ?_) AllReadyH.nil
      ((refine step_app_row (by rfl) (.tmp 128) (.tmp 130) _ (by rfl) 45 i0 _ 4 48 Try.underlying46 HI0.out.1 HI0.out.2.1 HI0.out.2.2.1 HI0.out.2.2.2 rfl (by omega) (by omega) w7.heap.size v8 ocs (by rfl) (by first | exact OW8.out | exact OW8.out.alloc _) _ _ [[.bool false, .int .i64 n', .int .i64 y, .slice none 0 0]] (by rfl) (RowAt.one rfl (by first | exact IB.out | exact Is.made _ _ _ rfl) (by omega) (by unfold maxLen; omega)) (by simp [Value.oneCell']) (by simp; omega) (by first | omega | (simp; done) | (simp; omega)) ?_); intro v9 w9 hown9 ho9 hat9; go_must (obtain ⟨g9, c9, rfl, -, -⟩ := own_snoc_some hown9 rfl; have BB9 : Hid (Below w7.heap.size w7 w9) := hide (Below.only (by repeat (first | exact Below.refl _ _ | exact BB8.out | refine Below.drew ?_ | refine Below.alloc ?_ (by first | omega | (simp; done) | (simp; omega)) _)) ho9 (fun k q => (OW8.out.lt k q).1) (by first | omega | (simp; done) | (simp; omega))); have ST9 := hide (ST7.out.keep BB9.out); have ct9 := bel_cell BB9.out ct; have y0 := bel_cell BB9.out x0; have y1 := bel_cell BB9.out x1; have y2 := bel_cell BB9.out x2; have y3 := bel_cell BB9.out x3; have ft9 := own_frozen (HO7.out.keep (Only.of_below (S := fun _ => False) BB9.out) (fun _ _ q => q)) (m * 3 + 2); obtain ⟨hc9, hg9⟩ := Is.one ST9.out.hi; obtain ⟨hd9, hf9⟩ := Is.one ST9.out.hj; have M := hide (ref_op_end (o := (⟨false, n', y, []⟩ : OpM)) ST7.out HO7.out ALL7.out HM.out hlg6 HZ6.out HB7.out HI6.out.lt (by exact HWF.out.1) (by exact HWF.out.2) HRM.out BB9.out hown9); clear hown9 ho9 hat9))
      refine hK.out _ _ ⟨ct9, y0, y1, y2, y3⟩ (fun HS4 => ?_)
      clear hK K
      try simp only [Act.put, List.getElem_toArray, List.getElem_cons_zero, List.getElem_cons_succ, List.setIfInBounds_toArray, List.set_cons_zero, List.set_cons_succ]
      refine wpAnyH_take (i := 12) (v := ?_) rfl (by kernel_rfl) (by kernel_rfl) (by kernel_rfl) (fun _ _ _ h => h) (Or.inl ⟨by rfl, ?_⟩) HS4 ?_
      rotate_left
      · intro w' hSw
        try dsimp only at hSw
        simp only [List.getElem_toArray, List.getElem_cons_zero, List.getElem_cons_succ]
        go_simp
        try with_reducible rfl
      try simp only [Act.put, List.getElem_toArray, List.getElem_cons_zero, List.getElem_cons_succ, List.setIfInBounds_toArray, List.set_cons_zero, List.set_cons_succ]
      refine wpAnyH_take (i := 13) (v := ?_) rfl (by kernel_rfl) (by kernel_rfl) (by kernel_rfl) (fun _ _ _ h => h) (Or.inl ⟨by rfl, ?_⟩) HS4 ?_
      rotate_left
      · intro w' hSw
        try dsimp only at hSw
        simp only [List.getElem_toArray, List.getElem_cons_zero, List.getElem_cons_succ]
        go_simp
        try with_reducible rfl
      try simp only [Act.put, List.getElem_toArray, List.getElem_cons_zero, List.getElem_cons_succ, List.setIfInBounds_toArray, List.set_cons_zero, List.set_cons_succ]
      refine wpAnyH_done (by kernel_rfl) ?_ _
      refine Last.done_last ?_
      refine wpOp_step rfl (fun K hK => ?_)
      simp only [List.getElem_toArray, List.getElem_cons_zero, List.getElem_cons_succ]
      go_simp
      refine hK _ _ ?_
      clear hK
      go_simp
      go_wp2
      obtain ⟨k1, k2, k3⟩ := M.out
      refine bodyPost_ret (v := .tuple #[.agg #[.slice (some ⟨lg, 0, none⟩) (m + 1) lc7], .int .i64 ((t' : Int) + 1), .int .i64 0, .int .i64 0]) (by simp [results, Try.results34, go_sem, k3]) rfl ⟨_, by rw [HS.out]; rfl, ?_, k2⟩
      rw [HS.out]
      exact k1.mono (fun b q => q)
  · skip
    (simp only [List.getElem_toArray, List.getElem_cons_zero, List.getElem_cons_succ])
    go_simp
    refine hK.out _ _ ⟨bel_cell (by repeat (first | exact Below.refl _ _ | exact BB8.out | refine Below.drew ?_ | refine Below.alloc ?_ (by first | omega | (simp; done) | (simp; omega)) _)) ct, bel_cell (by repeat (first | exact Below.refl _ _ | exact BB8.out | refine Below.drew ?_ | refine Below.alloc ?_ (by first | omega | (simp; done) | (simp; omega)) _)) x0, bel_cell (by repeat (first | exact Below.refl _ _ | exact BB8.out | refine Below.drew ?_ | refine Below.alloc ?_ (by first | omega | (simp; done) | (simp; omega)) _)) x1, bel_cell (by repeat (first | exact Below.refl _ _ | exact BB8.out | refine Below.drew ?_ | refine Below.alloc ?_ (by first | omega | (simp; done) | (simp; omega)) _)) x2, bel_cell (by repeat (first | exact Below.refl _ _ | exact BB8.out | refine Below.drew ?_ | refine Below.alloc ?_ (by first | omega | (simp; done) | (simp; omega)) _)) x3⟩ (fun HS1 => ?_)
    clear hK K
    try simp only [Act.put, List.getElem_toArray, List.getElem_cons_zero, List.getElem_cons_succ, List.setIfInBounds_toArray, List.set_cons_zero, List.set_cons_succ]
    refine wpAnyH_ready (rs := [2]) (by kernel_rfl) (by simp) ?_
    refine AllReadyH.cons rfl (fun K hK => ?_) AllReadyH.nil
    (simp only [List.getElem_toArray, List.getElem_cons_zero, List.getElem_cons_succ])
    go_simp
    refine hK.out _ _ ⟨bel_cell (by repeat (first | exact Below.refl _ _ | exact BB8.out | refine Below.drew ?_ | refine Below.alloc ?_ (by first | omega | (simp; done) | (simp; omega)) _)) ct, bel_cell (by repeat (first | exact Below.refl _ _ | exact BB8.out | refine Below.drew ?_ | refine Below.alloc ?_ (by first | omega | (simp; done) | (simp; omega)) _)) x0, bel_cell (by repeat (first | exact Below.refl _ _ | exact BB8.out | refine Below.drew ?_ | refine Below.alloc ?_ (by first | omega | (simp; done) | (simp; omega)) _)) x1, bel_cell (by repeat (first | exact Below.refl _ _ | exact BB8.out | refine Below.drew ?_ | refine Below.alloc ?_ (by first | omega | (simp; done) | (simp; omega)) _)) x2, bel_cell (by repeat (first | exact Below.refl _ _ | exact BB8.out | refine Below.drew ?_ | refine Below.alloc ?_ (by first | omega | (simp; done) | (simp; omega)) _)) x3⟩ (fun HS2 => ?_)
    clear hK K
    try simp only [Act.put, List.getElem_toArray, List.getElem_cons_zero, List.getElem_cons_succ, List.setIfInBounds_toArray, List.set_cons_zero, List.set_cons_succ]
    refine wpAnyH_ready (rs := [8]) (by kernel_rfl) (by simp) ?_
    refine AllReadyH.cons rfl (fun K hK => ?_) AllReadyH.nil
    ((refine step_app_row (by rfl) (.tmp 122) (.tmp 127) _ (by rfl) 45 i0 _ 4 48 Try.underlying46 HI0.out.1 HI0.out.2.1 HI0.out.2.2.1 HI0.out.2.2.2 rfl (by omega) (by omega) w7.heap.size _ [] (by rfl) (own_empty 4 (by first | exact at_new _ _ (by first | rfl | simp) | exact at_old _ _ _ (by first | rfl | simp) | (show (World.alloc _ _).heap[_]? = _; first | exact at_new _ _ (by first | rfl | simp) | exact at_old _ _ _ (by first | rfl | simp))) (by first | omega | (simp; done) | (simp; omega))) _ _ ocs (by rfl) (OROW.out.only (Only.of_below (S := fun _ => False) (by repeat (first | exact Below.refl _ _ | exact BB8.out | refine Below.drew ?_ | refine Below.alloc ?_ (by first | omega | (simp; done) | (simp; omega)) _))) (fun _ _ q => q)) OONE.out (by simp; omega) (by first | omega | (simp; done) | (simp; omega)) ?_); intro v8 w8 hown8 ho8 hat8; go_must (have BB8 : Hid (Below w7.heap.size w7 w8) := hide (Below.only (by repeat (first | exact Below.refl _ _ | exact BB8.out | refine Below.drew ?_ | refine Below.alloc ?_ (by first | omega | (simp; done) | (simp; omega)) _)) ho8 (fun k q => (by simp [Value.ownBlock] at q; omega)) (by first | omega | (simp; done) | (simp; omega))); have OW8 := hide hown8; have hz8 := BB8.out.size; (first | (have IB : Hid (Is w8 (w7.heap.size + 1) #[.bool false, .int .i64 n', .int .i64 y, .slice none 0 0]) := hide ((Is.drew (Is.made _ _ 45 (by first | rfl | simp))).keep ho8 (fun q => (by simp [Value.ownBlock] at q)))) | (have IB : Hid (Is w8 w7.heap.size #[.bool false, .int .i64 n', .int .i64 y, .slice none 0 0]) := hide ((Is.drew ((Is.made _ _ 45 (by first | rfl | simp)).alloc _)).keep ho8 (fun q => (by simp [Value.ownBlock] at q)))) | skip); clear hown8 ho8))
    refine hK.out _ _ ⟨bel_cell (by repeat (first | exact Below.refl _ _ | exact BB8.out | refine Below.drew ?_ | refine Below.alloc ?_ (by first | omega | (simp; done) | (simp; omega)) _)) ct, bel_cell (by repeat (first | exact Below.refl _ _ | exact BB8.out | refine Below.drew ?_ | refine Below.alloc ?_ (by first | omega | (simp; done) | (simp; omega)) _)) x0, bel_cell (by repeat (first | exact Below.refl _ _ | exact BB8.out | refine Below.drew ?_ | refine Below.alloc ?_ (by first | omega | (simp; done) | (simp; omega)) _)) x1, bel_cell (by repeat (first | exact Below.refl _ _ | exact BB8.out | refine Below.drew ?_ | refine Below.alloc ?_ (by first | omega | (simp; done) | (simp; omega)) _)) x2, bel_cell (by repeat (first | exact Below.refl _ _ | exact BB8.out | refine Below.drew ?_ | refine Below.alloc ?_ (by first | omega | (simp; done) | (simp; omega)) _)) x3⟩ (fun HS3 => ?_)
    clear hK K
    try simp only [Act.put, List.getElem_toArray, List.getElem_cons_zero, List.getElem_cons_succ, List.setIfInBounds_toArray, List.set_cons_zero, List.set_cons_succ]
    refine wpAnyH_ready (rs := [11]) (by kernel_rfl) (by simp) ?_
    refine AllReadyH.cons rfl (fun K hK => ?_) AllReadyH.nil
    ((refine step_app_row (by rfl) (.tmp 128) (.tmp 130) _ (by rfl) 45 i0 _ 4 48 Try.underlying46 HI0.out.1 HI0.out.2.1 HI0.out.2.2.1 HI0.out.2.2.2 rfl (by omega) (by omega) w7.heap.size v8 ocs (by rfl) (by first | exact OW8.out | exact OW8.out.alloc _) _ _ [[.bool false, .int .i64 n', .int .i64 y, .slice none 0 0]] (by rfl) (RowAt.one rfl (by first | exact IB.out | exact Is.made _ _ _ rfl) (by omega) (by unfold maxLen; omega)) (by simp [Value.oneCell']) (by simp; omega) (by first | omega | (simp; done) | (simp; omega)) ?_); intro v9 w9 hown9 ho9 hat9; go_must (obtain ⟨g9, c9, rfl, -, -⟩ := own_snoc_some hown9 rfl; have BB9 : Hid (Below w7.heap.size w7 w9) := hide (Below.only (by repeat (first | exact Below.refl _ _ | exact BB8.out | refine Below.drew ?_ | refine Below.alloc ?_ (by first | omega | (simp; done) | (simp; omega)) _)) ho9 (fun k q => (OW8.out.lt k q).1) (by first | omega | (simp; done) | (simp; omega))); have ST9 := hide (ST7.out.keep BB9.out); have ct9 := bel_cell BB9.out ct; have y0 := bel_cell BB9.out x0; have y1 := bel_cell BB9.out x1; have y2 := bel_cell BB9.out x2; have y3 := bel_cell BB9.out x3; have ft9 := own_frozen (HO7.out.keep (Only.of_below (S := fun _ => False) BB9.out) (fun _ _ q => q)) (m * 3 + 2); obtain ⟨hc9, hg9⟩ := Is.one ST9.out.hi; obtain ⟨hd9, hf9⟩ := Is.one ST9.out.hj; have M := hide (ref_op_end (o := (⟨false, n', y, []⟩ : OpM)) ST7.out HO7.out ALL7.out HM.out hlg6 HZ6.out HB7.out HI6.out.lt (by exact HWF.out.1) (by exact HWF.out.2) HRM.out BB9.out hown9); clear hown9 ho9 hat9))
    refine hK.out _ _ ⟨ct9, y0, y1, y2, y3⟩ (fun HS4 => ?_)
    clear hK K
    try simp only [Act.put, List.getElem_toArray, List.getElem_cons_zero, List.getElem_cons_succ, List.setIfInBounds_toArray, List.set_cons_zero, List.set_cons_succ]
    refine wpAnyH_take (i := 12) (v := ?_) rfl (by kernel_rfl) (by kernel_rfl) (by kernel_rfl) (fun _ _ _ h => h) (Or.inl ⟨by rfl, ?_⟩) HS4 ?_
    rotate_left
    · intro w' hSw
      try dsimp only at hSw
      simp only [List.getElem_toArray, List.getElem_cons_zero, List.getElem_cons_succ]
      go_simp
      try with_reducible rfl
    try simp only [Act.put, List.getElem_toArray, List.getElem_cons_zero, List.getElem_cons_succ, List.setIfInBounds_toArray, List.set_cons_zero, List.set_cons_succ]
    refine wpAnyH_take (i := 13) (v := ?_) rfl (by kernel_rfl) (by kernel_rfl) (by kernel_rfl) (fun _ _ _ h => h) (Or.inl ⟨by rfl, ?_⟩) HS4 ?_
    rotate_left
    · intro w' hSw
      try dsimp only at hSw
      simp only [List.getElem_toArray, List.getElem_cons_zero, List.getElem_cons_succ]
      go_simp
      try with_reducible rfl
    try simp only [Act.put, List.getElem_toArray, List.getElem_cons_zero, List.getElem_cons_succ, List.setIfInBounds_toArray, List.set_cons_zero, List.set_cons_succ]
    refine wpAnyH_done (by kernel_rfl) ?_ _
    refine Last.done_last ?_
    refine wpOp_step rfl (fun K hK => ?_)
    simp only [List.getElem_toArray, List.getElem_cons_zero, List.getElem_cons_succ]
    go_simp
    refine hK _ _ ?_
    clear hK
    go_simp
    go_wp2
    obtain ⟨k1, k2, k3⟩ := M.out
    refine bodyPost_ret (v := .tuple #[.agg #[.slice (some ⟨lg, 0, none⟩) (m + 1) lc7], .int .i64 ((t' : Int) + 1), .int .i64 0, .int .i64 0]) (by simp [results, Try.results34, go_sem, k3]) rfl ⟨_, by rw [HS.out]; rfl, ?_, k2⟩
    rw [HS.out]
    exact k1.mono (fun b q => q)
end Go.Proofs.Ytigmgkcojifbcaa.Hist

/- The document's op, whichever line it is; and how many a line leaves. -/
namespace Go.Proofs.Ytigmgkcojifbcaa.Hist
open Go.RowKit Go.Proofs.Ytigmgkcojifbcaa.Dig Go.Proofs.Ytigmgkcojifbcaa.Mem
set_option linter.unusedVariables false
set_option linter.unusedSimpArgs false

theorem rop_any (F : Nat → Prop) (tv : Value) (ts : List TxnM) (a : Option Addr) (len cap : Nat) (z : Nat → Int) (i : Nat) (most : Int) (w : World) (ht : TxnsAt F w tv ts) (hr : Rd .u8 w a len z) (hc : len ≤ cap) (hi : i < len) (hl : len ≤ 1000000) (hts : ts.length ≤ 100000) (hops : opsN ts ≤ 100000) (hz : z i = 97 ∨ z i = 114) :
    Calls Try.prog 34 #[.agg #[tv], .slice a len cap, .int .i64 (i : Int), .int .i64 most] w fun e w' => ∃ tv', e = .returned (.tuple #[.agg #[tv'], .int .i64 ((opS z len most ts i).nx : Int), .int .i64 (opS z len most ts i).e, .int .i64 (opS z len most ts i).wh]) ∧ TxnsAt (fun b => F b ∨ w.heap.size ≤ b) w' tv' (opS z len most ts i).ts ∧ Below w.heap.size w w' := by
  by_cases h0 : ts.length = 0
  · exact rop_head F tv ts a len cap z i most w ht hr hc hi hl hts hops (.inl h0)
  by_cases h3 : most ≤ (opsN ts : Int)
  · exact rop_head F tv ts a len cap z i most w ht hr hc hi hl hts hops (.inr (.inl h3))
  by_cases h1 : isB z len (i + 1) 32 = false
  · exact rop_head F tv ts a len cap z i most w ht hr hc hi hl hts hops (.inr (.inr (.inl h1)))
  have h1t : isB z len (i + 1) 32 = true := by simpa using h1
  rcases parse_two z len (i + 2) (by have := (isB_iff.1 h1t).1; omega) with ⟨n', t, g1, g2, g3, g4, hp⟩ | ⟨t, g1, g2, hp⟩
  · rcases hz with hz | hz
    · exact rop_app F tv ts a len cap z i most w ht hr hc hi hl hts hops h0 h3 h1t g2 g3 g4 hp hz
    · exact rop_read F tv ts a len cap z i most w ht hr hc hi hl hts hops h0 h3 h1t g2 g3 g4 hp hz
  · exact rop_head F tv ts a len cap z i most w ht hr hc hi hl hts hops (.inr (.inr (.inr ⟨h1t, by rw [hp]⟩)))

/-- No more than there may be. -/
def FewL (ts : List TxnM) : Prop := ts.length ≤ 1024 ∧ opsN ts ≤ 4096
theorem FewL.addOp {ts : List TxnM} {o : OpM} {most : Int} (h : FewL ts) (hm : most ≤ 4096) (h0 : ¬ ts.length = 0) (h3 : ¬ most ≤ (opsN ts : Int)) : FewL (addOp ts o) := by
  have := addOp_ops ts o (by intro q; subst q; exact h0 rfl)
  exact ⟨by rw [addOp_len]; exact h.1, by rw [this]; omega⟩
theorem FewL.endL {z : Nat → Int} {len j : Nat} {ts : List TxnM} {o : OpM} {most : Int} (h : FewL ts) (hm : most ≤ 4096) (h0 : ¬ ts.length = 0) (h3 : ¬ most ≤ (opsN ts : Int)) : FewL (endL z len ts o j).ts := by
  unfold Hist.endL
  split
  · exact h
  · exact FewL.addOp h hm h0 h3
theorem FewL.line {z : Nat → Int} {len i : Nat} {ts : List TxnM} {most : Int} (h : FewL ts) (hm : most ≤ 4096) : FewL (lineS z len most ts i).ts := by
  unfold lineS
  split
  · unfold txnS
    split; · exact h
    split; · exact h
    split; · exact h
    split; · exact h
    rename_i h1 _ _ _
    unfold txnT
    split; · exact h
    split; · exact h
    split; · exact h
    exact ⟨by simp; omega, by rw [opsN_app]; have := h.2; simp [opsN] at *; omega⟩
  split
  · unfold opS
    split; · exact h
    split; · exact h
    split; · exact h
    split; · exact h
    rename_i h0 h3 _ _
    split
    · unfold readT
      split; · exact h
      exact FewL.endL h hm h0 h3
    · unfold appT
      split; · exact h
      split; · exact h
      split; · exact h
      exact FewL.endL h hm h0 h3
  · exact h
end Go.Proofs.Ytigmgkcojifbcaa.Hist
