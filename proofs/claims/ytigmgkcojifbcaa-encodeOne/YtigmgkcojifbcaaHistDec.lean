/- newReader, and the program's Decode: the document's history of bytes. -/
import Derived.Test.YtigmgkcojifbcaaHistLines
namespace Go.Proofs.Ytigmgkcojifbcaa.Hist
open Go.RowKit Go.Proofs.Ytigmgkcojifbcaa.Dig Go.Proofs.Ytigmgkcojifbcaa.Mem Go.Proofs.Ytigmgkcojifbcaa.Cur Go.Proofs.Ytigmgkcojifbcaa.Keys
set_option linter.unusedVariables false
set_option linter.unusedSimpArgs false
attribute [local go_sem ↓] Go.wp_at_zero Go.wp_at_succ

theorem newReader_all {w w1 : World} {a : Option Addr} {len cap : Nat} {z : Nat → Int} {most : Int} {T : TypeId} (hr : Rd .u8 w a len z) (ho : Only (fun _ => False) w w1) (hl : Live w1 w.heap.size a len cap z ⟨0, 0, 0⟩) :
    RAll (((w1.alloc (.map #[] 0)).alloc (.map #[] 0)).alloc (.cells #[.pointer (some ⟨w.heap.size, 0, none⟩), .int .i64 most, .int .i64 0, .map (some w1.heap.size), .map (some (w1.heap.size + 1)), .slice none 0 0] T)) w.heap.size (w1.heap.size + 2) w.heap.size w1.heap.size (w1.heap.size + 1) most a len cap z ⟨0, 0, 0⟩ [] (.slice none 0 0) [] ∧
      Below w.heap.size w (((w1.alloc (.map #[] 0)).alloc (.map #[] 0)).alloc (.cells #[.pointer (some ⟨w.heap.size, 0, none⟩), .int .i64 most, .int .i64 0, .map (some w1.heap.size), .map (some (w1.heap.size + 1)), .slice none 0 0] T)) := by
  have hcl := hl.cur.lt
  have hb1 : Below w1.heap.size w1 (w1.alloc (.map #[] 0)) := (Below.refl _ _).alloc (Nat.le_refl _) _
  have hb2 : Below w1.heap.size w1 ((w1.alloc (.map #[] 0)).alloc (.map #[] 0)) := hb1.alloc (by simp) _
  have hb3 : ∀ o, Below w1.heap.size w1 (((w1.alloc (.map #[] 0)).alloc (.map #[] 0)).alloc o) := fun o => hb2.alloc (by simp; omega) _
  have hF : ∀ {x y : World}, Below x.heap.size x y → Only (fun _ => False) x y := fun h => Only.of_below h
  refine ⟨⟨⟨?_, hl.keep (hb3 _), ?_, HistOwn.nil _ _ _, ⟨by omega, by omega, by omega, by omega, by omega, by omega, by omega, by omega, by omega, by omega, fun h0 x hx => hr.lt h0 x hx⟩, by simp [opsN]⟩, ?_⟩, ho.below (fun _ q => q.elim) (Nat.le_refl _) |>.trans ((hb3 _).mono (by omega))⟩
  · exact Is.made _ _ _ (by simp)
  · have h1 : Names (w1.alloc (.map #[] 0)) w1.heap.size 0 (fun _ => false) := SetAt.made _ rfl
    exact SetAt.congr (SetAt.keep (SetAt.keep h1 (hF ((Below.refl _ _).alloc (Nat.le_refl _) _)) (fun q => q)) (hF ((Below.refl _ _).alloc (Nat.le_refl _) _)) (fun q => q)) (fun x => rfl)
  · have h1 : Vals ((w1.alloc (.map #[] 0)).alloc (.map #[] 0)) (w1.heap.size + 1) 0 (fun _ => false) := SetAt.made _ (by simp)
    exact SetAt.congr (SetAt.keep h1 (hF ((Below.refl _ _).alloc (Nat.le_refl _) _)) (fun q => q)) (fun x => rfl)
theorem newReader_any (a : Option Addr) (len cap : Nat) (z : Nat → Int) (most : Int) (w : World) (hr : Rd .u8 w a len z) (hc : len ≤ cap) :
    Calls Try.prog 30 #[.slice a len cap, .int .i64 most] w fun e w' => ∃ rb cb nb vb, e = .returned (.pointer (some ⟨rb, 0, none⟩)) ∧ RAll w' w.heap.size rb cb nb vb most a len cap z ⟨0, 0, 0⟩ [] (.slice none 0 0) [] ∧ Below w.heap.size w w' := by
  have HR := hide hr
  have hmm := @run_makeMap Try.prog
  clear hr
  go_enter Try.func30, Try.ntmps30
  go_wp2_with (go_at_call 43; go_must ((with_reducible refine (new_live _ w.heap.size a len cap z rfl HR.out hc).mono ?_); rintro e w1 ⟨rfl, ho1, hl1⟩; have HO1 := hide ho1; have HL1 := hide hl1; clear ho1 hl1))
  go_ret
  obtain ⟨h1, h2⟩ := newReader_all (most := most) (T := 72) HR.out HO1.out HL1.out
  exact ⟨_, _, _, _, rfl, h1, h2⟩
set_option maxHeartbeats 4000000 in
theorem dec_any (a : Option Addr) (len cap : Nat) (z : Nat → Int) (most : Int) (w : World) (hr : Rd .u8 w a len z) (hc : len ≤ cap) :
    Calls Try.prog 14 #[.slice a len cap, .int .i64 most] w fun e w' => ∃ tv, e = .returned (.tuple #[.agg #[tv], .int .i64 (decS z len most).2.1, .int .i64 (decS z len most).2.2]) ∧ TxnsAt (fun b => w.heap.size ≤ b) w' tv (decS z len most).1 ∧ Below w.heap.size w w' ∧ (decS z len most).1.length ≤ 1024 ∧ opsN (decS z len most).1 ≤ 5000 := by
  have HR := hide hr
  have hl := hr.1
  clear hr
  by_cases h1 : most < 0 ∨ 4096 < most
  · have HS : Hid (decS z len most = ([], 2, 0)) := if_pos h1
    have hd : Hid (Below w.heap.size w (w.alloc (.cells #[.slice none 0 0] 24))) := (Below.refl _ _).alloc (Nat.le_refl _) _
    rcases h1 with h1 | h1
    · go_enter Try.func14, Try.ntmps14
      go_wp2
      refine bodyPost_ret (v := .tuple #[.agg #[.slice none 0 0], .int .i64 2, .int .i64 0]) (by simp [results, Try.results14, go_sem]) rfl ⟨.slice none 0 0, by rw [HS.out], ?_, hd.out, ?_⟩
      all_goals rw [HS.out]
      · exact TxnsAt.nil
      · exact ⟨by simp, by simp [opsN]⟩
    · have h1' : ¬ most < 0 := by omega
      go_enter Try.func14, Try.ntmps14
      go_wp2
      refine bodyPost_ret (v := .tuple #[.agg #[.slice none 0 0], .int .i64 2, .int .i64 0]) (by simp [results, Try.results14, go_sem]) rfl ⟨.slice none 0 0, by rw [HS.out], ?_, hd.out, ?_⟩
      all_goals rw [HS.out]
      · exact TxnsAt.nil
      · exact ⟨by simp, by simp [opsN]⟩
  have h2 : ¬ most < 0 := fun q => h1 (.inl q)
  have h3 : ¬ 4096 < most := fun q => h1 (.inr q)
  by_cases h4 : 262144 < len
  · have HS : Hid (decS z len most = ([], 3, 262144)) := by show _ = _; unfold decS; rw [if_neg h1, if_pos h4]
    have hd : Hid (Below w.heap.size w (w.alloc (.cells #[.slice none 0 0] 24))) := (Below.refl _ _).alloc (Nat.le_refl _) _
    have h4' : (262144 : Int) < (len : Int) := by omega
    clear h1
    go_enter Try.func14, Try.ntmps14
    go_wp2
    refine bodyPost_ret (v := .tuple #[.agg #[.slice none 0 0], .int .i64 3, .int .i64 262144]) (by simp [results, Try.results14, go_sem]) rfl ⟨.slice none 0 0, by rw [HS.out], ?_, hd.out, ?_⟩
    all_goals rw [HS.out]
    · exact TxnsAt.nil
    · exact ⟨by simp, by simp [opsN]⟩
  have HS : Hid (decS z len most = decL z len most len [] 0) := by show _ = _; unfold decS; rw [if_neg h1, if_neg h4]
  have h4' : ¬ (262144 : Int) < (len : Int) := by omega
  have HR1 : Hid (Rd .u8 (w.alloc (.cells #[.slice none 0 0] 24)) a len z) := HR.out.only (Only.of_below (S := fun _ => False) ((Below.refl w.heap.size _).alloc (Nat.le_refl _) _)) (fun _ _ q => q)
  have hB : Hid ((w.alloc (.cells #[.slice none 0 0] 24)).heap.size = w.heap.size + 1) := hide (by simp)
  obtain ⟨r, hr⟩ : ∃ r, decL z len most len [] 0 = r := ⟨_, rfl⟩
  have HOK : Hid (LinesOk z len most r ⟨0, 0, 0⟩ []) := .inl ⟨rfl, rfl, fun f hf => by rw [← hr]; exact decL_fuel _ _ _ _ hf (by omega)⟩
  have HD := hide (decL_two (z := z) (len := len) (most := most) len [] 0)
  have HRR := hide hr
  clear h1 h4 hr
  by_cases h0 : r.2.1 = 0
  · have HE : ∀ (s : St) (ts : List TxnM), LinesEnd r s ts → s.e = 0 ∧ r = (ts, 0, 0) := fun s ts h => h.elim id (fun q => absurd (by rw [q.2] at h0; exact h0) q.1)
    clear h0
    go_enter Try.func14, Try.ntmps14
    go_wp2_with (first | (go_at_call 30; go_must ((with_reducible refine (newReader_any a len cap z most _ HR1.out hc).mono ?_); rintro e w1 ⟨rb, cb, nb, vb, rfl, h1, hb1⟩; have HI1 := hide ((Is.made w #[.slice none 0 0] 24 rfl).below hb1); rw [hB.out] at h1 hb1; have H1 := hide h1; have HB1 := hide hb1; clear h1 hb1)) | (go_at_call 31; go_must ((with_reducible refine (lines_any _ rb cb nb vb most a len cap z _ _ _ _ r _ H1.out h3 HOK.out).mono ?_); rintro e w2 ⟨rfl, s2, ts2, tv2, cs2, h2', ho2, he2⟩; have H2 := hide h2'; obtain ⟨ta, tcap, rfl, -, -⟩ := h2'.1.own.shape; obtain ⟨c0, -, -, -, -, c5⟩ := h2'.1.rdr.six; have HC2 := hide h2'.1.live.cur; have HE2 := hide (HE s2 ts2 he2); have HO2 := hide ho2; have HI2 : Hid (Is w2 w.heap.size #[.slice none 0 0]) := hide (HI1.out.keep ho2 (by omega)); have k0 := HI2.out.cell 0 rfl; have f0 := HI2.out.frozen 0; clear h2' ho2 he2)) | (go_at_call 32; go_must ((with_reducible refine (err_any cb a len cap s2 _ HC2.out).mono ?_); rw [HE2.out.1]; rintro e w3 ⟨rfl, n3, rfl⟩)))
    have hY := ((HI2.out.drewN n3).set 0 (.slice ta ts2.length tcap)).cell 0 rfl
    have hO : Only (fun k => k = w.heap.size) w2 ((w2.drewN n3).setCell ⟨w.heap.size, 0, none⟩ (.slice ta ts2.length tcap)) := ((Only.refl _ _).drewN n3).put 0 _
    have hBB : Below w.heap.size w ((w2.drewN n3).setCell ⟨w.heap.size, 0, none⟩ (.slice ta ts2.length tcap)) := ((((Below.refl w.heap.size w).alloc (Nat.le_refl _) _).trans (HB1.out.mono (by omega))).only HO2.out (fun i q => by omega) (by have := HI1.out.lt; omega)).only hO (fun i q => by omega) (by have := HI2.out.lt; omega)
    refine bodyPost_ret (v := .tuple #[.agg #[.slice ta ts2.length tcap], .int .i64 0, .int .i64 0]) (by simp [results, Try.results14, go_sem, hY]) rfl ⟨.slice ta ts2.length tcap, by rw [HS.out, HRR.out, HE2.out.2], ?_, hBB, ?_⟩
    all_goals rw [HS.out, HRR.out, HE2.out.2]
    rotate_left
    · exact H2.out.1.few
    exact (H2.out.1.own.txns.only hO (fun b q r => by have := q.1; omega)).mono (fun b q => by have := q.1; omega)
  · have HE : ∀ (s : St) (ts : List TxnM), LinesEnd r s ts → (¬ s.e = 0) ∧ r = ([], s.e, s.x) := fun s ts h => h.elim (fun q => absurd (by rw [q.2]) h0) id
    clear h0
    go_enter Try.func14, Try.ntmps14
    go_wp2_with (first | (go_at_call 30; go_must ((with_reducible refine (newReader_any a len cap z most _ HR1.out hc).mono ?_); rintro e w1 ⟨rb, cb, nb, vb, rfl, h1, hb1⟩; have HI1 := hide ((Is.made w #[.slice none 0 0] 24 rfl).below hb1); rw [hB.out] at h1 hb1; have H1 := hide h1; have HB1 := hide hb1; clear h1 hb1)) | (go_at_call 31; go_must ((with_reducible refine (lines_any _ rb cb nb vb most a len cap z _ _ _ _ r _ H1.out h3 HOK.out).mono ?_); rintro e w2 ⟨rfl, s2, ts2, tv2, cs2, h2', ho2, he2⟩; have H2 := hide h2'; obtain ⟨ta, tcap, rfl, -, -⟩ := h2'.1.own.shape; obtain ⟨c0, -, -, -, -, c5⟩ := h2'.1.rdr.six; have HC2 := hide h2'.1.live.cur; have HE2 := hide (HE s2 ts2 he2); have HO2 := hide ho2; have HI2 : Hid (Is w2 w.heap.size #[.slice none 0 0]) := hide (HI1.out.keep ho2 (by omega)); have k0 := HI2.out.cell 0 rfl; have f0 := HI2.out.frozen 0; have hne2 : (s2.e != 0) = true := (by simpa using HE2.out.1); clear h2' ho2 he2)) | (go_at_call 32; go_must ((with_reducible refine (err_any cb a len cap s2 _ HC2.out).mono ?_); rintro e w3 ⟨rfl, n3, rfl⟩)))
    have hY := ((HI2.out.drewN n3).set 0 (.slice none 0 0)).cell 0 rfl
    have hO : Only (fun k => k = w.heap.size) w2 ((w2.drewN n3).setCell ⟨w.heap.size, 0, none⟩ (.slice none 0 0)) := ((Only.refl _ _).drewN n3).put 0 _
    have hBB : Below w.heap.size w ((w2.drewN n3).setCell ⟨w.heap.size, 0, none⟩ (.slice none 0 0)) := ((((Below.refl w.heap.size w).alloc (Nat.le_refl _) _).trans (HB1.out.mono (by omega))).only HO2.out (fun i q => by omega) (by have := HI1.out.lt; omega)).only hO (fun i q => by omega) (by have := HI2.out.lt; omega)
    refine bodyPost_ret (v := .tuple #[.agg #[.slice none 0 0], .int .i64 s2.e, .int .i64 s2.x]) (by simp [results, Try.results14, go_sem, hY]) rfl ⟨.slice none 0 0, by rw [HS.out, HRR.out, HE2.out.2], ?_, hBB, ?_⟩
    all_goals rw [HS.out, HRR.out, HE2.out.2]
    · exact TxnsAt.nil
    · exact ⟨by simp, by simp [opsN]⟩
/-- .. where its answer is known. -/
theorem dec_at (a : Option Addr) (len cap : Nat) (z : Nat → Int) (most : Int) (w : World) {us : List TxnM} {e x : Int} (hr : Rd .u8 w a len z) (hc : len ≤ cap) (hd : Hid (decS z len most = (us, e, x))) :
    Calls Try.prog 14 #[.slice a len cap, .int .i64 most] w fun e' w' => ∃ ta tcap, e' = .returned (.tuple #[.agg #[.slice ta us.length tcap], .int .i64 e, .int .i64 x]) ∧ Hid (TxnsAt (fun b => w.heap.size ≤ b) w' (.slice ta us.length tcap) us) ∧ Hid (Below w.heap.size w w') ∧ Hid (us.length ≤ 1024 ∧ opsN us ≤ 5000) := by
  refine (dec_any a len cap z most w hr hc).mono ?_
  rw [hd.out]
  rintro e' w' ⟨tv, rfl, ht, hb, hf⟩
  obtain ⟨ta, tcap, rfl, -, -⟩ := ht.shape
  exact ⟨ta, tcap, rfl, ht, hb, hf⟩
end Go.Proofs.Ytigmgkcojifbcaa.Hist
