/- Joined out of the texts HistRefDec, HistSame, HistEq, HistRSame, in that order. -/
import Derived.Test.YtigmgkcojifbcaaAll16
import Derived.Test.YtigmgkcojifbcaaAll14
import Derived.Test.YtigmgkcojifbcaaAll4
import Derived.Deep.DeepCutAuto
import Derived.Deep.LoopGhost
import Derived.Deep.RegionHeld3
import Derived.Deep.DrawnRows
/- The document's Decode: its own words of bytes. -/
namespace Go.Proofs.Ytigmgkcojifbcaa.Hist
open Go.RowKit Go.Proofs.Ytigmgkcojifbcaa.Dig Go.Proofs.Ytigmgkcojifbcaa.Mem
set_option linter.unusedVariables false
set_option linter.unusedSimpArgs false
attribute [local go_sem ↓] Go.wp_at_zero Go.wp_at_succ

theorem FewL.le {ts : List TxnM} (h : FewL ts) : ts.length ≤ 100000 := by have := h.1; omega
theorem FewL.ops {ts : List TxnM} (h : FewL ts) : opsN ts ≤ 100000 := by have := h.2; omega
/-- The midst of Decode: the answer's variable, the history's, and how far it is. -/
structure RefSt (w : World) (a : Option Addr) (len : Nat) (z : Nat → Int) (most : Int) (r : List TxnM × Int × Int) (k : Nat) (ts : List TxnM) (tv : Value) (wr : World) : Prop where
  le : k ≤ len
  hi : Is wr w.heap.size #[.slice none 0 0]
  hj : Is wr (w.heap.size + 1) #[tv]
  t : TxnsAt (fun b => w.heap.size + 1 < b) wr tv ts
  below : Below w.heap.size w wr
  few : FewL ts
  go : ∀ f, len - k ≤ f → decL z len most f ts k = r
section
variable {w wr wx : World} {a : Option Addr} {len k : Nat} {z : Nat → Int} {most : Int} {r : List TxnM × Int × Int} {ts : List TxnM} {tv tv' : Value}
theorem RefSt.start (T : TypeId) (hr : ∀ f, len ≤ f → decL z len most f [] 0 = r) : RefSt w a len z most r 0 [] (.slice none 0 0) ((w.alloc (.cells #[.slice none 0 0] T)).alloc (.cells #[.slice none 0 0] T)) := by
  have h1 := Is.made w #[.slice none 0 0] T rfl
  have h2 := Is.made (w.alloc (.cells #[.slice none 0 0] T)) #[.slice none 0 0] T rfl
  have hs : (w.alloc (.cells #[.slice none 0 0] T)).heap.size = w.heap.size + 1 := by simp
  rw [hs] at h2
  exact ⟨by omega, h1.alloc _, h2, TxnsAt.nil, ((Below.refl _ _).alloc (Nat.le_refl _) _).alloc (by simp) _, ⟨by simp, by simp [opsN]⟩, fun f hf => hr f (by omega)⟩
theorem RefSt.next (h : RefSt w a len z most r k ts tv wr) (hm : most ≤ 4096) (hk : k < len) (he : (lineS z len most ts k).e = 0) (hb : Below wr.heap.size wr wx) (ht : TxnsAt (fun b => w.heap.size + 1 < b ∨ wr.heap.size ≤ b) wx tv' (lineS z len most ts k).ts) :
    RefSt w a len z most r (lineS z len most ts k).nx (lineS z len most ts k).ts tv' (wx.setCell ⟨w.heap.size + 1, 0, none⟩ tv') ∧ k < (lineS z len most ts k).nx := by
  have hlt := h.hj.lt
  have hO : Only (fun q => q = w.heap.size + 1) wx (wx.setCell ⟨w.heap.size + 1, 0, none⟩ tv') := (Only.refl _ _).put 0 _
  rcases line_two (most := most) (ts := ts) (z := z) hk with ⟨_, g1, g2, _⟩ | ⟨e, _⟩
  rotate_left
  · exact absurd he e
  refine ⟨⟨g2, (h.hi.below hb).keep hO (by omega), (h.hj.below hb).set 0 tv', (ht.mono (fun b q => show w.heap.size + 1 < b by omega)).only hO (fun b q => by omega), (h.below.trans (hb.mono h.below.size)).only hO (fun q hq => by omega) (by have := (h.hj.below hb).lt; omega), h.few.line hm, fun f hf => ?_⟩, g1⟩
  have := h.go (len - k - 1 + 1) (by omega)
  rw [decL, if_pos hk, if_pos he] at this
  rw [← this]
  exact decL_fuel _ _ _ _ hf (by omega)
theorem RefSt.bad (h : RefSt w a len z most r k ts tv wr) (hk : k < len) (he : ¬ (lineS z len most ts k).e = 0) : r = ([], (lineS z len most ts k).e, (lineS z len most ts k).wh) := by
  have := h.go (len - k - 1 + 1) (by omega)
  rw [decL, if_pos hk, if_neg he] at this
  exact this.symm
theorem RefSt.exit (h : RefSt w a len z most r k ts tv wr) : (wr.setCell ⟨w.heap.size, 0, none⟩ tv).cell? ⟨w.heap.size, 0, none⟩ = some tv ∧ TxnsAt (fun b => w.heap.size ≤ b) (wr.setCell ⟨w.heap.size, 0, none⟩ tv) tv ts ∧ Below w.heap.size w (wr.setCell ⟨w.heap.size, 0, none⟩ tv) := by
  have hO : Only (fun q => q = w.heap.size) wr (wr.setCell ⟨w.heap.size, 0, none⟩ tv) := (Only.refl _ _).put 0 _
  exact ⟨Is.cell (h.hi.set 0 tv) 0 rfl, (h.t.only hO (fun b q => by omega)).mono (fun b q => by omega), h.below.only hO (fun q hq => by omega) (by have := h.hi.lt; omega)⟩
theorem RefSt.leave0 (h : RefSt w a len z most r k ts tv wr) : Below w.heap.size w (wr.setCell ⟨w.heap.size, 0, none⟩ (.slice none 0 0)) ∧ (wr.setCell ⟨w.heap.size, 0, none⟩ (.slice none 0 0)).cell? ⟨w.heap.size, 0, none⟩ = some (.slice none 0 0) :=
  ⟨h.below.only ((Only.refl (fun q => q = w.heap.size) _).put 0 _) (fun q hq => by omega) (by have := h.hi.lt; omega), Is.cell (h.hi.set 0 (.slice none 0 0)) 0 rfl⟩
/-- .. what is left of the two variables when it is left with an error. -/
theorem RefSt.leave (h : RefSt w a len z most r k ts tv wr) (hb : Below wr.heap.size wr wx) :
    Below w.heap.size w ((wx.setCell ⟨w.heap.size + 1, 0, none⟩ tv').setCell ⟨w.heap.size, 0, none⟩ (.slice none 0 0)) ∧ ((wx.setCell ⟨w.heap.size + 1, 0, none⟩ tv').setCell ⟨w.heap.size, 0, none⟩ (.slice none 0 0)).cell? ⟨w.heap.size, 0, none⟩ = some (.slice none 0 0) := by
  have hO : Only (fun q => q = w.heap.size + 1 ∨ q = w.heap.size) wx ((wx.setCell ⟨w.heap.size + 1, 0, none⟩ tv').setCell ⟨w.heap.size, 0, none⟩ (.slice none 0 0)) := (((Only.refl _ _).put 0 _).mono (fun q hq => .inl hq)).trans (((Only.refl _ _).put 0 _).mono (fun q hq => .inr hq))
  have h1 := (h.hi.below hb).keep ((Only.refl (fun q => q = w.heap.size + 1) wx).put 0 tv') (by omega)
  exact ⟨(h.below.trans (hb.mono h.below.size)).only hO (fun q hq => by omega) (by have := (h.hj.below hb).lt; omega), Is.cell (h1.set 0 (.slice none 0 0)) 0 rfl⟩
end
set_option maxRecDepth 20000 in
set_option maxHeartbeats 4000000 in
theorem rdec_any (a : Option Addr) (len cap : Nat) (z : Nat → Int) (most : Int) (w : World) (hr : Rd .u8 w a len z) (hc : len ≤ cap) :
    Calls Try.prog 15 #[.slice a len cap, .int .i64 most] w fun e w' => ∃ tv, e = .returned (.tuple #[.agg #[tv], .int .i64 (decS z len most).2.1, .int .i64 (decS z len most).2.2]) ∧ TxnsAt (fun b => w.heap.size ≤ b) w' tv (decS z len most).1 ∧ Below w.heap.size w w' ∧ (decS z len most).1.length ≤ 1024 ∧ opsN (decS z len most).1 ≤ 5000 := by
  have HR := hide hr
  have hl := hr.1
  clear hr
  by_cases h1 : most < 0 ∨ 4096 < most
  · have HS : Hid (decS z len most = ([], 2, 0)) := if_pos h1
    rcases h1 with h1 | h1
    · go_enter Try.func15, Try.ntmps15
      go_wp2
      refine bodyPost_ret (v := .tuple #[.agg #[.slice none 0 0], .int .i64 2, .int .i64 0]) (by simp [results, Try.results15, go_sem]) rfl ⟨.slice none 0 0, by rw [HS.out], ?_, two_below _ _ _ _ _, ?_⟩
      all_goals rw [HS.out]
      · exact TxnsAt.nil
      · exact ⟨by simp, by simp [opsN]⟩
    · have h1' : ¬ most < 0 := by omega
      go_enter Try.func15, Try.ntmps15
      go_wp2
      refine bodyPost_ret (v := .tuple #[.agg #[.slice none 0 0], .int .i64 2, .int .i64 0]) (by simp [results, Try.results15, go_sem]) rfl ⟨.slice none 0 0, by rw [HS.out], ?_, two_below _ _ _ _ _, ?_⟩
      all_goals rw [HS.out]
      · exact TxnsAt.nil
      · exact ⟨by simp, by simp [opsN]⟩
  have h2 : ¬ most < 0 := fun q => h1 (.inl q)
  have h3 : ¬ 4096 < most := fun q => h1 (.inr q)
  have hm : most ≤ 4096 := by omega
  by_cases h4 : 262144 < len
  · have HS : Hid (decS z len most = ([], 3, 262144)) := by show _ = _; unfold decS; rw [if_neg h1, if_pos h4]
    have h4' : (262144 : Int) < (len : Int) := by omega
    clear h1
    go_enter Try.func15, Try.ntmps15
    go_wp2
    refine bodyPost_ret (v := .tuple #[.agg #[.slice none 0 0], .int .i64 3, .int .i64 262144]) (by simp [results, Try.results15, go_sem]) rfl ⟨.slice none 0 0, by rw [HS.out], ?_, two_below _ _ _ _ _, ?_⟩
    all_goals rw [HS.out]
    · exact TxnsAt.nil
    · exact ⟨by simp, by simp [opsN]⟩
  have HS : Hid (decS z len most = decL z len most len [] 0) := by show _ = _; unfold decS; rw [if_neg h1, if_neg h4]
  have h4' : ¬ (262144 : Int) < (len : Int) := by omega
  obtain ⟨r, hr⟩ : ∃ r, decL z len most len [] 0 = r := ⟨_, rfl⟩
  have ST0 : Hid (RefSt w a len z most r 0 [] (.slice none 0 0) ((w.alloc (.cells #[.slice none 0 0] 24)).alloc (.cells #[.slice none 0 0] 24))) := hide (RefSt.start _ (fun f hf => by rw [← hr]; exact decL_fuel _ _ _ _ (by omega) (by omega)))
  have HRR := hide hr
  clear h1 hr
  go_enter Try.func15, Try.ntmps15
  go_wp2
  go_loopw [8] (fun i wr => ∃ k ts tv, i = .int .i64 ((k : Nat) : Int) ∧ RefSt w a len z most r k ts tv wr) (fun i _ => len - (intOf i).toNat)
  case atStart => exact ⟨0, [], _, rfl, ST0.out⟩
  case round =>
    obtain ⟨k, ts, tv, rfl, hst⟩ := hrel
    have ST := hide hst
    obtain ⟨ta, tcap, rfl, -, -⟩ := hst.t.shape
    obtain ⟨ci, fi⟩ := Is.one hst.hi
    obtain ⟨cj, fj⟩ := Is.one hst.hj
    have hi1 := hst.hi.lt
    have hj1 := hst.hj.lt
    have hRr : Rd .u8 wr a len z := HR.out.only (Only.of_below (S := fun _ => False) hst.below) (fun _ _ q => q)
    have HRr := hide hRr
    by_cases hk : k < len
    rotate_left
    · have HK : Hid (r = (ts, 0, 0)) := by show _ = _; rw [← hst.go (len - k) (Nat.le_refl _), decL_done (by omega)]
      have hkk : ¬ (k : Int) < (len : Int) := by omega
      clear hst hRr hk
      go_wp2
      obtain ⟨k1, k2, k3⟩ := RefSt.exit ST.out
      refine bodyPost_ret (v := .tuple #[.agg #[.slice ta ts.length tcap], .int .i64 0, .int .i64 0]) (by simp [results, Try.results15, go_sem, k1]) rfl ⟨_, by rw [HS.out, HRR.out, HK.out], ?_, k3, ?_⟩
      all_goals rw [HS.out, HRR.out, HK.out]
      · exact k2
      · exact ⟨ST.out.few.1, by have := ST.out.few.2; show opsN ts ≤ 5000; omega⟩
    have hkk : (k : Int) < (len : Int) := by omega
    have HKK := hide hk
    obtain ⟨bb, off, rfl, hcl, hz1, hz2⟩ := hRr.u8 hk
    obtain ⟨x, hx⟩ : ∃ x, (lineS z len most ts k).e = x := ⟨_, rfl⟩
    obtain ⟨y, hy⟩ : ∃ y, (lineS z len most ts k).wh = y := ⟨_, rfl⟩
    obtain ⟨n, hn⟩ : ∃ n, (lineS z len most ts k).nx = n := ⟨_, rfl⟩
    have HX : Hid ((lineS z len most ts k).e = x) := hide hx
    have HN : Hid ((lineS z len most ts k).nx = n) := hn
    have HY : Hid ((lineS z len most ts k).wh = y) := hy
    have hbb : bb < w.heap.size := HR.out.lt (by omega) _ rfl
    have hb1 : bb ≠ w.heap.size + 1 := by omega
    have hb2 : w.heap.size + 1 ≠ bb := by omega
    clear hst hRr hk
    by_cases z1 : z k = 116
    · have b1 : (z k == 116) = true := by rw [z1]; rfl
      have b2 : (z k == 97) = false := by rw [z1]; rfl
      have b3 : (z k == 114) = false := by rw [z1]; rfl
      have HLS : Hid (txnS z len ts k = lineS z len most ts k) := by show _ = _; unfold lineS; rw [if_pos z1]
      clear z1
      by_cases hx0 : x = 0
      · subst hx0
        go_wp2_with (go_at_call 33; go_must ((with_reducible refine (rtxn_any (fun b => w.heap.size + 1 < b) _ ts _ len cap z k _ ST.out.t HRr.out hc HKK.out (by omega) ST.out.few.le).mono ?_); rw [HLS.out, HX.out, HN.out, HY.out]; rintro e w2 ⟨tv2, rfl, ht2, hb2⟩; obtain ⟨ta2, tcap2, rfl, -, -⟩ := ht2.shape; have HT2 := hide ht2; have HB2 := hide hb2; have HI2 := hide (ST.out.hi.below hb2); have HJ2 := hide (ST.out.hj.below hb2); obtain ⟨ci2, fi2⟩ := Is.one HI2.out; obtain ⟨cj2, fj2⟩ := Is.one HJ2.out; have hcl2 := bel_cell hb2 hcl; clear ht2 hb2))
        have NX := RefSt.next ST.out hm HKK.out HX.out HB2.out HT2.out
        rw [HN.out] at NX
        exact ⟨⟨n, _, _, rfl, NX.1⟩, by have := NX.2; have := NX.1.le; simp [intOf]; omega⟩
      · have bx : (x != 0) = true := by simpa using hx0
        have HX0 := hide hx0
        clear hx0
        go_wp2_with (go_at_call 33; go_must ((with_reducible refine (rtxn_any (fun b => w.heap.size + 1 < b) _ ts _ len cap z k _ ST.out.t HRr.out hc HKK.out (by omega) ST.out.few.le).mono ?_); rw [HLS.out, HX.out, HN.out, HY.out]; rintro e w2 ⟨tv2, rfl, ht2, hb2⟩; obtain ⟨ta2, tcap2, rfl, -, -⟩ := ht2.shape; have HT2 := hide ht2; have HB2 := hide hb2; have HI2 := hide (ST.out.hi.below hb2); have HJ2 := hide (ST.out.hj.below hb2); obtain ⟨ci2, fi2⟩ := Is.one HI2.out; obtain ⟨cj2, fj2⟩ := Is.one HJ2.out; have hcl2 := bel_cell hb2 hcl; clear ht2 hb2))
        obtain ⟨k1, k2⟩ := RefSt.leave (tv' := .slice ta2 (lineS z len most ts k).ts.length tcap2) ST.out HB2.out
        have HQ := RefSt.bad ST.out HKK.out (by rw [HX.out]; exact HX0.out)
        rw [HX.out, HY.out] at HQ
        refine bodyPost_ret (v := .tuple #[.agg #[.slice none 0 0], .int .i64 x, .int .i64 y]) (by simp [results, Try.results15, go_sem, k2]) rfl ⟨_, by rw [HS.out, HRR.out, HQ], ?_, k1, ?_⟩
        all_goals rw [HS.out, HRR.out, HQ]
        · exact TxnsAt.nil
        · exact ⟨by simp, by simp [opsN]⟩
    have b1 : (z k == 116) = false := by simpa using z1
    by_cases z2 : z k = 97
    · have b2 : (z k == 97) = true := by rw [z2]; rfl
      have HLS : Hid (opS z len most ts k = lineS z len most ts k) := by show _ = _; unfold lineS; rw [if_neg z1, if_pos (by omega)]
      have HZ : Hid (z k = 97 ∨ z k = 114) := hide (.inl z2)
      clear z1
      by_cases hx0 : x = 0
      · subst hx0
        go_wp2_with (go_at_call 34; go_must ((with_reducible refine (rop_any (fun b => w.heap.size + 1 < b) _ ts _ len cap z k most _ ST.out.t HRr.out hc HKK.out (by omega) ST.out.few.le ST.out.few.ops HZ.out).mono ?_); rw [HLS.out, HX.out, HN.out, HY.out]; rintro e w2 ⟨tv2, rfl, ht2, hb2⟩; obtain ⟨ta2, tcap2, rfl, -, -⟩ := ht2.shape; have HT2 := hide ht2; have HB2 := hide hb2; have HI2 := hide (ST.out.hi.below hb2); have HJ2 := hide (ST.out.hj.below hb2); obtain ⟨ci2, fi2⟩ := Is.one HI2.out; obtain ⟨cj2, fj2⟩ := Is.one HJ2.out; have hcl2 := bel_cell hb2 hcl; clear ht2 hb2))
        have NX := RefSt.next ST.out hm HKK.out HX.out HB2.out HT2.out
        rw [HN.out] at NX
        exact ⟨⟨n, _, _, rfl, NX.1⟩, by have := NX.2; have := NX.1.le; simp [intOf]; omega⟩
      · have bx : (x != 0) = true := by simpa using hx0
        have HX0 := hide hx0
        clear hx0
        go_wp2_with (go_at_call 34; go_must ((with_reducible refine (rop_any (fun b => w.heap.size + 1 < b) _ ts _ len cap z k most _ ST.out.t HRr.out hc HKK.out (by omega) ST.out.few.le ST.out.few.ops HZ.out).mono ?_); rw [HLS.out, HX.out, HN.out, HY.out]; rintro e w2 ⟨tv2, rfl, ht2, hb2⟩; obtain ⟨ta2, tcap2, rfl, -, -⟩ := ht2.shape; have HT2 := hide ht2; have HB2 := hide hb2; have HI2 := hide (ST.out.hi.below hb2); have HJ2 := hide (ST.out.hj.below hb2); obtain ⟨ci2, fi2⟩ := Is.one HI2.out; obtain ⟨cj2, fj2⟩ := Is.one HJ2.out; have hcl2 := bel_cell hb2 hcl; clear ht2 hb2))
        obtain ⟨k1, k2⟩ := RefSt.leave (tv' := .slice ta2 (lineS z len most ts k).ts.length tcap2) ST.out HB2.out
        have HQ := RefSt.bad ST.out HKK.out (by rw [HX.out]; exact HX0.out)
        rw [HX.out, HY.out] at HQ
        refine bodyPost_ret (v := .tuple #[.agg #[.slice none 0 0], .int .i64 x, .int .i64 y]) (by simp [results, Try.results15, go_sem, k2]) rfl ⟨_, by rw [HS.out, HRR.out, HQ], ?_, k1, ?_⟩
        all_goals rw [HS.out, HRR.out, HQ]
        · exact TxnsAt.nil
        · exact ⟨by simp, by simp [opsN]⟩
    have b2 : (z k == 97) = false := by simpa using z2
    by_cases z3 : z k = 114
    · have b3 : (z k == 114) = true := by rw [z3]; rfl
      have HLS : Hid (opS z len most ts k = lineS z len most ts k) := by show _ = _; unfold lineS; rw [if_neg z1, if_pos (by omega)]
      have HZ : Hid (z k = 97 ∨ z k = 114) := hide (.inr z3)
      clear z1
      by_cases hx0 : x = 0
      · subst hx0
        go_wp2_with (go_at_call 34; go_must ((with_reducible refine (rop_any (fun b => w.heap.size + 1 < b) _ ts _ len cap z k most _ ST.out.t HRr.out hc HKK.out (by omega) ST.out.few.le ST.out.few.ops HZ.out).mono ?_); rw [HLS.out, HX.out, HN.out, HY.out]; rintro e w2 ⟨tv2, rfl, ht2, hb2⟩; obtain ⟨ta2, tcap2, rfl, -, -⟩ := ht2.shape; have HT2 := hide ht2; have HB2 := hide hb2; have HI2 := hide (ST.out.hi.below hb2); have HJ2 := hide (ST.out.hj.below hb2); obtain ⟨ci2, fi2⟩ := Is.one HI2.out; obtain ⟨cj2, fj2⟩ := Is.one HJ2.out; have hcl2 := bel_cell hb2 hcl; clear ht2 hb2))
        have NX := RefSt.next ST.out hm HKK.out HX.out HB2.out HT2.out
        rw [HN.out] at NX
        exact ⟨⟨n, _, _, rfl, NX.1⟩, by have := NX.2; have := NX.1.le; simp [intOf]; omega⟩
      · have bx : (x != 0) = true := by simpa using hx0
        have HX0 := hide hx0
        clear hx0
        go_wp2_with (go_at_call 34; go_must ((with_reducible refine (rop_any (fun b => w.heap.size + 1 < b) _ ts _ len cap z k most _ ST.out.t HRr.out hc HKK.out (by omega) ST.out.few.le ST.out.few.ops HZ.out).mono ?_); rw [HLS.out, HX.out, HN.out, HY.out]; rintro e w2 ⟨tv2, rfl, ht2, hb2⟩; obtain ⟨ta2, tcap2, rfl, -, -⟩ := ht2.shape; have HT2 := hide ht2; have HB2 := hide hb2; have HI2 := hide (ST.out.hi.below hb2); have HJ2 := hide (ST.out.hj.below hb2); obtain ⟨ci2, fi2⟩ := Is.one HI2.out; obtain ⟨cj2, fj2⟩ := Is.one HJ2.out; have hcl2 := bel_cell hb2 hcl; clear ht2 hb2))
        obtain ⟨k1, k2⟩ := RefSt.leave (tv' := .slice ta2 (lineS z len most ts k).ts.length tcap2) ST.out HB2.out
        have HQ := RefSt.bad ST.out HKK.out (by rw [HX.out]; exact HX0.out)
        rw [HX.out, HY.out] at HQ
        refine bodyPost_ret (v := .tuple #[.agg #[.slice none 0 0], .int .i64 x, .int .i64 y]) (by simp [results, Try.results15, go_sem, k2]) rfl ⟨_, by rw [HS.out, HRR.out, HQ], ?_, k1, ?_⟩
        all_goals rw [HS.out, HRR.out, HQ]
        · exact TxnsAt.nil
        · exact ⟨by simp, by simp [opsN]⟩
    have b3 : (z k == 114) = false := by simpa using z3
    have HLS : Hid (lineS z len most ts k = ⟨ts, 0, 4, (k : Int)⟩) := by show _ = _; unfold lineS; rw [if_neg z1, if_neg (by omega)]
    clear z1 z2 z3
    have HQ := RefSt.bad ST.out HKK.out (by rw [HLS.out]; simp)
    rw [HLS.out] at HQ
    obtain ⟨k1, k2⟩ := RefSt.leave0 ST.out
    have HQ0 := hide HQ
    have HK1 := hide k1
    have HK2 := hide k2
    clear HQ k1 k2
    go_wp2
    refine bodyPost_ret (v := .tuple #[.agg #[.slice none 0 0], .int .i64 4, .int .i64 (k : Int)]) (by simp [results, Try.results15, go_sem, HK2.out]) rfl ⟨_, by rw [HS.out, HRR.out, HQ0.out], ?_, HK1.out, ?_⟩
    all_goals rw [HS.out, HRR.out, HQ0.out]
    · exact TxnsAt.nil
    · exact ⟨by simp, by simp [opsN]⟩
/-- .. where its answer is known. -/
theorem rdec_at (a : Option Addr) (len cap : Nat) (z : Nat → Int) (most : Int) (w : World) {us : List TxnM} {e x : Int} (hr : Rd .u8 w a len z) (hc : len ≤ cap) (hd : Hid (decS z len most = (us, e, x))) :
    Calls Try.prog 15 #[.slice a len cap, .int .i64 most] w fun e' w' => ∃ ta tcap, e' = .returned (.tuple #[.agg #[.slice ta us.length tcap], .int .i64 e, .int .i64 x]) ∧ Hid (TxnsAt (fun b => w.heap.size ≤ b) w' (.slice ta us.length tcap) us) ∧ Hid (Below w.heap.size w w') ∧ Hid (us.length ≤ 1024 ∧ opsN us ≤ 5000) := by
  refine (rdec_any a len cap z most w hr hc).mono ?_
  rw [hd.out]
  rintro e' w' ⟨tv, rfl, ht, hb, hf⟩
  obtain ⟨ta, tcap, rfl, -, -⟩ := ht.shape
  exact ⟨ta, tcap, rfl, ht, hb, hf⟩
end Go.Proofs.Ytigmgkcojifbcaa.Hist

/- Contracts of the two Same: whether two histories are alike. -/
namespace Go.Proofs.Ytigmgkcojifbcaa.Hist
open Go.RowKit Go.Proofs.Ytigmgkcojifbcaa.Dig Go.Proofs.Ytigmgkcojifbcaa.Mem
set_option linter.unusedVariables false
set_option linter.unusedSimpArgs false

theorem getD_ext {l m : List Int} (h : l.length = m.length) (he : ∀ i, i < l.length → l.getD i 0 = m.getD i 0) : l = m := by
  apply List.ext_getElem h
  intro i h1 h2
  have := he i h1
  simpa [List.getD_eq_getElem?_getD, List.getElem?_eq_getElem h1, List.getElem?_eq_getElem h2] using this
def SameRel (w : World) (n : Nat) (x y : Nat → Int) (i : Value) (wr : World) : Prop :=
  ∃ k : Nat, k ≤ n ∧ i = .int .i64 (k : Int) ∧ Hid (∀ j, j < k → x j = y j) ∧ Below w.heap.size w wr
theorem SameRel.next {w w' : World} {n : Nat} {x y : Nat → Int} {k : Nat} {i : Value} (hlt : k < n) (he : x k = y k) (h : Hid (∀ j, j < k → x j = y j)) (hi : i = .int .i64 ((k + 1 : Nat) : Int)) (hb : Below w.heap.size w w') : SameRel w n x y i w' :=
  ⟨k + 1, by omega, hi, hide (fun j hj => by
    rcases Nat.lt_or_ge j k with q | q
    · exact h.out j q
    · have : j = k := by omega
      subst this; exact he), hb⟩
theorem same_bool {l m : List Int} {r : Bool} (h : r = true ↔ (l.length = m.length ∧ ∀ i, i < l.length → (fun i => l.getD i 0) i = (fun i => m.getD i 0) i)) : r = decide (l = m) := by
  rw [Bool.eq_iff_iff, h, decide_eq_true_iff]
  exact ⟨fun q => getD_ext q.1 q.2, fun q => by subst q; exact ⟨rfl, fun _ _ => rfl⟩⟩
theorem rsame1_rd (a b : Option Addr) (n m c d : Nat) (x y : Nat → Int) (w : World) (ha : Rd .i64 w a n x) (hb : Rd .i64 w b m y) :
    Calls Try.prog 51 #[.slice a n c, .slice b m d] w fun e w' => ∃ r, e = .returned (.bool r) ∧ (r = true ↔ (n = m ∧ ∀ i, i < n → x i = y i)) ∧ Below w.heap.size w w' := by
  have hn := ha.le
  have hm := hb.le
  by_cases hnm : n = m
  · subst hnm
    have g0 : ((n : Int) != n) = false := by simp
    go_enter Try.func51, Try.ntmps51
    go_wp2
    go_loopw [5] (fun i wr => SameRel w n x y i wr) (fun i _ => n - (intOf i).toNat)
    case atStart => exact ⟨0, by omega, rfl, hide (fun j hj => by omega), Below.refl _ _⟩
    case round =>
      obtain ⟨k, hk, rfl, hj, hbel⟩ := hrel
      by_cases hlt : k < n
      · obtain ⟨b1, o1, rfl, hc1, hw1⟩ := (ha.keep hbel).2 k hlt
        obtain ⟨b2, o2, rfl, hc2, hw2⟩ := (hb.keep hbel).2 k hlt
        have i1 : (k : Int) < (n : Int) := by omega
        by_cases he : x k = y k
        · have g1 : (x k != y k) = false := by simp [he]
          have HE : Hid (x k = y k) := he
          clear he
          go_wp2
          go_quiet (fail)
          go_wp2
          go_roundw
          case rel => exact SameRel.next hlt HE.out hj (by go_num) (hbel.drewN _)
          case measure => simp [intOf]; omega
        · have g1 : (x k != y k) = true := by simpa using he
          have HE : Hid (¬ x k = y k) := he
          clear he
          go_wp2
          go_quiet (fail)
          go_wp2
          go_ret
          exact ⟨false, rfl, by simp; exact ⟨k, hlt, HE.out⟩, hbel.drewN _⟩
      · go_wp2
        go_ret
        exact ⟨true, rfl, by simp; exact fun i hi => hj.out i (by omega), hbel⟩
  · have g0 : ((n : Int) != m) = true := by simp; omega
    have HE : Hid (¬ n = m) := hnm
    clear hnm
    go_enter Try.func51, Try.ntmps51
    go_wp2
    go_ret
    exact ⟨false, rfl, by simp; exact fun q => absurd q HE.out, Below.refl _ _⟩
theorem rsame1_any (F F' : Nat → Prop) (v v' : Value) (l m : List Int) (w : World) (h : IntsAt F w v l) (h' : IntsAt F' w v' m) (hl : l.length ≤ 1000000) (hm : m.length ≤ 1000000) :
    Calls Try.prog 51 #[v, v'] w fun e w' => e = .returned (.bool (decide (l = m))) ∧ Below w.heap.size w w' := by
  obtain ⟨a, c, rfl, _, ha⟩ := h.rd (by omega)
  obtain ⟨b, d, rfl, _, hb⟩ := h'.rd (by omega)
  refine (rsame1_rd a b _ _ c d _ _ w ha hb).mono ?_
  rintro e w' ⟨r, rfl, hr, hbel⟩
  exact ⟨by rw [same_bool hr], hbel⟩

theorem op_dec (o p : OpM) : decide (o = p) = (o.read == p.read && o.key == p.key && o.value == p.value && decide (o.list = p.list)) := by
  obtain ⟨r, k, v, l⟩ := o
  obtain ⟨r', k', v', l'⟩ := p
  rw [Bool.eq_iff_iff]
  simp [OpM.mk.injEq, and_assoc]
theorem txn_dec (t u : TxnM) : decide (t = u) = (t.id == u.id && t.ab == u.ab && decide (t.ops = u.ops)) := by
  obtain ⟨i, a, o⟩ := t
  obtain ⟨i', a', o'⟩ := u
  rw [Bool.eq_iff_iff]
  simp [TxnM.mk.injEq, and_assoc]
/-- An operation, as an argument. -/
def opV (o : OpM) (lv : Value) : Value := .agg #[.bool o.read, .int .i64 o.key, .int .i64 o.value, lv]
theorem rsop_any (F F' : Nat → Prop) (o p : OpM) (lv pv : Value) (w : World) (h : IntsAt F w lv o.list) (h' : IntsAt F' w pv p.list) (hl : o.list.length ≤ 1000000) (hm : p.list.length ≤ 1000000) :
    Calls Try.prog 35 #[.agg #[.bool o.read, .int .i64 o.key, .int .i64 o.value, lv], .agg #[.bool p.read, .int .i64 p.key, .int .i64 p.value, pv]] w fun e w' => e = .returned (.bool (decide (o = p))) ∧ Below w.heap.size w w' := by
  have H : Hid (IntsAt F w lv o.list ∧ IntsAt F' w pv p.list) := ⟨h, h'⟩
  clear h h'
  by_cases h1 : (o.read == p.read) = true
  · by_cases h2 : (o.key == p.key) = true
    · by_cases h3 : (o.value == p.value) = true
      · have D : Hid (decide (o = p) = decide (o.list = p.list)) := by show _ = _; rw [op_dec, h1, h2, h3]; rfl
        go_enter Try.func35, Try.ntmps35
        go_wp2_with (go_at_call 51; (with_reducible refine (rsame1_any F F' lv pv o.list p.list _ (H.out.1.keep (((Below.refl _ _).alloc (Nat.le_refl _) _).alloc (by simp) _)) (H.out.2.keep (((Below.refl _ _).alloc (Nat.le_refl _) _).alloc (by simp) _)) hl hm).mono ?_); rintro e w1 ⟨rfl, hb⟩)
        go_ret
        exact ⟨by rw [D.out]; rfl, (((Below.refl _ _).alloc (Nat.le_refl _) _).alloc (by simp) _).trans (hb.mono (by simp; omega))⟩
      · have h3' : (o.value == p.value) = false := by simpa using h3
        have D : Hid (decide (o = p) = false) := by show _ = _; rw [op_dec, h3']; simp
        clear h3
        go_enter Try.func35, Try.ntmps35
        go_wp2
        go_ret
        exact ⟨by rw [D.out]; rfl, ((Below.refl _ _).alloc (Nat.le_refl _) _).alloc (by simp) _⟩
    · have h2' : (o.key == p.key) = false := by simpa using h2
      have D : Hid (decide (o = p) = false) := by show _ = _; rw [op_dec, h2']; simp
      clear h2
      go_enter Try.func35, Try.ntmps35
      go_wp2
      go_ret
      exact ⟨by rw [D.out]; rfl, ((Below.refl _ _).alloc (Nat.le_refl _) _).alloc (by simp) _⟩
  · have h1' : (o.read == p.read) = false := by simpa using h1
    have D : Hid (decide (o = p) = false) := by show _ = _; rw [op_dec, h1']; simp
    clear h1
    go_enter Try.func35, Try.ntmps35
    go_wp2
    go_ret
    exact ⟨by rw [D.out]; rfl, ((Below.refl _ _).alloc (Nat.le_refl _) _).alloc (by simp) _⟩
end Go.Proofs.Ytigmgkcojifbcaa.Hist

/- The program's Same, over slices.EqualFunc. -/
namespace Go.Proofs.Ytigmgkcojifbcaa.Hist
open Go.RowKit Go.Proofs.Ytigmgkcojifbcaa.Dig Go.Proofs.Ytigmgkcojifbcaa.Mem
set_option linter.unusedVariables false
set_option linter.unusedSimpArgs false

def OpsFew (os : List OpM) : Prop := os.length ≤ 1000000 ∧ ∀ o ∈ os, o.list.length ≤ 1000000
def TxnsFew (ts : List TxnM) : Prop := ts.length ≤ 1000000 ∧ ∀ t ∈ ts, OpsFew t.ops
theorem OpsFew.at {os : List OpM} (h : OpsFew os) {i : Nat} (hi : i < os.length) : os[i].list.length ≤ 1000000 := h.2 _ (List.getElem_mem hi)
theorem TxnsFew.at {ts : List TxnM} (h : TxnsFew ts) {i : Nat} (hi : i < ts.length) : OpsFew ts[i].ops := h.2 _ (List.getElem_mem hi)

def EqRel {α : Type} (w : World) (xs ys : List α) (i : Value) (wr : World) : Prop :=
  ∃ k : Nat, k ≤ xs.length ∧ i = .int .i64 (k : Int) ∧ Hid (xs.take k = ys.take k) ∧ Below w.heap.size w wr
theorem EqRel.next {α : Type} {w w' : World} {xs ys : List α} {k : Nat} {i : Value} (hx : k < xs.length) (hy : k < ys.length) (he : xs[k] = ys[k]) (h : Hid (xs.take k = ys.take k)) (hi : i = .int .i64 ((k + 1 : Nat) : Int)) (hb : Below w.heap.size w w') : EqRel w xs ys i w' :=
  ⟨k + 1, by omega, hi, hide (by rw [List.take_succ_eq_append_getElem hx, List.take_succ_eq_append_getElem hy, h.out, he]), hb⟩
theorem eq_of_take {α : Type} {xs ys : List α} (hl : xs.length = ys.length) {k : Nat} (hk : ¬ k < xs.length) (h : xs.take k = ys.take k) : xs = ys := by
  rwa [List.take_of_length_le (by omega), List.take_of_length_le (by omega)] at h
theorem ne_at {α : Type} {xs ys : List α} {k : Nat} (hx : k < xs.length) (hy : k < ys.length) (he : ¬ xs[k] = ys[k]) : ¬ xs = ys := by
  intro q; subst q; exact he rfl

end Go.Proofs.Ytigmgkcojifbcaa.Hist

/- The document's Same. -/
namespace Go.Proofs.Ytigmgkcojifbcaa.Hist
open Go.RowKit Go.Proofs.Ytigmgkcojifbcaa.Dig Go.Proofs.Ytigmgkcojifbcaa.Mem
set_option linter.unusedVariables false
set_option linter.unusedSimpArgs false

/-- Two transactions lie in variables. -/
def TwoVars (w : World) (t u : TxnM) (tv uv x y : Value) (wx : World) : Prop :=
  ∃ xb yb, x = .pointer (some ⟨xb, 0, none⟩) ∧ y = .pointer (some ⟨yb, 0, none⟩) ∧ Is wx xb #[.int .i64 t.id, .bool t.ab, tv] ∧ Is wx yb #[.int .i64 u.id, .bool u.ab, uv] ∧ Below w.heap.size w wx
theorem TwoVars.world {w : World} {t u : TxnM} {tv uv x y : Value} {wx : World} (h : TwoVars w t u tv uv x y wx) : ∃ W, W = wx := ⟨_, rfl⟩
theorem Is.three {w : World} {b : Nat} {v0 v1 v2 : Value} (h : Is w b #[v0, v1, v2]) :
    w.cell? ⟨b, 0, none⟩ = some v0 ∧ w.cell? ⟨b, 1, none⟩ = some v1 ∧ w.cell? ⟨b, 2, none⟩ = some v2 := ⟨h.cell 0 rfl, h.cell 1 rfl, h.cell 2 rfl⟩
theorem two_fst {W wr : World} (hb : Below W.heap.size W wr) (cs ds : Array Value) (T U : TypeId) :
    Is ((wr.alloc (.cells cs T)).alloc (.cells ds U)) wr.heap.size cs ∧ Is ((wr.alloc (.cells cs T)).alloc (.cells ds U)) (wr.heap.size + 1) ds ∧ Below W.heap.size W ((wr.alloc (.cells cs T)).alloc (.cells ds U)) := by
  have hs := hb.size
  exact ⟨(Is.made _ _ _ rfl).alloc _, Is.made _ _ _ (by simp), (hb.alloc hs _).alloc (by simp; omega) _⟩
set_option maxHeartbeats 2000000 in
theorem rsame_any (F F' : Nat → Prop) (v v' : Value) (ts us : List TxnM) (w : World) (h : TxnsAt F w v ts) (h' : TxnsAt F' w v' us) (ho : TxnsFew ts) (hp : TxnsFew us) :
    Calls Try.prog 16 #[.agg #[v], .agg #[v']] w fun e w' => e = .returned (.bool (decide (ts = us))) ∧ Below w.heap.size w w' := by
  obtain ⟨a, c, rfl, _, _⟩ := h.shape
  obtain ⟨b, d, rfl, _, _⟩ := h'.shape
  have H : Hid (TxnsAt F w (.slice a ts.length c) ts ∧ TxnsAt F' w (.slice b us.length d) us) := ⟨h, h'⟩
  have L : Hid (TxnsFew ts ∧ TxnsFew us) := ⟨ho, hp⟩
  have ho1 := ho.1
  have hp1 := hp.1
  clear h h' ho hp
  by_cases hnm : ts.length = us.length
  · have g0 : ((ts.length : Int) != us.length) = false := by simp [hnm]
    have HN : Hid (ts.length = us.length) := hnm
    clear hnm
    go_enter Try.func16, Try.ntmps16
    go_wp2
    go_loopw [5] (fun i wr => EqRel ((w.alloc (.cells #[.slice a ts.length c] 24)).alloc (.cells #[.slice b us.length d] 24)) ts us i wr) (fun i _ => ts.length - (intOf i).toNat)
    case atStart => exact ⟨0, by omega, rfl, hide rfl, Below.refl _ _⟩
    case round =>
      obtain ⟨k, hk, rfl, hj, hbel⟩ := hrel
      have hB : Below w.heap.size w wr := (((Below.refl _ _).alloc (Nat.le_refl _) _).alloc (by simp) _).trans (hbel.mono (by simp; omega))
      have X0 : wr.cell? ⟨w.heap.size, 0, none⟩ = some (.slice a ts.length c) := Is.cell (((Is.made w #[.slice a ts.length c] 24 rfl).alloc _).below hbel) 0 rfl
      have Y0 : wr.cell? ⟨w.heap.size + 1, 0, none⟩ = some (.slice b us.length d) := Is.cell ((Is.made (w.alloc _) #[.slice b us.length d] 24 (by simp)).below hbel) 0 rfl
      have hz : w.heap.size + 1 < wr.heap.size := by have := hbel.size; simp at this; omega
      by_cases hlt : k < ts.length
      · have hlt2 : k < us.length := by rw [← HN.out]; exact hlt
        have i1 : (k : Int) < (ts.length : Int) := by omega
        have i2 : (k : Int) < (us.length : Int) := by omega
        obtain ⟨b1, o1, l1, q1, rfl, _, hb1, c0, c1, c2, hi1, _⟩ := (H.out.1.keep hB).at hlt
        obtain ⟨b2, o2, l2, q2, rfl, _, hb2, d0, d1, d2, hi2, _⟩ := (H.out.2.keep hB).at hlt2
        have HI : Hid (OpsAt F wr _ ts[k].ops ∧ OpsAt F' wr _ us[k].ops) := ⟨hi1, hi2⟩
        have HL : Hid (OpsFew ts[k].ops ∧ OpsFew us[k].ops) := ⟨L.out.1.at hlt, L.out.2.at hlt2⟩
        clear hi1 hi2
        have n1 := World.new_ne wr _ X0
        have n2 := World.new_ne wr _ Y0
        have n3 := World.new_ne wr _ c0
        have n4 := World.new_ne wr _ d0
        go_upto_region 6 with fail
        go_cut [6, 7] (fun x y wx => TwoVars wr ts[k] us[k] (.slice l1 ts[k].ops.length q1) (.slice l2 us[k].ops.length q2) x y wx)
        case first =>
          go_region_held3 (fun w' => w'.cell? ⟨w.heap.size, 0, none⟩ = some (.slice (some ⟨b1, o1, none⟩) ts.length c) ∧ w'.cell? ⟨w.heap.size + 1, 0, none⟩ = some (.slice (some ⟨b2, o2, none⟩) us.length d) ∧
              w'.cell? ⟨b1, o1 + k * 3, none⟩ = some (.int .i64 ts[k].id) ∧ w'.cell? ⟨b1, o1 + k * 3 + 1, none⟩ = some (.bool ts[k].ab) ∧ w'.cell? ⟨b1, o1 + k * 3 + 2, none⟩ = some (.slice l1 ts[k].ops.length q1) ∧
              w'.cell? ⟨b2, o2 + k * 3, none⟩ = some (.int .i64 us[k].id) ∧ w'.cell? ⟨b2, o2 + k * 3 + 1, none⟩ = some (.bool us[k].ab) ∧ w'.cell? ⟨b2, o2 + k * 3 + 2, none⟩ = some (.slice l2 us[k].ops.length q2)) (go_keep) (fail)
          all_goals
            go_wp2_with fail
            go_meet
            case rel =>
              first
              | (obtain ⟨p1, p2, p3⟩ := two_fst (Below.refl wr.heap.size wr) #[.int .i64 ts[k].id, .bool ts[k].ab, .slice l1 ts[k].ops.length q1] #[.int .i64 us[k].id, .bool us[k].ab, .slice l2 us[k].ops.length q2] 48 48; exact ⟨_, _, rfl, rfl, p1, p2, p3.drew⟩)
              | (obtain ⟨p1, p2, p3⟩ := two_fst (Below.refl wr.heap.size wr) #[.int .i64 us[k].id, .bool us[k].ab, .slice l2 us[k].ops.length q2] #[.int .i64 ts[k].id, .bool ts[k].ab, .slice l1 ts[k].ops.length q1] 48 48; exact ⟨_, _, rfl, rfl, p2, p1, p3.drew⟩)
        case rest =>
          obtain ⟨wx, ewx⟩ := TwoVars.world hcut
          subst ewx
          obtain ⟨xb, yb, rfl, rfl, hx, hy, hbx⟩ := hcut
          obtain ⟨x0, x1, x2⟩ := Is.three hx
          obtain ⟨y0, y1, y2⟩ := Is.three hy
          have HX : Hid (Is wx xb _ ∧ Is wx yb _) := ⟨hx, hy⟩
          have HB : Hid (Below w.heap.size w wx) := hB.trans (hbx.mono hB.size)
          have HBL : Hid (Below ((w.alloc (.cells #[.slice (some ⟨b1, o1, none⟩) ts.length c] 24)).alloc (.cells #[.slice (some ⟨b2, o2, none⟩) us.length d] 24)).heap.size ((w.alloc (.cells #[.slice (some ⟨b1, o1, none⟩) ts.length c] 24)).alloc (.cells #[.slice (some ⟨b2, o2, none⟩) us.length d] 24)) wx) := hbel.trans (hbx.mono hbel.size)
          have HJ : Hid (OpsAt F wx _ ts[k].ops ∧ OpsAt F' wx _ us[k].ops) := ⟨HI.out.1.keep hbx, HI.out.2.keep hbx⟩
          clear hx hy hbx hB hbel c0 c1 c2 d0 d1 d2 X0 Y0 n1 n2 n3 n4 H HI
          by_cases h1 : (ts[k].id != us[k].id) = true
          · have HE : Hid (decide (ts = us) = false) := by show _ = _; simpa using ne_at hlt hlt2 (fun q => by rw [q] at h1; simp at h1)
            go_wp2
            go_ret
            exact ⟨by rw [HE.out]; rfl, HB.out⟩
          have h1' : (ts[k].id != us[k].id) = false := by simpa using h1
          clear h1
          by_cases h2 : ¬ ts[k].ab = us[k].ab
          · have HE : Hid (decide (ts = us) = false) := by show _ = _; simpa using ne_at hlt hlt2 (fun q => h2 (by rw [q]))
            have h2' : (ts[k].ab == us[k].ab) = false := by simpa using h2
            go_wp2
            go_ret
            exact ⟨by rw [HE.out]; rfl, HB.out⟩
          have h2' : (ts[k].ab == us[k].ab) = true := by simpa using h2
          have H2 : Hid (ts[k].ab = us[k].ab) := by show _ = _; simpa using h2
          have H1 : Hid (ts[k].id = us[k].id) := by show _ = _; simpa using h1'
          clear h2
          by_cases h3 : ts[k].ops.length = us[k].ops.length
          rotate_left
          · have HE : Hid (decide (ts = us) = false) := by show _ = _; simpa using ne_at hlt hlt2 (fun q => by rw [q] at h3; exact h3 rfl)
            have h3' : ((ts[k].ops.length : Int) != us[k].ops.length) = true := by simp; omega
            clear h3
            go_wp2
            go_ret
            exact ⟨by rw [HE.out]; rfl, HB.out⟩
          have h3' : ((ts[k].ops.length : Int) != us[k].ops.length) = false := by simp [h3]
          have H3 : Hid (ts[k].ops.length = us[k].ops.length) := h3
          clear h3
          have ho2 := HL.out.1.1
          have hp2 := HL.out.2.1
          go_wp2
          go_loopw [8] (fun i wr => EqRel wx ts[k].ops us[k].ops i wr) (fun i _ => ts[k].ops.length - (intOf i).toNat)
          case atStart => exact ⟨0, by omega, rfl, hide rfl, Below.refl _ _⟩
          case round =>
            obtain ⟨j, hk2, rfl, hj2, hbel2⟩ := hrel
            have x2 := Is.cell (HX.out.1.below hbel2) 2 rfl
            have y2 := Is.cell (HX.out.2.below hbel2) 2 rfl
            have hs2 := hbel2.size
            by_cases hlt3 : j < ts[k].ops.length
            · have hlt4 : j < us[k].ops.length := by rw [← H3.out]; exact hlt3
              have i3 : (j : Int) < (ts[k].ops.length : Int) := by omega
              have i4 : (j : Int) < (us[k].ops.length : Int) := by omega
              obtain ⟨b3, o3, l3, q3, rfl, _, hb3, c0, c1, c2, c3, hi1, _⟩ := (HJ.out.1.keep hbel2).at hlt3
              obtain ⟨b4, o4, l4, q4, rfl, _, hb4, d0, d1, d2, d3, hi2, _⟩ := (HJ.out.2.keep hbel2).at hlt4
              have HI : Hid (IntsAt F _ _ ts[k].ops[j].list ∧ IntsAt F' _ _ us[k].ops[j].list) := ⟨hi1, hi2⟩
              have hl1 := HL.out.1.at hlt3
              have hl2 := HL.out.2.at hlt4
              clear hi1 hi2 x0 x1 y0 y1
              by_cases he : ts[k].ops[j] = us[k].ops[j]
              · have HE : Hid (ts[k].ops[j] = us[k].ops[j]) := he
                have HD : Hid (decide (ts[k].ops[j] = us[k].ops[j]) = true) := by show _ = _; simpa using he
                clear he
                go_wp2
                go_region_with (go_at_call 35; (with_reducible refine (rsop_any F F' ts[k].ops[j] us[k].ops[j] _ _ _ (HI.out.1.keep (Below.refl _ _).drew) (HI.out.2.keep (Below.refl _ _).drew) hl1 hl2).mono ?_); rw [HD.out]; rintro e w1 ⟨rfl, hb⟩; replace hb := hide hb)
                all_goals
                  go_simp
                  go_wp2
                  go_roundw
                  case rel => exact EqRel.next hlt3 hlt4 HE.out hj2 (by go_num) ((hbel2.drew).trans (hb.out.mono hs2))
                  case measure => simp [intOf]; omega
              · have HE : Hid (decide (ts = us) = false) := by show _ = _; simpa using ne_at hlt hlt2 (fun q => ne_at hlt3 hlt4 he (by rw [q]))
                have HD : Hid (decide (ts[k].ops[j] = us[k].ops[j]) = false) := by show _ = _; simpa using he
                clear he
                go_wp2
                go_region_with (go_at_call 35; (with_reducible refine (rsop_any F F' ts[k].ops[j] us[k].ops[j] _ _ _ (HI.out.1.keep (Below.refl _ _).drew) (HI.out.2.keep (Below.refl _ _).drew) hl1 hl2).mono ?_); rw [HD.out]; rintro e w1 ⟨rfl, hb⟩; replace hb := hide hb)
                all_goals
                  go_simp
                  go_wp2
                  go_ret
                  exact ⟨by rw [HE.out]; rfl, HB.out.trans (((hbel2.drew).trans (hb.out.mono hs2)).mono HB.out.size)⟩
            · have HE : Hid (ts[k] = us[k]) := by
                show _ = _
                have q := eq_of_take H3.out hlt3 hj2.out
                rcases ht : ts[k] with ⟨i, a, o⟩
                rcases hu : us[k] with ⟨i', a', o'⟩
                have r1 := H1.out
                have r2 := H2.out
                rw [ht, hu] at q r1 r2
                simp at q r1 r2
                rw [q, r1, r2]
              clear x0 x1 y0 y1
              go_wp2
              go_roundw
              case rel => exact EqRel.next hlt hlt2 HE.out hj (by go_num) (HBL.out.trans (hbel2.mono HBL.out.size))
              case measure => simp [intOf]; omega
      · have HE : Hid (decide (ts = us) = true) := by show _ = _; simpa using eq_of_take HN.out hlt hj.out
        go_wp2
        go_ret
        exact ⟨by rw [HE.out]; rfl, hB⟩
  · have g0 : ((ts.length : Int) != us.length) = true := by simp; omega
    have HE : Hid (decide (ts = us) = false) := by show _ = _; simp; intro q; exact hnm (by rw [q])
    clear hnm
    go_enter Try.func16, Try.ntmps16
    go_wp2
    go_ret
    exact ⟨by rw [HE.out]; rfl, ((Below.refl _ _).alloc (Nat.le_refl _) _).alloc (by simp) _⟩
end Go.Proofs.Ytigmgkcojifbcaa.Hist
