/- The document's Decode: its own words of bytes. -/
import Derived.Test.YtkdggnfjefgonaaHistRefAny
import Derived.Test.YtkdggnfjefgonaaHistLines
namespace Go.Proofs.Ytkdggnfjefgonaa.Hist
open Go.RowKit Go.Proofs.Ytkdggnfjefgonaa.Dig Go.Proofs.Ytkdggnfjefgonaa.Mem
set_option linter.unusedVariables false
set_option linter.unusedSimpArgs false
attribute [local go_sem ↓] Go.wp_at_zero Go.wp_at_succ

theorem FewL.le {ts : List TxnM} (h : FewL ts) : ts.length ≤ 100000 := by have := h.1; omega
theorem FewL.ops {ts : List TxnM} (h : FewL ts) : opsN ts ≤ 100000 := by have := h.2; omega
/-- The midst of Decode: the answer's variable, the history's, and how far it is. -/
structure RefSt (w : World) (a : Option Addr) (len : Nat) (z : Nat → Int) (most : Int) (r : List TxnM × Int × Int) (k : Nat) (ts : List TxnM) (tv : Value) (wr : World) : Prop where
  le : k ≤ len
  hi : Is wr w.heap.size #[.slice none 0 0]
  hj : Is wr (w.heap.size + 1) #[tv]
  t : TxnsAt (fun b => w.heap.size + 1 < b) wr tv ts
  below : Below w.heap.size w wr
  few : FewL ts
  go : ∀ f, len - k ≤ f → decL z len most f ts k = r
section
variable {w wr wx : World} {a : Option Addr} {len k : Nat} {z : Nat → Int} {most : Int} {r : List TxnM × Int × Int} {ts : List TxnM} {tv tv' : Value}
theorem RefSt.start (T : TypeId) (hr : ∀ f, len ≤ f → decL z len most f [] 0 = r) : RefSt w a len z most r 0 [] (.slice none 0 0) ((w.alloc (.cells #[.slice none 0 0] T)).alloc (.cells #[.slice none 0 0] T)) := by
  have h1 := Is.made w #[.slice none 0 0] T rfl
  have h2 := Is.made (w.alloc (.cells #[.slice none 0 0] T)) #[.slice none 0 0] T rfl
  have hs : (w.alloc (.cells #[.slice none 0 0] T)).heap.size = w.heap.size + 1 := by simp
  rw [hs] at h2
  exact ⟨by omega, h1.alloc _, h2, TxnsAt.nil, ((Below.refl _ _).alloc (Nat.le_refl _) _).alloc (by simp) _, ⟨by simp, by simp [opsN]⟩, fun f hf => hr f (by omega)⟩
theorem RefSt.next (h : RefSt w a len z most r k ts tv wr) (hm : most ≤ 4096) (hk : k < len) (he : (lineS z len most ts k).e = 0) (hb : Below wr.heap.size wr wx) (ht : TxnsAt (fun b => w.heap.size + 1 < b ∨ wr.heap.size ≤ b) wx tv' (lineS z len most ts k).ts) :
    RefSt w a len z most r (lineS z len most ts k).nx (lineS z len most ts k).ts tv' (wx.setCell ⟨w.heap.size + 1, 0, none⟩ tv') ∧ k < (lineS z len most ts k).nx := by
  have hlt := h.hj.lt
  have hO : Only (fun q => q = w.heap.size + 1) wx (wx.setCell ⟨w.heap.size + 1, 0, none⟩ tv') := (Only.refl _ _).put 0 _
  rcases line_two (most := most) (ts := ts) (z := z) hk with ⟨_, g1, g2, _⟩ | ⟨e, _⟩
  rotate_left
  · exact absurd he e
  refine ⟨⟨g2, (h.hi.below hb).keep hO (by omega), (h.hj.below hb).set 0 tv', (ht.mono (fun b q => show w.heap.size + 1 < b by omega)).only hO (fun b q => by omega), (h.below.trans (hb.mono h.below.size)).only hO (fun q hq => by omega) (by have := (h.hj.below hb).lt; omega), h.few.line hm, fun f hf => ?_⟩, g1⟩
  have := h.go (len - k - 1 + 1) (by omega)
  rw [decL, if_pos hk, if_pos he] at this
  rw [← this]
  exact decL_fuel _ _ _ _ hf (by omega)
theorem RefSt.bad (h : RefSt w a len z most r k ts tv wr) (hk : k < len) (he : ¬ (lineS z len most ts k).e = 0) : r = ([], (lineS z len most ts k).e, (lineS z len most ts k).wh) := by
  have := h.go (len - k - 1 + 1) (by omega)
  rw [decL, if_pos hk, if_neg he] at this
  exact this.symm
theorem RefSt.exit (h : RefSt w a len z most r k ts tv wr) : (wr.setCell ⟨w.heap.size, 0, none⟩ tv).cell? ⟨w.heap.size, 0, none⟩ = some tv ∧ TxnsAt (fun b => w.heap.size ≤ b) (wr.setCell ⟨w.heap.size, 0, none⟩ tv) tv ts ∧ Below w.heap.size w (wr.setCell ⟨w.heap.size, 0, none⟩ tv) := by
  have hO : Only (fun q => q = w.heap.size) wr (wr.setCell ⟨w.heap.size, 0, none⟩ tv) := (Only.refl _ _).put 0 _
  exact ⟨Is.cell (h.hi.set 0 tv) 0 rfl, (h.t.only hO (fun b q => by omega)).mono (fun b q => by omega), h.below.only hO (fun q hq => by omega) (by have := h.hi.lt; omega)⟩
theorem RefSt.leave0 (h : RefSt w a len z most r k ts tv wr) : Below w.heap.size w (wr.setCell ⟨w.heap.size, 0, none⟩ (.slice none 0 0)) ∧ (wr.setCell ⟨w.heap.size, 0, none⟩ (.slice none 0 0)).cell? ⟨w.heap.size, 0, none⟩ = some (.slice none 0 0) :=
  ⟨h.below.only ((Only.refl (fun q => q = w.heap.size) _).put 0 _) (fun q hq => by omega) (by have := h.hi.lt; omega), Is.cell (h.hi.set 0 (.slice none 0 0)) 0 rfl⟩
/-- .. what is left of the two variables when it is left with an error. -/
theorem RefSt.leave (h : RefSt w a len z most r k ts tv wr) (hb : Below wr.heap.size wr wx) :
    Below w.heap.size w ((wx.setCell ⟨w.heap.size + 1, 0, none⟩ tv').setCell ⟨w.heap.size, 0, none⟩ (.slice none 0 0)) ∧ ((wx.setCell ⟨w.heap.size + 1, 0, none⟩ tv').setCell ⟨w.heap.size, 0, none⟩ (.slice none 0 0)).cell? ⟨w.heap.size, 0, none⟩ = some (.slice none 0 0) := by
  have hO : Only (fun q => q = w.heap.size + 1 ∨ q = w.heap.size) wx ((wx.setCell ⟨w.heap.size + 1, 0, none⟩ tv').setCell ⟨w.heap.size, 0, none⟩ (.slice none 0 0)) := (((Only.refl _ _).put 0 _).mono (fun q hq => .inl hq)).trans (((Only.refl _ _).put 0 _).mono (fun q hq => .inr hq))
  have h1 := (h.hi.below hb).keep ((Only.refl (fun q => q = w.heap.size + 1) wx).put 0 tv') (by omega)
  exact ⟨(h.below.trans (hb.mono h.below.size)).only hO (fun q hq => by omega) (by have := (h.hj.below hb).lt; omega), Is.cell (h1.set 0 (.slice none 0 0)) 0 rfl⟩
end
set_option maxRecDepth 20000 in
set_option maxHeartbeats 4000000 in
theorem rdec_any (a : Option Addr) (len cap : Nat) (z : Nat → Int) (most : Int) (w : World) (hr : Rd .u8 w a len z) (hc : len ≤ cap) :
    Calls Try.prog 9 #[.slice a len cap, .int .i64 most] w fun e w' => ∃ tv, e = .returned (.tuple #[.agg #[tv], .int .i64 (decS z len most).2.1, .int .i64 (decS z len most).2.2]) ∧ TxnsAt (fun b => w.heap.size ≤ b) w' tv (decS z len most).1 ∧ Below w.heap.size w w' ∧ (decS z len most).1.length ≤ 1024 ∧ opsN (decS z len most).1 ≤ 5000 := by
  have HR := hide hr
  have hl := hr.1
  clear hr
  by_cases h1 : most < 0 ∨ 4096 < most
  · have HS : Hid (decS z len most = ([], 2, 0)) := if_pos h1
    rcases h1 with h1 | h1
    · go_enter Try.func9, Try.ntmps9
      go_wp2
      refine bodyPost_ret (v := .tuple #[.agg #[.slice none 0 0], .int .i64 2, .int .i64 0]) (by simp [results, Try.results9, go_sem]) rfl ⟨.slice none 0 0, by rw [HS.out], ?_, two_below _ _ _ _ _, ?_⟩
      all_goals rw [HS.out]
      · exact TxnsAt.nil
      · exact ⟨by simp, by simp [opsN]⟩
    · have h1' : ¬ most < 0 := by omega
      go_enter Try.func9, Try.ntmps9
      go_wp2
      refine bodyPost_ret (v := .tuple #[.agg #[.slice none 0 0], .int .i64 2, .int .i64 0]) (by simp [results, Try.results9, go_sem]) rfl ⟨.slice none 0 0, by rw [HS.out], ?_, two_below _ _ _ _ _, ?_⟩
      all_goals rw [HS.out]
      · exact TxnsAt.nil
      · exact ⟨by simp, by simp [opsN]⟩
  have h2 : ¬ most < 0 := fun q => h1 (.inl q)
  have h3 : ¬ 4096 < most := fun q => h1 (.inr q)
  have hm : most ≤ 4096 := by omega
  by_cases h4 : 262144 < len
  · have HS : Hid (decS z len most = ([], 3, 262144)) := by show _ = _; unfold decS; rw [if_neg h1, if_pos h4]
    have h4' : (262144 : Int) < (len : Int) := by omega
    clear h1
    go_enter Try.func9, Try.ntmps9
    go_wp2
    refine bodyPost_ret (v := .tuple #[.agg #[.slice none 0 0], .int .i64 3, .int .i64 262144]) (by simp [results, Try.results9, go_sem]) rfl ⟨.slice none 0 0, by rw [HS.out], ?_, two_below _ _ _ _ _, ?_⟩
    all_goals rw [HS.out]
    · exact TxnsAt.nil
    · exact ⟨by simp, by simp [opsN]⟩
  have HS : Hid (decS z len most = decL z len most len [] 0) := by show _ = _; unfold decS; rw [if_neg h1, if_neg h4]
  have h4' : ¬ (262144 : Int) < (len : Int) := by omega
  obtain ⟨r, hr⟩ : ∃ r, decL z len most len [] 0 = r := ⟨_, rfl⟩
  have ST0 : Hid (RefSt w a len z most r 0 [] (.slice none 0 0) ((w.alloc (.cells #[.slice none 0 0] 26)).alloc (.cells #[.slice none 0 0] 26))) := hide (RefSt.start _ (fun f hf => by rw [← hr]; exact decL_fuel _ _ _ _ (by omega) (by omega)))
  have HRR := hide hr
  clear h1 hr
  go_enter Try.func9, Try.ntmps9
  go_wp2
  go_loopw [8] (fun i wr => ∃ k ts tv, i = .int .i64 ((k : Nat) : Int) ∧ RefSt w a len z most r k ts tv wr) (fun i _ => len - (intOf i).toNat)
  case atStart => exact ⟨0, [], _, rfl, ST0.out⟩
  case round =>
    obtain ⟨k, ts, tv, rfl, hst⟩ := hrel
    have ST := hide hst
    obtain ⟨ta, tcap, rfl, -, -⟩ := hst.t.shape
    obtain ⟨ci, fi⟩ := Is.one hst.hi
    obtain ⟨cj, fj⟩ := Is.one hst.hj
    have hi1 := hst.hi.lt
    have hj1 := hst.hj.lt
    have hRr : Rd .u8 wr a len z := HR.out.only (Only.of_below (S := fun _ => False) hst.below) (fun _ _ q => q)
    have HRr := hide hRr
    by_cases hk : k < len
    rotate_left
    · have HK : Hid (r = (ts, 0, 0)) := by show _ = _; rw [← hst.go (len - k) (Nat.le_refl _), decL_done (by omega)]
      have hkk : ¬ (k : Int) < (len : Int) := by omega
      clear hst hRr hk
      go_wp2
      obtain ⟨k1, k2, k3⟩ := RefSt.exit ST.out
      refine bodyPost_ret (v := .tuple #[.agg #[.slice ta ts.length tcap], .int .i64 0, .int .i64 0]) (by simp [results, Try.results9, go_sem, k1]) rfl ⟨_, by rw [HS.out, HRR.out, HK.out], ?_, k3, ?_⟩
      all_goals rw [HS.out, HRR.out, HK.out]
      · exact k2
      · exact ⟨ST.out.few.1, by have := ST.out.few.2; show opsN ts ≤ 5000; omega⟩
    have hkk : (k : Int) < (len : Int) := by omega
    have HKK := hide hk
    obtain ⟨bb, off, rfl, hcl, hz1, hz2⟩ := hRr.u8 hk
    obtain ⟨x, hx⟩ : ∃ x, (lineS z len most ts k).e = x := ⟨_, rfl⟩
    obtain ⟨y, hy⟩ : ∃ y, (lineS z len most ts k).wh = y := ⟨_, rfl⟩
    obtain ⟨n, hn⟩ : ∃ n, (lineS z len most ts k).nx = n := ⟨_, rfl⟩
    have HX : Hid ((lineS z len most ts k).e = x) := hide hx
    have HN : Hid ((lineS z len most ts k).nx = n) := hn
    have HY : Hid ((lineS z len most ts k).wh = y) := hy
    have hbb : bb < w.heap.size := HR.out.lt (by omega) _ rfl
    have hb1 : bb ≠ w.heap.size + 1 := by omega
    have hb2 : w.heap.size + 1 ≠ bb := by omega
    clear hst hRr hk
    by_cases z1 : z k = 116
    · have b1 : (z k == 116) = true := by rw [z1]; rfl
      have b2 : (z k == 97) = false := by rw [z1]; rfl
      have b3 : (z k == 114) = false := by rw [z1]; rfl
      have HLS : Hid (txnS z len ts k = lineS z len most ts k) := by show _ = _; unfold lineS; rw [if_pos z1]
      clear z1
      by_cases hx0 : x = 0
      · subst hx0
        go_wp2_with (go_at_call 18; go_must ((with_reducible refine (rtxn_any (fun b => w.heap.size + 1 < b) _ ts _ len cap z k _ ST.out.t HRr.out hc HKK.out (by omega) ST.out.few.le).mono ?_); rw [HLS.out, HX.out, HN.out, HY.out]; rintro e w2 ⟨tv2, rfl, ht2, hb2⟩; obtain ⟨ta2, tcap2, rfl, -, -⟩ := ht2.shape; have HT2 := hide ht2; have HB2 := hide hb2; have HI2 := hide (ST.out.hi.below hb2); have HJ2 := hide (ST.out.hj.below hb2); obtain ⟨ci2, fi2⟩ := Is.one HI2.out; obtain ⟨cj2, fj2⟩ := Is.one HJ2.out; have hcl2 := bel_cell hb2 hcl; clear ht2 hb2))
        have NX := RefSt.next ST.out hm HKK.out HX.out HB2.out HT2.out
        rw [HN.out] at NX
        exact ⟨⟨n, _, _, rfl, NX.1⟩, by have := NX.2; have := NX.1.le; simp [intOf]; omega⟩
      · have bx : (x != 0) = true := by simpa using hx0
        have HX0 := hide hx0
        clear hx0
        go_wp2_with (go_at_call 18; go_must ((with_reducible refine (rtxn_any (fun b => w.heap.size + 1 < b) _ ts _ len cap z k _ ST.out.t HRr.out hc HKK.out (by omega) ST.out.few.le).mono ?_); rw [HLS.out, HX.out, HN.out, HY.out]; rintro e w2 ⟨tv2, rfl, ht2, hb2⟩; obtain ⟨ta2, tcap2, rfl, -, -⟩ := ht2.shape; have HT2 := hide ht2; have HB2 := hide hb2; have HI2 := hide (ST.out.hi.below hb2); have HJ2 := hide (ST.out.hj.below hb2); obtain ⟨ci2, fi2⟩ := Is.one HI2.out; obtain ⟨cj2, fj2⟩ := Is.one HJ2.out; have hcl2 := bel_cell hb2 hcl; clear ht2 hb2))
        obtain ⟨k1, k2⟩ := RefSt.leave (tv' := .slice ta2 (lineS z len most ts k).ts.length tcap2) ST.out HB2.out
        have HQ := RefSt.bad ST.out HKK.out (by rw [HX.out]; exact HX0.out)
        rw [HX.out, HY.out] at HQ
        refine bodyPost_ret (v := .tuple #[.agg #[.slice none 0 0], .int .i64 x, .int .i64 y]) (by simp [results, Try.results9, go_sem, k2]) rfl ⟨_, by rw [HS.out, HRR.out, HQ], ?_, k1, ?_⟩
        all_goals rw [HS.out, HRR.out, HQ]
        · exact TxnsAt.nil
        · exact ⟨by simp, by simp [opsN]⟩
    have b1 : (z k == 116) = false := by simpa using z1
    by_cases z2 : z k = 97
    · have b2 : (z k == 97) = true := by rw [z2]; rfl
      have HLS : Hid (opS z len most ts k = lineS z len most ts k) := by show _ = _; unfold lineS; rw [if_neg z1, if_pos (by omega)]
      have HZ : Hid (z k = 97 ∨ z k = 114) := hide (.inl z2)
      clear z1
      by_cases hx0 : x = 0
      · subst hx0
        go_wp2_with (go_at_call 19; go_must ((with_reducible refine (rop_any (fun b => w.heap.size + 1 < b) _ ts _ len cap z k most _ ST.out.t HRr.out hc HKK.out (by omega) ST.out.few.le ST.out.few.ops HZ.out).mono ?_); rw [HLS.out, HX.out, HN.out, HY.out]; rintro e w2 ⟨tv2, rfl, ht2, hb2⟩; obtain ⟨ta2, tcap2, rfl, -, -⟩ := ht2.shape; have HT2 := hide ht2; have HB2 := hide hb2; have HI2 := hide (ST.out.hi.below hb2); have HJ2 := hide (ST.out.hj.below hb2); obtain ⟨ci2, fi2⟩ := Is.one HI2.out; obtain ⟨cj2, fj2⟩ := Is.one HJ2.out; have hcl2 := bel_cell hb2 hcl; clear ht2 hb2))
        have NX := RefSt.next ST.out hm HKK.out HX.out HB2.out HT2.out
        rw [HN.out] at NX
        exact ⟨⟨n, _, _, rfl, NX.1⟩, by have := NX.2; have := NX.1.le; simp [intOf]; omega⟩
      · have bx : (x != 0) = true := by simpa using hx0
        have HX0 := hide hx0
        clear hx0
        go_wp2_with (go_at_call 19; go_must ((with_reducible refine (rop_any (fun b => w.heap.size + 1 < b) _ ts _ len cap z k most _ ST.out.t HRr.out hc HKK.out (by omega) ST.out.few.le ST.out.few.ops HZ.out).mono ?_); rw [HLS.out, HX.out, HN.out, HY.out]; rintro e w2 ⟨tv2, rfl, ht2, hb2⟩; obtain ⟨ta2, tcap2, rfl, -, -⟩ := ht2.shape; have HT2 := hide ht2; have HB2 := hide hb2; have HI2 := hide (ST.out.hi.below hb2); have HJ2 := hide (ST.out.hj.below hb2); obtain ⟨ci2, fi2⟩ := Is.one HI2.out; obtain ⟨cj2, fj2⟩ := Is.one HJ2.out; have hcl2 := bel_cell hb2 hcl; clear ht2 hb2))
        obtain ⟨k1, k2⟩ := RefSt.leave (tv' := .slice ta2 (lineS z len most ts k).ts.length tcap2) ST.out HB2.out
        have HQ := RefSt.bad ST.out HKK.out (by rw [HX.out]; exact HX0.out)
        rw [HX.out, HY.out] at HQ
        refine bodyPost_ret (v := .tuple #[.agg #[.slice none 0 0], .int .i64 x, .int .i64 y]) (by simp [results, Try.results9, go_sem, k2]) rfl ⟨_, by rw [HS.out, HRR.out, HQ], ?_, k1, ?_⟩
        all_goals rw [HS.out, HRR.out, HQ]
        · exact TxnsAt.nil
        · exact ⟨by simp, by simp [opsN]⟩
    have b2 : (z k == 97) = false := by simpa using z2
    by_cases z3 : z k = 114
    · have b3 : (z k == 114) = true := by rw [z3]; rfl
      have HLS : Hid (opS z len most ts k = lineS z len most ts k) := by show _ = _; unfold lineS; rw [if_neg z1, if_pos (by omega)]
      have HZ : Hid (z k = 97 ∨ z k = 114) := hide (.inr z3)
      clear z1
      by_cases hx0 : x = 0
      · subst hx0
        go_wp2_with (go_at_call 19; go_must ((with_reducible refine (rop_any (fun b => w.heap.size + 1 < b) _ ts _ len cap z k most _ ST.out.t HRr.out hc HKK.out (by omega) ST.out.few.le ST.out.few.ops HZ.out).mono ?_); rw [HLS.out, HX.out, HN.out, HY.out]; rintro e w2 ⟨tv2, rfl, ht2, hb2⟩; obtain ⟨ta2, tcap2, rfl, -, -⟩ := ht2.shape; have HT2 := hide ht2; have HB2 := hide hb2; have HI2 := hide (ST.out.hi.below hb2); have HJ2 := hide (ST.out.hj.below hb2); obtain ⟨ci2, fi2⟩ := Is.one HI2.out; obtain ⟨cj2, fj2⟩ := Is.one HJ2.out; have hcl2 := bel_cell hb2 hcl; clear ht2 hb2))
        have NX := RefSt.next ST.out hm HKK.out HX.out HB2.out HT2.out
        rw [HN.out] at NX
        exact ⟨⟨n, _, _, rfl, NX.1⟩, by have := NX.2; have := NX.1.le; simp [intOf]; omega⟩
      · have bx : (x != 0) = true := by simpa using hx0
        have HX0 := hide hx0
        clear hx0
        go_wp2_with (go_at_call 19; go_must ((with_reducible refine (rop_any (fun b => w.heap.size + 1 < b) _ ts _ len cap z k most _ ST.out.t HRr.out hc HKK.out (by omega) ST.out.few.le ST.out.few.ops HZ.out).mono ?_); rw [HLS.out, HX.out, HN.out, HY.out]; rintro e w2 ⟨tv2, rfl, ht2, hb2⟩; obtain ⟨ta2, tcap2, rfl, -, -⟩ := ht2.shape; have HT2 := hide ht2; have HB2 := hide hb2; have HI2 := hide (ST.out.hi.below hb2); have HJ2 := hide (ST.out.hj.below hb2); obtain ⟨ci2, fi2⟩ := Is.one HI2.out; obtain ⟨cj2, fj2⟩ := Is.one HJ2.out; have hcl2 := bel_cell hb2 hcl; clear ht2 hb2))
        obtain ⟨k1, k2⟩ := RefSt.leave (tv' := .slice ta2 (lineS z len most ts k).ts.length tcap2) ST.out HB2.out
        have HQ := RefSt.bad ST.out HKK.out (by rw [HX.out]; exact HX0.out)
        rw [HX.out, HY.out] at HQ
        refine bodyPost_ret (v := .tuple #[.agg #[.slice none 0 0], .int .i64 x, .int .i64 y]) (by simp [results, Try.results9, go_sem, k2]) rfl ⟨_, by rw [HS.out, HRR.out, HQ], ?_, k1, ?_⟩
        all_goals rw [HS.out, HRR.out, HQ]
        · exact TxnsAt.nil
        · exact ⟨by simp, by simp [opsN]⟩
    have b3 : (z k == 114) = false := by simpa using z3
    have HLS : Hid (lineS z len most ts k = ⟨ts, 0, 4, (k : Int)⟩) := by show _ = _; unfold lineS; rw [if_neg z1, if_neg (by omega)]
    clear z1 z2 z3
    have HQ := RefSt.bad ST.out HKK.out (by rw [HLS.out]; simp)
    rw [HLS.out] at HQ
    obtain ⟨k1, k2⟩ := RefSt.leave0 ST.out
    have HQ0 := hide HQ
    have HK1 := hide k1
    have HK2 := hide k2
    clear HQ k1 k2
    go_wp2
    refine bodyPost_ret (v := .tuple #[.agg #[.slice none 0 0], .int .i64 4, .int .i64 (k : Int)]) (by simp [results, Try.results9, go_sem, HK2.out]) rfl ⟨_, by rw [HS.out, HRR.out, HQ0.out], ?_, HK1.out, ?_⟩
    all_goals rw [HS.out, HRR.out, HQ0.out]
    · exact TxnsAt.nil
    · exact ⟨by simp, by simp [opsN]⟩
/-- .. where its answer is known. -/
theorem rdec_at (a : Option Addr) (len cap : Nat) (z : Nat → Int) (most : Int) (w : World) {us : List TxnM} {e x : Int} (hr : Rd .u8 w a len z) (hc : len ≤ cap) (hd : Hid (decS z len most = (us, e, x))) :
    Calls Try.prog 9 #[.slice a len cap, .int .i64 most] w fun e' w' => ∃ ta tcap, e' = .returned (.tuple #[.agg #[.slice ta us.length tcap], .int .i64 e, .int .i64 x]) ∧ Hid (TxnsAt (fun b => w.heap.size ≤ b) w' (.slice ta us.length tcap) us) ∧ Hid (Below w.heap.size w w') ∧ Hid (us.length ≤ 1024 ∧ opsN us ≤ 5000) := by
  refine (rdec_any a len cap z most w hr hc).mono ?_
  rw [hd.out]
  rintro e' w' ⟨tv, rfl, ht, hb, hf⟩
  obtain ⟨ta, tcap, rfl, -, -⟩ := ht.shape
  exact ⟨ta, tcap, rfl, ht, hb, hf⟩
end Go.Proofs.Ytkdggnfjefgonaa.Hist
