/- EncodeBack, walked. -/
import Derived.Test.YtigmgkcojifbcaaAll11
import Derived.Test.YtigmgkcojifbcaaAll14
import Derived.Test.YtigmgkcojifbcaaAll17
import Derived.Deep.DeepMust
namespace Go.Proofs.Ytigmgkcojifbcaa.Walk
open Go.RowKit Go.Proofs.Ytigmgkcojifbcaa.Dig Go.Proofs.Ytigmgkcojifbcaa.Mem Go.Proofs.Ytigmgkcojifbcaa.Hist
set_option linter.unusedVariables false
set_option linter.unusedSimpArgs false

theorem few4_txns {ts : List TxnM} (h : Few4 ts) : TxnsFew ts := ⟨by have := h.1; omega, fun t ht => ⟨by have := (h.2.2 t ht).1; omega, (h.2.2 t ht).2⟩⟩
theorem brow_rd {w : World} {g cap : Nat} {l : List UInt8} (h : BRow w g cap l) (hl : l.length ≤ 1000000) : Rd .u8 w (some ⟨g, 0, none⟩) l.length (fun i => (toI l).getD i 0) := by
  refine ⟨by omega, fun i hi => ⟨g, 0, rfl, ?_, ?_⟩⟩
  · rw [Nat.zero_add, World.ownsRow.cellAt h i (by omega)]
    simp [toI, List.getD_eq_getElem?_getD, List.getElem?_eq_getElem hi]
  · have e : (toI l).getD i 0 = (l[i].toNat : Int) := by simp [toI, List.getD_eq_getElem?_getD, List.getElem?_eq_getElem hi]
    show (Lit.int .u8 ((toI l).getD i 0)).wf = true
    rw [e]
    have := l[i].toNat_lt
    exact WalkArith.wf_u8 (by omega)
theorem mat_self (l : List Int) : Mat (fun i => l.getD i 0) 0 l := by
  unfold Mat
  refine List.ext_getElem (by rw [sub_len]) fun i h1 h2 => ?_
  have q := sub_get (fun i => l.getD i 0) 0 l.length i h2
  have e1 : (sub (fun i => l.getD i 0) 0 l.length).getD i 0 = (sub (fun i => l.getD i 0) 0 l.length)[i] := by rw [List.getD_eq_getElem?_getD, List.getElem?_eq_getElem h1]; rfl
  have e2 : l.getD i 0 = l[i] := by rw [List.getD_eq_getElem?_getD, List.getElem?_eq_getElem h2]; rfl
  rw [← e1, q, Nat.zero_add]
  exact e2
/-- The history, and the two that were decoded. -/
structure B3 (w : World) (hv gv iv : Value) (p q : Nat) (ts : List TxnM) (wx : World) : Prop where
  below : Below w.heap.size w wx
  c1 : wx.cell? ⟨w.heap.size, 0, none⟩ = some hv
  c2 : wx.cell? ⟨p, 0, none⟩ = some gv
  c3 : wx.cell? ⟨q, 0, none⟩ = some iv
  h : TxnsAt (fun _ => True) wx hv ts
  g : TxnsAt (fun _ => True) wx gv ts
  i : TxnsAt (fun _ => True) wx iv ts
theorem B3.keep {w wx wy : World} {hv gv iv : Value} {p q : Nat} {ts : List TxnM} (h : B3 w hv gv iv p q ts wx) (hb : Below wx.heap.size wx wy) : B3 w hv gv iv p q ts wy :=
  have o := fun {x v} (e : wx.cell? ⟨x, 0, none⟩ = some v) => (Only.of_below (S := fun _ => False) hb).cell e (fun q => q)
  ⟨h.below.trans (hb.mono h.below.size), o h.c1, o h.c2, o h.c3, h.h.keep hb, h.g.keep hb, h.i.keep hb⟩
theorem B3.start {w w2 w3 w4 : World} {hv gv iv : Value} {ts : List TxnM} {X : World → Prop} {F G : Nat → Prop} (T : TypeId) (h : OneT w hv ts X w2) (hg : TxnsAt F w3 gv ts) (h3 : Below w2.heap.size w2 w3) (hi : TxnsAt G w4 iv ts) (h4 : Below (w3.alloc (.cells #[gv] T)).heap.size (w3.alloc (.cells #[gv] T)) w4) :
    B3 w hv gv iv w3.heap.size w4.heap.size ts (w4.alloc (.cells #[iv] T)) := by
  have a1 : Below w3.heap.size w3 w4 := ((Below.refl _ _).alloc (Nat.le_refl _) _).trans (h4.mono (by simp))
  have a2 : Below w4.heap.size w4 (w4.alloc (.cells #[iv] T)) := (Below.refl _ _).alloc (Nat.le_refl _) _
  have a3 := (h.keep h3).keep (a1.trans (a2.mono a1.size))
  exact ⟨a3.below, a3.c1, (((Is.made w3 #[gv] T rfl).below h4).below a2).cell 0 rfl, (Is.made w4 #[iv] T rfl).cell 0 rfl, a3.t.mono (fun _ _ => trivial), ((hg.keep a1).keep a2).mono (fun _ _ => trivial), (hi.keep a2).mono (fun _ _ => trivial)⟩
section
variable {w wx : World} {hv gv iv : Value} {p q : Nat} {ts : List TxnM}
theorem sameG (h : Hid (B3 w hv gv iv p q ts wx)) (hf : Hid (TxnsFew ts)) : Calls Try.prog 16 #[.agg #[gv], .agg #[hv]] wx fun e w' => e = .returned (.bool true) ∧ Hid (B3 w hv gv iv p q ts w') := by
  refine (rsame_any _ _ gv hv ts ts wx h.out.g h.out.h hf.out hf.out).mono ?_
  rw [decide_eq_true (rfl : ts = ts)]
  rintro e w' ⟨rfl, hb⟩
  exact ⟨rfl, h.out.keep hb⟩
theorem sameI (h : Hid (B3 w hv gv iv p q ts wx)) (hf : Hid (TxnsFew ts)) : Calls Try.prog 16 #[.agg #[iv], .agg #[hv]] wx fun e w' => e = .returned (.bool true) ∧ Hid (B3 w hv gv iv p q ts w') := by
  refine (rsame_any _ _ iv hv ts ts wx h.out.i h.out.h hf.out hf.out).mono ?_
  rw [decide_eq_true (rfl : ts = ts)]
  rintro e w' ⟨rfl, hb⟩
  exact ⟨rfl, h.out.keep hb⟩
theorem works3B (h : Hid (B3 w hv gv iv p q ts wx)) : Calls Try.prog 8 #[] wx fun e w' => e = .returned (.bool true) ∧ Hid (B3 w hv gv iv p q ts w') := by
  refine (works4_any wx).mono ?_
  rintro e w' ⟨rfl, hb⟩
  exact ⟨rfl, h.out.keep hb⟩
end
/-- What Encode tells, of a history that may be; of one that may not be. -/
theorem encOk {w wx : World} {tv : Value} {ts : List TxnM} {X : World → Prop} {n : Nat} (h : Hid (OneT w tv ts X wx)) (hf : Hid (Few4 ts)) (hc : Hid (checkS ts = 0)) (hn : Hid ((textH8 ts).length = n)) :
    Calls Try.prog 9 #[.agg #[tv]] wx fun e w' => ∃ g, e = .returned (.tuple #[.slice (some ⟨g, 0, none⟩) n n, .int .i64 0]) ∧ Hid (BRow w' g n (textH8 ts)) ∧ Hid (OneT w tv ts X w') := by
  refine (encode_any _ tv ts wx h.out.t (fun b q => Nat.lt_of_lt_of_le q h.out.below.size) hf.out).mono ?_
  rintro e w' (⟨h0, g, m, hm, rfl, h1, h2, h3⟩ | ⟨h0, rfl, h3⟩)
  · have : m = n := by rw [hm, hn.out]
    subst this
    exact ⟨g, rfl, h1, h.out.keep h3⟩
  · exact absurd hc.out h0
theorem encNo {w wx : World} {tv : Value} {ts : List TxnM} {X : World → Prop} {ec : Int} (h : Hid (OneT w tv ts X wx)) (hf : Hid (Few4 ts)) (hc : Hid (checkS ts = ec)) (h0 : Hid (ec ≠ 0)) :
    Calls Try.prog 9 #[.agg #[tv]] wx fun e w' => e = .returned (.tuple #[.slice none 0 0, .int .i64 ec]) ∧ Hid (OneT w tv ts X w') := by
  refine (encode_any _ tv ts wx h.out.t (fun b q => Nat.lt_of_lt_of_le q h.out.below.size) hf.out).mono ?_
  rintro e w' (⟨q, _⟩ | ⟨_, rfl, h3⟩)
  · exact absurd (hc.out.symm.trans q) h0.out
  · exact ⟨by rw [hc.out], h.out.keep h3⟩
set_option maxRecDepth 20000 in
set_option maxHeartbeats 4000000 in
theorem walk_encodeBack (w : World) (ta : Option Addr) (tcap : Nat) (ts : List TxnM) (ht : TxnsAt (fun b => b < w.heap.size) w (.slice ta ts.length tcap) ts) :
    Calls Try.prog 4 #[.agg #[.slice ta ts.length tcap]] w fun e w' => e = .returned (.bool true) ∧ Below w.heap.size w w' := by
  have H0 : Hid (OneT w (.slice ta ts.length tcap) ts (fun _ => True) (w.alloc (.cells #[.slice ta ts.length tcap] 24))) := OneT.start 24 ht
  have c1 := H0.out.c1
  obtain ⟨ec, hec⟩ : ∃ e, checkS ts = e := ⟨_, rfl⟩
  have EC := hide hec
  clear ht hec
  go_enter Try.func4, Try.ntmps4
  go_wp2_with fail
  refine (rfew_any _ _ ts _ H0.out.t).mono ?_
  rintro e w1 ⟨r1, rfl, hf1, hb1⟩
  have H1 := hide (H0.out.keep hb1)
  have c1 := H1.out.c1
  replace hf1 := hide hf1
  clear hb1
  cases r1 with
  | false =>
    go_wp2_with (go_at_call 8; (with_reducible refine (worksT4 H1).mono ?_); rintro e wx ⟨rfl, HX⟩; have c1 := HX.out.c1)
    go_ret
    exact ⟨rfl, HX.out.below⟩
  | true =>
  obtain ⟨a1, a2, a3⟩ := hf1.out (by first | rfl | trivial)
  have HF := hide (few4 a1 a2 a3)
  have HF3 := hide (few4_txns HF.out)
  clear hf1 a1 a2 a3
  by_cases h0 : ec = 0
  rotate_left
  · have h0' : (ec != 0) = true := by simpa using h0
    have E0 := hide h0
    clear h0
    go_wp2_with (first
      | (go_at_call 9; go_must ((with_reducible refine (encNo H1 HF EC E0).mono ?_); rintro e w2 ⟨rfl, H2⟩; have c2 := H2.out.c1))
      | (go_at_call 12; (with_reducible refine (rchkT4 H2 HF EC).mono ?_); rintro e wx ⟨rfl, HX⟩; have c1 := HX.out.c1)
      | (go_at_call 8; (with_reducible refine (worksT4 HX).mono ?_); rintro e wx ⟨rfl, HX⟩; have c1 := HX.out.c1))
    go_ret
    exact ⟨rfl, HX.out.below⟩
  subst h0
  obtain ⟨hV, hO, hL, hL2⟩ := checkS_ok EC.out
  obtain ⟨n, hn⟩ : ∃ n, (textH8 ts).length = n := ⟨_, rfl⟩
  have EN := hide hn
  have hn1 : n ≤ 262144 := by have := textH8_len ts; omega
  have HD : Hid (decS (fun i => (toI (textH8 ts)).getD i 0) n 4096 = (ts, 0, 0)) := hide (by
    have q := decS_back (z := fun i => (toI (textH8 ts)).getD i 0) (most := 4096) hV hO (by omega) hL (by rw [← textH_toI]; exact mat_self _)
    rw [← textH8_len, hn] at q
    exact q)
  have HRD : Hid (∀ wy g, BRow wy g n (textH8 ts) → Rd .u8 wy (some ⟨g, 0, none⟩) n (fun i => (toI (textH8 ts)).getD i 0)) := hide (fun wy g hr => by have := brow_rd hr (by omega); rwa [hn] at this)
  clear hV hO hL hL2 hn
  go_wp2_with (first
    | (go_at_call 9; go_must ((with_reducible refine (encOk H1 HF EC EN).mono ?_); rintro e w2 ⟨g, rfl, HB2, H2⟩; have c2 := H2.out.c1))
    | (go_at_call 14; go_must ((with_reducible refine (dec_at _ n n _ 4096 _ (HRD.out _ _ HB2.out) (Nat.le_refl _) HD).mono ?_); rintro e' w3 ⟨ga, gcap, rfl, ht3, hb3, -⟩))
    | (go_at_call 15; go_must ((with_reducible refine (rdec_at _ n n _ 4096 _ (HRD.out _ _ (HB2.out.below (hb3.out.trans (((Below.refl _ _).alloc (Nat.le_refl _) _).mono hb3.out.size)))) (Nat.le_refl _) HD).mono ?_); rintro e' w4 ⟨ia, icap, rfl, ht4, hb4, -⟩; have HX4 := hide (B3.start 24 H2.out ht3.out hb3.out ht4.out hb4.out); have c1 := HX4.out.c1; have c2 := HX4.out.c2; have c3 := HX4.out.c3))
    | (go_at_call 16; (with_reducible refine (sameG HX4 HF3).mono ?_); rintro e wx ⟨rfl, HX⟩; have c1 := HX.out.c1; have c2 := HX.out.c2; have c3 := HX.out.c3)
    | (go_at_call 16; (with_reducible refine (sameI HX HF3).mono ?_); rintro e wx ⟨rfl, HX⟩; have c1 := HX.out.c1; have c2 := HX.out.c2; have c3 := HX.out.c3)
    | (go_at_call 8; (with_reducible refine (works3B HX).mono ?_); rintro e wx ⟨rfl, HX⟩; have c1 := HX.out.c1; have c2 := HX.out.c2; have c3 := HX.out.c3))
  go_ret
  exact ⟨rfl, HX.out.below⟩
end Go.Proofs.Ytigmgkcojifbcaa.Walk
