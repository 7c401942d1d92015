/- TableValues, walked. -/
import Derived.Test.YtofgfcebkmdhcaaAll16
import Derived.Test.YtofgfcebkmdhcaaAll17
namespace Go.Proofs.Ytofgfcebkmdhcaa.Walk
open Go.RowKit Go.Proofs.Ytofgfcebkmdhcaa.Dig Go.Proofs.Ytofgfcebkmdhcaa.Mem Go.Proofs.Ytofgfcebkmdhcaa.Hist Go.Proofs.Ytofgfcebkmdhcaa.Own Go.Proofs.Ytofgfcebkmdhcaa.Thing Go.Proofs.Ytofgfcebkmdhcaa.Sets Go.Shelf Go.Proofs.Ytofgfcebkmdhcaa.Keys Go.Proofs.Ytofgfcebkmdhcaa.Tab
set_option linter.unusedVariables false
set_option linter.unusedSimpArgs false
theorem five {w : World} {b : Nat} {v0 v1 v2 v3 v4 : Value} (h : Is w b #[v0, v1, v2, v3, v4]) : w.cell? ⟨b, 0, none⟩ = some v0 ∧ w.cell? ⟨b, 1, none⟩ = some v1 ∧ w.cell? ⟨b, 2, none⟩ = some v2 ∧ w.cell? ⟨b, 3, none⟩ = some v3 ∧ w.cell? ⟨b, 4, none⟩ = some v4 := ⟨h.cell 0 rfl, h.cell 1 rfl, h.cell 2 rfl, h.cell 3 rfl, h.cell 4 rfl⟩
theorem wrO_form (m : Option WrM) : ∃ (a b c d : Int) (e : Bool), wrO m = .agg #[.int .i64 a, .int .i64 b, .int .i64 c, .int .i64 d, .bool e] := by
  cases m with
  | none => exact ⟨0, 0, 0, 0, false, rfl⟩
  | some m => exact ⟨_, _, _, _, _, rfl⟩
theorem docApps_le {ts : List TxnM} (h : FewH ts) (id key : Int) : (docApps ts id key).length ≤ 60 := by
  have h1 := ahead_le (docTxn ts id).ops key
  have h2 := docTxn_ops ts id
  have := h.2.1
  unfold docApps
  omega
set_option maxRecDepth 100000 in
set_option maxHeartbeats 4000000 in
theorem walk_tableValues (w : World) (ta : Option Addr) (tcap : Nat) (ts : List TxnM) (ht : TxnsAt (fun b => b < w.heap.size) w (.slice ta ts.length tcap) ts) (id : Int) (hid : (Lit.int .i64 id).wf = true) (key : Int) (hkey : (Lit.int .i64 key).wf = true) (value : Int) (hvalue : (Lit.int .i64 value).wf = true) :
    Calls Try.prog 4 #[.agg #[.slice ta ts.length tcap], .int .i64 id, .int .i64 key, .int .i64 value] w fun e w' => e = .returned (.bool true) ∧ Below w.heap.size w w' := by
  obtain ⟨n, hn⟩ : ∃ n, n = ts.length := ⟨_, rfl⟩
  rw [← hn] at ht ⊢
  have H0 := hide (LH.start ht)
  have c1 := H0.out.c
  obtain ⟨ec, hec⟩ : ∃ ec, ec = checkS ts := ⟨_, rfl⟩
  have EC := hide hec
  have HID := hide hid
  have HKEY := hide hkey
  have HVAL := hide hvalue
  clear ht hec hn hid hkey hvalue
  go_enter Try.func4, Try.ntmps4
  go_wp2_with fail
  refine (fewLH H0).mono ?_
  rintro e w1 ⟨r, rfl, hf, H1⟩
  cases r with
  | false =>
    go_wp2_with (go_at_call 8; go_must ((with_reducible refine (worksLT _).mono ?_); rintro e w2 ⟨rfl, hb⟩))
    go_ret
    exact ⟨rfl, (H1.out.keep hb.out).below⟩
  | true =>
    have HF : Hid (FewH ts) := hide (hf.out rfl)
    have c2 := H1.out.c
    clear hf c1
    by_cases h0 : ec = 0
    rotate_left
    · go_wp2_with (first
        | (go_at_call 10; go_must ((with_reducible refine (rcheckLH H1 HF EC).mono ?_); rintro e w3 ⟨rfl, hb3⟩))
        | (go_at_call 8; go_must ((with_reducible refine (worksLT _).mono ?_); rintro e w4 ⟨rfl, hb4⟩)))
      go_ret
      exact ⟨rfl, ((H1.out.keep hb3.out).keep hb4.out).below⟩
    subst h0
    go_upto_region 3 with (go_at_call 10; go_must ((with_reducible refine (rcheckLH H1 HF EC).mono ?_); rintro e w2 ⟨rfl, hb2⟩; have H2 := hide (H1.out.keep hb2.out); have c3 := H2.out.c))
    have CN := hide (newLH H2 HF EC)
    go_wp2_with fail
    refine (Hid.out CN).mono ?_
    rintro e w3 (⟨hne, _, _⟩ | ⟨_, bT, s, rfl, H3, hs⟩)
    · exact absurd rfl hne.out
    · obtain ⟨us, ho, hu, rfl⟩ := hs.out
      obtain ⟨a0, a1, a2, a3, a4, hwo⟩ := wrO_form (docWriter ts (key, value))
      obtain ⟨q, hq⟩ : ∃ q, q = (docWriter ts (key, value)).isSome := ⟨_, rfl⟩
      have CW : Hid (∀ W, LT w ta n tcap ts bT (tb (flat us)) W → Calls Try.prog 18 #[.pointer (some ⟨bT, 0, none⟩), .int .i64 key, .int .i64 value] W fun e w' => e = .returned (.tuple #[.agg #[.int .i64 a0, .int .i64 a1, .int .i64 a2, .int .i64 a3, .bool a4], .bool q]) ∧ Hid (Below W.heap.size W w')) := hide fun W hW => by
        have := writer_any key value hW.tab HKEY.out HVAL.out
        rw [show (tb (flat us)).wr (key, value) = docWriter ts (key, value) from writer_ord ho hu (key, value), hwo, ← hq] at this
        exact this
      have CRW : Hid (∀ W, LT w ta n tcap ts bT (tb (flat us)) W → Calls Try.prog 19 #[.agg #[.slice ta n tcap], .int .i64 key, .int .i64 value] W fun e w' => e = .returned (.tuple #[.agg #[.int .i64 a0, .int .i64 a1, .int .i64 a2, .int .i64 a3, .bool a4], .bool q]) ∧ Hid (Below W.heap.size W w')) := hide fun W hW => by
        have := rwriter_any _ _ ts key value W hW.lh.hist
        rw [hwo, ← hq] at this
        exact this
      obtain ⟨m, hm⟩ : ∃ m, m = (docApps ts id key).length := ⟨_, rfl⟩
      have CA : Hid (∀ W, LT w ta n tcap ts bT (tb (flat us)) W → Calls Try.prog 20 #[.pointer (some ⟨bT, 0, none⟩), .int .i64 id, .int .i64 key] W fun e w' => ∃ a c, e = .returned (.slice a m c) ∧ Hid (RowV w' a c (docApps ts id key)) ∧ Hid (Below W.heap.size W w')) := hide fun W hW => by
        have hd : (tb (flat us)).ap (id, key) = docApps ts id key := apps_ord ho hu id key
        refine (apps_any id key hW.tab HID.out HKEY.out (by rw [hd]; have := docApps_le HF.out id key; omega)).mono ?_
        rintro e w' ⟨a, k, c, rfl, hz, hb⟩
        rw [hd] at hz
        obtain ⟨rfl, hr⟩ := hz.out
        exact ⟨a, c, by rw [hm], hr, hb⟩
      have CRA : Hid (∀ W, LT w ta n tcap ts bT (tb (flat us)) W → Calls Try.prog 21 #[.agg #[.slice ta n tcap], .int .i64 id, .int .i64 key] W fun e w' => ∃ a c, e = .returned (.slice a m c) ∧ Hid (RowV w' a c (docApps ts id key)) ∧ Hid (Below W.heap.size W w')) := hide fun W hW => by
        refine (rapps_any _ _ ts id key W hW.lh.hist HID.out (by have := HF.out.2.1; omega)).mono ?_
        rintro e w' ⟨⟨a, c, rfl, hr⟩, hb⟩
        exact ⟨a, c, by rw [hm], hr, hb⟩
      have HM := hide hm
      have c4 := H3.out.lh.c
      clear hwo hq hm hs c2 c3 CN
      go_upto_region 7 with (go_at_call 18; go_must ((with_reducible refine (CW.out _ H3.out).mono ?_); rintro e w4 ⟨rfl, hb4⟩))
      have hbx : Below w4.heap.size w4 (w4.alloc (.cells #[.int .i64 a0, .int .i64 a1, .int .i64 a2, .int .i64 a3, .bool a4] 41)) := (Below.refl _ _).alloc (Nat.le_refl _) _
      have H4 := hide ((H3.out.keep hb4.out).keep hbx)
      have X4 := hide (Is.made w4 #[.int .i64 a0, .int .i64 a1, .int .i64 a2, .int .i64 a3, .bool a4] 41 rfl)
      clear hbx
      generalize (w4.alloc (.cells #[.int .i64 a0, .int .i64 a1, .int .i64 a2, .int .i64 a3, .bool a4] 41)) = w5 at H4 X4 ⊢
      have c5 := H4.out.lh.c
      go_upto_region 8 with (go_at_call 19; go_must ((with_reducible refine (CRW.out _ H4.out).mono ?_); rintro e w6 ⟨rfl, hb6⟩))
      have hby : Below w6.heap.size w6 (w6.alloc (.cells #[.int .i64 a0, .int .i64 a1, .int .i64 a2, .int .i64 a3, .bool a4] 44)) := (Below.refl _ _).alloc (Nat.le_refl _) _
      have H6 := hide ((H4.out.keep hb6.out).keep hby)
      have X := hide ((X4.out.below hb6.out).below hby)
      have Y := hide (Is.made w6 #[.int .i64 a0, .int .i64 a1, .int .i64 a2, .int .i64 a3, .bool a4] 44 rfl)
      clear hby c4 c5
      generalize (w6.alloc (.cells #[.int .i64 a0, .int .i64 a1, .int .i64 a2, .int .i64 a3, .bool a4] 44)) = w7 at H6 X Y ⊢
      have K := hide (H6.out.keep (W' := w7.drew) ((Below.refl _ _).drew))
      replace X := hide (X.out.drew)
      replace Y := hide (Y.out.drew)
      have hqq : (q == q) = true := by simp
      have haa : (a4 == a4) = true := by simp
      generalize w4.heap.size = XB at *
      generalize w6.heap.size = YB at *
      (try clear c0 x0 x1 x2 x3 x4 y0 y1 y2 y3 y4); have c0 := K.out.lh.c; obtain ⟨x0, x1, x2, x3, x4⟩ := five X.out; obtain ⟨y0, y1, y2, y3, y4⟩ := five Y.out
      go_region_held3 (fun w' : World => w'.cell? ⟨w.heap.size, 0, none⟩ = some (.slice ta n tcap) ∧ (w'.cell? ⟨XB, 0, none⟩ = some (.int .i64 a0) ∧ w'.cell? ⟨XB, 1, none⟩ = some (.int .i64 a1) ∧ w'.cell? ⟨XB, 2, none⟩ = some (.int .i64 a2) ∧ w'.cell? ⟨XB, 3, none⟩ = some (.int .i64 a3) ∧ w'.cell? ⟨XB, 4, none⟩ = some (.bool a4)) ∧ w'.cell? ⟨YB, 0, none⟩ = some (.int .i64 a0) ∧ w'.cell? ⟨YB, 1, none⟩ = some (.int .i64 a1) ∧ w'.cell? ⟨YB, 2, none⟩ = some (.int .i64 a2) ∧ w'.cell? ⟨YB, 3, none⟩ = some (.int .i64 a3) ∧ w'.cell? ⟨YB, 4, none⟩ = some (.bool a4)) (first | (with_reducible exact ⟨by assumption, ⟨by assumption, by assumption, by assumption, by assumption, by assumption⟩, by assumption, by assumption, by assumption, by assumption, by assumption⟩) | go_keep) (first
        | (go_at_call 20; (with_reducible refine (CA.out _ K.out).mono ?_); go_must (rintro e w6 ⟨p1, i1, rfl, HR, hb⟩; replace K := hide (K.out.keep hb.out); replace X := hide (X.out.below hb.out); replace Y := hide (Y.out.below hb.out); (try clear c0 x0 x1 x2 x3 x4 y0 y1 y2 y3 y4); have c0 := K.out.lh.c; obtain ⟨x0, x1, x2, x3, x4⟩ := five X.out; obtain ⟨y0, y1, y2, y3, y4⟩ := five Y.out))
        | (go_at_call 21; (with_reducible refine (CRA.out _ K.out).mono ?_); go_must (rintro e w6 ⟨p2, i2, rfl, HR2, hb⟩; replace HR := hide (HR.out.keep hb.out); replace K := hide (K.out.keep hb.out); replace X := hide (X.out.below hb.out); replace Y := hide (Y.out.below hb.out); (try clear c0 x0 x1 x2 x3 x4 y0 y1 y2 y3 y4); have c0 := K.out.lh.c; obtain ⟨x0, x1, x2, x3, x4⟩ := five X.out; obtain ⟨y0, y1, y2, y3, y4⟩ := five Y.out))
        | (go_at_call 13; (with_reducible refine (sameLT HR HR2 HM).mono ?_); go_must (rintro e w6 ⟨rfl, hb⟩; clear HR HR2; replace K := hide (K.out.keep hb.out); replace X := hide (X.out.below hb.out); replace Y := hide (Y.out.below hb.out); (try clear c0 x0 x1 x2 x3 x4 y0 y1 y2 y3 y4); have c0 := K.out.lh.c; obtain ⟨x0, x1, x2, x3, x4⟩ := five X.out; obtain ⟨y0, y1, y2, y3, y4⟩ := five Y.out))
        | (go_at_call 8; (with_reducible refine (worksLT _).mono ?_); go_must (rintro e w6 ⟨rfl, hb⟩; replace K := hide (K.out.keep hb.out); replace X := hide (X.out.below hb.out); replace Y := hide (Y.out.below hb.out); (try clear c0 x0 x1 x2 x3 x4 y0 y1 y2 y3 y4); have c0 := K.out.lh.c; obtain ⟨x0, x1, x2, x3, x4⟩ := five X.out; obtain ⟨y0, y1, y2, y3, y4⟩ := five Y.out)))
      all_goals
        go_simp
        go_wp2
        go_ret
        exact ⟨rfl, K.out.lh.below⟩
end Go.Proofs.Ytofgfcebkmdhcaa.Walk
