/- The reader's line: what a line leaves, whichever it is. -/
import Derived.Test.YtigmgkcojifbcaaHistAdd
import Derived.Test.YtigmgkcojifbcaaHistReadOp
namespace Go.Proofs.Ytigmgkcojifbcaa.Hist
open Go.RowKit Go.Proofs.Ytigmgkcojifbcaa.Dig Go.Proofs.Ytigmgkcojifbcaa.Mem Go.Proofs.Ytigmgkcojifbcaa.Cur Go.Proofs.Ytigmgkcojifbcaa.Keys
set_option linter.unusedVariables false
set_option linter.unusedSimpArgs false
attribute [local go_sem ↓] Go.wp_at_zero Go.wp_at_succ

/-- What an operation that was read leaves, ahead of its being added. -/
theorem op_mid {w w' : World} {B rb cb nb vb : Nat} {most : Int} {a : Option Addr} {len cap : Nat} {z : Nat → Int} {s s' : St} {ts : List TxnM} {tv lv : Value} {cs : List (List Value)} {o : OpM}
    (h : RAll w B rb cb nb vb most a len cap z s ts tv cs) (hne : ts ≠ []) (ho : Only (fun k => k = cb ∨ k = vb) w w') (hl : Live w' cb a len cap z s') (hv : Vals w' vb (opsN ts + 1) (fun p => appB (addOp ts o) p.1 p.2))
    (hi : IntsAt (fun b => w.heap.size ≤ b) w' lv o.list) :
    RCore w' B rb cb nb vb most a len cap z s' ts tv cs ∧ IntsAt (fun b => Gb B rb cb nb vb b ∧ w.heap.size ≤ b) w' lv o.list ∧ ((∀ b, tv.ownBlock = some b → b < w.heap.size) ∧ ∀ cs0 x y ov, cs = cs0 ++ [[x, y, ov]] → ∀ b, ov.ownBlock = some b → b < w.heap.size) ∧ Only (fun k => B ≤ k) w w' := by
  have hh := h.1.hi
  have hvl := SetAt.lt h.2
  exact ⟨⟨h.1.rdr.keep ho (fun q => q.elim h.1.lay.rc h.1.lay.rv), hl, SetAt.keep h.1.names ho (fun q => q.elim (Ne.symm h.1.lay.cn) h.1.lay.nv), h.1.own.keep ho (fun b q r => r.elim q.2.2.1 q.2.2.2.2), h.1.lay, h.1.few⟩,
    hi.mono (fun b q => ⟨⟨by omega, by omega, by omega, by omega, by omega⟩, q⟩), h.1.own.lt, ho.mono (fun k q => by have := h.1.lay.c; have := h.1.lay.v; omega)⟩
theorem app_any (ts : List TxnM) (hne : ts ≠ []) (o : OpM) (k v : Int) : appB (addOp ts o) k v = (appB ts k v || (!o.read && o.key == k && o.value == v)) := by
  obtain ⟨pre, last, rfl⟩ : ∃ us t, ts = us ++ [t] := ⟨_, _, (List.dropLast_concat_getLast hne).symm⟩
  exact app_addOp pre last o k v
set_option maxHeartbeats 4000000 in
theorem line_bad (B rb cb nb vb : Nat) (most : Int) (a : Option Addr) (len cap : Nat) (z : Nat → Int) (s : St) (ts : List TxnM) (tv : Value) (cs : List (List Value)) (x : Int) (w : World)
    (h : RAll w B rb cb nb vb most a len cap z s ts tv cs) (hx : x ≠ 116) (hc : (x ≠ 97 ∧ x ≠ 114) ∨ ts.length = 0) :
    Calls Try.prog 45 #[.pointer (some ⟨rb, 0, none⟩), .int .u8 x] w fun e w' => e = .returned (.tuple #[]) ∧ ∃ tv' cs', RAll w' B rb cb nb vb most a len cap z (pLine z len most x s ts).1 (pLine z len most x s ts).2 tv' cs' ∧ Only (fun k => B ≤ k) w w' := by
  obtain ⟨ta, tcap, rfl, hc1, hc2⟩ := h.1.own.shape
  obtain ⟨c0, c1, c2, -, -, c5⟩ := h.1.rdr.six
  have hf := h.1.few.1
  have hx1 : (x == 116) = false := by simpa using hx
  have HS : Hid (pLine z len most x s ts = (failS s 4 s.at_, ts)) := by show _ = _; unfold pLine; rw [if_neg hx, if_pos hc]
  have HL : Hid (Live w.drew cb a len cap z s) := h.1.live.drewN 1
  have H : Hid (RAll w B rb cb nb vb most a len cap z s ts (.slice ta ts.length tcap) cs) := h
  clear h hx
  by_cases h97 : x = 97 ∨ x = 114
  · have h0 : ts.length = 0 := hc.resolve_left (fun q => h97.elim q.1 q.2)
    clear hc
    rw [h0] at c5 H
    have h0' : (((0 : Nat) : Int) == 0) = true := rfl
    rcases h97 with rfl | rfl
    all_goals
      go_enter Try.func45, Try.ntmps45
      go_wp2
      go_region_held3 (fun w' => w'.cell? ⟨rb, 0, none⟩ = some (.pointer (some ⟨cb, 0, none⟩))) (first | assumption | go_keep)
        (first | (go_at_call 62; (with_reducible refine (at_any cb a len cap s _ HL.out.cur).mono ?_); rintro e w2 ⟨rfl, hw⟩; replace hw := hw.symm; subst hw) | (go_at_call 61; (with_reducible refine (fail_live cb a len cap s z 4 s.at_ _ HL.out).mono ?_); rintro e w3 ⟨rfl, ho3, hl3⟩; have M := hide (failAt H.out ((Only.refl _ _).drew.trans ho3) hl3); have c3 := (Is.keep H.out.1.rdr ((Only.refl _ _).drew.trans ho3) H.out.1.lay.rc).cell 0 rfl; clear ho3 hl3))
      all_goals
        go_simp
        go_wp2
        go_end0
        rw [HS.out]
        exact ⟨rfl, _, _, M.out.1, M.out.2⟩
  · have h1 : (x != 97) = true := by simp; omega
    have h2 : (x != 114) = true := by simp; omega
    clear hc h97
    go_enter Try.func45, Try.ntmps45
    go_wp2
    go_region_held3 (fun w' => w'.cell? ⟨rb, 0, none⟩ = some (.pointer (some ⟨cb, 0, none⟩))) (first | assumption | go_keep)
      (first | (go_at_call 62; (with_reducible refine (at_any cb a len cap s _ HL.out.cur).mono ?_); rintro e w2 ⟨rfl, hw⟩; replace hw := hw.symm; subst hw) | (go_at_call 61; (with_reducible refine (fail_live cb a len cap s z 4 s.at_ _ HL.out).mono ?_); rintro e w3 ⟨rfl, ho3, hl3⟩; have M := hide (failAt H.out ((Only.refl _ _).drew.trans ho3) hl3); have c3 := (Is.keep H.out.1.rdr ((Only.refl _ _).drew.trans ho3) H.out.1.lay.rc).cell 0 rfl; clear ho3 hl3))
    all_goals
      go_simp
      go_wp2
      go_end0
      rw [HS.out]
      exact ⟨rfl, _, _, M.out.1, M.out.2⟩
set_option maxHeartbeats 4000000 in
theorem line_full (B rb cb nb vb : Nat) (most : Int) (a : Option Addr) (len cap : Nat) (z : Nat → Int) (s : St) (ts : List TxnM) (tv : Value) (cs : List (List Value)) (x : Int) (w : World)
    (h : RAll w B rb cb nb vb most a len cap z s ts tv cs) (hx : x ≠ 116) (hc : x = 97 ∨ x = 114) (hne : ¬ ts.length = 0) (hm : most ≤ (opsN ts : Int)) :
    Calls Try.prog 45 #[.pointer (some ⟨rb, 0, none⟩), .int .u8 x] w fun e w' => e = .returned (.tuple #[]) ∧ ∃ tv' cs', RAll w' B rb cb nb vb most a len cap z (pLine z len most x s ts).1 (pLine z len most x s ts).2 tv' cs' ∧ Only (fun k => B ≤ k) w w' := by
  obtain ⟨ta, tcap, rfl, hc1, hc2⟩ := h.1.own.shape
  obtain ⟨c0, c1, c2, -, -, c5⟩ := h.1.rdr.six
  have hf := h.1.few.1
  have HS : Hid (pLine z len most x s ts = (failS s 3 s.at_, ts)) := by show _ = _; unfold pLine; rw [if_neg hx, if_neg (by rintro (q | q); exact hc.elim q.1 q.2; exact hne q), if_pos hm]
  have h0 : ((ts.length : Int) == 0) = false := by simp; simpa using hne
  have hm' : (most ≤ (opsN ts : Int)) := hm
  have H0 : ∀ n, Hid (RAll (w.drewN n) B rb cb nb vb most a len cap z s ts (.slice ta ts.length tcap) cs ∧ Only (fun k => B ≤ k) w (w.drewN n)) := fun n => ⟨h.went ((Only.refl _ _).drewN n) (h.1.live.drewN n), (Only.refl _ _).drewN n⟩
  clear h hx hne hm
  rcases hc with rfl | rfl
  all_goals
    go_enter Try.func45, Try.ntmps45
    go_wp2
    go_quiet (fail)
    go_simp
    obtain ⟨H, hO⟩ := (H0 nq).out
    have HO := hide hO
    clear hO H0
    obtain ⟨c0, c1, c2, -, -, c5⟩ := H.1.rdr.six
    generalize w.drewN nq = w1 at *
    have HL : Hid (Live w1.drew cb a len cap z s) := H.1.live.drewN 1
    have H := hide H
    go_wp2
    go_region_held3 (fun w' => w'.cell? ⟨rb, 0, none⟩ = some (.pointer (some ⟨cb, 0, none⟩))) (first | assumption | go_keep)
      (first | (go_at_call 62; (with_reducible refine (at_any cb a len cap s _ HL.out.cur).mono ?_); rintro e w2 ⟨rfl, hw⟩; replace hw := hw.symm; subst hw) | (go_at_call 61; (with_reducible refine (fail_live cb a len cap s z 3 s.at_ _ HL.out).mono ?_); rintro e w3 ⟨rfl, ho3, hl3⟩; have M := hide (failAt H.out ((Only.refl _ _).drew.trans ho3) hl3); have c3 := (Is.keep H.out.1.rdr ((Only.refl _ _).drew.trans ho3) H.out.1.lay.rc).cell 0 rfl; clear ho3 hl3))
    all_goals
      go_simp
      go_wp2
      go_end0
      rw [HS.out]
      exact ⟨rfl, _, _, M.out.1, HO.out.trans M.out.2⟩
theorem add_app (B rb cb nb vb : Nat) (most : Int) (a : Option Addr) (len cap : Nat) (z : Nat → Int) (s : St) (ts : List TxnM) (tv : Value) (cs : List (List Value)) (k v : Int) (M : Nat) (w : World)
    (h : RCore w B rb cb nb vb most a len cap z s ts tv cs) (hne : ts ≠ []) (hv : Vals w vb (opsN ts + 1) (fun p => appB (addOp ts ⟨false, k, v, []⟩) p.1 p.2))
    (hk : (Lit.int .i64 k).wf = true) (hval : (Lit.int .i64 v).wf = true) (hM : (∀ b, tv.ownBlock = some b → b < M) ∧ ∀ cs0 x y ov, cs = cs0 ++ [[x, y, ov]] → ∀ b, ov.ownBlock = some b → b < M) (hN : opsN ts < 5000) :
    Calls Try.prog 63 #[.pointer (some ⟨rb, 0, none⟩), .agg #[.bool false, .int .i64 k, .int .i64 v, .slice none 0 0]] w fun e w' => e = .returned (.tuple #[]) ∧ ∃ tv' cs', RAll w' B rb cb nb vb most a len cap z s (addOp ts ⟨false, k, v, []⟩) tv' cs' ∧ Only (fun k => B ≤ k) w w' :=
  add_any B rb cb nb vb most a len cap z s ts tv cs ⟨false, k, v, []⟩ none 0 M w h hne hv IntsAt.nil hk hval hM hN
theorem add_read (B rb cb nb vb : Nat) (most : Int) (a : Option Addr) (len cap : Nat) (z : Nat → Int) (s : St) (ts : List TxnM) (tv : Value) (cs : List (List Value)) (k : Int) (l : List Int) (la : Option Addr) (lcap M : Nat) (w : World)
    (h : RCore w B rb cb nb vb most a len cap z s ts tv cs) (hne : ts ≠ []) (hv : Vals w vb (opsN ts + 1) (fun p => appB (addOp ts ⟨true, k, 0, l⟩) p.1 p.2)) (hi : IntsAt (fun b => Gb B rb cb nb vb b ∧ M ≤ b) w (.slice la l.length lcap) l)
    (hk : (Lit.int .i64 k).wf = true) (hM : (∀ b, tv.ownBlock = some b → b < M) ∧ ∀ cs0 x y ov, cs = cs0 ++ [[x, y, ov]] → ∀ b, ov.ownBlock = some b → b < M) (hN : opsN ts < 5000) :
    Calls Try.prog 63 #[.pointer (some ⟨rb, 0, none⟩), .agg #[.bool true, .int .i64 k, .int .i64 0, .slice la l.length lcap]] w fun e w' => e = .returned (.tuple #[]) ∧ ∃ tv' cs', RAll w' B rb cb nb vb most a len cap z s (addOp ts ⟨true, k, 0, l⟩) tv' cs' ∧ Only (fun k => B ≤ k) w w' :=
  add_any B rb cb nb vb most a len cap z s ts tv cs ⟨true, k, 0, l⟩ la lcap M w h hne hv hi hk (show (Lit.int .i64 0).wf = true by decide) hM hN
set_option maxHeartbeats 4000000 in
theorem go_line_txn (B rb cb nb vb : Nat) (most : Int) (a : Option Addr) (len cap : Nat) (z : Nat → Int) (s : St) (ts : List TxnM) (tv : Value) (cs : List (List Value)) (w : World)
    (h : RAll w B rb cb nb vb most a len cap z s ts tv cs) :
    Calls Try.prog 45 #[.pointer (some ⟨rb, 0, none⟩), .int .u8 116] w fun e w' => e = .returned (.tuple #[]) ∧ ∃ tv' cs', RAll w' B rb cb nb vb most a len cap z (pLine z len most 116 s ts).1 (pLine z len most 116 s ts).2 tv' cs' ∧ Only (fun k => B ≤ k) w w' := by
  have HS : Hid (pLine z len most 116 s ts = pTxn z len s ts) := if_pos rfl
  have H := hide h
  clear h
  go_enter Try.func45, Try.ntmps45
  go_wp2_with (go_at_call 60; (with_reducible refine (txn_any B rb cb nb vb most a len cap z s ts tv cs _ H.out).mono ?_); rintro e w1 ⟨rfl, tv1, cs1, h1, ho1⟩; have M := hide (And.intro h1 ho1); clear h1 ho1)
  go_end0
  rw [HS.out]
  exact ⟨rfl, _, _, M.out.1, M.out.2⟩
set_option maxHeartbeats 4000000 in
theorem line_app (B rb cb nb vb : Nat) (most : Int) (a : Option Addr) (len cap : Nat) (z : Nat → Int) (s : St) (ts : List TxnM) (tv : Value) (cs : List (List Value)) (w : World)
    (h : RAll w B rb cb nb vb most a len cap z s ts tv cs) (hne : ¬ ts.length = 0) (hm : ¬ most ≤ (opsN ts : Int)) (hmx : most ≤ 4096) :
    Calls Try.prog 45 #[.pointer (some ⟨rb, 0, none⟩), .int .u8 97] w fun e w' => e = .returned (.tuple #[]) ∧ ∃ tv' cs', RAll w' B rb cb nb vb most a len cap z (pLine z len most 97 s ts).1 (pLine z len most 97 s ts).2 tv' cs' ∧ Only (fun k => B ≤ k) w w' := by
  obtain ⟨ta, tcap, rfl, hc1, hc2⟩ := h.1.own.shape
  obtain ⟨c0, c1, c2, -, -, c5⟩ := h.1.rdr.six
  have hf := h.1.few.1
  have HS : Hid (pLine z len most 97 s ts = ((pApp z len s ts).1, addOp ts (pApp z len s ts).2)) := by show _ = _; unfold pLine; rw [if_neg (by decide), if_neg (by rintro (q | q); exact q.1 rfl; exact hne q), if_neg hm, if_pos rfl]
  have h0 : ((ts.length : Int) == 0) = false := by simp; simpa using hne
  have hm' : ¬ (most ≤ (opsN ts : Int)) := hm
  have HNE : Hid (ts ≠ []) := hide (fun q => hne (by rw [q]; rfl))
  have HN : Hid (opsN ts < 5000) := hide (by omega)
  have H0 : ∀ n, Hid (RAll (w.drewN n) B rb cb nb vb most a len cap z s ts (.slice ta ts.length tcap) cs ∧ Only (fun k => B ≤ k) w (w.drewN n)) := fun n => ⟨h.went ((Only.refl _ _).drewN n) (h.1.live.drewN n), (Only.refl _ _).drewN n⟩
  clear h hne hm
  go_enter Try.func45, Try.ntmps45
  go_wp2
  go_quiet (fail)
  go_simp
  obtain ⟨H, hO⟩ := (H0 nq).out
  have HO := hide hO
  clear hO H0
  generalize w.drewN nq = w1 at *
  have HC := hide H.1
  have HW : Hid (Vals w1 vb (opsN ts) (fun p => appB ts p.1 p.2)) := H.2
  have H := hide H
  go_wp2_with (first | (go_at_call 64; (with_reducible refine (appendOp_any rb cb nb vb most (opsN ts : Int) (.slice ta ts.length tcap) a len cap z s (opsN ts) (fun p => appB ts p.1 p.2) _ HC.out.rdr HC.out.live HW.out HC.out.lay.rc HC.out.lay.rv HC.out.lay.cv HC.out.lay.av (by have := HN.out; omega)).mono ?_); rintro e w2 ⟨k, v, hp, rfl, hk, hv, ho2, hl2, hn2⟩; have HP : Hid (pApp z len s ts = ((pApp z len s ts).1, ⟨false, k, v, []⟩)) := hide hp; have HM := hide (op_mid (o := ⟨false, k, v, []⟩) H.out HNE.out ho2 hl2 (SetAt.congr hn2 (fun p => (by rw [app_any ts HNE.out]; rfl))) IntsAt.nil); have HV : Hid (Vals w2 vb (opsN ts + 1) (fun p => appB (addOp ts ⟨false, k, v, []⟩) p.1 p.2)) := SetAt.congr hn2 (fun p => (by rw [app_any ts HNE.out]; rfl)); clear hp ho2 hl2 hn2) | (go_at_call 63; (with_reducible refine (add_app B rb cb nb vb most a len cap z _ ts _ cs k v w1.heap.size _ HM.out.1 HNE.out HV.out hk hv HM.out.2.2.1 HN.out).mono ?_); rintro e w3 ⟨rfl, tv3, cs3, h3, ho3⟩; have M := hide (And.intro h3 ho3); clear h3 ho3))
  go_end0
  rw [HS.out, HP.out]
  exact ⟨rfl, _, _, M.out.1, (HO.out.trans HM.out.2.2.2).trans M.out.2⟩
set_option maxHeartbeats 4000000 in
theorem go_line_read (B rb cb nb vb : Nat) (most : Int) (a : Option Addr) (len cap : Nat) (z : Nat → Int) (s : St) (ts : List TxnM) (tv : Value) (cs : List (List Value)) (w : World)
    (h : RAll w B rb cb nb vb most a len cap z s ts tv cs) (hne : ¬ ts.length = 0) (hm : ¬ most ≤ (opsN ts : Int)) (hmx : most ≤ 4096) :
    Calls Try.prog 45 #[.pointer (some ⟨rb, 0, none⟩), .int .u8 114] w fun e w' => e = .returned (.tuple #[]) ∧ ∃ tv' cs', RAll w' B rb cb nb vb most a len cap z (pLine z len most 114 s ts).1 (pLine z len most 114 s ts).2 tv' cs' ∧ Only (fun k => B ≤ k) w w' := by
  obtain ⟨ta, tcap, rfl, hc1, hc2⟩ := h.1.own.shape
  obtain ⟨c0, c1, c2, -, -, c5⟩ := h.1.rdr.six
  have hf := h.1.few.1
  have HS : Hid (pLine z len most 114 s ts = ((pRead z len s).1, addOp ts (pRead z len s).2)) := by show _ = _; unfold pLine; rw [if_neg (by decide), if_neg (by rintro (q | q); exact q.2 rfl; exact hne q), if_neg hm, if_neg (by decide)]
  have h0 : ((ts.length : Int) == 0) = false := by simp; simpa using hne
  have hm' : ¬ (most ≤ (opsN ts : Int)) := hm
  have HNE : Hid (ts ≠ []) := hide (fun q => hne (by rw [q]; rfl))
  have HN : Hid (opsN ts < 5000) := hide (by omega)
  have H0 : ∀ n, Hid (RAll (w.drewN n) B rb cb nb vb most a len cap z s ts (.slice ta ts.length tcap) cs ∧ Only (fun k => B ≤ k) w (w.drewN n)) := fun n => ⟨h.went ((Only.refl _ _).drewN n) (h.1.live.drewN n), (Only.refl _ _).drewN n⟩
  clear h hne hm
  go_enter Try.func45, Try.ntmps45
  go_wp2
  go_quiet (fail)
  go_simp
  obtain ⟨H, hO⟩ := (H0 nq).out
  have HO := hide hO
  clear hO H0
  generalize w.drewN nq = w1 at *
  have HC := hide H.1
  have HW : Hid (Vals w1 vb (opsN ts) (fun p => appB ts p.1 p.2)) := H.2
  have H := hide H
  go_wp2_with (first | (go_at_call 65; (with_reducible refine (readOp_any rb cb nb vb most (opsN ts : Int) (.slice ta ts.length tcap) a len cap z s _ HC.out.rdr HC.out.live HC.out.lay.rc).mono ?_); rintro e w2 ⟨k, l, lv, hp, rfl, hk, ho2, hl2, hi2⟩; obtain ⟨la, lcap, rfl, -, -⟩ := IntsAt.shape hi2; have HP : Hid (pRead z len s = ((pRead z len s).1, ⟨true, k, 0, l⟩)) := hide hp; have HV : Hid (Vals w2 vb (opsN ts + 1) (fun p => appB (addOp ts ⟨true, k, 0, l⟩) p.1 p.2)) := SetAt.congr (SetAt.mono (SetAt.keep H.out.2 ho2 (Ne.symm H.out.1.lay.cv)) (Nat.le_succ _)) (fun p => (by rw [app_any ts HNE.out]; simp)); have HM := hide (op_mid (o := ⟨true, k, 0, l⟩) H.out HNE.out (ho2.mono (fun _ q => .inl q)) hl2 HV.out hi2); clear hp ho2 hl2 hi2) | (go_at_call 63; (with_reducible refine (add_read B rb cb nb vb most a len cap z _ ts _ cs k l la lcap w1.heap.size _ HM.out.1 HNE.out HV.out HM.out.2.1 hk HM.out.2.2.1 HN.out).mono ?_); rintro e w3 ⟨rfl, tv3, cs3, h3, ho3⟩; have M := hide (And.intro h3 ho3); clear h3 ho3))
  go_end0
  rw [HS.out, HP.out]
  exact ⟨rfl, _, _, M.out.1, (HO.out.trans HM.out.2.2.2).trans M.out.2⟩
theorem line_any (B rb cb nb vb : Nat) (most : Int) (a : Option Addr) (len cap : Nat) (z : Nat → Int) (s : St) (ts : List TxnM) (tv : Value) (cs : List (List Value)) (x : Int) (w : World)
    (h : RAll w B rb cb nb vb most a len cap z s ts tv cs) (hmx : most ≤ 4096) :
    Calls Try.prog 45 #[.pointer (some ⟨rb, 0, none⟩), .int .u8 x] w fun e w' => e = .returned (.tuple #[]) ∧ ∃ tv' cs', RAll w' B rb cb nb vb most a len cap z (pLine z len most x s ts).1 (pLine z len most x s ts).2 tv' cs' ∧ Only (fun k => B ≤ k) w w' := by
  by_cases h1 : x = 116
  · subst h1; exact go_line_txn B rb cb nb vb most a len cap z s ts tv cs w h
  by_cases h2 : (x ≠ 97 ∧ x ≠ 114) ∨ ts.length = 0
  · exact line_bad B rb cb nb vb most a len cap z s ts tv cs x w h h1 h2
  have h3 : x = 97 ∨ x = 114 := by omega
  have h4 : ¬ ts.length = 0 := fun q => h2 (.inr q)
  by_cases h5 : most ≤ (opsN ts : Int)
  · exact line_full B rb cb nb vb most a len cap z s ts tv cs x w h h1 h3 h4 h5
  · rcases h3 with rfl | rfl
    · exact line_app B rb cb nb vb most a len cap z s ts tv cs w h h4 h5 hmx
    · exact go_line_read B rb cb nb vb most a len cap z s ts tv cs w h h4 h5 hmx
end Go.Proofs.Ytigmgkcojifbcaa.Hist
