/- Joined out of the texts HistRef, in that order. -/
import Derived.Test.YtigmgkcojifbcaaAll4
import Derived.Test.YtigmgkcojifbcaaAll6
import Derived.Test.YtigmgkcojifbcaaAll9
import Derived.Test.YtigmgkcojifbcaaAll1
import Derived.Deep.RegionLaw
import Derived.Deep.RegionHeld3
import Derived.Deep.DrawnRows
import Derived.Deep.DeepMust
/- The document's txn: a transaction's line. -/
namespace Go.Proofs.Ytigmgkcojifbcaa.Hist
open Go.RowKit Go.Proofs.Ytigmgkcojifbcaa.Dig Go.Proofs.Ytigmgkcojifbcaa.Mem
set_option linter.unusedVariables false
set_option linter.unusedSimpArgs false

theorem Try.infoTxn : (Try.prog.info? 48).map (fun i => (i.zero, i.size, i.bytes)) = some (some (.agg #[.int .i64 0, .bool false, .slice none 0 0]), 3, 40) := by kernel_rfl
theorem ris_at (a : Option Addr) (len cap : Nat) (z : Nat → Int) (i : Nat) (j x : Int) (w : World) {b : Bool} (h : Rd .u8 w a len z) (hi : i ≤ 2000000) (hj : j = (i : Int)) (hb : Hid (isB z len i x = b)) :
    Calls Try.prog 47 #[.slice a len cap, .int .i64 j, .int .u8 x] w fun e w' => e = .returned (.bool b) ∧ w' = w := by
  subst hj
  rw [← hb.out]
  exact ris_any a len cap z i x w h hi
theorem Is.one {w : World} {b : Nat} {v0 : Value} (h : Is w b #[v0]) : w.cell? ⟨b, 0, none⟩ = some v0 ∧ w.frozen? ⟨b, 0, none⟩ = false := ⟨h.cell 0 rfl, h.frozen 0⟩
/-- The history, and where the answer is laid, ahead of a call. -/
theorem two_mid {w w3 : World} {F : Nat → Prop} {tv : Value} {ts : List TxnM} {a : Option Addr} {len : Nat} {z : Nat → Int} {T U : TypeId} (ht : TxnsAt F w tv ts) (hr : Rd .u8 w a len z)
    (hb : Below ((w.alloc (.cells #[tv] T)).alloc (.cells #[.slice none 0 0] U)).heap.size ((w.alloc (.cells #[tv] T)).alloc (.cells #[.slice none 0 0] U)) w3) :
    Is w3 w.heap.size #[tv] ∧ Is w3 (w.heap.size + 1) #[.slice none 0 0] ∧ Below w.heap.size w w3 ∧ TxnsAt F w3 tv ts ∧ Rd .u8 w3 a len z := by
  obtain ⟨h1, h2, h3, h4⟩ := two_boxes hb
  exact ⟨h1, h2, h3, ht.keep h3, hr.only (Only.of_below (S := fun _ => False) h3) (fun _ _ q => q)⟩
theorem two_below (w : World) (c d : Array Value) (T U : TypeId) : Below w.heap.size w ((w.alloc (.cells c T)).alloc (.cells d U)) := ((Below.refl _ _).alloc (Nat.le_refl _) _).alloc (by simp) _
/-- An answer laid. -/
theorem ref_leaf {w w3 : World} {F : Nat → Prop} {tv : Value} {ts : List TxnM} (hb : Below w.heap.size w w3) (hi : Is w3 (w.heap.size + 1) #[.slice none 0 0]) (ht : TxnsAt F w3 tv ts) (hF : ∀ b, F b → b < w.heap.size ∨ (w.heap.size + 1 < b)) :
    TxnsAt F (w3.setCell ⟨w.heap.size + 1, 0, none⟩ tv) tv ts ∧ Below w.heap.size w (w3.setCell ⟨w.heap.size + 1, 0, none⟩ tv) ∧ (w3.setCell ⟨w.heap.size + 1, 0, none⟩ tv).cell? ⟨w.heap.size + 1, 0, none⟩ = some tv := by
  have hO : Only (fun k => k = w.heap.size + 1) w3 (w3.setCell ⟨w.heap.size + 1, 0, none⟩ tv) := (Only.refl _ _).put 0 _
  exact ⟨ht.only hO (fun b q => by have := hF b q; omega), hb.only hO (fun i q => by omega) (by have := hi.lt; omega), (hi.set 0 tv).cell 0 rfl⟩
theorem own_empty {w : World} {b base : Nat} {e : TypeId} (n : Nat) (h : w.heap[b]? = some (.cells #[] e)) (hb : base ≤ b) : OwnC e n base w (.slice (some ⟨b, 0, none⟩) 0 0) [] :=
  ⟨⟨by simp, .inr ⟨b, 0, #[], rfl, hb, h, by simp, by unfold maxLen; omega, by simp, by simp⟩⟩, by simp⟩
theorem at_new (w : World) (o : Obj) {b : Nat} (hb : b = w.heap.size) : (w.alloc o).heap[b]? = some o := by subst hb; exact heap_alloc_new w o
theorem at_old (w : World) (o p : Obj) {b : Nat} (hb : b = w.heap.size) : ((w.alloc o).alloc p).heap[b]? = some o := by subst hb; rw [Below.heap_alloc _ _ _ (by simp)]; exact heap_alloc_new w o
theorem bel_cell {w w' : World} {p : Addr} {v : Value} (h : Below w.heap.size w w') (hc : w.cell? p = some v) : w'.cell? p = some v := (Only.of_below (S := fun _ => False) h).cell hc (fun q => q)
/-- A transaction behind the others, in a row of the call's own; the history's variable and the answer's are turned. -/
theorem ref_txn_end {w w3 w6 : World} {F : Nat → Prop} {tv v2 : Value} {ts : List TxnM} {rows : List (List Value)} {id : Int} {ab : Bool} (hb : Below w.heap.size w w3) (hi : Is w3 w.heap.size #[tv]) (hj : Is w3 (w.heap.size + 1) #[.slice none 0 0]) (ht : AllAt (TxnAt F w3) rows ts) (hF : ∀ b, F b → b < w.heap.size)
    (h6 : Below w3.heap.size w3 w6) (hown : OwnC 48 3 w3.heap.size w6 v2 (rows ++ [[.int .i64 id, .bool ab, .slice none 0 0]])) (hw : (Lit.int .i64 id).wf = true) :
    TxnsAt (fun b => F b ∨ w.heap.size ≤ b) ((w6.setCell ⟨w.heap.size, 0, none⟩ v2).setCell ⟨w.heap.size + 1, 0, none⟩ v2) v2 (ts ++ [⟨id, ab, []⟩]) ∧ Below w.heap.size w ((w6.setCell ⟨w.heap.size, 0, none⟩ v2).setCell ⟨w.heap.size + 1, 0, none⟩ v2) ∧
      ((w6.setCell ⟨w.heap.size, 0, none⟩ v2).setCell ⟨w.heap.size + 1, 0, none⟩ v2).cell? ⟨w.heap.size + 1, 0, none⟩ = some v2 := by
  have hil := hi.lt
  have hjl := hj.lt
  have hs6 := h6.size
  have hO1 : Only (fun k => k = w.heap.size) w6 (w6.setCell ⟨w.heap.size, 0, none⟩ v2) := (Only.refl _ _).put 0 _
  have hO2 : Only (fun k => k = w.heap.size + 1) (w6.setCell ⟨w.heap.size, 0, none⟩ v2) ((w6.setCell ⟨w.heap.size, 0, none⟩ v2).setCell ⟨w.heap.size + 1, 0, none⟩ v2) := (Only.refl _ _).put 0 _
  have hO : Only (fun k => k = w.heap.size ∨ k = w.heap.size + 1) w6 ((w6.setCell ⟨w.heap.size, 0, none⟩ v2).setCell ⟨w.heap.size + 1, 0, none⟩ v2) := (hO1.mono fun _ q => .inl q).trans (hO2.mono fun _ q => .inr q)
  refine ⟨⟨_, (hown.row.only hO (fun b q => by have := q.1; omega)).mono (fun b q => by have := q.1; omega), AllAt.append (ht.mono fun c x q => ((q.only (Only.of_below (S := fun _ => False) h6) (fun _ _ r => r)).only hO (fun b q => by have := hF b q; omega)).mono fun b q => .inl q) (AllAt.one ⟨_, rfl, OpsAt.nil, hw⟩)⟩, ?_, ?_⟩
  · exact (hb.trans (h6.mono (by have := hb.size; omega))).only hO (fun i q => by omega) (by omega)
  · exact Is.cell (cs := #[v2]) (((hj.below h6).keep hO1 (by omega)).set 0 v2) 0 rfl
theorem txn_one {F : Nat → Prop} {w : World} {rows : List (List Value)} {ts : List TxnM} (h : AllAt (TxnAt F w) rows ts) : ∀ c ∈ rows, ∀ u ∈ c, u.oneCell' = true := by
  intro c hc u hu
  obtain ⟨i, hi, rfl⟩ := List.mem_iff_getElem.1 hc
  obtain ⟨_, v, e, hv, _⟩ := h.get (i := i) (by rw [← h.1]; exact hi)
  obtain ⟨a, cap, rfl, _⟩ := hv.shape
  rw [e] at hu
  simp at hu
  rcases hu with rfl | rfl | rfl <;> rfl
set_option maxRecDepth 20000 in
set_option maxHeartbeats 4000000 in
theorem rtxn_any (F : Nat → Prop) (tv : Value) (ts : List TxnM) (a : Option Addr) (len cap : Nat) (z : Nat → Int) (i : Nat) (w : World) (ht : TxnsAt F w tv ts) (hr : Rd .u8 w a len z) (hc : len ≤ cap) (hi : i < len) (hl : len ≤ 1000000) (hts : ts.length ≤ 100000) :
    Calls Try.prog 33 #[.agg #[tv], .slice a len cap, .int .i64 (i : Int)] w fun e w' => ∃ tv', e = .returned (.tuple #[.agg #[tv'], .int .i64 ((txnS z len ts i).nx : Int), .int .i64 (txnS z len ts i).e, .int .i64 (txnS z len ts i).wh]) ∧ TxnsAt (fun b => F b ∨ w.heap.size ≤ b) w' tv' (txnS z len ts i).ts ∧ Below w.heap.size w w' := by
  obtain ⟨ta, tcap, rfl, hc1, hc2⟩ := ht.shape
  have hlt := ht.lt
  have hit : (i : Int) < (len : Int) := by omega
  obtain ⟨HI, HJ, HB, HT, HR⟩ := two_mid (T := 24) (U := 24) hlt hr (Below.refl _ _)
  replace HI := hide HI
  obtain ⟨hc0, -⟩ := Is.one HI.out
  have LI := hide HJ
  have LB := hide HB
  have LT := hide HT
  replace HR := hide HR
  have LF : Hid (∀ b, (F b ∧ b < w.heap.size) → b < w.heap.size ∨ w.heap.size + 1 < b) := hide (fun b q => .inl q.2)
  have H0 := hide hlt
  have HR0 := hide hr
  clear HJ HB HT ht hr hlt
  by_cases h24 : 1024 ≤ ts.length
  · have h24' : (1024 : Int) ≤ (ts.length : Int) := by omega
    have HS : Hid (txnS z len ts i = ⟨ts, 0, 3, i⟩) := if_pos h24
    clear h24
    go_enter Try.func33, Try.ntmps33
    go_wp2
    refine bodyPost_ret (v := .tuple #[.agg #[.slice ta ts.length tcap], .int .i64 0, .int .i64 3, .int .i64 (i : Int)]) (by simp [results, Try.results33, go_sem]) rfl ⟨_, by rw [HS.out]; rfl, ?_, two_below _ _ _ _ _⟩
    rw [HS.out]
    exact (H0.out.keep (two_below _ _ _ _ _)).mono (fun b q => .inl q.1)
  have h24' : ¬ (1024 : Int) ≤ (ts.length : Int) := by omega
  obtain ⟨b1, hb1⟩ : ∃ b, isB z len (i + 1) 32 = b := ⟨_, rfl⟩
  have B1 := hide hb1
  cases b1 with
  | false =>
    have HS : Hid (txnS z len ts i = ⟨ts, 0, 4, ((i + 1 : Nat) : Int)⟩) := by show _ = _; unfold txnS; rw [if_neg h24, if_pos hb1]
    clear h24 hb1
    go_enter Try.func33, Try.ntmps33
    go_wp2_with (go_at_call 47; (with_reducible refine (ris_at _ len cap z (i + 1) _ 32 _ HR.out (by omega) (by omega) B1).mono ?_); rintro e w' ⟨rfl, hw⟩; replace hw := hw.symm; subst hw)
    refine bodyPost_ret (v := .tuple #[.agg #[.slice ta ts.length tcap], .int .i64 0, .int .i64 4, .int .i64 ((i : Int) + 1)]) (by simp [results, Try.results33, go_sem]) rfl ⟨_, by rw [HS.out]; rfl, ?_, two_below _ _ _ _ _⟩
    rw [HS.out]
    exact (H0.out.keep (two_below _ _ _ _ _)).mono (fun b q => .inl q.1)
  | true =>
  have e2 : ((i + 2 : Nat) : Int) = (i : Int) + 2 := by push_cast; rfl
  rcases parse_two z len (i + 2) (by have := (isB_iff.1 hb1).1; omega) with ⟨n, t, g1, g2, g3, g4, hp⟩ | ⟨t, g1, g2, hp⟩
  case inr =>
    have HS : Hid (txnS z len ts i = ⟨ts, 0, 4, (t : Int)⟩) := by show _ = _; unfold txnS; rw [if_neg h24, if_neg (by rw [hb1]; decide), hp]; rfl
    rw [e2] at hp
    have HP := hide hp
    clear h24 hb1 hp
    go_enter Try.func33, Try.ntmps33
    go_wp2_with (first | (go_at_call 47; (with_reducible refine (ris_at _ len cap z (i + 1) _ 32 _ HR.out (by omega) (by omega) B1).mono ?_); rintro e w' ⟨rfl, hw⟩; replace hw := hw.symm; subst hw) | (go_at_call 48; (with_reducible refine (rparse_eq _ len cap z _ _ HR.out hc HP).mono ?_); rintro e w' ⟨rfl, hw⟩; replace hw := hw.symm; subst hw))
    refine bodyPost_ret (v := .tuple #[.agg #[.slice ta ts.length tcap], .int .i64 0, .int .i64 4, .int .i64 (t : Int)]) (by simp [results, Try.results33, go_sem]) rfl ⟨_, by rw [HS.out]; rfl, ?_, two_below _ _ _ _ _⟩
    rw [HS.out]
    exact (H0.out.keep (two_below _ _ _ _ _)).mono (fun b q => .inl q.1)
  obtain ⟨b2, hb2⟩ : ∃ b, twinB ts n = b := ⟨_, rfl⟩
  have HTW := hide hb2
  have HS0 : Hid (b2 = false → txnS z len ts i = txnT z len ts n t) := hide (fun q => by unfold txnS; rw [if_neg h24, if_neg (by rw [hb1]; decide), hp, if_neg (by simp), if_neg (by rw [hb2, q]; decide)]; rfl)
  have HS1 : Hid (b2 = true → txnS z len ts i = ⟨ts, 0, 5, ((i + 2 : Nat) : Int)⟩) := hide (fun q => by unfold txnS; rw [if_neg h24, if_neg (by rw [hb1]; decide), hp, if_neg (by simp), if_pos (by rw [hb2, q])])
  rw [e2] at hp
  have HP := hide hp
  have htl : (t : Int) ≤ (len : Int) := by omega
  clear h24 hb1 hb2 hp
  cases b2 with
  | true =>
    have HS := hide (HS1.out rfl)
    go_enter Try.func33, Try.ntmps33
    go_wp2_with (first | (go_at_call 47; (with_reducible refine (ris_at _ len cap z (i + 1) _ 32 _ HR.out (by omega) (by omega) B1).mono ?_); rintro e w' ⟨rfl, hw⟩; replace hw := hw.symm; subst hw) | (go_at_call 48; (with_reducible refine (rparse_eq _ len cap z _ _ HR.out hc HP).mono ?_); rintro e w' ⟨rfl, hw⟩; replace hw := hw.symm; subst hw) | (go_at_call 49; go_must ((with_reducible refine (rtwin_any _ _ ts n _ LT.out (by omega)).mono ?_); rw [HTW.out]; rintro e w3 ⟨rfl, hb3⟩; obtain ⟨p1, p2, p3, p4, p5⟩ := two_mid H0.out HR0.out hb3; have HI3 := hide p1; have LI3 := hide p2; have LB3 := hide p3; have LT3 := hide p4; have HR3 := hide p5; obtain ⟨hc3, hg3⟩ := Is.one p1; obtain ⟨hd3, hf3⟩ := Is.one p2; clear hb3 p1 p2 p3 p4 p5)))
    obtain ⟨k1, k2, k3⟩ := ref_leaf LB3.out LI3.out LT3.out LF.out
    refine bodyPost_ret (v := .tuple #[.agg #[.slice ta ts.length tcap], .int .i64 0, .int .i64 5, .int .i64 ((i : Int) + 2)]) (by simp [results, Try.results33, go_sem, k3]) rfl ⟨_, by rw [HS.out]; rfl, ?_, k2⟩
    rw [HS.out]
    exact k1.mono (fun b q => .inl q.1)
  | false =>
  have HS2 := hide (HS0.out rfl)
  clear HS0 HS1
  obtain ⟨b3, hb3⟩ : ∃ b, isB z len t 32 = b := ⟨_, rfl⟩
  have B2 := hide hb3
  cases b3 with
  | false =>
    have HS : Hid (txnS z len ts i = ⟨ts, 0, 4, (t : Int)⟩) := by show _ = _; rw [HS2.out]; unfold txnT; rw [if_pos hb3]
    clear hb3
    go_enter Try.func33, Try.ntmps33
    go_wp2_with (first | (go_at_call 47; (with_reducible refine (ris_at _ len cap z (i + 1) _ 32 _ HR.out (by omega) (by omega) B1).mono ?_); rintro e w' ⟨rfl, hw⟩; replace hw := hw.symm; subst hw) | (go_at_call 48; (with_reducible refine (rparse_eq _ len cap z _ _ HR.out hc HP).mono ?_); rintro e w' ⟨rfl, hw⟩; replace hw := hw.symm; subst hw) | (go_at_call 49; go_must ((with_reducible refine (rtwin_any _ _ ts n _ LT.out (by omega)).mono ?_); rw [HTW.out]; rintro e w3 ⟨rfl, hb3⟩; obtain ⟨p1, p2, p3, p4, p5⟩ := two_mid H0.out HR0.out hb3; have HI3 := hide p1; have LI3 := hide p2; have LB3 := hide p3; have LT3 := hide p4; have HR3 := hide p5; obtain ⟨hc3, hg3⟩ := Is.one p1; obtain ⟨hd3, hf3⟩ := Is.one p2; clear hb3 p1 p2 p3 p4 p5)) | (go_at_call 47; (with_reducible refine (ris_at _ len cap z (t) _ 32 _ HR3.out (by omega) (by omega) B2).mono ?_); rintro e w' ⟨rfl, hw⟩; replace hw := hw.symm; subst hw))
    obtain ⟨k1, k2, k3⟩ := ref_leaf LB3.out LI3.out LT3.out LF.out
    refine bodyPost_ret (v := .tuple #[.agg #[.slice ta ts.length tcap], .int .i64 0, .int .i64 4, .int .i64 (t : Int)]) (by simp [results, Try.results33, go_sem, k3]) rfl ⟨_, by rw [HS.out]; rfl, ?_, k2⟩
    rw [HS.out]
    exact k1.mono (fun b q => .inl q.1)
  | true =>
  obtain ⟨b4, hb4⟩ : ∃ b, isB z len (t + 1) 97 = b := ⟨_, rfl⟩
  obtain ⟨b5, hb5⟩ : ∃ b, isB z len (t + 1) 99 = b := ⟨_, rfl⟩
  obtain ⟨b6, hb6⟩ : ∃ b, isB z len (t + 2) 10 = b := ⟨_, rfl⟩
  have B3 := hide hb4
  have B4 := hide hb5
  have B5 := hide hb6
  have hwn : (Lit.int .i64 n).wf = true := wf_of_i64 (by omega) (by omega)
  have ht32 := (isB_iff.1 hb3).1
  by_cases h45 : b4 = false ∧ b5 = false
  · obtain ⟨rfl, rfl⟩ := h45
    have HS : Hid (txnS z len ts i = ⟨ts, 0, 4, ((t + 1 : Nat) : Int)⟩) := by show _ = _; rw [HS2.out]; unfold txnT; rw [if_neg (by rw [hb3]; decide), if_pos ⟨hb4, hb5⟩]
    clear hb3 hb4 hb5 hb6
    go_enter Try.func33, Try.ntmps33
    go_wp2_with (first | (go_at_call 47; (with_reducible refine (ris_at _ len cap z (i + 1) _ 32 _ HR.out (by omega) (by omega) B1).mono ?_); rintro e w' ⟨rfl, hw⟩; replace hw := hw.symm; subst hw) | (go_at_call 48; (with_reducible refine (rparse_eq _ len cap z _ _ HR.out hc HP).mono ?_); rintro e w' ⟨rfl, hw⟩; replace hw := hw.symm; subst hw) | (go_at_call 49; go_must ((with_reducible refine (rtwin_any _ _ ts n _ LT.out (by omega)).mono ?_); rw [HTW.out]; rintro e w3 ⟨rfl, hb3⟩; obtain ⟨p1, p2, p3, p4, p5⟩ := two_mid H0.out HR0.out hb3; have HI3 := hide p1; have LI3 := hide p2; have LB3 := hide p3; have LT3 := hide p4; have HR3 := hide p5; obtain ⟨hc3, hg3⟩ := Is.one p1; obtain ⟨hd3, hf3⟩ := Is.one p2; clear hb3 p1 p2 p3 p4 p5)) | (go_at_call 47; (with_reducible refine (ris_at _ len cap z (t) _ 32 _ HR3.out (by omega) (by omega) B2).mono ?_); rintro e w' ⟨rfl, hw⟩; replace hw := hw.symm; subst hw) | (go_at_call 47; (with_reducible refine (ris_at _ len cap z (t + 1) _ 97 _ HR3.out (by omega) (by omega) B3).mono ?_); rintro e w' ⟨rfl, hw⟩; replace hw := hw.symm; subst hw) | (go_at_call 47; (with_reducible refine (ris_at _ len cap z (t + 1) _ 99 _ HR3.out (by omega) (by omega) B4).mono ?_); rintro e w' ⟨rfl, hw⟩; replace hw := hw.symm; subst hw))
    obtain ⟨k1, k2, k3⟩ := ref_leaf LB3.out LI3.out LT3.out LF.out
    refine bodyPost_ret (v := .tuple #[.agg #[.slice ta ts.length tcap], .int .i64 0, .int .i64 4, .int .i64 ((t : Int) + 1)]) (by simp [results, Try.results33, go_sem, k3]) rfl ⟨_, by rw [HS.out]; rfl, ?_, k2⟩
    rw [HS.out]
    exact k1.mono (fun b q => .inl q.1)
  cases b6 with
  | false =>
    have HS : Hid (txnS z len ts i = ⟨ts, 0, 4, ((t + 2 : Nat) : Int)⟩) := by show _ = _; rw [HS2.out]; unfold txnT; rw [if_neg (by rw [hb3]; decide), if_neg (by rw [hb4, hb5]; exact h45), if_pos hb6]
    clear hb3 hb4 hb5 hb6
    cases b4 with
    | true =>
      go_enter Try.func33, Try.ntmps33
      go_wp2_with (first | (go_at_call 47; (with_reducible refine (ris_at _ len cap z (i + 1) _ 32 _ HR.out (by omega) (by omega) B1).mono ?_); rintro e w' ⟨rfl, hw⟩; replace hw := hw.symm; subst hw) | (go_at_call 48; (with_reducible refine (rparse_eq _ len cap z _ _ HR.out hc HP).mono ?_); rintro e w' ⟨rfl, hw⟩; replace hw := hw.symm; subst hw) | (go_at_call 49; go_must ((with_reducible refine (rtwin_any _ _ ts n _ LT.out (by omega)).mono ?_); rw [HTW.out]; rintro e w3 ⟨rfl, hb3⟩; obtain ⟨p1, p2, p3, p4, p5⟩ := two_mid H0.out HR0.out hb3; have HI3 := hide p1; have LI3 := hide p2; have LB3 := hide p3; have LT3 := hide p4; have HR3 := hide p5; obtain ⟨hc3, hg3⟩ := Is.one p1; obtain ⟨hd3, hf3⟩ := Is.one p2; clear hb3 p1 p2 p3 p4 p5)) | (go_at_call 47; (with_reducible refine (ris_at _ len cap z (t) _ 32 _ HR3.out (by omega) (by omega) B2).mono ?_); rintro e w' ⟨rfl, hw⟩; replace hw := hw.symm; subst hw) | (go_at_call 47; (with_reducible refine (ris_at _ len cap z (t + 1) _ 97 _ HR3.out (by omega) (by omega) B3).mono ?_); rintro e w' ⟨rfl, hw⟩; replace hw := hw.symm; subst hw) | (go_at_call 47; (with_reducible refine (ris_at _ len cap z (t + 2) _ 10 _ HR3.out (by omega) (by omega) B5).mono ?_); rintro e w' ⟨rfl, hw⟩; replace hw := hw.symm; subst hw))
      obtain ⟨k1, k2, k3⟩ := ref_leaf LB3.out LI3.out LT3.out LF.out
      refine bodyPost_ret (v := .tuple #[.agg #[.slice ta ts.length tcap], .int .i64 0, .int .i64 4, .int .i64 ((t : Int) + 2)]) (by simp [results, Try.results33, go_sem, k3]) rfl ⟨_, by rw [HS.out]; rfl, ?_, k2⟩
      rw [HS.out]
      exact k1.mono (fun b q => .inl q.1)
    | false =>
      obtain rfl : b5 = true := by cases b5 with
        | false => exact absurd (And.intro rfl rfl) h45
        | true => rfl
      go_enter Try.func33, Try.ntmps33
      go_wp2_with (first | (go_at_call 47; (with_reducible refine (ris_at _ len cap z (i + 1) _ 32 _ HR.out (by omega) (by omega) B1).mono ?_); rintro e w' ⟨rfl, hw⟩; replace hw := hw.symm; subst hw) | (go_at_call 48; (with_reducible refine (rparse_eq _ len cap z _ _ HR.out hc HP).mono ?_); rintro e w' ⟨rfl, hw⟩; replace hw := hw.symm; subst hw) | (go_at_call 49; go_must ((with_reducible refine (rtwin_any _ _ ts n _ LT.out (by omega)).mono ?_); rw [HTW.out]; rintro e w3 ⟨rfl, hb3⟩; obtain ⟨p1, p2, p3, p4, p5⟩ := two_mid H0.out HR0.out hb3; have HI3 := hide p1; have LI3 := hide p2; have LB3 := hide p3; have LT3 := hide p4; have HR3 := hide p5; obtain ⟨hc3, hg3⟩ := Is.one p1; obtain ⟨hd3, hf3⟩ := Is.one p2; clear hb3 p1 p2 p3 p4 p5)) | (go_at_call 47; (with_reducible refine (ris_at _ len cap z (t) _ 32 _ HR3.out (by omega) (by omega) B2).mono ?_); rintro e w' ⟨rfl, hw⟩; replace hw := hw.symm; subst hw) | (go_at_call 47; (with_reducible refine (ris_at _ len cap z (t + 1) _ 97 _ HR3.out (by omega) (by omega) B3).mono ?_); rintro e w' ⟨rfl, hw⟩; replace hw := hw.symm; subst hw) | (go_at_call 47; (with_reducible refine (ris_at _ len cap z (t + 1) _ 99 _ HR3.out (by omega) (by omega) B4).mono ?_); rintro e w' ⟨rfl, hw⟩; replace hw := hw.symm; subst hw) | (go_at_call 47; (with_reducible refine (ris_at _ len cap z (t + 2) _ 10 _ HR3.out (by omega) (by omega) B5).mono ?_); rintro e w' ⟨rfl, hw⟩; replace hw := hw.symm; subst hw))
      obtain ⟨k1, k2, k3⟩ := ref_leaf LB3.out LI3.out LT3.out LF.out
      refine bodyPost_ret (v := .tuple #[.agg #[.slice ta ts.length tcap], .int .i64 0, .int .i64 4, .int .i64 ((t : Int) + 2)]) (by simp [results, Try.results33, go_sem, k3]) rfl ⟨_, by rw [HS.out]; rfl, ?_, k2⟩
      rw [HS.out]
      exact k1.mono (fun b q => .inl q.1)
  | true =>
  have HS : Hid (txnS z len ts i = ⟨ts ++ [⟨n, z (t + 1) == 97, []⟩], t + 3, 0, 0⟩) := by show _ = _; rw [HS2.out]; unfold txnT; rw [if_neg (by rw [hb3]; decide), if_neg (by rw [hb4, hb5]; exact h45), if_neg (by rw [hb6]; decide)]
  have hlt1 : t + 1 < len := by have := (isB_iff.1 hb6).1; omega
  have hlt1' : (t : Int) + 1 < (len : Int) := by omega
  have hlt1n : ((t : Int) + 1).toNat = t + 1 := by omega
  have hlt10 : (0 : Int) ≤ (t : Int) + 1 := by omega
  have hwr1 : IntKind.i64.wrap ((t : Int) + 1) = (t : Int) + 1 := by rw [IntKind.wrap_i64]; omega
  obtain ⟨bb, off, rfl, hcl, hz1, hz2⟩ := HR0.out.u8 hlt1
  clear hb3 hb6
  obtain ⟨i0, hi0, hz0, hz1', hz2'⟩ := info_parts Try.infoTxn
  have HI0 : Hid (Try.prog.info? 48 = some i0 ∧ i0.zero = some (.agg #[.int .i64 0, .bool false, .slice none 0 0]) ∧ i0.size = 3 ∧ i0.bytes = 40) := ⟨hi0, hz0, hz1', hz2'⟩
  clear hi0 hz0 hz1' hz2'
  cases b4 with
  | true =>
    have h97 : (z (t + 1) == 97) = true := by simpa using (isB_iff.1 hb4).2
    clear hb4 hb5
    go_enter Try.func33, Try.ntmps33
    go_wp2_with (first | (go_at_call 47; (with_reducible refine (ris_at _ len cap z (i + 1) _ 32 _ HR.out (by omega) (by omega) B1).mono ?_); rintro e w' ⟨rfl, hw⟩; replace hw := hw.symm; subst hw) | (go_at_call 48; (with_reducible refine (rparse_eq _ len cap z _ _ HR.out hc HP).mono ?_); rintro e w' ⟨rfl, hw⟩; replace hw := hw.symm; subst hw) | (go_at_call 49; go_must ((with_reducible refine (rtwin_any _ _ ts n _ LT.out (by omega)).mono ?_); rw [HTW.out]; rintro e w3 ⟨rfl, hb3⟩; obtain ⟨p1, p2, p3, p4, p5⟩ := two_mid H0.out HR0.out hb3; have HI3 := hide p1; have LI3 := hide p2; have LB3 := hide p3; have LT3 := hide p4; have HR3 := hide p5; obtain ⟨hc3, hg3⟩ := Is.one p1; obtain ⟨hd3, hf3⟩ := Is.one p2; clear hb3 p1 p2 p3 p4 p5)) | (go_at_call 47; (with_reducible refine (ris_at _ len cap z (t) _ 32 _ HR3.out (by omega) (by omega) B2).mono ?_); rintro e w' ⟨rfl, hw⟩; replace hw := hw.symm; subst hw) | (go_at_call 47; (with_reducible refine (ris_at _ len cap z (t + 1) _ 97 _ HR3.out (by omega) (by omega) B3).mono ?_); rintro e w' ⟨rfl, hw⟩; replace hw := hw.symm; subst hw) | (go_at_call 47; (with_reducible refine (ris_at _ len cap z (t + 2) _ 10 _ HR3.out (by omega) (by omega) B5).mono ?_); rintro e w' ⟨rfl, hw⟩; replace hw := hw.symm; subst hw))
    obtain ⟨rows, ROW, ALL⟩ := LT3.out
    replace ROW := hide ROW
    have ONE : Hid (∀ c ∈ rows, ∀ u ∈ c, u.oneCell' = true) := hide (txn_one ALL)
    have hrl : rows.length = ts.length := ALL.1
    have hbb : bb < w.heap.size := lt_of_cell hcl
    replace hcl := bel_cell LB3.out hcl
    have hbb3 : bb < w3.heap.size := by have := LB3.out.size; omega
    have hh3 : w.heap.size < w3.heap.size := HI3.out.lt
    clear HI hc0 LI LB LT HR LF H0 HR0 B1 HP HTW HS2 B2 B3 B4 B5 HR3 hit h24' e2 htl ht32 hlt1 hc1 hc2 hi g1 g2
    have HS0 : (fun w' : World => w'.cell? ⟨w.heap.size, 0, none⟩ = some (.slice ta ts.length tcap) ∧ w'.cell? ⟨bb, off + (t + 1), none⟩ = some (.int .u8 (z (t + 1)))) w3.drew := ⟨hc3, hcl⟩
    refine Last.region_last (k := 15) (S := fun w' : World => w'.cell? ⟨w.heap.size, 0, none⟩ = some (.slice ta ts.length tcap) ∧ w'.cell? ⟨bb, off + (t + 1), none⟩ = some (.int .u8 (z (t + 1)))) (by kernel_rfl) rfl rfl (by kernel_rfl) (by kernel_rfl) ?_
    refine wpAnyH_take (i := 1) (v := ?_) rfl (by kernel_rfl) (by kernel_rfl) (by kernel_rfl) (fun _ _ _ h => h) (Or.inl ⟨by rfl, ?_⟩) HS0 ?_
    rotate_left
    · intro w' hSw
      try dsimp only at hSw
      simp only [List.getElem_toArray, List.getElem_cons_zero, List.getElem_cons_succ]
      go_simp
      try with_reducible rfl
    try simp only [Act.put, List.getElem_toArray, List.getElem_cons_zero, List.getElem_cons_succ, List.setIfInBounds_toArray, List.set_cons_zero, List.set_cons_succ]
    refine wpAnyH_take (i := 2) (v := ?_) rfl (by kernel_rfl) (by kernel_rfl) (by kernel_rfl) (fun _ _ _ h => h) (Or.inl ⟨by rfl, ?_⟩) HS0 ?_
    rotate_left
    · intro w' hSw
      try dsimp only at hSw
      simp only [List.getElem_toArray, List.getElem_cons_zero, List.getElem_cons_succ]
      go_simp
      try with_reducible rfl
    try simp only [Act.put, List.getElem_toArray, List.getElem_cons_zero, List.getElem_cons_succ, List.setIfInBounds_toArray, List.set_cons_zero, List.set_cons_succ]
    refine wpAnyH_take (i := 4) (v := ?_) rfl (by kernel_rfl) (by kernel_rfl) (by kernel_rfl) (fun _ _ _ h => h) (Or.inl ⟨by rfl, ?_⟩) HS0 ?_
    rotate_left
    · intro w' hSw
      try dsimp only at hSw
      simp only [List.getElem_toArray, List.getElem_cons_zero, List.getElem_cons_succ]
      go_simp
      try with_reducible rfl
    try simp only [Act.put, List.getElem_toArray, List.getElem_cons_zero, List.getElem_cons_succ, List.setIfInBounds_toArray, List.set_cons_zero, List.set_cons_succ]
    refine wpAnyH_take (i := 5) (v := ?_) rfl (by kernel_rfl) (by kernel_rfl) (by kernel_rfl) (fun _ _ _ h => h) (Or.inl ⟨by rfl, ?_⟩) HS0 ?_
    rotate_left
    · intro w' hSw
      try dsimp only at hSw
      simp only [List.getElem_toArray, List.getElem_cons_zero, List.getElem_cons_succ]
      go_simp
      try with_reducible rfl
    try simp only [Act.put, List.getElem_toArray, List.getElem_cons_zero, List.getElem_cons_succ, List.setIfInBounds_toArray, List.set_cons_zero, List.set_cons_succ]
    refine wpAnyH_take (i := 6) (v := ?_) rfl (by kernel_rfl) (by kernel_rfl) (by kernel_rfl) (fun _ _ _ h => h) (Or.inl ⟨by rfl, ?_⟩) HS0 ?_
    rotate_left
    · intro w' hSw
      try dsimp only at hSw
      simp only [List.getElem_toArray, List.getElem_cons_zero, List.getElem_cons_succ]
      go_simp
      try with_reducible rfl
    try simp only [Act.put, List.getElem_toArray, List.getElem_cons_zero, List.getElem_cons_succ, List.setIfInBounds_toArray, List.set_cons_zero, List.set_cons_succ]
    refine wpAnyH_take (i := 7) (v := ?_) rfl (by kernel_rfl) (by kernel_rfl) (by kernel_rfl) (fun _ _ _ h => h) (Or.inl ⟨by rfl, ?_⟩) HS0 ?_
    rotate_left
    · intro w' hSw
      try dsimp only at hSw
      simp only [List.getElem_toArray, List.getElem_cons_zero, List.getElem_cons_succ]
      go_simp
      try with_reducible rfl
    try simp only [Act.put, List.getElem_toArray, List.getElem_cons_zero, List.getElem_cons_succ, List.setIfInBounds_toArray, List.set_cons_zero, List.set_cons_succ]
    refine wpAnyH_take (i := 8) (v := ?_) rfl (by kernel_rfl) (by kernel_rfl) (by kernel_rfl) (fun _ _ _ h => h) (Or.inl ⟨by rfl, ?_⟩) HS0 ?_
    rotate_left
    · intro w' hSw
      try dsimp only at hSw
      simp only [List.getElem_toArray, List.getElem_cons_zero, List.getElem_cons_succ]
      go_simp
      try with_reducible rfl
    try simp only [Act.put, List.getElem_toArray, List.getElem_cons_zero, List.getElem_cons_succ, List.setIfInBounds_toArray, List.set_cons_zero, List.set_cons_succ]
    refine wpAnyH_take (i := 9) (v := ?_) rfl (by kernel_rfl) (by kernel_rfl) (by kernel_rfl) (fun _ _ _ h => h) (Or.inl ⟨by rfl, ?_⟩) HS0 ?_
    rotate_left
    · intro w' hSw
      try dsimp only at hSw
      simp only [List.getElem_toArray, List.getElem_cons_zero, List.getElem_cons_succ]
      go_simp
      try with_reducible rfl
    try simp only [Act.put, List.getElem_toArray, List.getElem_cons_zero, List.getElem_cons_succ, List.setIfInBounds_toArray, List.set_cons_zero, List.set_cons_succ]
    refine wpAnyH_take (i := 10) (v := ?_) rfl (by kernel_rfl) (by kernel_rfl) (by kernel_rfl) (fun _ _ _ h => h) (Or.inl ⟨by rfl, ?_⟩) HS0 ?_
    rotate_left
    · intro w' hSw
      try dsimp only at hSw
      simp only [List.getElem_toArray, List.getElem_cons_zero, List.getElem_cons_succ]
      go_simp
      try with_reducible rfl
    try simp only [Act.put, List.getElem_toArray, List.getElem_cons_zero, List.getElem_cons_succ, List.setIfInBounds_toArray, List.set_cons_zero, List.set_cons_succ]
    refine wpAnyH_take (i := 11) (v := ?_) rfl (by kernel_rfl) (by kernel_rfl) (by kernel_rfl) (fun _ _ _ h => h) (Or.inl ⟨by rfl, ?_⟩) HS0 ?_
    rotate_left
    · intro w' hSw
      try dsimp only at hSw
      simp only [List.getElem_toArray, List.getElem_cons_zero, List.getElem_cons_succ]
      go_simp
      try with_reducible rfl
    try simp only [Act.put, List.getElem_toArray, List.getElem_cons_zero, List.getElem_cons_succ, List.setIfInBounds_toArray, List.set_cons_zero, List.set_cons_succ]
    refine wpAnyH_ready (rs := [0, 12]) (by kernel_rfl) (by simp) ?_
    refine AllReadyH.cons rfl (fun K hK => ?_) (AllReadyH.cons rfl (fun K hK => ?_) AllReadyH.nil)
    · skip
      (simp only [List.getElem_toArray, List.getElem_cons_zero, List.getElem_cons_succ])
      go_simp
      refine hK.out _ _ ⟨bel_cell (by repeat (first | exact Below.refl _ _ | exact BB5.out | refine Below.drew ?_ | refine Below.alloc ?_ (by first | omega | (simp; done) | (simp; omega)) _)) hc3, bel_cell (by repeat (first | exact Below.refl _ _ | exact BB5.out | refine Below.drew ?_ | refine Below.alloc ?_ (by first | omega | (simp; done) | (simp; omega)) _)) hcl⟩ (fun HS1 => ?_)
      clear hK K
      try simp only [Act.put, List.getElem_toArray, List.getElem_cons_zero, List.getElem_cons_succ, List.setIfInBounds_toArray, List.set_cons_zero, List.set_cons_succ]
      refine wpAnyH_ready (rs := [3, 12]) (by kernel_rfl) (by simp) ?_
      refine AllReadyH.cons rfl (fun K hK => ?_) (AllReadyH.cons rfl (fun K hK => ?_) AllReadyH.nil)
      · skip
        ((refine step_app_row (by rfl) (.tmp 74) (.tmp 76) _ (by rfl) 48 i0 _ 3 40 Try.underlying22 HI0.out.1 HI0.out.2.1 HI0.out.2.2.1 HI0.out.2.2.2 rfl (by omega) (by omega) w3.heap.size _ [] (by rfl) (own_empty 3 (by first | exact at_new _ _ (by first | rfl | simp) | exact at_old _ _ _ (by first | rfl | simp) | (show (World.alloc _ _).heap[_]? = _; first | exact at_new _ _ (by first | rfl | simp) | exact at_old _ _ _ (by first | rfl | simp))) (by first | omega | (simp; done) | (simp; omega))) _ _ rows (by rfl) (ROW.out.only (Only.of_below (S := fun _ => False) (by repeat (first | exact Below.refl _ _ | exact BB5.out | refine Below.drew ?_ | refine Below.alloc ?_ (by first | omega | (simp; done) | (simp; omega)) _))) (fun _ _ q => q)) ONE.out (by simp; omega) (by first | omega | (simp; done) | (simp; omega)) ?_); intro v5 w5 hown5 ho5 hat5; go_must (have BB5 : Hid (Below w3.heap.size w3 w5) := hide (Below.only (by repeat (first | exact Below.refl _ _ | exact BB5.out | refine Below.drew ?_ | refine Below.alloc ?_ (by first | omega | (simp; done) | (simp; omega)) _)) ho5 (fun k q => (by simp [Value.ownBlock] at q; omega)) (by first | omega | (simp; done) | (simp; omega))); have OW5 := hide hown5; have hz5 := BB5.out.size; have s5 := HI3.out.below BB5.out; have l5 := bel_cell BB5.out hcl; obtain ⟨hc5, hg5⟩ := Is.one s5; (first | (have IB : Hid (Is w5 (w3.heap.size + 1) #[.int .i64 n, .bool true, .slice none 0 0]) := hide ((Is.drew (Is.made _ _ 48 (by first | rfl | simp))).keep ho5 (fun q => (by simp [Value.ownBlock] at q)))) | (have IB : Hid (Is w5 w3.heap.size #[.int .i64 n, .bool true, .slice none 0 0]) := hide ((Is.drew ((Is.made _ _ 48 (by first | rfl | simp)).alloc _)).keep ho5 (fun q => (by simp [Value.ownBlock] at q)))) | skip); clear hown5 ho5 s5))
        refine hK.out _ _ ⟨hc5, l5⟩ (fun HS2 => ?_)
        clear hK K
        try simp only [Act.put, List.getElem_toArray, List.getElem_cons_zero, List.getElem_cons_succ, List.setIfInBounds_toArray, List.set_cons_zero, List.set_cons_succ]
        refine wpAnyH_ready (rs := [12]) (by kernel_rfl) (by simp) ?_
        refine AllReadyH.cons rfl (fun K hK => ?_) AllReadyH.nil
        (simp only [List.getElem_toArray, List.getElem_cons_zero, List.getElem_cons_succ])
        go_simp
        refine hK.out _ _ ⟨bel_cell (by repeat (first | exact Below.refl _ _ | exact BB5.out | refine Below.drew ?_ | refine Below.alloc ?_ (by first | omega | (simp; done) | (simp; omega)) _)) hc3, bel_cell (by repeat (first | exact Below.refl _ _ | exact BB5.out | refine Below.drew ?_ | refine Below.alloc ?_ (by first | omega | (simp; done) | (simp; omega)) _)) hcl⟩ (fun HS3 => ?_)
        clear hK K
        try simp only [Act.put, List.getElem_toArray, List.getElem_cons_zero, List.getElem_cons_succ, List.setIfInBounds_toArray, List.set_cons_zero, List.set_cons_succ]
        refine wpAnyH_ready (rs := [13]) (by kernel_rfl) (by simp) ?_
        refine AllReadyH.cons rfl (fun K hK => ?_) AllReadyH.nil
        ((refine step_app_row (by rfl) (.tmp 77) (.tmp 86) _ (by rfl) 48 i0 _ 3 40 Try.underlying22 HI0.out.1 HI0.out.2.1 HI0.out.2.2.1 HI0.out.2.2.2 rfl (by omega) (by omega) w3.heap.size v5 rows (by rfl) (by first | exact OW5.out | exact OW5.out.alloc _) _ _ [[.int .i64 n, .bool true, .slice none 0 0]] (by rfl) (RowAt.one rfl (by first | exact IB.out | exact Is.made _ _ _ rfl) (by omega) (by unfold maxLen; omega)) (by simp [Value.oneCell']) (by simp; omega) (by first | omega | (simp; done) | (simp; omega)) ?_); intro v6 w6 hown6 ho6 hat6; go_must (obtain ⟨g6, c6, rfl, -, -⟩ := own_snoc_some hown6 hrl; have BB6 : Hid (Below w3.heap.size w3 w6) := hide (Below.only (by repeat (first | exact Below.refl _ _ | exact BB5.out | refine Below.drew ?_ | refine Below.alloc ?_ (by first | omega | (simp; done) | (simp; omega)) _)) ho6 (fun k q => (OW5.out.lt k q).1) (by first | omega | (simp; done) | (simp; omega))); have s6 := HI3.out.below BB6.out; have l6 := bel_cell BB6.out hcl; obtain ⟨hc6, hg6⟩ := Is.one s6; have t6 := LI3.out.below BB6.out; obtain ⟨hd6, hf6⟩ := Is.one t6; have M := hide (ref_txn_end (ab := true) LB3.out HI3.out LI3.out ALL (fun b q => q.2) BB6.out hown6 hwn); clear hown6 ho6 s6 t6))
        refine hK.out _ _ ⟨hc6, l6⟩ (fun HS4 => ?_)
        clear hK K
        try simp only [Act.put, List.getElem_toArray, List.getElem_cons_zero, List.getElem_cons_succ, List.setIfInBounds_toArray, List.set_cons_zero, List.set_cons_succ]
        refine wpAnyH_take (i := 14) (v := ?_) rfl (by kernel_rfl) (by kernel_rfl) (by kernel_rfl) (fun _ _ _ h => h) (Or.inl ⟨by rfl, ?_⟩) HS4 ?_
        rotate_left
        · intro w' hSw
          try dsimp only at hSw
          simp only [List.getElem_toArray, List.getElem_cons_zero, List.getElem_cons_succ]
          go_simp
          try with_reducible rfl
        try simp only [Act.put, List.getElem_toArray, List.getElem_cons_zero, List.getElem_cons_succ, List.setIfInBounds_toArray, List.set_cons_zero, List.set_cons_succ]
        refine wpAnyH_done (by kernel_rfl) ?_ _
        refine Last.done_last ?_
        refine wpOp_step rfl (fun K hK => ?_)
        simp only [List.getElem_toArray, List.getElem_cons_zero, List.getElem_cons_succ]
        go_simp
        refine hK _ _ ?_
        clear hK
        go_simp
        go_wp2
        obtain ⟨k1, k2, k3⟩ := M.out
        refine bodyPost_ret (v := .tuple #[.agg #[.slice (some ⟨g6, 0, none⟩) (ts.length + 1) c6], .int .i64 ((t : Int) + 3), .int .i64 0, .int .i64 0]) (by simp [results, Try.results33, go_sem, k3]) rfl ⟨_, by rw [HS.out]; rfl, ?_, k2⟩
        rw [HS.out, h97]
        exact k1.mono (fun b q => q.imp And.left id)
      · skip
        (simp only [List.getElem_toArray, List.getElem_cons_zero, List.getElem_cons_succ])
        go_simp
        refine hK.out _ _ ⟨bel_cell (by repeat (first | exact Below.refl _ _ | exact BB5.out | refine Below.drew ?_ | refine Below.alloc ?_ (by first | omega | (simp; done) | (simp; omega)) _)) hc3, bel_cell (by repeat (first | exact Below.refl _ _ | exact BB5.out | refine Below.drew ?_ | refine Below.alloc ?_ (by first | omega | (simp; done) | (simp; omega)) _)) hcl⟩ (fun HS2 => ?_)
        clear hK K
        try simp only [Act.put, List.getElem_toArray, List.getElem_cons_zero, List.getElem_cons_succ, List.setIfInBounds_toArray, List.set_cons_zero, List.set_cons_succ]
        refine wpAnyH_ready (rs := [3]) (by kernel_rfl) (by simp) ?_
        refine AllReadyH.cons rfl (fun K hK => ?_) AllReadyH.nil
        ((refine step_app_row (by rfl) (.tmp 74) (.tmp 76) _ (by rfl) 48 i0 _ 3 40 Try.underlying22 HI0.out.1 HI0.out.2.1 HI0.out.2.2.1 HI0.out.2.2.2 rfl (by omega) (by omega) w3.heap.size _ [] (by rfl) (own_empty 3 (by first | exact at_new _ _ (by first | rfl | simp) | exact at_old _ _ _ (by first | rfl | simp) | (show (World.alloc _ _).heap[_]? = _; first | exact at_new _ _ (by first | rfl | simp) | exact at_old _ _ _ (by first | rfl | simp))) (by first | omega | (simp; done) | (simp; omega))) _ _ rows (by rfl) (ROW.out.only (Only.of_below (S := fun _ => False) (by repeat (first | exact Below.refl _ _ | exact BB5.out | refine Below.drew ?_ | refine Below.alloc ?_ (by first | omega | (simp; done) | (simp; omega)) _))) (fun _ _ q => q)) ONE.out (by simp; omega) (by first | omega | (simp; done) | (simp; omega)) ?_); intro v5 w5 hown5 ho5 hat5; go_must (have BB5 : Hid (Below w3.heap.size w3 w5) := hide (Below.only (by repeat (first | exact Below.refl _ _ | exact BB5.out | refine Below.drew ?_ | refine Below.alloc ?_ (by first | omega | (simp; done) | (simp; omega)) _)) ho5 (fun k q => (by simp [Value.ownBlock] at q; omega)) (by first | omega | (simp; done) | (simp; omega))); have OW5 := hide hown5; have hz5 := BB5.out.size; have s5 := HI3.out.below BB5.out; have l5 := bel_cell BB5.out hcl; obtain ⟨hc5, hg5⟩ := Is.one s5; (first | (have IB : Hid (Is w5 (w3.heap.size + 1) #[.int .i64 n, .bool true, .slice none 0 0]) := hide ((Is.drew (Is.made _ _ 48 (by first | rfl | simp))).keep ho5 (fun q => (by simp [Value.ownBlock] at q)))) | (have IB : Hid (Is w5 w3.heap.size #[.int .i64 n, .bool true, .slice none 0 0]) := hide ((Is.drew ((Is.made _ _ 48 (by first | rfl | simp)).alloc _)).keep ho5 (fun q => (by simp [Value.ownBlock] at q)))) | skip); clear hown5 ho5 s5))
        refine hK.out _ _ ⟨hc5, l5⟩ (fun HS3 => ?_)
        clear hK K
        try simp only [Act.put, List.getElem_toArray, List.getElem_cons_zero, List.getElem_cons_succ, List.setIfInBounds_toArray, List.set_cons_zero, List.set_cons_succ]
        refine wpAnyH_ready (rs := [13]) (by kernel_rfl) (by simp) ?_
        refine AllReadyH.cons rfl (fun K hK => ?_) AllReadyH.nil
        ((refine step_app_row (by rfl) (.tmp 77) (.tmp 86) _ (by rfl) 48 i0 _ 3 40 Try.underlying22 HI0.out.1 HI0.out.2.1 HI0.out.2.2.1 HI0.out.2.2.2 rfl (by omega) (by omega) w3.heap.size v5 rows (by rfl) (by first | exact OW5.out | exact OW5.out.alloc _) _ _ [[.int .i64 n, .bool true, .slice none 0 0]] (by rfl) (RowAt.one rfl (by first | exact IB.out | exact Is.made _ _ _ rfl) (by omega) (by unfold maxLen; omega)) (by simp [Value.oneCell']) (by simp; omega) (by first | omega | (simp; done) | (simp; omega)) ?_); intro v6 w6 hown6 ho6 hat6; go_must (obtain ⟨g6, c6, rfl, -, -⟩ := own_snoc_some hown6 hrl; have BB6 : Hid (Below w3.heap.size w3 w6) := hide (Below.only (by repeat (first | exact Below.refl _ _ | exact BB5.out | refine Below.drew ?_ | refine Below.alloc ?_ (by first | omega | (simp; done) | (simp; omega)) _)) ho6 (fun k q => (OW5.out.lt k q).1) (by first | omega | (simp; done) | (simp; omega))); have s6 := HI3.out.below BB6.out; have l6 := bel_cell BB6.out hcl; obtain ⟨hc6, hg6⟩ := Is.one s6; have t6 := LI3.out.below BB6.out; obtain ⟨hd6, hf6⟩ := Is.one t6; have M := hide (ref_txn_end (ab := true) LB3.out HI3.out LI3.out ALL (fun b q => q.2) BB6.out hown6 hwn); clear hown6 ho6 s6 t6))
        refine hK.out _ _ ⟨hc6, l6⟩ (fun HS4 => ?_)
        clear hK K
        try simp only [Act.put, List.getElem_toArray, List.getElem_cons_zero, List.getElem_cons_succ, List.setIfInBounds_toArray, List.set_cons_zero, List.set_cons_succ]
        refine wpAnyH_take (i := 14) (v := ?_) rfl (by kernel_rfl) (by kernel_rfl) (by kernel_rfl) (fun _ _ _ h => h) (Or.inl ⟨by rfl, ?_⟩) HS4 ?_
        rotate_left
        · intro w' hSw
          try dsimp only at hSw
          simp only [List.getElem_toArray, List.getElem_cons_zero, List.getElem_cons_succ]
          go_simp
          try with_reducible rfl
        try simp only [Act.put, List.getElem_toArray, List.getElem_cons_zero, List.getElem_cons_succ, List.setIfInBounds_toArray, List.set_cons_zero, List.set_cons_succ]
        refine wpAnyH_done (by kernel_rfl) ?_ _
        refine Last.done_last ?_
        refine wpOp_step rfl (fun K hK => ?_)
        simp only [List.getElem_toArray, List.getElem_cons_zero, List.getElem_cons_succ]
        go_simp
        refine hK _ _ ?_
        clear hK
        go_simp
        go_wp2
        obtain ⟨k1, k2, k3⟩ := M.out
        refine bodyPost_ret (v := .tuple #[.agg #[.slice (some ⟨g6, 0, none⟩) (ts.length + 1) c6], .int .i64 ((t : Int) + 3), .int .i64 0, .int .i64 0]) (by simp [results, Try.results33, go_sem, k3]) rfl ⟨_, by rw [HS.out]; rfl, ?_, k2⟩
        rw [HS.out, h97]
        exact k1.mono (fun b q => q.imp And.left id)
    · skip
      (simp only [List.getElem_toArray, List.getElem_cons_zero, List.getElem_cons_succ])
      go_simp
      refine hK.out _ _ ⟨bel_cell (by repeat (first | exact Below.refl _ _ | exact BB5.out | refine Below.drew ?_ | refine Below.alloc ?_ (by first | omega | (simp; done) | (simp; omega)) _)) hc3, bel_cell (by repeat (first | exact Below.refl _ _ | exact BB5.out | refine Below.drew ?_ | refine Below.alloc ?_ (by first | omega | (simp; done) | (simp; omega)) _)) hcl⟩ (fun HS1 => ?_)
      clear hK K
      try simp only [Act.put, List.getElem_toArray, List.getElem_cons_zero, List.getElem_cons_succ, List.setIfInBounds_toArray, List.set_cons_zero, List.set_cons_succ]
      refine wpAnyH_ready (rs := [0]) (by kernel_rfl) (by simp) ?_
      refine AllReadyH.cons rfl (fun K hK => ?_) AllReadyH.nil
      (simp only [List.getElem_toArray, List.getElem_cons_zero, List.getElem_cons_succ])
      go_simp
      refine hK.out _ _ ⟨bel_cell (by repeat (first | exact Below.refl _ _ | exact BB5.out | refine Below.drew ?_ | refine Below.alloc ?_ (by first | omega | (simp; done) | (simp; omega)) _)) hc3, bel_cell (by repeat (first | exact Below.refl _ _ | exact BB5.out | refine Below.drew ?_ | refine Below.alloc ?_ (by first | omega | (simp; done) | (simp; omega)) _)) hcl⟩ (fun HS2 => ?_)
      clear hK K
      try simp only [Act.put, List.getElem_toArray, List.getElem_cons_zero, List.getElem_cons_succ, List.setIfInBounds_toArray, List.set_cons_zero, List.set_cons_succ]
      refine wpAnyH_ready (rs := [3]) (by kernel_rfl) (by simp) ?_
      refine AllReadyH.cons rfl (fun K hK => ?_) AllReadyH.nil
      ((refine step_app_row (by rfl) (.tmp 74) (.tmp 76) _ (by rfl) 48 i0 _ 3 40 Try.underlying22 HI0.out.1 HI0.out.2.1 HI0.out.2.2.1 HI0.out.2.2.2 rfl (by omega) (by omega) w3.heap.size _ [] (by rfl) (own_empty 3 (by first | exact at_new _ _ (by first | rfl | simp) | exact at_old _ _ _ (by first | rfl | simp) | (show (World.alloc _ _).heap[_]? = _; first | exact at_new _ _ (by first | rfl | simp) | exact at_old _ _ _ (by first | rfl | simp))) (by first | omega | (simp; done) | (simp; omega))) _ _ rows (by rfl) (ROW.out.only (Only.of_below (S := fun _ => False) (by repeat (first | exact Below.refl _ _ | exact BB5.out | refine Below.drew ?_ | refine Below.alloc ?_ (by first | omega | (simp; done) | (simp; omega)) _))) (fun _ _ q => q)) ONE.out (by simp; omega) (by first | omega | (simp; done) | (simp; omega)) ?_); intro v5 w5 hown5 ho5 hat5; go_must (have BB5 : Hid (Below w3.heap.size w3 w5) := hide (Below.only (by repeat (first | exact Below.refl _ _ | exact BB5.out | refine Below.drew ?_ | refine Below.alloc ?_ (by first | omega | (simp; done) | (simp; omega)) _)) ho5 (fun k q => (by simp [Value.ownBlock] at q; omega)) (by first | omega | (simp; done) | (simp; omega))); have OW5 := hide hown5; have hz5 := BB5.out.size; have s5 := HI3.out.below BB5.out; have l5 := bel_cell BB5.out hcl; obtain ⟨hc5, hg5⟩ := Is.one s5; (first | (have IB : Hid (Is w5 (w3.heap.size + 1) #[.int .i64 n, .bool true, .slice none 0 0]) := hide ((Is.drew (Is.made _ _ 48 (by first | rfl | simp))).keep ho5 (fun q => (by simp [Value.ownBlock] at q)))) | (have IB : Hid (Is w5 w3.heap.size #[.int .i64 n, .bool true, .slice none 0 0]) := hide ((Is.drew ((Is.made _ _ 48 (by first | rfl | simp)).alloc _)).keep ho5 (fun q => (by simp [Value.ownBlock] at q)))) | skip); clear hown5 ho5 s5))
      refine hK.out _ _ ⟨hc5, l5⟩ (fun HS3 => ?_)
      clear hK K
      try simp only [Act.put, List.getElem_toArray, List.getElem_cons_zero, List.getElem_cons_succ, List.setIfInBounds_toArray, List.set_cons_zero, List.set_cons_succ]
      refine wpAnyH_ready (rs := [13]) (by kernel_rfl) (by simp) ?_
      refine AllReadyH.cons rfl (fun K hK => ?_) AllReadyH.nil
      ((refine step_app_row (by rfl) (.tmp 77) (.tmp 86) _ (by rfl) 48 i0 _ 3 40 Try.underlying22 HI0.out.1 HI0.out.2.1 HI0.out.2.2.1 HI0.out.2.2.2 rfl (by omega) (by omega) w3.heap.size v5 rows (by rfl) (by first | exact OW5.out | exact OW5.out.alloc _) _ _ [[.int .i64 n, .bool true, .slice none 0 0]] (by rfl) (RowAt.one rfl (by first | exact IB.out | exact Is.made _ _ _ rfl) (by omega) (by unfold maxLen; omega)) (by simp [Value.oneCell']) (by simp; omega) (by first | omega | (simp; done) | (simp; omega)) ?_); intro v6 w6 hown6 ho6 hat6; go_must (obtain ⟨g6, c6, rfl, -, -⟩ := own_snoc_some hown6 hrl; have BB6 : Hid (Below w3.heap.size w3 w6) := hide (Below.only (by repeat (first | exact Below.refl _ _ | exact BB5.out | refine Below.drew ?_ | refine Below.alloc ?_ (by first | omega | (simp; done) | (simp; omega)) _)) ho6 (fun k q => (OW5.out.lt k q).1) (by first | omega | (simp; done) | (simp; omega))); have s6 := HI3.out.below BB6.out; have l6 := bel_cell BB6.out hcl; obtain ⟨hc6, hg6⟩ := Is.one s6; have t6 := LI3.out.below BB6.out; obtain ⟨hd6, hf6⟩ := Is.one t6; have M := hide (ref_txn_end (ab := true) LB3.out HI3.out LI3.out ALL (fun b q => q.2) BB6.out hown6 hwn); clear hown6 ho6 s6 t6))
      refine hK.out _ _ ⟨hc6, l6⟩ (fun HS4 => ?_)
      clear hK K
      try simp only [Act.put, List.getElem_toArray, List.getElem_cons_zero, List.getElem_cons_succ, List.setIfInBounds_toArray, List.set_cons_zero, List.set_cons_succ]
      refine wpAnyH_take (i := 14) (v := ?_) rfl (by kernel_rfl) (by kernel_rfl) (by kernel_rfl) (fun _ _ _ h => h) (Or.inl ⟨by rfl, ?_⟩) HS4 ?_
      rotate_left
      · intro w' hSw
        try dsimp only at hSw
        simp only [List.getElem_toArray, List.getElem_cons_zero, List.getElem_cons_succ]
        go_simp
        try with_reducible rfl
      try simp only [Act.put, List.getElem_toArray, List.getElem_cons_zero, List.getElem_cons_succ, List.setIfInBounds_toArray, List.set_cons_zero, List.set_cons_succ]
      refine wpAnyH_done (by kernel_rfl) ?_ _
      refine Last.done_last ?_
      refine wpOp_step rfl (fun K hK => ?_)
      simp only [List.getElem_toArray, List.getElem_cons_zero, List.getElem_cons_succ]
      go_simp
      refine hK _ _ ?_
      clear hK
      go_simp
      go_wp2
      obtain ⟨k1, k2, k3⟩ := M.out
      refine bodyPost_ret (v := .tuple #[.agg #[.slice (some ⟨g6, 0, none⟩) (ts.length + 1) c6], .int .i64 ((t : Int) + 3), .int .i64 0, .int .i64 0]) (by simp [results, Try.results33, go_sem, k3]) rfl ⟨_, by rw [HS.out]; rfl, ?_, k2⟩
      rw [HS.out, h97]
      exact k1.mono (fun b q => q.imp And.left id)
  | false =>
    have h97 : (z (t + 1) == 97) = false := by
      have q := isB_no.1 hb4
      simp
      intro r
      exact q ⟨hlt1, r⟩
    obtain rfl : b5 = true := by cases b5 with
        | false => exact absurd (And.intro rfl rfl) h45
        | true => rfl
    clear hb4 hb5 h45
    go_enter Try.func33, Try.ntmps33
    go_wp2_with (first | (go_at_call 47; (with_reducible refine (ris_at _ len cap z (i + 1) _ 32 _ HR.out (by omega) (by omega) B1).mono ?_); rintro e w' ⟨rfl, hw⟩; replace hw := hw.symm; subst hw) | (go_at_call 48; (with_reducible refine (rparse_eq _ len cap z _ _ HR.out hc HP).mono ?_); rintro e w' ⟨rfl, hw⟩; replace hw := hw.symm; subst hw) | (go_at_call 49; go_must ((with_reducible refine (rtwin_any _ _ ts n _ LT.out (by omega)).mono ?_); rw [HTW.out]; rintro e w3 ⟨rfl, hb3⟩; obtain ⟨p1, p2, p3, p4, p5⟩ := two_mid H0.out HR0.out hb3; have HI3 := hide p1; have LI3 := hide p2; have LB3 := hide p3; have LT3 := hide p4; have HR3 := hide p5; obtain ⟨hc3, hg3⟩ := Is.one p1; obtain ⟨hd3, hf3⟩ := Is.one p2; clear hb3 p1 p2 p3 p4 p5)) | (go_at_call 47; (with_reducible refine (ris_at _ len cap z (t) _ 32 _ HR3.out (by omega) (by omega) B2).mono ?_); rintro e w' ⟨rfl, hw⟩; replace hw := hw.symm; subst hw) | (go_at_call 47; (with_reducible refine (ris_at _ len cap z (t + 1) _ 97 _ HR3.out (by omega) (by omega) B3).mono ?_); rintro e w' ⟨rfl, hw⟩; replace hw := hw.symm; subst hw) | (go_at_call 47; (with_reducible refine (ris_at _ len cap z (t + 1) _ 99 _ HR3.out (by omega) (by omega) B4).mono ?_); rintro e w' ⟨rfl, hw⟩; replace hw := hw.symm; subst hw) | (go_at_call 47; (with_reducible refine (ris_at _ len cap z (t + 2) _ 10 _ HR3.out (by omega) (by omega) B5).mono ?_); rintro e w' ⟨rfl, hw⟩; replace hw := hw.symm; subst hw))
    obtain ⟨rows, ROW, ALL⟩ := LT3.out
    replace ROW := hide ROW
    have ONE : Hid (∀ c ∈ rows, ∀ u ∈ c, u.oneCell' = true) := hide (txn_one ALL)
    have hrl : rows.length = ts.length := ALL.1
    have hbb : bb < w.heap.size := lt_of_cell hcl
    replace hcl := bel_cell LB3.out hcl
    have hbb3 : bb < w3.heap.size := by have := LB3.out.size; omega
    have hh3 : w.heap.size < w3.heap.size := HI3.out.lt
    clear HI hc0 LI LB LT HR LF H0 HR0 B1 HP HTW HS2 B2 B3 B4 B5 HR3 hit h24' e2 htl ht32 hlt1 hc1 hc2 hi g1 g2
    have HS0 : (fun w' : World => w'.cell? ⟨w.heap.size, 0, none⟩ = some (.slice ta ts.length tcap) ∧ w'.cell? ⟨bb, off + (t + 1), none⟩ = some (.int .u8 (z (t + 1)))) w3.drew := ⟨hc3, hcl⟩
    refine Last.region_last (k := 15) (S := fun w' : World => w'.cell? ⟨w.heap.size, 0, none⟩ = some (.slice ta ts.length tcap) ∧ w'.cell? ⟨bb, off + (t + 1), none⟩ = some (.int .u8 (z (t + 1)))) (by kernel_rfl) rfl rfl (by kernel_rfl) (by kernel_rfl) ?_
    refine wpAnyH_take (i := 1) (v := ?_) rfl (by kernel_rfl) (by kernel_rfl) (by kernel_rfl) (fun _ _ _ h => h) (Or.inl ⟨by rfl, ?_⟩) HS0 ?_
    rotate_left
    · intro w' hSw
      try dsimp only at hSw
      simp only [List.getElem_toArray, List.getElem_cons_zero, List.getElem_cons_succ]
      go_simp
      try with_reducible rfl
    try simp only [Act.put, List.getElem_toArray, List.getElem_cons_zero, List.getElem_cons_succ, List.setIfInBounds_toArray, List.set_cons_zero, List.set_cons_succ]
    refine wpAnyH_take (i := 2) (v := ?_) rfl (by kernel_rfl) (by kernel_rfl) (by kernel_rfl) (fun _ _ _ h => h) (Or.inl ⟨by rfl, ?_⟩) HS0 ?_
    rotate_left
    · intro w' hSw
      try dsimp only at hSw
      simp only [List.getElem_toArray, List.getElem_cons_zero, List.getElem_cons_succ]
      go_simp
      try with_reducible rfl
    try simp only [Act.put, List.getElem_toArray, List.getElem_cons_zero, List.getElem_cons_succ, List.setIfInBounds_toArray, List.set_cons_zero, List.set_cons_succ]
    refine wpAnyH_take (i := 4) (v := ?_) rfl (by kernel_rfl) (by kernel_rfl) (by kernel_rfl) (fun _ _ _ h => h) (Or.inl ⟨by rfl, ?_⟩) HS0 ?_
    rotate_left
    · intro w' hSw
      try dsimp only at hSw
      simp only [List.getElem_toArray, List.getElem_cons_zero, List.getElem_cons_succ]
      go_simp
      try with_reducible rfl
    try simp only [Act.put, List.getElem_toArray, List.getElem_cons_zero, List.getElem_cons_succ, List.setIfInBounds_toArray, List.set_cons_zero, List.set_cons_succ]
    refine wpAnyH_take (i := 5) (v := ?_) rfl (by kernel_rfl) (by kernel_rfl) (by kernel_rfl) (fun _ _ _ h => h) (Or.inl ⟨by rfl, ?_⟩) HS0 ?_
    rotate_left
    · intro w' hSw
      try dsimp only at hSw
      simp only [List.getElem_toArray, List.getElem_cons_zero, List.getElem_cons_succ]
      go_simp
      try with_reducible rfl
    try simp only [Act.put, List.getElem_toArray, List.getElem_cons_zero, List.getElem_cons_succ, List.setIfInBounds_toArray, List.set_cons_zero, List.set_cons_succ]
    refine wpAnyH_take (i := 6) (v := ?_) rfl (by kernel_rfl) (by kernel_rfl) (by kernel_rfl) (fun _ _ _ h => h) (Or.inl ⟨by rfl, ?_⟩) HS0 ?_
    rotate_left
    · intro w' hSw
      try dsimp only at hSw
      simp only [List.getElem_toArray, List.getElem_cons_zero, List.getElem_cons_succ]
      go_simp
      try with_reducible rfl
    try simp only [Act.put, List.getElem_toArray, List.getElem_cons_zero, List.getElem_cons_succ, List.setIfInBounds_toArray, List.set_cons_zero, List.set_cons_succ]
    refine wpAnyH_take (i := 7) (v := ?_) rfl (by kernel_rfl) (by kernel_rfl) (by kernel_rfl) (fun _ _ _ h => h) (Or.inl ⟨by rfl, ?_⟩) HS0 ?_
    rotate_left
    · intro w' hSw
      try dsimp only at hSw
      simp only [List.getElem_toArray, List.getElem_cons_zero, List.getElem_cons_succ]
      go_simp
      try with_reducible rfl
    try simp only [Act.put, List.getElem_toArray, List.getElem_cons_zero, List.getElem_cons_succ, List.setIfInBounds_toArray, List.set_cons_zero, List.set_cons_succ]
    refine wpAnyH_take (i := 8) (v := ?_) rfl (by kernel_rfl) (by kernel_rfl) (by kernel_rfl) (fun _ _ _ h => h) (Or.inl ⟨by rfl, ?_⟩) HS0 ?_
    rotate_left
    · intro w' hSw
      try dsimp only at hSw
      simp only [List.getElem_toArray, List.getElem_cons_zero, List.getElem_cons_succ]
      go_simp
      try with_reducible rfl
    try simp only [Act.put, List.getElem_toArray, List.getElem_cons_zero, List.getElem_cons_succ, List.setIfInBounds_toArray, List.set_cons_zero, List.set_cons_succ]
    refine wpAnyH_take (i := 9) (v := ?_) rfl (by kernel_rfl) (by kernel_rfl) (by kernel_rfl) (fun _ _ _ h => h) (Or.inl ⟨by rfl, ?_⟩) HS0 ?_
    rotate_left
    · intro w' hSw
      try dsimp only at hSw
      simp only [List.getElem_toArray, List.getElem_cons_zero, List.getElem_cons_succ]
      go_simp
      try with_reducible rfl
    try simp only [Act.put, List.getElem_toArray, List.getElem_cons_zero, List.getElem_cons_succ, List.setIfInBounds_toArray, List.set_cons_zero, List.set_cons_succ]
    refine wpAnyH_take (i := 10) (v := ?_) rfl (by kernel_rfl) (by kernel_rfl) (by kernel_rfl) (fun _ _ _ h => h) (Or.inl ⟨by rfl, ?_⟩) HS0 ?_
    rotate_left
    · intro w' hSw
      try dsimp only at hSw
      simp only [List.getElem_toArray, List.getElem_cons_zero, List.getElem_cons_succ]
      go_simp
      try with_reducible rfl
    try simp only [Act.put, List.getElem_toArray, List.getElem_cons_zero, List.getElem_cons_succ, List.setIfInBounds_toArray, List.set_cons_zero, List.set_cons_succ]
    refine wpAnyH_take (i := 11) (v := ?_) rfl (by kernel_rfl) (by kernel_rfl) (by kernel_rfl) (fun _ _ _ h => h) (Or.inl ⟨by rfl, ?_⟩) HS0 ?_
    rotate_left
    · intro w' hSw
      try dsimp only at hSw
      simp only [List.getElem_toArray, List.getElem_cons_zero, List.getElem_cons_succ]
      go_simp
      try with_reducible rfl
    try simp only [Act.put, List.getElem_toArray, List.getElem_cons_zero, List.getElem_cons_succ, List.setIfInBounds_toArray, List.set_cons_zero, List.set_cons_succ]
    refine wpAnyH_ready (rs := [0, 12]) (by kernel_rfl) (by simp) ?_
    refine AllReadyH.cons rfl (fun K hK => ?_) (AllReadyH.cons rfl (fun K hK => ?_) AllReadyH.nil)
    · skip
      (simp only [List.getElem_toArray, List.getElem_cons_zero, List.getElem_cons_succ])
      go_simp
      refine hK.out _ _ ⟨bel_cell (by repeat (first | exact Below.refl _ _ | exact BB5.out | refine Below.drew ?_ | refine Below.alloc ?_ (by first | omega | (simp; done) | (simp; omega)) _)) hc3, bel_cell (by repeat (first | exact Below.refl _ _ | exact BB5.out | refine Below.drew ?_ | refine Below.alloc ?_ (by first | omega | (simp; done) | (simp; omega)) _)) hcl⟩ (fun HS1 => ?_)
      clear hK K
      try simp only [Act.put, List.getElem_toArray, List.getElem_cons_zero, List.getElem_cons_succ, List.setIfInBounds_toArray, List.set_cons_zero, List.set_cons_succ]
      refine wpAnyH_ready (rs := [3, 12]) (by kernel_rfl) (by simp) ?_
      refine AllReadyH.cons rfl (fun K hK => ?_) (AllReadyH.cons rfl (fun K hK => ?_) AllReadyH.nil)
      · skip
        ((refine step_app_row (by rfl) (.tmp 74) (.tmp 76) _ (by rfl) 48 i0 _ 3 40 Try.underlying22 HI0.out.1 HI0.out.2.1 HI0.out.2.2.1 HI0.out.2.2.2 rfl (by omega) (by omega) w3.heap.size _ [] (by rfl) (own_empty 3 (by first | exact at_new _ _ (by first | rfl | simp) | exact at_old _ _ _ (by first | rfl | simp) | (show (World.alloc _ _).heap[_]? = _; first | exact at_new _ _ (by first | rfl | simp) | exact at_old _ _ _ (by first | rfl | simp))) (by first | omega | (simp; done) | (simp; omega))) _ _ rows (by rfl) (ROW.out.only (Only.of_below (S := fun _ => False) (by repeat (first | exact Below.refl _ _ | exact BB5.out | refine Below.drew ?_ | refine Below.alloc ?_ (by first | omega | (simp; done) | (simp; omega)) _))) (fun _ _ q => q)) ONE.out (by simp; omega) (by first | omega | (simp; done) | (simp; omega)) ?_); intro v5 w5 hown5 ho5 hat5; go_must (have BB5 : Hid (Below w3.heap.size w3 w5) := hide (Below.only (by repeat (first | exact Below.refl _ _ | exact BB5.out | refine Below.drew ?_ | refine Below.alloc ?_ (by first | omega | (simp; done) | (simp; omega)) _)) ho5 (fun k q => (by simp [Value.ownBlock] at q; omega)) (by first | omega | (simp; done) | (simp; omega))); have OW5 := hide hown5; have hz5 := BB5.out.size; have s5 := HI3.out.below BB5.out; have l5 := bel_cell BB5.out hcl; obtain ⟨hc5, hg5⟩ := Is.one s5; (first | (have IB : Hid (Is w5 (w3.heap.size + 1) #[.int .i64 n, .bool false, .slice none 0 0]) := hide ((Is.drew (Is.made _ _ 48 (by first | rfl | simp))).keep ho5 (fun q => (by simp [Value.ownBlock] at q)))) | (have IB : Hid (Is w5 w3.heap.size #[.int .i64 n, .bool false, .slice none 0 0]) := hide ((Is.drew ((Is.made _ _ 48 (by first | rfl | simp)).alloc _)).keep ho5 (fun q => (by simp [Value.ownBlock] at q)))) | skip); clear hown5 ho5 s5))
        refine hK.out _ _ ⟨hc5, l5⟩ (fun HS2 => ?_)
        clear hK K
        try simp only [Act.put, List.getElem_toArray, List.getElem_cons_zero, List.getElem_cons_succ, List.setIfInBounds_toArray, List.set_cons_zero, List.set_cons_succ]
        refine wpAnyH_ready (rs := [12]) (by kernel_rfl) (by simp) ?_
        refine AllReadyH.cons rfl (fun K hK => ?_) AllReadyH.nil
        (simp only [List.getElem_toArray, List.getElem_cons_zero, List.getElem_cons_succ])
        go_simp
        refine hK.out _ _ ⟨bel_cell (by repeat (first | exact Below.refl _ _ | exact BB5.out | refine Below.drew ?_ | refine Below.alloc ?_ (by first | omega | (simp; done) | (simp; omega)) _)) hc3, bel_cell (by repeat (first | exact Below.refl _ _ | exact BB5.out | refine Below.drew ?_ | refine Below.alloc ?_ (by first | omega | (simp; done) | (simp; omega)) _)) hcl⟩ (fun HS3 => ?_)
        clear hK K
        try simp only [Act.put, List.getElem_toArray, List.getElem_cons_zero, List.getElem_cons_succ, List.setIfInBounds_toArray, List.set_cons_zero, List.set_cons_succ]
        refine wpAnyH_ready (rs := [13]) (by kernel_rfl) (by simp) ?_
        refine AllReadyH.cons rfl (fun K hK => ?_) AllReadyH.nil
        ((refine step_app_row (by rfl) (.tmp 77) (.tmp 86) _ (by rfl) 48 i0 _ 3 40 Try.underlying22 HI0.out.1 HI0.out.2.1 HI0.out.2.2.1 HI0.out.2.2.2 rfl (by omega) (by omega) w3.heap.size v5 rows (by rfl) (by first | exact OW5.out | exact OW5.out.alloc _) _ _ [[.int .i64 n, .bool false, .slice none 0 0]] (by rfl) (RowAt.one rfl (by first | exact IB.out | exact Is.made _ _ _ rfl) (by omega) (by unfold maxLen; omega)) (by simp [Value.oneCell']) (by simp; omega) (by first | omega | (simp; done) | (simp; omega)) ?_); intro v6 w6 hown6 ho6 hat6; go_must (obtain ⟨g6, c6, rfl, -, -⟩ := own_snoc_some hown6 hrl; have BB6 : Hid (Below w3.heap.size w3 w6) := hide (Below.only (by repeat (first | exact Below.refl _ _ | exact BB5.out | refine Below.drew ?_ | refine Below.alloc ?_ (by first | omega | (simp; done) | (simp; omega)) _)) ho6 (fun k q => (OW5.out.lt k q).1) (by first | omega | (simp; done) | (simp; omega))); have s6 := HI3.out.below BB6.out; have l6 := bel_cell BB6.out hcl; obtain ⟨hc6, hg6⟩ := Is.one s6; have t6 := LI3.out.below BB6.out; obtain ⟨hd6, hf6⟩ := Is.one t6; have M := hide (ref_txn_end (ab := false) LB3.out HI3.out LI3.out ALL (fun b q => q.2) BB6.out hown6 hwn); clear hown6 ho6 s6 t6))
        refine hK.out _ _ ⟨hc6, l6⟩ (fun HS4 => ?_)
        clear hK K
        try simp only [Act.put, List.getElem_toArray, List.getElem_cons_zero, List.getElem_cons_succ, List.setIfInBounds_toArray, List.set_cons_zero, List.set_cons_succ]
        refine wpAnyH_take (i := 14) (v := ?_) rfl (by kernel_rfl) (by kernel_rfl) (by kernel_rfl) (fun _ _ _ h => h) (Or.inl ⟨by rfl, ?_⟩) HS4 ?_
        rotate_left
        · intro w' hSw
          try dsimp only at hSw
          simp only [List.getElem_toArray, List.getElem_cons_zero, List.getElem_cons_succ]
          go_simp
          try with_reducible rfl
        try simp only [Act.put, List.getElem_toArray, List.getElem_cons_zero, List.getElem_cons_succ, List.setIfInBounds_toArray, List.set_cons_zero, List.set_cons_succ]
        refine wpAnyH_done (by kernel_rfl) ?_ _
        refine Last.done_last ?_
        refine wpOp_step rfl (fun K hK => ?_)
        simp only [List.getElem_toArray, List.getElem_cons_zero, List.getElem_cons_succ]
        go_simp
        refine hK _ _ ?_
        clear hK
        go_simp
        go_wp2
        obtain ⟨k1, k2, k3⟩ := M.out
        refine bodyPost_ret (v := .tuple #[.agg #[.slice (some ⟨g6, 0, none⟩) (ts.length + 1) c6], .int .i64 ((t : Int) + 3), .int .i64 0, .int .i64 0]) (by simp [results, Try.results33, go_sem, k3]) rfl ⟨_, by rw [HS.out]; rfl, ?_, k2⟩
        rw [HS.out, h97]
        exact k1.mono (fun b q => q.imp And.left id)
      · skip
        (simp only [List.getElem_toArray, List.getElem_cons_zero, List.getElem_cons_succ])
        go_simp
        refine hK.out _ _ ⟨bel_cell (by repeat (first | exact Below.refl _ _ | exact BB5.out | refine Below.drew ?_ | refine Below.alloc ?_ (by first | omega | (simp; done) | (simp; omega)) _)) hc3, bel_cell (by repeat (first | exact Below.refl _ _ | exact BB5.out | refine Below.drew ?_ | refine Below.alloc ?_ (by first | omega | (simp; done) | (simp; omega)) _)) hcl⟩ (fun HS2 => ?_)
        clear hK K
        try simp only [Act.put, List.getElem_toArray, List.getElem_cons_zero, List.getElem_cons_succ, List.setIfInBounds_toArray, List.set_cons_zero, List.set_cons_succ]
        refine wpAnyH_ready (rs := [3]) (by kernel_rfl) (by simp) ?_
        refine AllReadyH.cons rfl (fun K hK => ?_) AllReadyH.nil
        ((refine step_app_row (by rfl) (.tmp 74) (.tmp 76) _ (by rfl) 48 i0 _ 3 40 Try.underlying22 HI0.out.1 HI0.out.2.1 HI0.out.2.2.1 HI0.out.2.2.2 rfl (by omega) (by omega) w3.heap.size _ [] (by rfl) (own_empty 3 (by first | exact at_new _ _ (by first | rfl | simp) | exact at_old _ _ _ (by first | rfl | simp) | (show (World.alloc _ _).heap[_]? = _; first | exact at_new _ _ (by first | rfl | simp) | exact at_old _ _ _ (by first | rfl | simp))) (by first | omega | (simp; done) | (simp; omega))) _ _ rows (by rfl) (ROW.out.only (Only.of_below (S := fun _ => False) (by repeat (first | exact Below.refl _ _ | exact BB5.out | refine Below.drew ?_ | refine Below.alloc ?_ (by first | omega | (simp; done) | (simp; omega)) _))) (fun _ _ q => q)) ONE.out (by simp; omega) (by first | omega | (simp; done) | (simp; omega)) ?_); intro v5 w5 hown5 ho5 hat5; go_must (have BB5 : Hid (Below w3.heap.size w3 w5) := hide (Below.only (by repeat (first | exact Below.refl _ _ | exact BB5.out | refine Below.drew ?_ | refine Below.alloc ?_ (by first | omega | (simp; done) | (simp; omega)) _)) ho5 (fun k q => (by simp [Value.ownBlock] at q; omega)) (by first | omega | (simp; done) | (simp; omega))); have OW5 := hide hown5; have hz5 := BB5.out.size; have s5 := HI3.out.below BB5.out; have l5 := bel_cell BB5.out hcl; obtain ⟨hc5, hg5⟩ := Is.one s5; (first | (have IB : Hid (Is w5 (w3.heap.size + 1) #[.int .i64 n, .bool false, .slice none 0 0]) := hide ((Is.drew (Is.made _ _ 48 (by first | rfl | simp))).keep ho5 (fun q => (by simp [Value.ownBlock] at q)))) | (have IB : Hid (Is w5 w3.heap.size #[.int .i64 n, .bool false, .slice none 0 0]) := hide ((Is.drew ((Is.made _ _ 48 (by first | rfl | simp)).alloc _)).keep ho5 (fun q => (by simp [Value.ownBlock] at q)))) | skip); clear hown5 ho5 s5))
        refine hK.out _ _ ⟨hc5, l5⟩ (fun HS3 => ?_)
        clear hK K
        try simp only [Act.put, List.getElem_toArray, List.getElem_cons_zero, List.getElem_cons_succ, List.setIfInBounds_toArray, List.set_cons_zero, List.set_cons_succ]
        refine wpAnyH_ready (rs := [13]) (by kernel_rfl) (by simp) ?_
        refine AllReadyH.cons rfl (fun K hK => ?_) AllReadyH.nil
        ((refine step_app_row (by rfl) (.tmp 77) (.tmp 86) _ (by rfl) 48 i0 _ 3 40 Try.underlying22 HI0.out.1 HI0.out.2.1 HI0.out.2.2.1 HI0.out.2.2.2 rfl (by omega) (by omega) w3.heap.size v5 rows (by rfl) (by first | exact OW5.out | exact OW5.out.alloc _) _ _ [[.int .i64 n, .bool false, .slice none 0 0]] (by rfl) (RowAt.one rfl (by first | exact IB.out | exact Is.made _ _ _ rfl) (by omega) (by unfold maxLen; omega)) (by simp [Value.oneCell']) (by simp; omega) (by first | omega | (simp; done) | (simp; omega)) ?_); intro v6 w6 hown6 ho6 hat6; go_must (obtain ⟨g6, c6, rfl, -, -⟩ := own_snoc_some hown6 hrl; have BB6 : Hid (Below w3.heap.size w3 w6) := hide (Below.only (by repeat (first | exact Below.refl _ _ | exact BB5.out | refine Below.drew ?_ | refine Below.alloc ?_ (by first | omega | (simp; done) | (simp; omega)) _)) ho6 (fun k q => (OW5.out.lt k q).1) (by first | omega | (simp; done) | (simp; omega))); have s6 := HI3.out.below BB6.out; have l6 := bel_cell BB6.out hcl; obtain ⟨hc6, hg6⟩ := Is.one s6; have t6 := LI3.out.below BB6.out; obtain ⟨hd6, hf6⟩ := Is.one t6; have M := hide (ref_txn_end (ab := false) LB3.out HI3.out LI3.out ALL (fun b q => q.2) BB6.out hown6 hwn); clear hown6 ho6 s6 t6))
        refine hK.out _ _ ⟨hc6, l6⟩ (fun HS4 => ?_)
        clear hK K
        try simp only [Act.put, List.getElem_toArray, List.getElem_cons_zero, List.getElem_cons_succ, List.setIfInBounds_toArray, List.set_cons_zero, List.set_cons_succ]
        refine wpAnyH_take (i := 14) (v := ?_) rfl (by kernel_rfl) (by kernel_rfl) (by kernel_rfl) (fun _ _ _ h => h) (Or.inl ⟨by rfl, ?_⟩) HS4 ?_
        rotate_left
        · intro w' hSw
          try dsimp only at hSw
          simp only [List.getElem_toArray, List.getElem_cons_zero, List.getElem_cons_succ]
          go_simp
          try with_reducible rfl
        try simp only [Act.put, List.getElem_toArray, List.getElem_cons_zero, List.getElem_cons_succ, List.setIfInBounds_toArray, List.set_cons_zero, List.set_cons_succ]
        refine wpAnyH_done (by kernel_rfl) ?_ _
        refine Last.done_last ?_
        refine wpOp_step rfl (fun K hK => ?_)
        simp only [List.getElem_toArray, List.getElem_cons_zero, List.getElem_cons_succ]
        go_simp
        refine hK _ _ ?_
        clear hK
        go_simp
        go_wp2
        obtain ⟨k1, k2, k3⟩ := M.out
        refine bodyPost_ret (v := .tuple #[.agg #[.slice (some ⟨g6, 0, none⟩) (ts.length + 1) c6], .int .i64 ((t : Int) + 3), .int .i64 0, .int .i64 0]) (by simp [results, Try.results33, go_sem, k3]) rfl ⟨_, by rw [HS.out]; rfl, ?_, k2⟩
        rw [HS.out, h97]
        exact k1.mono (fun b q => q.imp And.left id)
    · skip
      (simp only [List.getElem_toArray, List.getElem_cons_zero, List.getElem_cons_succ])
      go_simp
      refine hK.out _ _ ⟨bel_cell (by repeat (first | exact Below.refl _ _ | exact BB5.out | refine Below.drew ?_ | refine Below.alloc ?_ (by first | omega | (simp; done) | (simp; omega)) _)) hc3, bel_cell (by repeat (first | exact Below.refl _ _ | exact BB5.out | refine Below.drew ?_ | refine Below.alloc ?_ (by first | omega | (simp; done) | (simp; omega)) _)) hcl⟩ (fun HS1 => ?_)
      clear hK K
      try simp only [Act.put, List.getElem_toArray, List.getElem_cons_zero, List.getElem_cons_succ, List.setIfInBounds_toArray, List.set_cons_zero, List.set_cons_succ]
      refine wpAnyH_ready (rs := [0]) (by kernel_rfl) (by simp) ?_
      refine AllReadyH.cons rfl (fun K hK => ?_) AllReadyH.nil
      (simp only [List.getElem_toArray, List.getElem_cons_zero, List.getElem_cons_succ])
      go_simp
      refine hK.out _ _ ⟨bel_cell (by repeat (first | exact Below.refl _ _ | exact BB5.out | refine Below.drew ?_ | refine Below.alloc ?_ (by first | omega | (simp; done) | (simp; omega)) _)) hc3, bel_cell (by repeat (first | exact Below.refl _ _ | exact BB5.out | refine Below.drew ?_ | refine Below.alloc ?_ (by first | omega | (simp; done) | (simp; omega)) _)) hcl⟩ (fun HS2 => ?_)
      clear hK K
      try simp only [Act.put, List.getElem_toArray, List.getElem_cons_zero, List.getElem_cons_succ, List.setIfInBounds_toArray, List.set_cons_zero, List.set_cons_succ]
      refine wpAnyH_ready (rs := [3]) (by kernel_rfl) (by simp) ?_
      refine AllReadyH.cons rfl (fun K hK => ?_) AllReadyH.nil
      ((refine step_app_row (by rfl) (.tmp 74) (.tmp 76) _ (by rfl) 48 i0 _ 3 40 Try.underlying22 HI0.out.1 HI0.out.2.1 HI0.out.2.2.1 HI0.out.2.2.2 rfl (by omega) (by omega) w3.heap.size _ [] (by rfl) (own_empty 3 (by first | exact at_new _ _ (by first | rfl | simp) | exact at_old _ _ _ (by first | rfl | simp) | (show (World.alloc _ _).heap[_]? = _; first | exact at_new _ _ (by first | rfl | simp) | exact at_old _ _ _ (by first | rfl | simp))) (by first | omega | (simp; done) | (simp; omega))) _ _ rows (by rfl) (ROW.out.only (Only.of_below (S := fun _ => False) (by repeat (first | exact Below.refl _ _ | exact BB5.out | refine Below.drew ?_ | refine Below.alloc ?_ (by first | omega | (simp; done) | (simp; omega)) _))) (fun _ _ q => q)) ONE.out (by simp; omega) (by first | omega | (simp; done) | (simp; omega)) ?_); intro v5 w5 hown5 ho5 hat5; go_must (have BB5 : Hid (Below w3.heap.size w3 w5) := hide (Below.only (by repeat (first | exact Below.refl _ _ | exact BB5.out | refine Below.drew ?_ | refine Below.alloc ?_ (by first | omega | (simp; done) | (simp; omega)) _)) ho5 (fun k q => (by simp [Value.ownBlock] at q; omega)) (by first | omega | (simp; done) | (simp; omega))); have OW5 := hide hown5; have hz5 := BB5.out.size; have s5 := HI3.out.below BB5.out; have l5 := bel_cell BB5.out hcl; obtain ⟨hc5, hg5⟩ := Is.one s5; (first | (have IB : Hid (Is w5 (w3.heap.size + 1) #[.int .i64 n, .bool false, .slice none 0 0]) := hide ((Is.drew (Is.made _ _ 48 (by first | rfl | simp))).keep ho5 (fun q => (by simp [Value.ownBlock] at q)))) | (have IB : Hid (Is w5 w3.heap.size #[.int .i64 n, .bool false, .slice none 0 0]) := hide ((Is.drew ((Is.made _ _ 48 (by first | rfl | simp)).alloc _)).keep ho5 (fun q => (by simp [Value.ownBlock] at q)))) | skip); clear hown5 ho5 s5))
      refine hK.out _ _ ⟨hc5, l5⟩ (fun HS3 => ?_)
      clear hK K
      try simp only [Act.put, List.getElem_toArray, List.getElem_cons_zero, List.getElem_cons_succ, List.setIfInBounds_toArray, List.set_cons_zero, List.set_cons_succ]
      refine wpAnyH_ready (rs := [13]) (by kernel_rfl) (by simp) ?_
      refine AllReadyH.cons rfl (fun K hK => ?_) AllReadyH.nil
      ((refine step_app_row (by rfl) (.tmp 77) (.tmp 86) _ (by rfl) 48 i0 _ 3 40 Try.underlying22 HI0.out.1 HI0.out.2.1 HI0.out.2.2.1 HI0.out.2.2.2 rfl (by omega) (by omega) w3.heap.size v5 rows (by rfl) (by first | exact OW5.out | exact OW5.out.alloc _) _ _ [[.int .i64 n, .bool false, .slice none 0 0]] (by rfl) (RowAt.one rfl (by first | exact IB.out | exact Is.made _ _ _ rfl) (by omega) (by unfold maxLen; omega)) (by simp [Value.oneCell']) (by simp; omega) (by first | omega | (simp; done) | (simp; omega)) ?_); intro v6 w6 hown6 ho6 hat6; go_must (obtain ⟨g6, c6, rfl, -, -⟩ := own_snoc_some hown6 hrl; have BB6 : Hid (Below w3.heap.size w3 w6) := hide (Below.only (by repeat (first | exact Below.refl _ _ | exact BB5.out | refine Below.drew ?_ | refine Below.alloc ?_ (by first | omega | (simp; done) | (simp; omega)) _)) ho6 (fun k q => (OW5.out.lt k q).1) (by first | omega | (simp; done) | (simp; omega))); have s6 := HI3.out.below BB6.out; have l6 := bel_cell BB6.out hcl; obtain ⟨hc6, hg6⟩ := Is.one s6; have t6 := LI3.out.below BB6.out; obtain ⟨hd6, hf6⟩ := Is.one t6; have M := hide (ref_txn_end (ab := false) LB3.out HI3.out LI3.out ALL (fun b q => q.2) BB6.out hown6 hwn); clear hown6 ho6 s6 t6))
      refine hK.out _ _ ⟨hc6, l6⟩ (fun HS4 => ?_)
      clear hK K
      try simp only [Act.put, List.getElem_toArray, List.getElem_cons_zero, List.getElem_cons_succ, List.setIfInBounds_toArray, List.set_cons_zero, List.set_cons_succ]
      refine wpAnyH_take (i := 14) (v := ?_) rfl (by kernel_rfl) (by kernel_rfl) (by kernel_rfl) (fun _ _ _ h => h) (Or.inl ⟨by rfl, ?_⟩) HS4 ?_
      rotate_left
      · intro w' hSw
        try dsimp only at hSw
        simp only [List.getElem_toArray, List.getElem_cons_zero, List.getElem_cons_succ]
        go_simp
        try with_reducible rfl
      try simp only [Act.put, List.getElem_toArray, List.getElem_cons_zero, List.getElem_cons_succ, List.setIfInBounds_toArray, List.set_cons_zero, List.set_cons_succ]
      refine wpAnyH_done (by kernel_rfl) ?_ _
      refine Last.done_last ?_
      refine wpOp_step rfl (fun K hK => ?_)
      simp only [List.getElem_toArray, List.getElem_cons_zero, List.getElem_cons_succ]
      go_simp
      refine hK _ _ ?_
      clear hK
      go_simp
      go_wp2
      obtain ⟨k1, k2, k3⟩ := M.out
      refine bodyPost_ret (v := .tuple #[.agg #[.slice (some ⟨g6, 0, none⟩) (ts.length + 1) c6], .int .i64 ((t : Int) + 3), .int .i64 0, .int .i64 0]) (by simp [results, Try.results33, go_sem, k3]) rfl ⟨_, by rw [HS.out]; rfl, ?_, k2⟩
      rw [HS.out, h97]
      exact k1.mono (fun b q => q.imp And.left id)
end Go.Proofs.Ytigmgkcojifbcaa.Hist
