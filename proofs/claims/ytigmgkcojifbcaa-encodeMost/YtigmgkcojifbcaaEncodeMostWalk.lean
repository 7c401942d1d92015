/- EncodeMost, walked. -/
import Derived.Test.YtigmgkcojifbcaaEncAt
import Derived.Test.YtigmgkcojifbcaaEncText
import Derived.Test.YtigmgkcojifbcaaEncMostP
import Derived.Test.YtigmgkcojifbcaaFrame
import Derived.Deep.DeepMust
import Derived.Laws.MakeOwn
namespace Go.Proofs.Ytigmgkcojifbcaa.Walk
open Go.RowKit Go.Proofs.Ytigmgkcojifbcaa.Dig Go.Proofs.Ytigmgkcojifbcaa.Mem Go.Proofs.Ytigmgkcojifbcaa.Hist
set_option linter.unusedVariables false
set_option linter.unusedSimpArgs false

theorem Try.infoInt : (Try.prog.info? 3).map (fun i => (i.zero, i.size, i.bytes)) = some (some (.int .i64 0), 1, 8) := by kernel_rfl
set_option maxHeartbeats 1000000 in
theorem most_no (w : World) (n m v : Int) (h : 2000 < n ∨ 300 < m ∨ v < 0 ∨ 2147483647 < v) : Calls Try.prog 6 #[.int .u16 n, .int .u16 m, .int .i64 v] w fun e w' => e = .returned (.bool true) ∧ Below w.heap.size w w' := by
  by_cases h0 : 2000 < n
  · go_enter Try.func6, Try.ntmps6
    go_wp2_with (first | (go_at_call 8; go_must ((with_reducible refine (works4_any _).mono ?_); rintro e w1 ⟨rfl, hb1⟩)))
    go_ret
    exact ⟨rfl, hb1⟩
  by_cases h1 : 300 < m
  · go_enter Try.func6, Try.ntmps6
    go_wp2_with (first | (go_at_call 8; go_must ((with_reducible refine (works4_any _).mono ?_); rintro e w1 ⟨rfl, hb1⟩)))
    go_ret
    exact ⟨rfl, hb1⟩
  by_cases h2 : v < 0
  · go_enter Try.func6, Try.ntmps6
    go_wp2_with (first | (go_at_call 8; go_must ((with_reducible refine (works4_any _).mono ?_); rintro e w1 ⟨rfl, hb1⟩)))
    go_ret
    exact ⟨rfl, hb1⟩
  · have h3 : 2147483647 < v := by omega
    go_enter Try.func6, Try.ntmps6
    go_wp2_with (first | (go_at_call 8; go_must ((with_reducible refine (works4_any _).mono ?_); rintro e w1 ⟨rfl, hb1⟩)))
    go_ret
    exact ⟨rfl, hb1⟩
/-- The list, filled as far as k. -/
def fillC (v : Int) (m k : Nat) : Array Value := (List.replicate k (Value.int .i64 v) ++ List.replicate (m - k) (Value.int .i64 0)).toArray
theorem fillC_set (v : Int) {m k : Nat} (h : k < m) : (fillC v m k).setIfInBounds k (.int .i64 v) = fillC v m (k + 1) := by
  unfold fillC
  obtain ⟨r, hr⟩ : ∃ r, m - k = r + 1 := ⟨m - k - 1, by omega⟩
  have e : m - (k + 1) = r := by omega
  rw [hr, e, List.setIfInBounds_toArray, List.set_append_right _ _ (by simp), List.length_replicate, Nat.sub_self, List.replicate_succ (n := r), List.set_cons_zero, List.replicate_succ' (n := k), List.append_assoc]
  rfl
theorem fillC_get (v : Int) {m k : Nat} (h : k < m) : (fillC v m k)[k]? = some (.int .i64 0) := by
  unfold fillC
  rw [List.getElem?_toArray, List.getElem?_append_right (by simp), List.length_replicate, Nat.sub_self, List.getElem?_replicate, if_pos (by omega)]
theorem mk_list (m : Nat) (hm : m ≤ 1000) : ∀ w : World, (Instr.makeSlice 43 (.int .u16 (m : Int)) (.int .u16 (m : Int))).run Try.prog w = .ok (.slice (some ⟨w.heap.size, 0, none⟩) m m) (w.alloc (.cells (fillC 0 m 0) 3)) := by
  intro w
  obtain ⟨i0, hi, hz0, hz1, hz2⟩ := info_parts Try.infoInt
  have hr := run_makeSlice (P := Try.prog) w 43 3 i0 (.int .i64 0) Try.underlying43 hi hz0 .u16 .u16 (m : Int) (m : Int) (by omega) (Int.le_refl _) (by rw [hz1]; simp; omega) (by rw [hz2]; omega) (by omega)
  simp only [Int.toNat_natCast] at hr
  have e : madeCells (Value.int .i64 0).cells (m * i0.size) = fillC 0 m 0 := by
    rw [hz1]
    apply Array.ext
    · simp [madeCells, fillC]
    · intro i h1 h2
      simp [madeCells, fillC, Value.cells, Nat.mod_one]
  rw [e] at hr
  exact hr
def FillRel (w : World) (v : Int) (m : Nat) (i : Value) (wr : World) : Prop :=
  ∃ k : Nat, k ≤ m ∧ i = .int .i64 (k : Int) ∧ Hid (Is wr w.heap.size (fillC v m k)) ∧ Hid (Below w.heap.size w wr)
theorem fill_ints {w : World} {b : Nat} {v : Int} {m : Nat} (h : Is w b (fillC v m m)) (hm : m ≤ 1000) (hv : mayN v) : IntsAt (fun k => k = b) w (.slice (some ⟨b, 0, none⟩) m m) (List.replicate m v) := by
  have e : ((List.replicate m v).map fun n => [Value.int .i64 n]).flatten.toArray = fillC v m m := by
    unfold fillC
    rw [Nat.sub_self]
    congr 1
    induction m with
    | zero => rfl
    | succ m ih => simp [List.replicate_succ] at ih ⊢
  have hl : ((List.replicate m v).map fun n => [Value.int .i64 n]).length = m := by simp
  have r := RowAt.block (n := 1) (cs := (List.replicate m v).map fun n => [Value.int .i64 n]) (cap := m) (by simp) (by rw [e]; exact h) (by rw [hl]; omega) (by unfold maxLen; omega)
  rw [hl] at r
  exact ⟨r, fun n hn => by rw [List.eq_of_mem_replicate hn]; exact wf_of_i64 hv.1 (by have := hv.2; omega)⟩
/-- So many transactions, in a row that a variable of the call's own names. -/
def GrowRel (w : World) (B P : Nat) (v : Int) (m n : Nat) (i : Value) (wr : World) : Prop :=
  ∃ (k : Nat) (tv : Value) (rows : List (List Value)), k ≤ n ∧ i = .int .i64 (k : Int) ∧ Hid (Grow3 (fun b => w.heap.size ≤ b ∧ b ≠ P) (P + 1) wr tv (mostH (List.replicate m v) k) rows) ∧ Hid (Is wr P #[tv]) ∧ Hid (Is wr B (fillC v m m)) ∧ Hid (Below w.heap.size w wr)
theorem Try.infoTxnm : (Try.prog.info? 48).map (fun i => (i.zero, i.size, i.bytes)) = some (some (.agg #[.int .i64 0, .bool false, .slice none 0 0]), 3, 40) := by kernel_rfl
/-- A round of what grows. -/
theorem grow_round {w wr w5 : World} {B P k m : Nat} {v : Int} {tv v5 : Value} {rows : List (List Value)} {T U : TypeId} (hv : mayN v) (hm : m ≤ 1000) (hk : k ≤ 2000) (hB : w.heap.size ≤ B) (hBP : B < P) (hG : Grow3 (fun b => w.heap.size ≤ b ∧ b ≠ P) (P + 1) wr tv (mostH (List.replicate m v) k) rows) (hP : Is wr P #[tv]) (hL : Is wr B (fillC v m m)) (hBB : Below w.heap.size w wr)
    (hown : OwnC 48 3 (P + 1) w5 v5 (rows ++ [[.int .i64 (k : Int), .bool false, .slice (some ⟨wr.heap.size, 0, none⟩) 1 1]]))
    (ho : Only (fun b => tv.ownBlock = some b) ((wr.alloc (.cells #[.bool true, .int .i64 5, .int .i64 0, .slice (some ⟨B, 0, none⟩) m m] T)).alloc (.cells #[.int .i64 (k : Int), .bool false, .slice (some ⟨wr.heap.size, 0, none⟩) 1 1] U)) w5)
    (hat : v5.ownBlock = tv.ownBlock ∨ v5.ownBlock = some ((wr.alloc (.cells #[.bool true, .int .i64 5, .int .i64 0, .slice (some ⟨B, 0, none⟩) m m] T)).alloc (.cells #[.int .i64 (k : Int), .bool false, .slice (some ⟨wr.heap.size, 0, none⟩) 1 1] U)).heap.size) :
    Is w5 P #[tv] ∧ P < w5.heap.size ∧
    Grow3 (fun b => w.heap.size ≤ b ∧ b ≠ P) (P + 1) (w5.setCell ⟨P, 0, none⟩ v5) v5 (mostH (List.replicate m v) (k + 1)) (rows ++ [[.int .i64 (k : Int), .bool false, .slice (some ⟨wr.heap.size, 0, none⟩) 1 1]]) ∧ Is (w5.setCell ⟨P, 0, none⟩ v5) P #[v5] ∧ Is (w5.setCell ⟨P, 0, none⟩ v5) B (fillC v m m) ∧ Below w.heap.size w (w5.setCell ⟨P, 0, none⟩ v5) := by
  have hlt := hP.lt
  have hb2 : Below wr.heap.size wr ((wr.alloc (.cells #[.bool true, .int .i64 5, .int .i64 0, .slice (some ⟨B, 0, none⟩) m m] T)).alloc (.cells #[.int .i64 (k : Int), .bool false, .slice (some ⟨wr.heap.size, 0, none⟩) 1 1] U)) := ((Below.refl _ _).alloc (Nat.le_refl _) _).alloc (by simp) _
  have hs : wr.heap.size + 1 + 1 = ((wr.alloc (.cells #[.bool true, .int .i64 5, .int .i64 0, .slice (some ⟨B, 0, none⟩) m m] T)).alloc (.cells #[.int .i64 (k : Int), .bool false, .slice (some ⟨wr.heap.size, 0, none⟩) 1 1] U)).heap.size := by simp
  have hg : ∀ b, tv.ownBlock = some b → P + 1 ≤ b ∧ b < wr.heap.size := hG.own.lt
  have hop := (Is.made wr #[.bool true, .int .i64 5, .int .i64 0, .slice (some ⟨B, 0, none⟩) m m] T rfl).alloc (.cells #[.int .i64 (k : Int), .bool false, .slice (some ⟨wr.heap.size, 0, none⟩) 1 1] U)
  have hl2 := hL.below hb2
  have hP5 : Is w5 P #[tv] := (hP.below hb2).keep ho (fun q => by have := hg P q; omega)
  have r2 := RowAt.block (n := 4) (cs := [[.bool true, .int .i64 5, .int .i64 0, .slice (some ⟨B, 0, none⟩) m m]]) (cap := 1) (by simp) hop (by simp) (by unfold maxLen; omega)
  have hc : TxnAt (fun b => (w.heap.size ≤ b ∧ b ≠ P) ∧ tv.ownBlock ≠ some b ∧ b < ((wr.alloc (.cells #[.bool true, .int .i64 5, .int .i64 0, .slice (some ⟨B, 0, none⟩) m m] T)).alloc (.cells #[.int .i64 (k : Int), .bool false, .slice (some ⟨wr.heap.size, 0, none⟩) 1 1] U)).heap.size) ((wr.alloc (.cells #[.bool true, .int .i64 5, .int .i64 0, .slice (some ⟨B, 0, none⟩) m m] T)).alloc (.cells #[.int .i64 (k : Int), .bool false, .slice (some ⟨wr.heap.size, 0, none⟩) 1 1] U)) [.int .i64 (k : Int), .bool false, .slice (some ⟨wr.heap.size, 0, none⟩) 1 1] (mostT (List.replicate m v) k) := by
    rw [← hs]
    have hsz := hBB.size
    refine ⟨_, rfl, ⟨_, r2.mono (fun b q => ⟨⟨by omega, by omega⟩, fun e => by have := hg b e; omega, by omega⟩), AllAt.one ⟨_, rfl, (fill_ints hl2 hm hv).mono (fun b q => ⟨⟨by omega, by omega⟩, fun e => by have := hg b e; omega, by omega⟩), by show (Lit.int .i64 (5 : Int)).wf = true; decide, by show (Lit.int .i64 (0 : Int)).wf = true; decide⟩⟩, ?_⟩
    exact wf_of_i64 (by simp [mostT]) (by simp [mostT]; omega)
  have hG5 := Grow3.push hG hb2 hc hown ho hat (by rw [← hs]; have := hBB.size; omega)
  have hO : Only (fun b => b = P) w5 (w5.setCell ⟨P, 0, none⟩ v5) := (Only.refl _ _).put 0 _
  have hB5 : Below w.heap.size w w5 := (hBB.trans (hb2.mono hBB.size)).only ho (fun i q => by have := hg i q; omega) (by rw [← hs]; have := hBB.size; omega)
  refine ⟨hP5, hP5.lt, hG5.keep hO (fun b q => by omega), ?_, (hl2.keep ho (fun q => by have := hg B q; omega)).keep hO (by omega), hB5.only hO (fun i q => by omega) hB5.size⟩
  have := hP5.set 0 v5
  exact this
theorem most_few {vs : List Int} {n : Nat} (hn : n ≤ 2000) (hv : vs.length ≤ 1000) : Few4 (mostH vs n) := by
  have := mostH_few (vs := vs) hn hv
  exact ⟨by rw [mostH_len]; omega, this.2.1, this.2.2⟩
theorem most_check {vs : List Int} {n : Nat} (hv : ∀ x ∈ vs, mayN x) (hn : n ≤ 2000) (hl : vs.length ≤ 1000) : checkS (mostH vs n) = if 1024 < n then 3 else if 262144 < mostS vs n then 3 else 0 := by
  unfold checkS
  rw [mostH_len, mostH_ops]
  by_cases h : 1024 < n
  · rw [if_pos (.inl h), if_pos h]
  · have hV := mostH_valid hv n (by omega)
    have e : (textH (mostH vs n)).length = mostS vs n := by rw [← textH8_len, sizeH_len, mostH_size]
    rw [if_neg (by omega), if_neg h, if_neg (by rw [valid_chk hV]; simp), e]
theorem text1 (x : Int) (b : Nat) (w : World) (T : TypeId) {n : Nat} (hx : mayN x) (hb : b = w.heap.size) (hn : Hid ((txt x.toNat).length + 5 = n)) :
    Calls Try.prog 17 #[.agg #[.slice (some ⟨b, 0, none⟩) 1 1]] (w.alloc (.cells #[.int .i64 x, .bool false, .slice none 0 0] T)) fun e w' => ∃ L : List UInt8, e = .returned (.string ⟨L.toArray⟩) ∧ L.length = n ∧ Below w.heap.size w w' := by
  subst hb
  have m2 := Is.made w #[.int .i64 x, .bool false, .slice none 0 0] T rfl
  have r3 := RowAt.block (n := 3) (cs := [[Value.int .i64 x, .bool false, .slice none 0 0]]) (cap := 1) (by simp) m2 (by simp) (by unfold maxLen; omega)
  have ht : TxnsAt (fun k => k = w.heap.size) (w.alloc (.cells #[.int .i64 x, .bool false, .slice none 0 0] T)) (.slice (some ⟨w.heap.size, 0, none⟩) 1 1) [⟨x, false, []⟩] := ⟨_, r3, AllAt.one ⟨_, rfl, OpsAt.nil, wf_of_i64 hx.1 (by have := hx.2; omega)⟩⟩
  refine (rtext_any _ _ [⟨x, false, []⟩] _ ht ⟨by simp, by simp [opsN], fun t h => by obtain rfl := List.mem_singleton.1 h; exact ⟨by simp, by simp⟩⟩ (fun t h => by obtain rfl := List.mem_singleton.1 h; exact ⟨hx, by simp⟩)).mono ?_
  rintro e w' ⟨rfl, hb⟩
  refine ⟨_, rfl, ?_, ((Below.refl _ _).alloc (Nat.le_refl _) _).trans (hb.mono (by simp))⟩
  rw [← hn.out]
  simp [textH8, textT8, lineT8]
/-- The sum of what the document's texts take. -/
def SumRel (w : World) (P : Nat) (tv : Value) (vs : List Int) (n : Nat) (s i : Value) (wr : World) : Prop :=
  ∃ k S : Nat, k ≤ n ∧ i = .int .i64 (k : Int) ∧ s = .int .i64 (S : Int) ∧ Hid (S = mostS vs k) ∧ Hid (TxnsAt (fun _ => True) wr tv (mostH vs n)) ∧ Hid (Is wr P #[tv]) ∧ Hid (Below w.heap.size w wr)
set_option maxRecDepth 20000 in
set_option maxHeartbeats 4000000 in
theorem most_yes (w : World) (n m : Nat) (v : Int) (hn : n ≤ 2000) (hm : m ≤ 300) (h0 : 0 ≤ v) (h1 : v ≤ 2147483647) : Calls Try.prog 6 #[.int .u16 (n : Int), .int .u16 (m : Int), .int .i64 v] w fun e w' => e = .returned (.bool true) ∧ Below w.heap.size w w' := by
  have g1 : ¬ (2000 : Int) < (n : Int) := by omega
  have g2 : ¬ (300 : Int) < (m : Int) := by omega
  have g3 : ¬ v < 0 := by omega
  have g4 : ¬ 2147483647 < v := by omega
  have hmk := mk_list m (by omega)
  have HI0 : Hid (Is (w.alloc (.cells (fillC 0 m 0) 3)) w.heap.size (fillC v m 0)) := hide (Is.made w (fillC v m 0) 3 rfl)
  have HB0 := hide ((Below.refl w.heap.size w).alloc (Nat.le_refl _) (.cells (fillC 0 m 0) 3))
  go_enter Try.func6, Try.ntmps6
  go_wp2
  go_loopw [8] (fun i wr => FillRel w v m i wr) (fun i _ => m - (intOf i).toNat)
  case atStart => exact ⟨0, by omega, rfl, HI0, HB0⟩
  case round =>
    obtain ⟨k, hk, rfl, hI, hB⟩ := hrel
    by_cases hlt : k < m
    · have hc : wr.cell? ⟨w.heap.size, k, none⟩ = some (.int .i64 0) := hI.out.cell k (fillC_get v hlt)
      have hf : wr.frozen? ⟨w.heap.size, k, none⟩ = false := hI.out.frozen k
      have hI' := hI.out.set k (.int .i64 v)
      rw [fillC_set v hlt] at hI'
      have HI' := hide hI'
      have HB' := hide (hB.out.setCell (p := ⟨w.heap.size, k, none⟩) (Nat.le_refl _) (.int .i64 v))
      clear hI'
      go_wp2
      go_roundw
      case rel => exact ⟨k + 1, by omega, by go_num, HI', HB'⟩
      case measure => simp [intOf]; omega
    · have e : m = k := by omega
      subst e
      obtain ⟨W, hW⟩ : ∃ W, W = wr := ⟨_, rfl⟩
      subst hW
      have hz0 := hI.out.lt
      have HG1 : Hid (Grow3 (fun b => w.heap.size ≤ b ∧ b ≠ W.heap.size) (W.heap.size + 1) (W.alloc (.cells #[.slice none 0 0] 24)) (.slice none 0 0) (mostH (List.replicate m v) 0) []) := hide (Grow3.nil _ _ _)
      have HP1 : Hid (Is (W.alloc (.cells #[.slice none 0 0] 24)) W.heap.size #[.slice none 0 0]) := hide (Is.made _ _ _ rfl)
      have HI1 := hide (hI.out.alloc (.cells #[.slice none 0 0] 24))
      have HB1 := hide (hB.out.alloc hB.out.size (.cells #[.slice none 0 0] 24))
      obtain ⟨i0, hi0, hy0, hy1, hy2⟩ := info_parts Try.infoTxnm
      have HI0 : Hid (Try.prog.info? 48 = some i0 ∧ i0.zero = some (.agg #[.int .i64 0, .bool false, .slice none 0 0]) ∧ i0.size = 3 ∧ i0.bytes = 40) := ⟨hi0, hy0, hy1, hy2⟩
      clear hmk hi0 hy0 hy1 hy2
      go_wp2
      go_loopw [10] (fun i wr => GrowRel w w.heap.size W.heap.size v m n i wr) (fun i _ => n - (intOf i).toNat)
      case atStart => exact ⟨0, _, _, by omega, rfl, HG1, HP1, HI1, HB1⟩
      case round =>
        obtain ⟨k, tv, rows, hk, rfl, hG, hP, hL, hBB⟩ := hrel
        have y0 : wr.cell? ⟨W.heap.size, 0, none⟩ = some tv := hP.out.cell 0 rfl
        have yf : wr.frozen? ⟨W.heap.size, 0, none⟩ = false := hP.out.frozen 0
        have hzP := hP.out.lt
        by_cases hlt : k < n
        · have HRL : Hid (rows.length = k) := hide (by rw [hG.out.all.1, mostH_len])
          go_wp2_with (first | (at_builtin; go_must ((refine list_app_row rfl (.tmp 49) (.tmp 55) 22 rfl 48 i0 _ 3 40 Try.underlying22 HI0.out.1 HI0.out.2.1 HI0.out.2.2.1 HI0.out.2.2.2 rfl (by omega) (by omega) (W.heap.size + 1) tv rows rfl ((hG.out.own.alloc _).alloc _) _ _ [[.int .i64 (k : Int), .bool false, .slice (some ⟨wr.heap.size, 0, none⟩) 1 1]] rfl (RowAt.one rfl (Is.made (wr.alloc (.cells #[.bool true, .int .i64 5, .int .i64 0, .slice (some ⟨w.heap.size, 0, none⟩) m m] 45)) #[.int .i64 (k : Int), .bool false, .slice (some ⟨wr.heap.size, 0, none⟩) 1 1] 48 (by simp)) (by omega) (by unfold maxLen; omega)) (by simp [Value.oneCell']) (by rw [HRL.out]; simp; omega) (by simp; omega) ?_); intro v5 w5 hown5 ho5 hat5; obtain ⟨g5, c5, rfl, -, -⟩ := own_snoc_some hown5 HRL.out; obtain ⟨s1, s2, s3, s4, s5, s6⟩ := grow_round ⟨h0, h1⟩ (by omega) (by omega) (Nat.le_refl _) hz0 hG.out hP.out hL.out hBB.out hown5 ho5 hat5; have z0 : w5.cell? ⟨W.heap.size, 0, none⟩ = some tv := s1.cell 0 rfl; have zf := s1.frozen 0; have HG5 := hide s3; have HP5 := hide s4; have HL5 := hide s5; have HB5 := hide s6; clear s1 s3 s4 s5 s6 hown5 ho5 hat5)))
          go_roundw
          case rel => exact ⟨k + 1, _, _, by omega, by go_num, HG5, HP5, HL5, HB5⟩
          case measure => simp [intOf]; omega
        · have e : n = k := by omega
          subst e
          have HT : Hid (TxnsAt (fun b => b < wr.heap.size) wr tv (mostH (List.replicate m v) n)) := hide (hG.out.txns.lt.mono fun _ q => q.2)
          have HFW := hide (most_few (n := n) (vs := List.replicate m v) (by omega) (by simp; omega))
          have HCK := hide (most_check (n := n) (vs := List.replicate m v) (fun x hx => by rw [List.eq_of_mem_replicate hx]; exact ⟨h0, h1⟩) (by omega) (by simp; omega))
          obtain ⟨ec, hec⟩ : ∃ e, checkS (mostH (List.replicate m v) n) = e := ⟨_, rfl⟩
          have EC := hide hec
          clear hG hL
          by_cases h1024 : 1024 < n
          · have g5 : (1024 : Int) < (n : Int) := by omega
            have e3 : ec = 3 := by rw [← hec, HCK.out, if_pos h1024]
            subst e3
            clear hec h1024
            go_wp2_with (first | (go_at_call 11; go_must ((with_reducible refine (check_any _ tv _ wr HT.out (fun b q => q) HFW.out).mono ?_); rw [EC.out]; rintro e' w6 ⟨rfl, hb6⟩; have HP6 := hide (hP.out.below hb6); have HT6 := hide (HT.out.keep hb6); have HB6 := hide (hBB.out.trans (hb6.mono hBB.out.size)); clear hb6)) | (go_at_call 8; go_must ((with_reducible refine (works4_any _).mono ?_); rintro e' w7 ⟨rfl, hb7⟩; have HBZ := hide (HB6.out.trans (hb7.mono HB6.out.size)); clear hb7)))
            go_ret
            exact ⟨rfl, HBZ.out⟩
          · have g5 : ¬ (1024 : Int) < (n : Int) := by omega
            have g6 : Hid (ec = if 262144 < mostS (List.replicate m v) n then 3 else 0) := hide (by rw [← hec, HCK.out, if_neg h1024])
            clear hec h1024
            go_wp2_with (first | (go_at_call 11; go_must ((with_reducible refine (check_any _ tv _ wr HT.out (fun b q => q) HFW.out).mono ?_); rw [EC.out]; rintro e' w6 ⟨rfl, hb6⟩; have HP6 := hide (hP.out.below hb6); have HT6 := hide (HT.out.keep hb6); have HB6 := hide (hBB.out.trans (hb6.mono hBB.out.size)); clear hb6)))
            have HT7 : Hid (TxnsAt (fun _ => True) w6 tv (mostH (List.replicate m v) n)) := hide (HT6.out.mono fun _ _ => trivial)
            obtain ⟨q, hq⟩ : ∃ q, (txt v.toNat).length + 1 = q := ⟨_, rfl⟩
            have q1 : q ≤ 11 := by have := (txt_len v.toNat).2; omega
            have EQ : Hid ((txt v.toNat).length + 5 = q + 4) := hide (by omega)
            have HSN : Hid (sizeN (List.replicate m v) = q * m) := hide (by rw [sizeN_rep v v m, hq])
            obtain ⟨p, hp⟩ : ∃ p : Nat, q * m = p := ⟨_, rfl⟩
            have hpb : p ≤ 3300 := by rw [← hp]; exact Nat.mul_le_mul q1 hm
            have hmul : IntKind.i64.wrap ((q : Int) * (m : Int)) = (p : Int) := by
              have e : (q : Int) * (m : Int) = (p : Int) := by rw [← hp]; push_cast; rfl
              rw [e, IntKind.wrap_i64]; omega
            have HP' := hide hp
            clear hq hp
            go_loopw [12, 13] (fun s i wr => SumRel w W.heap.size tv (List.replicate m v) n s i wr) (fun _ i _ => n - (intOf i).toNat)
            case atStart => exact ⟨0, 0, by omega, rfl, rfl, hide rfl, HT7, HP6, HB6⟩
            case round =>
              obtain ⟨k, S, hk, rfl, rfl, hS, hT, hP, hBB⟩ := hrel
              have hSb : S ≤ 10000000 := by
                have e1 := mostS_le (List.replicate m v) k
                rw [HSN.out, HP'.out] at e1
                have e2 : k * (19 + p) ≤ 2000 * 3319 := Nat.mul_le_mul (by omega) (by omega)
                have e3 := hS.out
                omega
              by_cases hlt : k < n
              · obtain ⟨n1, hn1⟩ : ∃ n1, (txt k).length + 5 = n1 := ⟨_, rfl⟩
                have n1b : n1 ≤ 15 := by have := (txt_len k).2; omega
                have E1 : Hid ((txt ((k : Int)).toNat).length + 5 = n1) := hide (by rw [Int.toNat_natCast]; exact hn1)
                have MK : Hid (mayN (k : Int)) := hide (by unfold mayN; omega)
                have MV : Hid (mayN v) := hide ⟨h0, h1⟩
                have S2 : Hid (S + n1 + 4 + p = mostS (List.replicate m v) (k + 1)) := hide (by rw [mostS, HSN.out, HP'.out, ← hS.out]; omega)
                clear hn1
                go_wp2_with (first
                  | (go_at_call 17; (with_reducible refine (text1 (k : Int) _ _ _ MK.out (by rfl) E1).mono ?_); rintro e' w8 ⟨L1, rfl, hl1, hb8⟩; have HB8 := hide hb8; clear hb8)
                  | (go_at_call 17; go_must ((with_reducible refine (text1 v _ _ _ MV.out (by rfl) EQ).mono ?_); rintro e' w9 ⟨L2, rfl, hl2, hb9⟩; have HB9 := hide (HB8.out.trans (hb9.mono HB8.out.size)); clear hb9)))
                have HT9 := hide (hT.out.keep HB9.out)
                have HP9 := hide (hP.out.below HB9.out)
                have HBX := hide (hBB.out.trans (HB9.out.mono hBB.out.size))
                clear hl1 hl2 HB8
                go_roundw
                case rel => exact ⟨k + 1, S + n1 + 4 + p, by omega, by go_num, by push_cast; rfl, S2, HT9, HP9, HBX⟩
                case measure => simp [intOf]; omega
              · have e : n = k := by omega
                subst e
                have y1 : wr.cell? ⟨W.heap.size, 0, none⟩ = some tv := hP.out.cell 0 rfl
                have HT9 : Hid (TxnsAt (fun b => b < wr.heap.size) wr tv (mostH (List.replicate m v) n)) := hide (hT.out.lt.mono fun _ q => q.2)
                by_cases hbig : 262144 < S
                · have g7 : (262144 : Int) < (S : Int) := by omega
                  have e3 : ec = 3 := by rw [g6.out, if_pos (by rw [← hS.out]; exact hbig)]
                  subst e3
                  clear hbig
                  go_wp2_with (first | (go_at_call 8; go_must ((with_reducible refine (works4_any _).mono ?_); rintro e' w7 ⟨rfl, hb7⟩; have HBZ := hide (hBB.out.trans (hb7.mono hBB.out.size)); clear hb7)))
                  go_ret
                  exact ⟨rfl, HBZ.out⟩
                · have g7 : ¬ (262144 : Int) < (S : Int) := by omega
                  have e3 : ec = 0 := by rw [g6.out, if_neg (by rw [← hS.out]; exact hbig)]
                  subst e3
                  have HSZ : Hid ((sizeA (mostH (List.replicate m v) n) : Int) = (S : Int)) := hide (by
                    unfold sizeA
                    rw [if_pos EC.out, hS.out]
                    rw [sizeH_len, mostH_size])
                  clear hbig
                  go_wp2_with (first
                    | (go_at_call 13; go_must ((with_reducible refine (psize_any _ tv _ _ HT9.out (fun b q => q) HFW.out).mono ?_); rw [HSZ.out]; rintro e' w8 ⟨rfl, hb8⟩; have HB8 := hide (hBB.out.trans (hb8.mono hBB.out.size)); clear hb8))
                    | (go_at_call 8; go_must ((with_reducible refine (works4_any _).mono ?_); rintro e' w7 ⟨rfl, hb7⟩; have HBZ := hide (HB8.out.trans (hb7.mono HB8.out.size)); clear hb7)))
                  go_ret
                  exact ⟨rfl, HBZ.out⟩

/-- EncodeMost answers true. -/
theorem walk_encodeMost (w : World) (n : Int) (hn : (Lit.int .u16 n).wf = true) (m : Int) (hm : (Lit.int .u16 m).wf = true) (v : Int) (hv : (Lit.int .i64 v).wf = true) :
    Calls Try.prog 6 #[.int .u16 n, .int .u16 m, .int .i64 v] w fun e w' => e = .returned (.bool true) ∧ Below w.heap.size w w' := by
  have b1 := bounds_u16 hn
  have b2 := bounds_u16 hm
  by_cases h : 2000 < n ∨ 300 < m ∨ v < 0 ∨ 2147483647 < v
  · exact most_no w n m v h
  · obtain ⟨n', hn'⟩ : ∃ k : Nat, n = (k : Int) := ⟨n.toNat, by omega⟩
    obtain ⟨m', hm'⟩ : ∃ k : Nat, m = (k : Int) := ⟨m.toNat, by omega⟩
    subst hn'
    subst hm'
    exact most_yes w n' m' v (by omega) (by omega) (by omega) (by omega)
end Go.Proofs.Ytigmgkcojifbcaa.Walk
