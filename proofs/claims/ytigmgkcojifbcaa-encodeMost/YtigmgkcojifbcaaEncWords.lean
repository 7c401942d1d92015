/- Contracts of mark and opWords. -/
import Derived.Test.YtigmgkcojifbcaaEncMay
import Derived.Test.YtigmgkcojifbcaaJoin
import Derived.Test.YtigmgkcojifbcaaGrow
import Derived.Test.YtigmgkcojifbcaaHistMem
import Derived.Deep.RegionHeld3
import Derived.Deep.DrawnRows
import Derived.Deep.DeepMust
import Derived.Deep.DeepCutAuto
import Derived.Deep.RegionWith
namespace Go.Proofs.Ytigmgkcojifbcaa.Hist
open Go.RowKit Go.Proofs.Ytigmgkcojifbcaa.Dig Go.Proofs.Ytigmgkcojifbcaa.Mem
set_option linter.unusedVariables false
set_option linter.unusedSimpArgs false

def markT (ab : Bool) : List UInt8 := if ab = true then [97] else [99]
theorem mark_any (id : Int) (ab : Bool) (ov : Value) (w : World) : Calls Try.prog 21 #[.agg #[.int .i64 id, .bool ab, ov]] w fun e w' => e = .returned (.string ⟨(markT ab).toArray⟩) ∧ Below w.heap.size w w' := by
  cases ab with
  | true =>
    go_enter Try.func21, Try.ntmps21
    go_wp2
    go_ret
    exact ⟨rfl, (Below.refl _ _).alloc (Nat.le_refl _) _⟩
  | false =>
    go_enter Try.func21, Try.ntmps21
    go_wp2
    go_ret
    exact ⟨rfl, (Below.refl _ _).alloc (Nat.le_refl _) _⟩
/-- An operation's words. -/
def words (o : OpM) : List (List UInt8) := if o.read = true then [114] :: txt o.key.toNat :: o.list.map (fun x => txt x.toNat) else [[97], txt o.key.toNat, txt o.value.toNat]
theorem words_join (o : OpM) : joinB (words o) ++ [10] = lineO8 o := by
  unfold words lineO8
  split
  · simp [joinB, flat8, Function.comp_def]
  · simp [joinB]
def strC (xs : List (List UInt8)) : List (List Value) := xs.map fun x => [.string ⟨x.toArray⟩]
/-- A row of texts, in block bk. -/
structure Words (w : World) (bk : Nat) (xs : List (List UInt8)) : Prop where
  cells : ∀ (j : Nat) x, xs[j]? = some x → w.cell? ⟨bk, j, none⟩ = some (.string ⟨x.toArray⟩)
  lt : bk < w.heap.size
theorem Words.keep {w w' : World} {bk : Nat} {xs : List (List UInt8)} {S : Nat → Prop} (h : Words w bk xs) (ho : Only S w w') (hs : ¬ S bk) : Words w' bk xs :=
  ⟨fun j x hx => ho.cell (h.cells j x hx) hs, Nat.lt_of_lt_of_le h.lt ho.size⟩
theorem Words.of_is {w : World} {b : Nat} {xs : List (List UInt8)} (h : Is w b (xs.map fun x => Value.string ⟨x.toArray⟩).toArray) : Words w b xs :=
  ⟨fun j x hx => h.cell j (by simp [hx]), h.lt⟩
theorem Words.of_own {w : World} {base g n cap : Nat} {xs : List (List UInt8)} (h : OwnC 9 1 base w (.slice (some ⟨g, 0, none⟩) n cap) (strC xs)) (hl : 0 < xs.length) : Words w g xs := by
  refine ⟨fun j x hx => ?_, (h.lt g rfl).2⟩
  have hj : j < (strC xs).length := by
    have : j < xs.length := by
      rcases Nat.lt_or_ge j xs.length with q | q
      · exact q
      · rw [List.getElem?_eq_none q] at hx; cases hx
    simpa [strC] using this
  have := OwnC.cell h hj (j := 0) (u := .string ⟨x.toArray⟩) (by
    simp only [strC, List.getElem_map]
    rw [List.getElem?_eq_getElem (by simpa [strC] using hj)] at hx
    simp at hx
    simp [hx])
  simpa using this
theorem text_at (n : Int) (w : World) {N : List UInt8} (h : mayN n) (hN : Hid (txt n.toNat = N)) : Calls Try.prog 20 #[.int .i64 n] w fun e w' => e = .returned (.string ⟨N.toArray⟩) ∧ Below w.heap.size w w' := by
  rw [← hN.out]; exact text_any n w h
/-- The operation's box. -/
structure OpBox (w : World) (rd : Bool) (o : OpM) (lv : Value) (wx : World) : Prop where
  below : Below w.heap.size w wx
  box : Is wx w.heap.size #[.bool rd, .int .i64 o.key, .int .i64 o.value, lv]
section
variable {w wx : World} {rd : Bool} {o : OpM} {lv : Value}
theorem OpBox.start (w : World) (rd : Bool) (o : OpM) (lv : Value) : OpBox w rd o lv (w.alloc (.cells #[.bool rd, .int .i64 o.key, .int .i64 o.value, lv] 45)) := ⟨(Below.refl _ _).alloc (Nat.le_refl _) _, Is.made w _ _ rfl⟩
theorem OpBox.keep {wy : World} (h : OpBox w rd o lv wx) (hb : Below wx.heap.size wx wy) : OpBox w rd o lv wy := ⟨h.below.trans (hb.mono h.below.size), h.box.below hb⟩
theorem textB {n : Int} {N : List UInt8} (h : Hid (OpBox w rd o lv wx)) (hn : mayN n) (hN : Hid (txt n.toNat = N)) : Calls Try.prog 20 #[.int .i64 n] wx fun e w' => e = .returned (.string ⟨N.toArray⟩) ∧ Hid (OpBox w rd o lv w') := by
  refine (text_at n wx hn hN).mono ?_
  rintro e w' ⟨rfl, hb⟩
  exact ⟨rfl, h.out.keep hb⟩
end
theorem Try.infoStr : (Try.prog.info? 9).map (fun i => (i.zero, i.size, i.bytes)) = some (some (.string ByteArray.empty), 1, 16) := by kernel_rfl
set_option maxRecDepth 20000 in
set_option maxHeartbeats 1000000 in
theorem opwords_app (F : Nat → Prop) (o : OpM) (lv : Value) (w : World) (h : IntsAt F w lv o.list) (hm : mayOpB o = true) (hr : o.read = false) :
    Calls Try.prog 22 #[.agg #[.bool false, .int .i64 o.key, .int .i64 o.value, lv]] w fun e w' => ∃ bk c, e = .returned (.slice (some ⟨bk, 0, none⟩) (words o).length c) ∧ Words w' bk (words o) ∧ (words o).length ≤ c ∧ Below w.heap.size w w' ∧ w.heap.size ≤ bk := by
  obtain ⟨a, c, rfl, _, _⟩ := h.shape
  obtain ⟨k1, k2, k3⟩ := mayOp_app hm hr
  have K1 := hide k1
  have K2 := hide k2
  obtain ⟨N1, hN1⟩ : ∃ N, txt o.key.toNat = N := ⟨_, rfl⟩
  obtain ⟨N2, hN2⟩ : ∃ N, txt o.value.toNat = N := ⟨_, rfl⟩
  have E1 := hide hN1
  have E2 := hide hN2
  have HW : Hid (words o = [[97], N1, N2]) := hide (by unfold words; rw [if_neg (by simp [hr]), hN1, hN2])
  have HX0 := hide (OpBox.start w false o (.slice a o.list.length c))
  have HX1 : Hid (OpBox w false o (.slice a o.list.length c) (w.alloc (.cells #[.bool false, .int .i64 o.key, .int .i64 o.value, .slice a o.list.length c] 45)).drew) := hide (HX0.out.keep (Below.refl _ _).drew)
  clear h hm hN1 hN2 k1 k2 k3 hr
  go_enter Try.func22, Try.ntmps22
  go_upto_region 2 with fail
  go_region_held3 (fun w' => w'.cell? ⟨w.heap.size, 0, none⟩ = some (.bool false) ∧ w'.cell? ⟨w.heap.size, 1, none⟩ = some (.int .i64 o.key) ∧ w'.cell? ⟨w.heap.size, 2, none⟩ = some (.int .i64 o.value)) (first | assumption | go_keep)
    (first | (go_at_call 20; (with_reducible refine (textB (n := o.key) (by assumption) K1.out E1).mono ?_); rintro e wx ⟨rfl, HX⟩; obtain ⟨⟨d0, d1, d2, d3⟩, -⟩ := HX.out.box.four; have hzx := HX.out.box.lt) | (go_at_call 20; (with_reducible refine (textB (n := o.value) (by assumption) K2.out E2).mono ?_); rintro e wx ⟨rfl, HX⟩; obtain ⟨⟨d0, d1, d2, d3⟩, -⟩ := HX.out.box.four; have hzx := HX.out.box.lt))
  all_goals
    have hWd := hide (Words.of_is (xs := [[97], N1, N2]) (Is.made wx _ 9 rfl))
    go_wp2
    go_ret
    exact ⟨_, 3, by rw [HW.out]; rfl, by rw [HW.out]; exact hWd.out, by rw [HW.out]; exact Nat.le_refl 3, HX.out.below.alloc HX.out.below.size _, HX.out.below.size⟩
def WRel (w : World) (o : OpM) (v i : Value) (wr : World) : Prop :=
  ∃ (k g cap : Nat), k ≤ o.list.length ∧ i = .int .i64 (k : Int) ∧ v = .slice (some ⟨g, 0, none⟩) (k + 2) cap ∧ k + 2 ≤ cap ∧ Hid (OwnC 9 1 w.heap.size wr (.slice (some ⟨g, 0, none⟩) (k + 2) cap) (strC ([114] :: txt o.key.toNat :: (o.list.take k).map (fun x => txt x.toNat)))) ∧ Hid (Below w.heap.size w wr)
theorem OwnC.full {w : World} {e : TypeId} {b base : Nat} {cs : Array Value} {rows : List (List Value)} {m : Nat} (hb : b = w.heap.size) (hB : base ≤ w.heap.size) (hr : rows.flatten = cs.toList) (h1 : ∀ c ∈ rows, c.length = 1) (hm : rows.length = m) (hmx : m ≤ 1000) :
    OwnC e 1 base (w.alloc (.cells cs e)) (.slice (some ⟨b, 0, none⟩) m m) rows := by
  subst hb
  have hl := flatten_len 1 rows h1
  rw [hr, hm, Nat.mul_one, Array.length_toList] at hl
  refine ⟨⟨by rw [hr, hm]; simpa using hl, .inr ⟨w.heap.size, m, cs, by rw [hm], hB, heap_alloc_new w _, by rw [hm]; exact Nat.le_refl _, by unfold maxLen; omega, by simpa using hl, ?_⟩⟩, h1⟩
  rw [hr, hm, ← hl, Nat.mul_one]
  exact List.take_of_length_le (by simp)
set_option maxRecDepth 20000 in
set_option maxHeartbeats 1000000 in
theorem opwords_read (F : Nat → Prop) (o : OpM) (lv : Value) (w : World) (h : IntsAt F w lv o.list) (hl : o.list.length ≤ 900000) (hm : mayOpB o = true) (hr : o.read = true) :
    Calls Try.prog 22 #[.agg #[.bool true, .int .i64 o.key, .int .i64 o.value, lv]] w fun e w' => ∃ bk c, e = .returned (.slice (some ⟨bk, 0, none⟩) (words o).length c) ∧ Words w' bk (words o) ∧ (words o).length ≤ c ∧ Below w.heap.size w w' ∧ w.heap.size ≤ bk := by
  obtain ⟨a, c, rfl, _, _⟩ := h.shape
  obtain ⟨k1, k2, k3⟩ := mayOp_read hm hr
  have H := hide h
  have K1 := hide k1
  have K2 := hide k2
  obtain ⟨N1, hN1⟩ : ∃ N, txt o.key.toNat = N := ⟨_, rfl⟩
  have E1 := hide hN1
  have HW : Hid (words o = [114] :: txt o.key.toNat :: o.list.map (fun x => txt x.toNat)) := hide (by unfold words; rw [if_pos hr])
  have HX0 := hide (OpBox.start w true o (.slice a o.list.length c))
  obtain ⟨i0, hi, hz0, hz1, hz2⟩ := info_parts Try.infoStr
  have HI0 : Hid (Try.prog.info? 9 = some i0 ∧ i0.zero = some (.string ByteArray.empty) ∧ i0.size = 1 ∧ i0.bytes = 16) := ⟨hi, hz0, hz1, hz2⟩
  clear h hm hN1 k1 k2 k3 hr hi hz0 hz1 hz2
  go_enter Try.func22, Try.ntmps22
  go_wp2_with (first | (go_at_call 20; (with_reducible refine (textB (n := o.key) (by assumption) K1.out E1).mono ?_); rintro e wx ⟨rfl, HX⟩; obtain ⟨⟨d0, d1, d2, d3⟩, -⟩ := HX.out.box.four; have hzx := HX.out.box.lt))
  have OW0 : Hid (OwnC 9 1 w.heap.size (wx.alloc (.cells #[.string ⟨#[114]⟩, .string ⟨N1.toArray⟩] 9)) (.slice (some ⟨wx.heap.size, 0, none⟩) 2 2) (strC ([114] :: txt o.key.toNat :: (o.list.take 0).map (fun x => txt x.toNat)))) := hide (OwnC.full rfl (by omega) (by rw [E1.out]; rfl) (by simp [strC]) (by simp [strC]) (by omega))
  have HB0 := hide (HX.out.below.alloc HX.out.below.size (.cells #[.string ⟨#[114]⟩, .string ⟨N1.toArray⟩] 9))
  go_loopw [3, 23] (fun v i wr => WRel w o v i wr) (fun _ i _ => o.list.length - (intOf i).toNat)
  case atStart => exact ⟨0, wx.heap.size, 2, by omega, rfl, rfl, by omega, OW0, HB0⟩
  case round =>
    obtain ⟨k, g, cap, hk, rfl, rfl, hcap, HO, HB⟩ := hrel
    by_cases hlt : k < o.list.length
    · obtain ⟨b, off, rfl, hc, hw⟩ := ints_at (H.out.keep HB.out) (by omega) hlt
      obtain ⟨N5, hN5⟩ : ∃ N, txt o.list[k].toNat = N := ⟨_, rfl⟩
      have E5 := hide hN5
      have K5 := hide (K2.out _ (List.getElem_mem hlt))
      have HLN : Hid ((strC ([114] :: txt o.key.toNat :: (o.list.take k).map (fun x => txt x.toNat))).length + [[Value.string ⟨N5.toArray⟩]].length ≤ 1000000) := hide (by simp [strC]; omega)
      have HLK : Hid ((strC ([114] :: txt o.key.toNat :: (o.list.take k).map (fun x => txt x.toNat))).length = k + 2) := hide (by simp [strC]; omega)
      clear hN5
      go_wp2_with (first
        | (go_at_call 20; go_must ((with_reducible refine (text_at o.list[k] _ K5.out E5).mono ?_); rintro e w1 ⟨rfl, hb1⟩; replace hb1 := hide hb1))
        | (at_builtin; go_must ((refine list_app_row rfl (.tmp 27) (.tmp 30) 54 rfl 9 i0 (.string ByteArray.empty) 1 16 Try.underlying54 HI0.out.1 HI0.out.2.1 HI0.out.2.2.1 HI0.out.2.2.2 rfl (by decide) (by decide) w.heap.size _ _ rfl (HO.out.keep (Only.of_below (S := fun _ => False) (hb1.out.alloc (by have := hb1.out.size; omega) _)) (fun _ _ q => q)) _ _ [[.string ⟨N5.toArray⟩]] rfl (RowAt.one rfl (Is.made w1 _ _ rfl) (by omega) (by unfold maxLen; omega)) (by simp [Value.oneCell']) HLN.out (by have := HB.out.size; have := hb1.out.size; simp; omega) ?_); intro v5 w5 hown5 ho5 hat5; obtain ⟨g5, c5, rfl, hc5, -⟩ := own_snoc_some hown5 HLK.out; have HB5 := hide (Below.only ((HB.out.trans (hb1.out.mono HB.out.size)).alloc (by have := HB.out.size; have := hb1.out.size; omega) _) ho5 (fun k q => (HO.out.lt k q).1) (by have := HB.out.size; have := hb1.out.size; simp; omega)); have HO5 := hide hown5; clear hown5 ho5 hat5)))
      go_roundw
      case rel =>
        refine ⟨k + 1, g5, c5, by omega, by go_num, rfl, hc5, hide ?_, HB5⟩
        have e1 : strC ([114] :: txt o.key.toNat :: (o.list.take (k + 1)).map (fun x => txt x.toNat)) = strC ([114] :: txt o.key.toNat :: (o.list.take k).map (fun x => txt x.toNat)) ++ [[.string ⟨N5.toArray⟩]] := by
          rw [List.take_succ_eq_append_getElem hlt, ← E5.out]; simp only [strC, List.map_append, List.map_cons, List.map_nil, List.cons_append]
        rw [e1]
        exact HO5.out
      case measure => simp [intOf]; omega
    · have e : k = o.list.length := by omega
      subst e
      have HO9 := HO.out
      rw [List.take_length, ← HW.out] at HO9
      have HLW : Hid ((words o).length = o.list.length + 2) := hide (by rw [HW.out]; simp)
      have HWd := hide (Words.of_own HO9 (by have := HLW.out; omega))
      have HG := hide (HO9.lt g rfl).1
      clear HO9
      go_wp2
      go_ret
      exact ⟨g, cap, by rw [HLW.out]; first | done | rfl | simp, HWd.out, by rw [HLW.out]; exact hcap, HB.out, HG.out⟩
theorem opwords_any (F : Nat → Prop) (o : OpM) (rd : Bool) (lv : Value) (w : World) (h : IntsAt F w lv o.list) (hl : o.list.length ≤ 900000) (hm : mayOpB o = true) (hr : o.read = rd) :
    Calls Try.prog 22 #[.agg #[.bool rd, .int .i64 o.key, .int .i64 o.value, lv]] w fun e w' => ∃ bk c, e = .returned (.slice (some ⟨bk, 0, none⟩) (words o).length c) ∧ Words w' bk (words o) ∧ (words o).length ≤ c ∧ Below w.heap.size w w' ∧ w.heap.size ≤ bk := by
  cases rd with
  | true => exact opwords_read F o lv w h hl hm hr
  | false => exact opwords_app F o lv w h hm hr
end Go.Proofs.Ytigmgkcojifbcaa.Hist
