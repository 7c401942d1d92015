/- HistoryDecodes, walked. -/
import Derived.Test.YtkdggnfjefgonaaHistWorks
import Derived.Test.YtkdggnfjefgonaaHistFew
import Derived.Test.YtkdggnfjefgonaaHistRefDec
import Derived.Test.YtkdggnfjefgonaaFrame
import Derived.Deep.RegionHeld3
import Derived.Deep.DrawnRows
import Derived.Deep.DeepMust
namespace Go.Proofs.Ytkdggnfjefgonaa.Walk
open Go.RowKit Go.Proofs.Ytkdggnfjefgonaa.Dig Go.Proofs.Ytkdggnfjefgonaa.Mem Go.Proofs.Ytkdggnfjefgonaa.Hist
set_option linter.unusedVariables false
set_option linter.unusedSimpArgs false

/-! ### No list is longer than the bytes -/
theorem lscan_len (z : Nat → Int) (len : Nat) : ∀ (f p : Nat) (acc : List Int), (lscan z len f p acc).1.length ≤ acc.length + f
  | 0, p, acc => by rw [lscan]; show acc.length ≤ acc.length + 0; omega
  | f + 1, p, acc => by
    rw [lscan]
    split
    · split
      · have := lscan_len z len f (parse z len ((p : Int) + 1)).2.1.toNat (acc ++ [(parse z len ((p : Int) + 1)).1])
        rw [List.length_append, List.length_singleton] at this
        omega
      · simp
    · simp
theorem lst_len (z : Nat → Int) (len : Nat) (a : Int) : (lst z len a).1.length ≤ len := by
  unfold lst
  split
  · simp
  · have := lscan_len z len (len - a.toNat) a.toNat []
    rw [List.length_nil] at this
    omega
theorem lists_addOp {m : Nat} {ts : List TxnM} {o : OpM} (h : Lists m ts) (ho : o.list.length ≤ m) : Lists m (addOp ts o) := by
  unfold addOp
  cases hl : ts.getLast? with
  | none => exact h
  | some t =>
    have ht : t ∈ ts := List.mem_of_getLast? hl
    intro u hu p hp
    rcases List.mem_append.1 hu with q | q
    · exact h u (List.dropLast_subset _ q) p hp
    · obtain rfl := List.mem_singleton.1 q
      rcases List.mem_append.1 hp with r | r
      · exact h t ht p r
      · obtain rfl := List.mem_singleton.1 r
        exact ho
theorem lists_endL {z : Nat → Int} {len j m : Nat} {ts : List TxnM} {o : OpM} (h : Lists m ts) (ho : o.list.length ≤ m) : Lists m (endL z len ts o j).ts := by
  unfold endL
  split
  · exact h
  · exact lists_addOp h ho
theorem lists_line {z : Nat → Int} {len i : Nat} {most : Int} {ts : List TxnM} (h : Lists len ts) : Lists len (lineS z len most ts i).ts := by
  unfold lineS
  split
  · unfold txnS
    split; · exact h
    split; · exact h
    split; · exact h
    split; · exact h
    unfold txnT
    split; · exact h
    split; · exact h
    split; · exact h
    intro u hu p hp
    rcases List.mem_append.1 hu with q | q
    · exact h u q p hp
    · obtain rfl := List.mem_singleton.1 q
      cases hp
  split
  · unfold opS
    split; · exact h
    split; · exact h
    split; · exact h
    split; · exact h
    split
    · unfold readT
      split; · exact h
      exact lists_endL h (lst_len _ _ _)
    · unfold appT
      split; · exact h
      split; · exact h
      split; · exact h
      exact lists_endL h (Nat.zero_le _)
  · exact h
theorem lists_decL {z : Nat → Int} {len : Nat} {most : Int} : ∀ (f : Nat) (ts : List TxnM) (i : Nat), Lists len ts → Lists len (decL z len most f ts i).1
  | 0, ts, i, h => h
  | f + 1, ts, i, h => by
    rw [decL]
    split
    · split
      · exact lists_decL f _ _ (lists_line h)
      · intro t ht; cases ht
    · exact h
theorem lists_dec {z : Nat → Int} {len : Nat} {most : Int} : Lists len (decS z len most).1 := by
  unfold decS
  split
  · intro t ht; cases ht
  · split
    · intro t ht; cases ht
    · exact lists_decL _ _ _ (fun t ht => by cases ht)
theorem few_of {ts : List TxnM} {m : Nat} (h1 : ts.length ≤ 1024) (h2 : opsN ts ≤ 5000) (h3 : Lists m ts) (hm : m ≤ 1000000) : TxnsFew ts :=
  ⟨by omega, fun t ht => ⟨by obtain ⟨i, hi, rfl⟩ := List.mem_iff_getElem.1 ht; have := ops_le hi; omega, fun o ho => by have := h3 t ht o ho; omega⟩⟩

/-- Two histories, in two variables. -/
structure TwoD (w : World) (p q : Nat) (tv uv : Value) (us : List TxnM) (wx : World) : Prop where
  below : Below w.heap.size w wx
  c1 : wx.cell? ⟨p, 0, none⟩ = some tv
  c2 : wx.cell? ⟨q, 0, none⟩ = some uv
  t : TxnsAt (fun _ => True) wx tv us
  u : TxnsAt (fun _ => True) wx uv us
  few : us.length ≤ 1024 ∧ opsN us ≤ 5000
theorem TwoD.keep {w wx wy : World} {p q : Nat} {tv uv : Value} {us : List TxnM} (h : TwoD w p q tv uv us wx) (hb : Below wx.heap.size wx wy) : TwoD w p q tv uv us wy :=
  ⟨h.below.trans (hb.mono h.below.size), (Only.of_below (S := fun _ => False) hb).cell h.c1 (fun q => q), (Only.of_below (S := fun _ => False) hb).cell h.c2 (fun q => q), h.t.keep hb, h.u.keep hb, h.few⟩
theorem TwoD.start {w w1 w2 : World} {tv uv : Value} {us : List TxnM} (T : TypeId) (ht : TxnsAt (fun b => w.heap.size ≤ b) w1 tv us) (hb1 : Below w.heap.size w w1) (few : us.length ≤ 1024 ∧ opsN us ≤ 5000)
    (hu : TxnsAt (fun b => (w1.alloc (.cells #[tv] T)).heap.size ≤ b) w2 uv us) (hb2 : Below (w1.alloc (.cells #[tv] T)).heap.size (w1.alloc (.cells #[tv] T)) w2) :
    TwoD w w1.heap.size w2.heap.size tv uv us (w2.alloc (.cells #[uv] T)).drew := by
  have hb3 : Below w2.heap.size w2 (w2.alloc (.cells #[uv] T)).drew := ((Below.refl _ _).alloc (Nat.le_refl _) _).drew
  have h12 : Below w1.heap.size w1 w2 := ((Below.refl _ _).alloc (Nat.le_refl _) _).trans (hb2.mono (by simp))
  have h02 := hb1.trans (h12.mono hb1.size)
  exact ⟨h02.trans (hb3.mono h02.size), (((Is.made w1 #[tv] T rfl).below hb2).below hb3).cell 0 rfl, (Is.made w2 #[uv] T rfl).drew.cell 0 rfl, ((ht.keep h12).keep hb3).mono (fun _ _ => trivial), (hu.keep hb3).mono (fun _ _ => trivial), few⟩
section
variable {w wx : World} {p q : Nat} {tv uv : Value} {us : List TxnM}
theorem opsD {n : Int} (h : Hid (TwoD w p q tv uv us wx)) (hn : Hid ((opsN us : Int) = n)) :
    Calls Try.prog 11 #[.agg #[tv]] wx fun e w' => e = .returned (.int .i64 n) ∧ Hid (TwoD w p q tv uv us w') := by
  refine (ops_any _ tv us wx h.out.t (by have := h.out.few.1; omega) (by have := h.out.few.2; omega)).mono ?_
  rw [hn.out]
  rintro e w' ⟨rfl, hb⟩
  exact ⟨rfl, h.out.keep hb⟩
theorem ropsD {n : Int} (h : Hid (TwoD w p q tv uv us wx)) (hn : Hid ((opsN us : Int) = n)) :
    Calls Try.prog 12 #[.agg #[uv]] wx fun e w' => e = .returned (.int .i64 n) ∧ Hid (TwoD w p q tv uv us w') := by
  refine (rops_any _ uv us wx h.out.u (by have := h.out.few.1; omega) (by have := h.out.few.2; omega)).mono ?_
  rw [hn.out]
  rintro e w' ⟨rfl, hb⟩
  exact ⟨rfl, h.out.keep hb⟩
theorem rsameD (h : Hid (TwoD w p q tv uv us wx)) (hf : Hid (TxnsFew us)) :
    Calls Try.prog 10 #[.agg #[tv], .agg #[uv]] wx fun e w' => e = .returned (.bool true) ∧ Hid (TwoD w p q tv uv us w') := by
  refine (rsame_any _ _ tv uv us us wx h.out.t h.out.u hf.out hf.out).mono ?_
  rw [decide_eq_true (rfl : us = us)]
  rintro e w' ⟨rfl, hb⟩
  exact ⟨rfl, h.out.keep hb⟩
theorem worksD (h : Hid (TwoD w p q tv uv us wx)) :
    Calls Try.prog 7 #[] wx fun e w' => e = .returned (.bool true) ∧ Hid (TwoD w p q tv uv us w') := by
  refine (works_any wx).mono ?_
  rintro e w' ⟨rfl, hb⟩
  exact ⟨rfl, h.out.keep hb⟩
end
set_option maxHeartbeats 1000000 in
theorem decodes_long (w : World) (a0 : Option Addr) (n0 c0 : Nat) (most : Int) (h : 600 < n0) : Calls Try.prog 3 #[.slice a0 n0 c0, .int .i64 most] w fun e w' => e = .returned (.bool true) ∧ Below w.heap.size w w' := by
  have h0' : (600 : Int) < (n0 : Int) := by omega
  go_enter Try.func3, Try.ntmps3
  go_wp2_with (go_at_call 7; go_must ((with_reducible refine (works_any _).mono ?_); rintro e w1 ⟨rfl, hb1⟩))
  go_ret
  exact ⟨rfl, hb1⟩
set_option maxRecDepth 20000 in
set_option maxHeartbeats 4000000 in
theorem walk_historyDecodes (w : World) (a0 : Option Addr) (n0 c0 : Nat) (z0 : List Int) (h0 : Frame.IsRow .u8 w a0 n0 c0 z0) (most : Int) (hm : (Lit.int .i64 most).wf = true) :
    Calls Try.prog 3 #[.slice a0 n0 c0, .int .i64 most] w fun e w' => e = .returned (.bool true) ∧ Below w.heap.size w w' := by
  by_cases hl : 600 < n0
  · exact decodes_long w a0 n0 c0 most hl
  have hcap := h0.cap.1
  obtain ⟨l0, rfl, r0, w0, m0⟩ := h0.list (by omega)
  have h0' : ¬ (600 : Int) < (l0.length : Int) := by omega
  obtain ⟨⟨us, e0, x0⟩, hd⟩ : ∃ r, decS (fun i => l0.getD i 0) l0.length most = r := ⟨_, rfl⟩
  have HLS : Hid (Lists l0.length us) := by have q := lists_dec (z := fun i => l0.getD i 0) (len := l0.length) (most := most); rw [hd] at q; exact q
  have HD := hide hd
  have HR0 := hide r0
  have HL := hide hl
  obtain ⟨n, hn⟩ : ∃ n, (opsN us : Int) = n := ⟨_, rfl⟩
  have HN := hide hn
  clear hd r0 w0 m0 hl h0 hm hn
  go_enter Try.func3, Try.ntmps3
  go_wp2_with (first
    | (go_at_call 8; (with_reducible refine (dec_at _ _ c0 _ most _ HR0.out hcap HD).mono ?_); rintro e' w1 ⟨ta, tcap, rfl, ht1, hb1, hf1⟩; have hz1 := hb1.out.size; have HRN : Hid (Rd .u8 (w1.alloc (.cells #[.slice ta us.length tcap] 26)) a0 l0.length (fun i => l0.getD i 0)) := hide (HR0.out.only (Only.of_below (S := fun _ => False) (hb1.out.trans (((Below.refl _ _).alloc (Nat.le_refl _) _).mono hz1))) (fun _ _ q => q)))
    | (go_at_call 9; go_must ((with_reducible refine (rdec_at _ _ c0 _ most _ HRN.out hcap HD).mono ?_); rintro e' w2 ⟨tb, tbcap, rfl, ht2, hb2, hf2⟩; have HX := hide (TwoD.start 26 ht1.out hb1.out hf1.out ht2.out hb2.out); have c1 := HX.out.c1; have c2 := HX.out.c2; have HF := hide (few_of hf1.out.1 hf1.out.2 HLS.out (by have := HL.out; omega)))))
  go_region_held3 (fun w' => w'.cell? ⟨w1.heap.size, 0, none⟩ = some (.slice ta us.length tcap) ∧ w'.cell? ⟨w2.heap.size, 0, none⟩ = some (.slice tb us.length tbcap)) (first | assumption | go_keep)
    (first | (go_at_call 10; (with_reducible refine (rsameD (by assumption) HF).mono ?_); rintro e wx ⟨rfl, HX⟩; have c1 := HX.out.c1; have c2 := HX.out.c2) | (go_at_call 11; (with_reducible refine (opsD (by assumption) HN).mono ?_); rintro e wx ⟨rfl, HX⟩; have c1 := HX.out.c1; have c2 := HX.out.c2) | (go_at_call 12; (with_reducible refine (ropsD (by assumption) HN).mono ?_); rintro e wx ⟨rfl, HX⟩; have c1 := HX.out.c1; have c2 := HX.out.c2) | (go_at_call 7; (with_reducible refine (worksD (by assumption)).mono ?_); rintro e wx ⟨rfl, HX⟩; have c1 := HX.out.c1; have c2 := HX.out.c2))
  all_goals
    go_simp
    go_wp2
    go_ret
    exact ⟨rfl, HX.out.below⟩
end Go.Proofs.Ytkdggnfjefgonaa.Walk
