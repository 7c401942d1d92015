/- EncodeOne, walked. -/
import Derived.Test.YtigmgkcojifbcaaEncAt
import Derived.Test.YtigmgkcojifbcaaHistDec
import Derived.Test.YtigmgkcojifbcaaFrame
import Derived.Deep.DeepMust
namespace Go.Proofs.Ytigmgkcojifbcaa.Walk
open Go.RowKit Go.Proofs.Ytigmgkcojifbcaa.Dig Go.Proofs.Ytigmgkcojifbcaa.Mem Go.Proofs.Ytigmgkcojifbcaa.Hist
set_option linter.unusedVariables false
set_option linter.unusedSimpArgs false

theorem mem_sum_le {α : Type} (f : α → List UInt8) : ∀ (l : List α) (x : α), x ∈ l → (f x).length ≤ (l.map f).flatten.length
  | [], x, h => by cases h
  | y :: l, x, h => by
    rw [List.map_cons, List.flatten_cons, List.length_append]
    rcases List.mem_cons.1 h with rfl | q
    · omega
    · have := mem_sum_le f l x q; omega
theorem few_valid {ts : List TxnM} {n : Nat} (hv : Valid ts) (ho : opsN ts ≤ 4096) (hl : (textH8 ts).length ≤ n) (hn : n ≤ 1000000) : Few4 ts := by
  have hM := valid_may hv
  have h1 := valid_len hv
  refine ⟨by omega, by omega, fun t ht => ⟨by obtain ⟨i, hi, rfl⟩ := List.mem_iff_getElem.1 ht; have := ops_le hi; omega, fun o hoo => ?_⟩⟩
  have q1 := mem_sum_le textT8 ts t ht
  have q2 := mem_sum_le lineO8 t.ops o hoo
  have q3 : (textT8 t).length = (lineT8 t.id t.ab).length + (t.ops.map lineO8).flatten.length := by unfold textT8; rw [List.length_append]
  unfold textH8 at hl
  have hm := (hM t ht).2 o hoo
  by_cases hr : o.read = true
  · have := list_len_le o hr; omega
  · rw [(mayOp_app hm (by simpa using hr)).2.2]; simp
theorem conv_arg {w : World} {a : Option Addr} {n c : Nat} {z : Nat → Int} {l : List UInt8} (h : Rd .u8 w a n z) (hl : l.length = n) (hz : ∀ j (hj : j < l.length), z j = (l[j].toNat : Int)) (hnil : a = none → c = 0) : (convert 27 9 (.slice a n c)).run Try.prog w = .ok (.string ⟨l.toArray⟩) w := by
  subst hl
  cases a with
  | none =>
    have hc := hnil rfl
    subst hc
    have : l = [] := by
      cases l with
      | nil => rfl
      | cons x l =>
        obtain ⟨b, off, e, _⟩ := h.2 0 (by simp)
        cases e
    subst this
    exact conv_nil w
  | some ad =>
    refine run_convert_bytes_back (P := Try.prog) w 27 9 5 ad c l Try.underlying27 Try.underlying5 Try.underlying9 fun j hj => ?_
    obtain ⟨b, off, e, hc, _⟩ := h.2 j hj
    obtain rfl := Option.some.inj e
    rw [addr_add, hc, hz j hj]
theorem mat_toI {z : Nat → Int} {ts : List TxnM} (h : Mat z 0 (textH ts)) : ∀ j (hj : j < (textH8 ts).length), z j = ((textH8 ts)[j].toNat : Int) := by
  intro j hj
  have := h.get j (by rw [← textH8_len]; exact hj)
  rw [Nat.zero_add] at this
  rw [this, ← textH_toI]
  simp [toI, List.getD_eq_getElem?_getD, List.getElem?_eq_getElem hj]
theorem _root_.Go.Proofs.Ytigmgkcojifbcaa.Mem.TxnsAt.lt' {F : Nat → Prop} {w : World} {v : Value} {ts : List TxnM} (h : TxnsAt F w v ts) : TxnsAt (fun b => b < w.heap.size) w v ts := h.lt.mono fun _ q => q.2
set_option maxHeartbeats 1000000 in
theorem one_long (w : World) (a0 : Option Addr) (n0 c0 : Nat) (h : 600 < n0) : Calls Try.prog 5 #[.slice a0 n0 c0] w fun e w' => e = .returned (.bool true) ∧ Below w.heap.size w w' := by
  have h0' : (600 : Int) < (n0 : Int) := by omega
  go_enter Try.func5, Try.ntmps5
  go_wp2_with (go_at_call 8; go_must ((with_reducible refine (works4_any _).mono ?_); rintro e w1 ⟨rfl, hb1⟩))
  go_ret
  exact ⟨rfl, hb1⟩
set_option maxRecDepth 20000 in
set_option maxHeartbeats 4000000 in
theorem walk_encodeOne (w : World) (a0 : Option Addr) (n0 c0 : Nat) (z0 : List Int) (h0 : Frame.IsRow .u8 w a0 n0 c0 z0) :
    Calls Try.prog 5 #[.slice a0 n0 c0] w fun e w' => e = .returned (.bool true) ∧ Below w.heap.size w w' := by
  by_cases hl : 600 < n0
  · exact one_long w a0 n0 c0 hl
  have hcap := h0.cap.1
  obtain ⟨l0, rfl, r0, w0, m0⟩ := h0.list (by omega)
  have h0' : ¬ (600 : Int) < (l0.length : Int) := by omega
  obtain ⟨⟨us, e0, x0⟩, hd⟩ : ∃ r, decS (fun i => l0.getD i 0) l0.length 4096 = r := ⟨_, rfl⟩
  have HD := hide hd
  have HR0 := hide r0
  have HN := hide m0
  by_cases he : e0 = 0
  rotate_left
  · have he' : (e0 != 0) = true := by simpa using he
    clear hd r0 w0 m0 h0 he
    go_enter Try.func5, Try.ntmps5
    go_wp2_with (first | (go_at_call 14; go_must ((with_reducible refine (dec_at _ _ c0 _ 4096 _ HR0.out hcap HD).mono ?_); rintro e' w1 ⟨ta, tcap, rfl, ht1, hb1, hf1⟩; have H1 := hide (OneT.start 24 ht1.out.lt'); have c1 := H1.out.c1)) | (go_at_call 8; go_must ((with_reducible refine (worksT4 H1).mono ?_); rintro e' wx ⟨rfl, HX⟩)))
    go_ret
    exact ⟨rfl, hb1.out.trans (HX.out.below.mono hb1.out.size)⟩
  · have hx : x0 = 0 := by
      have q := hd
      unfold decS at q
      rw [if_neg (by omega), if_neg (by omega)] at q
      rcases decL_two (z := fun i => l0.getD i 0) (len := l0.length) (most := 4096) l0.length [] 0 with ⟨g1, _, _⟩ | ⟨_, g2, _⟩
      · rw [q] at g1; simp at g1; exact g1.2
      · rw [q] at g2; exact absurd he g2
    subst he hx
    obtain ⟨v1, v2, v3, v4, v5⟩ := decS_inv hd
    have hL8 : (textH8 us).length = l0.length := by rw [textH8_len, v3]
    have hF := few_valid (n := 600) v1 (by omega) (by rw [hL8]; omega) (by omega)
    have hC := ok_checkS v1 (by omega) (by rw [v3]; omega)
    have HF := hide hF
    have EC := hide hC
    obtain ⟨L, hL⟩ : ∃ L, textH8 us = L := ⟨_, rfl⟩
    have EL : Hid (textA us = L) := hide (by unfold textA; rw [hC, if_pos rfl, hL])
    have HCV : Hid (∀ wy, Below w.heap.size w wy → (convert 27 9 (.slice a0 l0.length c0)).run Try.prog wy = .ok (.string ⟨L.toArray⟩) wy) := hide (fun wy hb => conv_arg (HR0.out.only (Only.of_below (S := fun _ => False) hb) (fun _ _ q => q)) (by rw [← hL]; exact hL8) (by rw [← hL]; exact mat_toI v2) (fun q => (HN.out q).2))
    clear hd r0 w0 m0 h0 v1 v2 v3 v4 v5 hL8 hF hC hL
    go_enter Try.func5, Try.ntmps5
    go_wp2_with (first
      | (go_at_call 14; go_must ((with_reducible refine (dec_at _ _ c0 _ 4096 _ HR0.out hcap HD).mono ?_); rintro e' w1 ⟨ta, tcap, rfl, ht1, hb1, hf1⟩; have H1 := hide (OneT.start 24 ht1.out.lt'); have c1 := H1.out.c1))
      | (go_at_call 9; go_must ((with_reducible refine (encT H1 HF EC EL).mono ?_); rintro e' w2 ⟨bv, rfl, HB2, H2⟩; have c2 := H2.out.c1; have cv1 := HB2.out w2 (Below.refl _ _); have cv2 := HCV.out w2 (hb1.out.trans (H2.out.below.mono hb1.out.size))))
      | (go_at_call 11; go_must ((with_reducible refine (chkT4 H2 HF EC).mono ?_); rintro e' w3 ⟨rfl, H3⟩; have c3 := H3.out.c1))
      | (go_at_call 8; go_must ((with_reducible refine (worksT4 H3).mono ?_); rintro e' wx ⟨rfl, HX⟩)))
    go_ret
    exact ⟨rfl, hb1.out.trans (HX.out.below.mono hb1.out.size)⟩
end Go.Proofs.Ytigmgkcojifbcaa.Walk
