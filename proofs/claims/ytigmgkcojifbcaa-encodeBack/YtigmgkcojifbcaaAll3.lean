/- Joined out of the texts DigPrint, ReadsPlain, Local, in that order. -/
import Derived.Test.YtigmgkcojifbcaaAll1
import Derived.Laws.IdiomStrings
import Derived.Test.YtigmgkcojifbcaaAll2
/- Contracts of the program's and the document's ways to print a number: each answers the number's text, or the error, and writes nothing that was there. -/
namespace Go.Proofs.Ytigmgkcojifbcaa.Dig
open Go.RowKit
set_option linter.unusedVariables false
set_option linter.unusedSimpArgs false

/-- How wide a number's text is; 0, if it has none. -/
def widthS (n : Int) : Int := if 0 ≤ n ∧ n ≤ 2147483647 then ((txt n.toNat).length : Int) else 0
theorem widthS_out {n : Int} (h : n < 0 ∨ 2147483647 < n) : widthS n = 0 := by unfold widthS; rw [if_neg (by omega)]
theorem widthS_in {n : Nat} (h : n ≤ 2147483647) : widthS (n : Int) = ((txt n).length : Int) := by unfold widthS; rw [if_pos (by omega)]; simp

theorem width_any (n : Int) (w : World) (hn : n < 9223372036854775808) : Calls Try.prog 53 #[.int .i64 n] w fun e w' => e = .returned (.int .i64 (widthS n)) ∧ w' = w := by
  by_cases h0 : n < 0
  · go_enter Try.func53, Try.ntmps53
    go_wp2
    go_ret
    exact ⟨ret1 (widthS_out (.inl h0)).symm, rfl⟩
  by_cases h1 : 2147483647 < n
  · go_enter Try.func53, Try.ntmps53
    go_wp2
    go_ret
    exact ⟨ret1 (widthS_out (.inr h1)).symm, rfl⟩
  obtain ⟨N, hNn⟩ : ∃ N : Nat, n.toNat = N := ⟨_, rfl⟩
  have HW : Hid (widthS n = ((txt N).length : Int)) := by show _ = _; unfold widthS; rw [if_pos (by omega), hNn]
  have HN : Hid (n.toNat = N) := hNn
  clear hNn
  go_enter Try.func53, Try.ntmps53
  go_wp2
  go_loop [0, 3] (fun n k => ∃ (q : Int) (c : Nat), n = .int .i64 q ∧ k = .int .i64 c ∧ 0 ≤ q ∧ q ≤ 2147483647 ∧ c ≤ 10 ∧ Hid (c + (txt q.toNat).length = (txt N).length + 1)) (fun n _ => (intOf n).toNat)
  case atStart => exact ⟨n, 1, rfl, rfl, by omega, by omega, by omega, by rw [HN.out]; exact Nat.add_comm _ _⟩
  case round =>
    obtain ⟨q, c, rfl, rfl, hq0, hq, hc, hl⟩ := hrel
    by_cases h9 : 9 < q
    · have hb : Hid ((txt q.toNat).length = (txt (q / 10).toNat).length + 1) := by
        have := txt_big (n := q.toNat) (by omega) (by omega)
        unfold Hid
        rw [this, show (q / 10).toNat = q.toNat / 10 by omega]; simp
      have hbd : c ≤ 9 := by
        have h1 := hl.out; have h2 := hb.out; have h3 := (txt_len N).2; have h4 := (txt_len (q / 10).toNat).1; omega
      go_wp2
      go_round
      case rel => exact ⟨q / 10, c + 1, by go_num, by go_num, by omega, by omega, by omega, by have h1 := hl.out; have h2 := hb.out; show _ = _; omega⟩
      case measure => simp [intOf]; omega
    · have hb : Hid ((txt q.toNat).length = 1) := by have := txt_small (n := q.toNat) (by omega); unfold Hid; rw [this]; rfl
      go_wp2
      go_ret
      exact ⟨ret1 (by rw [HW.out]; have h1 := hl.out; have h2 := hb.out; omega), rfl⟩

def PrRel (N B : Nat) (w : World) (n i : Value) (wr : World) : Prop :=
  ∃ (j : Nat) (q : Int), j ≤ (txt N).length ∧ ((j = 0 ∧ i = .int .i64 (-1)) ∨ ∃ t : Nat, j = t + 1 ∧ i = .int .i64 (t : Int)) ∧ n = .int .i64 q ∧ 0 ≤ q ∧ q ≤ 2147483647 ∧ (0 < j → (txt q.toNat).length = j ∧ txt N = txt q.toNat ++ (txt N).drop j) ∧
    (∃ g : Nat → Int, (∀ t, t < 10 → wr.cell? ⟨B, t, none⟩ = some (.int .u8 (g t))) ∧ (∀ t, t < 10 → wr.frozen? ⟨B, t, none⟩ = false) ∧ (∀ t, j ≤ t → t < (txt N).length → g t = (((txt N).getD t 0).toNat : Int)) ∧ Below B w wr)

theorem toNat_dig (n : Nat) (h : n ≤ 9) : (UInt8.ofNat (48 + n)).toNat = 48 + n := by
  simp only [UInt8.toNat_ofNat']; omega
theorem txt_last {N q t : Nat} (hq : q ≤ 2147483647) (hl : (txt q).length = t + 1) (hN : txt N = txt q ++ (txt N).drop (t + 1)) :
    (((txt N).getD t 0).toNat = 48 + q % 10) ∧ (0 < t → (txt (q / 10)).length = t ∧ txt N = txt (q / 10) ++ (txt N).drop t) := by
  generalize hX : (txt N).drop (t + 1) = X at hN
  by_cases h9 : q ≤ 9
  · rw [txt_small h9] at hl hN
    simp at hl
    subst hl
    rw [hN]
    refine ⟨?_, by omega⟩
    simp
    rw [show 48 + q % 10 = 48 + q by omega, ← toNat_dig q h9]
    simp
  · rw [txt_big (by omega) hq] at hl hN
    simp at hl
    rw [hN]
    refine ⟨?_, fun _ => ⟨hl, ?_⟩⟩
    · rw [← toNat_dig (q % 10) (by omega)]
      simp [List.getD_eq_getElem?_getD, ← hl]
    · simp [← hl]
theorem PrRel.step {N B t : Nat} {q : Int} {w wr : World} {g : Nat → Int} (hj : t + 1 ≤ (txt N).length) (hL : (txt N).length ≤ 10) (hq0 : 0 ≤ q) (hq1 : q ≤ 2147483647)
    (hjq : 0 < t + 1 → (txt q.toNat).length = t + 1 ∧ txt N = txt q.toNat ++ (txt N).drop (t + 1)) (hc : ∀ t, t < 10 → wr.cell? ⟨B, t, none⟩ = some (.int .u8 (g t))) (hf : ∀ t, t < 10 → wr.frozen? ⟨B, t, none⟩ = false)
    (hg : ∀ s, t + 1 ≤ s → s < (txt N).length → g s = (((txt N).getD s 0).toNat : Int)) (hb : Below B w wr) :
    PrRel N B w (.int .i64 (q / 10)) (.int .i64 ((t : Int) - 1)) (wr.setCell ⟨B, t, none⟩ (.int .u8 (48 + q % 10))) := by
  obtain ⟨h1, h2⟩ := hjq (by omega)
  obtain ⟨e1, e2⟩ := txt_last (by omega) h1 h2
  refine ⟨t, q / 10, by omega, ?_, rfl, by omega, by omega, ?_, fun s => if s = t then 48 + q % 10 else g s, ?_, ?_, ?_, hb.setCell (Nat.le_refl _) _⟩
  · by_cases ht : t = 0
    · left; subst ht; exact ⟨rfl, rfl⟩
    · right; exact ⟨t - 1, by omega, by congr 1; omega⟩
  · intro ht
    have := e2 ht
    rw [show (q / 10).toNat = q.toNat / 10 by omega]
    exact this
  · intro s hs
    show _ = some (Value.int .u8 (if s = t then 48 + q % 10 else g s))
    by_cases e : s = t
    · subst e
      rw [World.cell?_setCell_same _ _ _ (hc s hs), if_pos rfl]
    · rw [World.cell?_setCell_other _ _ _ _ (fun q => e ((Addr.mk.inj q).2.1).symm), if_neg e]
      exact hc s hs
  · intro s hs
    rw [World.frozen?_setCell _ _ _ _]
    exact hf s hs
  · intro s hs1 hs2
    show (if s = t then 48 + q % 10 else g s) = _
    by_cases e : s = t
    · subst e
      rw [if_pos rfl, e1]
      omega
    · rw [if_neg e]
      exact hg s (by omega) hs2
theorem zero_cells (k : IntKind) : ∀ t, t < 10 → (#[Value.int k 0, Value.int k 0, Value.int k 0, Value.int k 0, Value.int k 0, Value.int k 0, Value.int k 0, Value.int k 0, Value.int k 0, Value.int k 0] : Array Value)[t]? = some (.int k 0)
  | 0, _ | 1, _ | 2, _ | 3, _ | 4, _ | 5, _ | 6, _ | 7, _ | 8, _ | 9, _ => rfl
  | _ + 10, h => by omega
theorem PrRel.start {N L : Nat} {w : World} (hN : N ≤ 2147483647) (hL : (txt N).length = L) (h1 : 1 ≤ L) :
    PrRel N w.heap.size w (.int .i64 (N : Int)) (.int .i64 ((L : Int) - 1)) (w.alloc (.cells #[.int .u8 0, .int .u8 0, .int .u8 0, .int .u8 0, .int .u8 0, .int .u8 0, .int .u8 0, .int .u8 0, .int .u8 0, .int .u8 0] 112)) := by
  refine ⟨L, N, by omega, .inr ⟨L - 1, by omega, by congr 1; omega⟩, rfl, by omega, by omega, fun _ => ?_, fun _ => 0, ?_, ?_, fun t h2 h3 => by omega, (Below.refl _ _).alloc (Nat.le_refl _) _⟩
  · rw [show ((N : Int)).toNat = N by omega]
    exact ⟨hL, by rw [List.drop_eq_nil_of_le (by omega)]; simp⟩
  · intro t ht
    rw [World.cell?_alloc_new _ _ _ _]
    exact zero_cells .u8 t ht
  · intro t ht
    rw [World.frozen?_alloc_new _ _ _ _]

theorem slice_arr (b L : Nat) (hL : L ≤ 10) (wx : World) :
    (Instr.sliceAt 112 (.pointer (some ⟨b, 0, none⟩)) none (some (.int .i64 (L : Int))) none).run Try.prog wx = .ok (.slice (some ⟨b, 0, none⟩) L 10) wx := by
  have hu : Try.prog.underlying 112 = some (.array (Try.prog.arrayLen 112) (Try.prog.elem 112)) := by kernel_rfl
  have hn : Try.prog.arrayLen 112 = 10 := by kernel_rfl
  have hs : (sizeOf (Try.prog.elem 112)).run Try.prog wx = .ok 1 wx := by kernel_rfl
  rw [run_sliceAt_array_h _ _ _ hu _ _ (by omega) (by rw [hn]; omega), hs, hn]
  simp [slicedAt, Result.andThen, Addr.add]
set_option maxHeartbeats 800000 in
theorem print_in (N : Nat) (w : World) (hN : N ≤ 2147483647) :
    Calls Try.prog 40 #[.int .i64 (N : Int)] w fun e w' => e = .returned (.tuple #[.string ⟨(txt N).toArray⟩, .int .i64 0]) ∧ Below w.heap.size w w' := by
  have HN : Hid (N ≤ 2147483647) := hN
  clear hN
  have HW : Hid (widthS (N : Int) = ((txt N).length : Int)) := widthS_in HN.out
  have hl1 := (txt_len N).1
  have hl2 := (txt_len N).2
  obtain ⟨L, hL⟩ : ∃ L, (txt N).length = L := ⟨_, rfl⟩
  have HL : Hid ((txt N).length = L) := hL
  rw [hL] at hl1 hl2
  have hw : widthS (N : Int) = (L : Int) := by rw [HW.out, hL]
  clear hL
  have hL0 : ((L : Int) == 0) = false := by simp; omega
  have hN64 : (N : Int) < 9223372036854775808 := by have := HN.out; omega
  have HN64 : Hid ((N : Int) < 9223372036854775808) := hN64
  clear hN64
  go_enter Try.func40, Try.ntmps40
  go_wp2_with (go_at_call 53; refine (width_any _ _ HN64.out).mono ?_; rintro e w' ⟨rfl, rfl⟩; rw [hw])
  go_loopw [0, 6] (fun n i wr => PrRel N w'.heap.size w' n i wr) (fun _ i _ => (intOf i + 1).toNat)
  case atStart => exact PrRel.start HN.out HL.out hl1
  case round =>
    obtain ⟨j, q, hj, hi, rfl, hq0, hq1, hjq, g, hc, hf, hg, hbel⟩ := hrel
    rcases hi with ⟨rfl, rfl⟩ | ⟨t, rfl, rfl⟩
    · have hcv : (convert 27 9 (.slice (some ⟨w'.heap.size, 0, none⟩) L 10)).run Try.prog wr = .ok (.string ⟨(txt N).toArray⟩) wr := by
        have := run_convert_bytes_back (P := Try.prog) wr 27 9 5 ⟨w'.heap.size, 0, none⟩ 10 (txt N) Try.underlying27 Try.underlying5 Try.underlying9 (by
          intro j hj
          have h10 := (txt_len N).2
          have := hc j (by omega)
          rw [hg j (by omega) hj] at this
          rw [show (⟨w'.heap.size, 0, none⟩ : Addr).add j = ⟨w'.heap.size, j, none⟩ by simp [Addr.add]; intro h; exact h.symm]
          simpa [List.getD_eq_getElem?_getD, List.getElem?_eq_getElem hj] using this)
        rw [HL.out] at this
        exact this
      have HB := hbel
      have hsl := slice_arr w'.heap.size L hl2
      clear hjq hc hf hg hbel
      go_wp2
      go_ret2
      exact ⟨rfl, HB⟩
    · have R := PrRel.step hj (by rw [HL.out]; exact hl2) hq0 hq1 hjq hc hf hg hbel
      have ht10 : t < 10 := by have := HL.out; omega
      have hct := hc t ht10
      have hft := hf t ht10
      have hm0 : 0 ≤ q % 10 := by omega
      have hm1 : q % 10 ≤ 9 := by omega
      clear hjq hc hf hg hbel
      have RR := R
      clear R
      go_wp2
      go_roundw
      case rel => exact RR
      case measure => simp [intOf]

/-- What Print tells: a text, and an error's number. -/
def printS (n : Int) : List UInt8 := if 0 ≤ n ∧ n ≤ 2147483647 then txt n.toNat else []
def errS (n : Int) : Int := if 0 ≤ n ∧ n ≤ 2147483647 then 0 else 2
theorem printS_in {N : Nat} (h : N ≤ 2147483647) : printS (N : Int) = txt N ∧ errS (N : Int) = 0 := by
  unfold printS errS; rw [if_pos (by omega), if_pos (by omega)]; simp
theorem printS_out {n : Int} (h : ¬ (0 ≤ n ∧ n ≤ 2147483647)) : printS n = [] ∧ errS n = 2 := by
  unfold printS errS; rw [if_neg h, if_neg h]; simp
theorem print_any (n : Int) (w : World) (hn : n < 9223372036854775808) :
    Calls Try.prog 40 #[.int .i64 n] w fun e w' => e = .returned (.tuple #[.string ⟨(printS n).toArray⟩, .int .i64 (errS n)]) ∧ Below w.heap.size w w' := by
  by_cases h : 0 ≤ n ∧ n ≤ 2147483647
  · obtain ⟨N, rfl⟩ : ∃ N : Nat, n = N := ⟨n.toNat, by omega⟩
    rw [(printS_in (by omega)).1, (printS_in (by omega)).2]
    exact print_in N w (by omega)
  · rw [(printS_out h).1, (printS_out h).2]
    have hw : widthS n = 0 := widthS_out (by omega)
    have HN64 : Hid (n < 9223372036854775808) := hn
    clear h hn
    go_enter Try.func40, Try.ntmps40
    go_wp2_with (go_at_call 53; refine (width_any _ _ HN64.out).mono ?_; rintro e w' ⟨rfl, rfl⟩; rw [hw])
    go_ret2
    exact ⟨rfl, Below.refl _ _⟩

theorem slice_digits (d : Int) (h0 : 0 ≤ d) (h1 : d ≤ 9) (wx : World) :
    (Instr.slice 9 (.string { data := #[48, 49, 50, 51, 52, 53, 54, 55, 56, 57] }) (some (.int .i64 d)) (some (.int .i64 (d + 1))) none).run Try.prog wx = .ok (.string ⟨[UInt8.ofNat (48 + d.toNat)].toArray⟩) wx := by
  obtain rfl | rfl | rfl | rfl | rfl | rfl | rfl | rfl | rfl | rfl : d = 0 ∨ d = 1 ∨ d = 2 ∨ d = 3 ∨ d = 4 ∨ d = 5 ∨ d = 6 ∨ d = 7 ∨ d = 8 ∨ d = 9 := by omega
  all_goals kernel_rfl
theorem add_text (c : UInt8) (l : List UInt8) (hl : l.length ≤ 100) (wx : World) : (Op.stringOp .add ⟨[c].toArray⟩ ⟨l.toArray⟩).run Try.prog wx = .ok (.string ⟨(c :: l).toArray⟩) wx :=
  run_string_add_lists wx [c] l (by simp) (by omega)
theorem ret_text {l l' : List UInt8} {k : IntKind} {n n' : Int} (h : l = l') (h' : n = n') : Ending.returned (.tuple #[.string ⟨l.toArray⟩, .int k n]) = .returned (.tuple #[.string ⟨l'.toArray⟩, .int k n']) := by rw [h, h']
set_option maxHeartbeats 800000 in
theorem rprint_in (N : Nat) (w : World) (hN : N ≤ 2147483647) :
    Calls Try.prog 52 #[.int .i64 (N : Int)] w fun e w' => e = .returned (.tuple #[.string ⟨(txt N).toArray⟩, .int .i64 0]) ∧ w' = w := by
  obtain ⟨n, hn⟩ : ∃ n : Int, (N : Int) = n := ⟨_, rfl⟩
  rw [hn]
  have h0 : ¬ n < 0 := by omega
  have h1 : ¬ 2147483647 < n := by omega
  have HNn : Hid (n.toNat = N) := by show _ = _; omega
  clear hN hn
  go_enter Try.func52, Try.ntmps52
  go_wp2
  go_loop [0, 4] (fun n s => ∃ (q : Int) (l : List UInt8), n = .int .i64 q ∧ s = .string ⟨l.toArray⟩ ∧ 0 ≤ q ∧ q ≤ 2147483647 ∧ Hid (txt N = txt q.toNat ++ l)) (fun n _ => (intOf n).toNat)
  case atStart => exact ⟨n, [], rfl, rfl, by omega, by omega, by rw [HNn.out]; show _ = _; simp⟩
  case round =>
    obtain ⟨q, l, rfl, rfl, hq0, hq, hl⟩ := hrel
    have hll : l.length ≤ 100 := by have h1 := (txt_len N).2; rw [hl.out] at h1; simp at h1; omega
    by_cases h9 : 9 < q
    · have hm0 : 0 ≤ q % 10 := by omega
      have hm1 : q % 10 ≤ 9 := by omega
      have hsl := slice_digits (q % 10) hm0 hm1
      obtain ⟨c, hc⟩ : ∃ c, UInt8.ofNat (48 + (q % 10).toNat) = c := ⟨_, rfl⟩
      rw [hc] at hsl
      have HC : Hid (UInt8.ofNat (48 + (q % 10).toNat) = c) := hc
      clear hc
      have had := add_text c l hll
      go_wp2
      go_round
      case rel =>
        refine ⟨q / 10, c :: l, rfl, rfl, by omega, by omega, ?_⟩
        show _ = _
        rw [hl.out, txt_big (n := q.toNat) (by omega) (by omega), show (q / 10).toNat = q.toNat / 10 by omega, ← HC.out, show (q % 10).toNat = q.toNat % 10 by omega]
        simp
      case measure => simp [intOf]; omega
    · have hsl := slice_digits q hq0 (by omega)
      obtain ⟨c, hc⟩ : ∃ c, UInt8.ofNat (48 + q.toNat) = c := ⟨_, rfl⟩
      rw [hc] at hsl
      have HC : Hid (UInt8.ofNat (48 + q.toNat) = c) := hc
      clear hc
      have had := add_text c l hll
      go_wp2
      go_ret2
      exact ⟨ret_text (by rw [hl.out, txt_small (n := q.toNat) (by omega), HC.out]; rfl) rfl, rfl⟩
theorem rprint_any (n : Int) (w : World) :
    Calls Try.prog 52 #[.int .i64 n] w fun e w' => e = .returned (.tuple #[.string ⟨(printS n).toArray⟩, .int .i64 (errS n)]) ∧ w' = w := by
  by_cases h : 0 ≤ n ∧ n ≤ 2147483647
  · obtain ⟨N, rfl⟩ : ∃ N : Nat, n = N := ⟨n.toNat, by omega⟩
    rw [(printS_in (by omega)).1, (printS_in (by omega)).2]
    exact rprint_in N w (by omega)
  · rw [(printS_out h).1, (printS_out h).2]
    have h' : n < 0 ∨ 2147483647 < n := by omega
    clear h
    rcases h' with h' | h'
    · go_enter Try.func52, Try.ntmps52
      go_wp2
      go_ret2
      exact ⟨rfl, rfl⟩
    · have h0 : ¬ n < 0 := by omega
      go_enter Try.func52, Try.ntmps52
      go_wp2
      go_ret2
      exact ⟨rfl, rfl⟩
/-- The program's Print, its answer named. -/
theorem print_eq (n : Int) (w : World) (hn : Hid (n < 9223372036854775808)) {T : List UInt8} {e0 : Int} (hT : Hid (printS n = T)) (he : Hid (errS n = e0)) :
    Calls Try.prog 40 #[.int .i64 n] w fun e w' => e = .returned (.tuple #[.string ⟨T.toArray⟩, .int .i64 e0]) ∧ Below w.heap.size w w' := by
  have := print_any n w hn.out
  rw [hT.out, he.out] at this
  exact this
end Go.Proofs.Ytigmgkcojifbcaa.Dig

/- What stands where a number was read is the number's own text; and lists likewise. -/
namespace Go.Proofs.Ytigmgkcojifbcaa.Dig
open Go.RowKit
set_option linter.unusedVariables false
set_option linter.unusedSimpArgs false

/-- What stands from a on, so many. -/
def sub (z : Nat → Int) (a k : Nat) : List Int := (List.range k).map fun j => z (a + j)
theorem sub_len (z : Nat → Int) (a k : Nat) : (sub z a k).length = k := by simp [sub]
theorem sub_succ (z : Nat → Int) (a k : Nat) : sub z a (k + 1) = sub z a k ++ [z (a + k)] := by simp [sub, List.range_succ]
theorem sub_add (z : Nat → Int) (a k : Nat) : ∀ l, sub z a (k + l) = sub z a k ++ sub z (a + k) l
  | 0 => by simp [sub]
  | l + 1 => by rw [← Nat.add_assoc, sub_succ, sub_add z a k l, sub_succ, List.append_assoc, Nat.add_assoc]
theorem sub_get (z : Nat → Int) (a k j : Nat) (h : j < k) : (sub z a k).getD j 0 = z (a + j) := by
  simp [sub, List.getD_eq_getElem?_getD, List.getElem?_map, h]
theorem text_back (z : Nat → Int) (a : Nat) : ∀ k, okm z a k = true → (∀ j, j < k → dgt (z (a + j)) = true) → txtI (val z a k).toNat = sub z a k
  | 0, h, _ => by rw [okm_iff] at h; omega
  | k + 1, h, hd => by
    have hl := dgt_iff.1 (hd k (by omega))
    have h' := okm_iff.1 h
    have hv : val z a (k + 1) = 10 * val z a k + (z (a + k) - 48) := rfl
    rcases Nat.eq_zero_or_pos k with rfl | hk
    · have h0 : val z a 0 = 0 := rfl
      rw [hv, h0]
      obtain ⟨d, hd0⟩ : ∃ d : Nat, z (a + 0) - 48 = d := ⟨(z (a + 0) - 48).toNat, by omega⟩
      rw [show (10 * (0 : Int) + (z (a + 0) - 48)).toNat = d by omega, txtI_small (by omega), sub_succ]
      simp [sub]
      rw [Nat.add_zero] at hd0
      omega
    · have hok : okm z a k = true := okm_mono h (by omega) (by omega) hd
      have ih := text_back z a k hok (fun j hj => hd j (by omega))
      have hz : 49 ≤ z a := by
        have := dgt_iff.1 (hd 0 (by omega))
        simp at this
        have := h'.2.2.1
        omega
      obtain ⟨m, rfl⟩ : ∃ m, k = m + 1 := ⟨k - 1, by omega⟩
      have hge := val_ge z a m hz (fun j hj => hd j (by omega))
      have h1 : (1 : Int) ≤ 10 ^ m := by have := pow_le_of (Nat.zero_le m); simpa using this
      obtain ⟨v, hv0⟩ : ∃ v : Nat, val z a (m + 1) = v := ⟨(val z a (m + 1)).toNat, by omega⟩
      obtain ⟨d, hd0⟩ : ∃ d : Nat, z (a + (m + 1)) - 48 = d := ⟨(z (a + (m + 1)) - 48).toNat, by omega⟩
      rw [hv0] at ih hge
      have hb := h'.2.2.2
      rw [hv, hv0, hd0] at hb ⊢
      rw [show (10 * (v : Int) + (d : Int)).toNat = 10 * v + d by omega, txtI_big (by omega) (by omega), show (10 * v + d) / 10 = v by omega, show (10 * v + d) % 10 = d by omega, sub_succ, ← ih]
      simp
      omega
theorem parse_text {z : Nat → Int} {len a : Nat} (h : a ≤ len) {n : Int} {t : Nat} (hp : parse z len (a : Int) = (n, (t : Int), true)) :
    a < t ∧ t ≤ len ∧ 0 ≤ n ∧ n ≤ 2147483647 ∧ txtI n.toNat = sub z a (t - a) := by
  rcases parse_spec z len a h with ⟨k, h1, h2, h3, h4, h5, h6⟩ | ⟨k, _, _, _, _, h6⟩
  · rw [hp] at h6
    simp at h6
    obtain ⟨rfl, ht⟩ := h6
    have hb := ok_bd h4 (.inr h3)
    obtain rfl : t = a + k := by omega
    rw [show a + k - a = k by omega]
    exact ⟨by omega, h2, hb.1, hb.2, text_back z a k h3 h4⟩
  · rw [hp] at h6; simp at h6
theorem lscan_text (z : Nat → Int) (len : Nat) : ∀ (f p : Nat) (acc : List Int), p ≤ len → ∀ (m : List Int) (t : Nat), lscan z len f p acc = (m, (t : Int), true) →
    ∃ m', m = acc ++ m' ∧ p ≤ t ∧ t ≤ len ∧ sub z p (t - p) = flat m' ∧ ∀ n ∈ m', 0 ≤ n ∧ n ≤ 2147483647
  | 0, p, acc, h, m, t, he => by
    simp [lscan] at he
    obtain ⟨rfl, ht⟩ := he
    exact ⟨[], by simp, by omega, by omega, by simp [show t - p = 0 by omega, sub, flat], by simp⟩
  | f + 1, p, acc, h, m, t, he => by
    rw [lscan] at he
    split at he
    · rename_i g
      split at he
      · rename_i hb
        rcases parse_two z len (p + 1) (by omega) with ⟨n, u, h1, h2, hn0, hn1, hp⟩ | ⟨u, h1, h2, hp⟩
        · have hp' : parse z len ((p : Int) + 1) = (n, (u : Int), true) := hp
          rw [hp'] at he
          simp at he
          obtain ⟨m', rfl, g1, g2, g3, g4⟩ := lscan_text z len f u (acc ++ [n]) h2 m t he
          have ht := (parse_text (by omega) hp).2.2.2.2
          refine ⟨n :: m', by simp, by omega, g2, ?_, ?_⟩
          · rw [show t - p = 1 + ((u - (p + 1)) + (t - u)) by omega, sub_add, sub_add, show p + 1 + (u - (p + 1)) = u by omega, g3, ← ht]
            simp [sub, flat, g.2]
          · intro x hx
            rcases List.mem_cons.1 hx with rfl | q
            · exact ⟨hn0, hn1⟩
            · exact g4 x q
        · have hp' : parse z len ((p : Int) + 1) = (0, (u : Int), false) := hp
          rw [hp'] at hb
          simp at hb
      · simp at he
    · simp at he
      obtain ⟨rfl, ht⟩ := he
      exact ⟨[], by simp, by omega, by omega, by simp [show t - p = 0 by omega, sub, flat], by simp⟩
theorem lst_text {z : Nat → Int} {len a : Nat} (h : a ≤ len) {m : List Int} {t : Nat} (hp : lst z len (a : Int) = (m, (t : Int), true)) :
    a ≤ t ∧ t ≤ len ∧ sub z a (t - a) = flat m ∧ ∀ n ∈ m, 0 ≤ n ∧ n ≤ 2147483647 := by
  rw [lst_in h] at hp
  obtain ⟨m', rfl, h1, h2, h3, h4⟩ := lscan_text z len _ _ _ h m t hp
  exact ⟨h1, h2, by simpa using h3, by simpa using h4⟩
/-- Bytes as numbers. -/
def bytesI (l : List UInt8) : List Int := l.map fun b => (b.toNat : Int)
theorem bytesI_app (l m : List UInt8) : bytesI (l ++ m) = bytesI l ++ bytesI m := by simp [bytesI]
theorem bytesI_len (l : List UInt8) : (bytesI l).length = l.length := by simp [bytesI]
theorem bytesI_txt (n : Nat) : bytesI (txt n) = txtI n := rfl
/-- Numbers' texts, a blank ahead of each, as bytes. -/
def flatB (l : List Int) : List UInt8 := l.flatMap fun n => 32 :: printS n
theorem flatB_snoc (l : List Int) (n : Int) : flatB (l ++ [n]) = flatB l ++ (32 :: printS n) := by simp [flatB]
theorem flatB_flat : ∀ l : List Int, (∀ n ∈ l, 0 ≤ n ∧ n ≤ 2147483647) → bytesI (flatB l) = flat l
  | [], _ => rfl
  | n :: l, h => by
    have hn := h n List.mem_cons_self
    have ih := flatB_flat l (fun x hx => h x (List.mem_cons_of_mem _ hx))
    have hp : printS n = txt n.toNat := by unfold printS; rw [if_pos hn]
    have e : flatB (n :: l) = 32 :: (printS n ++ flatB l) := by simp [flatB]
    rw [e, hp]
    show _ = 32 :: (txtI n.toNat ++ flat l)
    rw [← ih]
    simp [bytesI, txtI]
theorem flatB_take (l : List Int) (j : Nat) : (flatB (l.take j)).length ≤ (flatB l).length := by
  have : flatB l = flatB (l.take j) ++ flatB (l.drop j) := by
    unfold flatB
    rw [← List.flatMap_append, List.take_append_drop]
  rw [this]; simp
end Go.Proofs.Ytigmgkcojifbcaa.Dig

/- What is read hangs only on what was looked at. -/
namespace Go.Proofs.Ytigmgkcojifbcaa.Dig
open Go.RowKit
set_option linter.unusedVariables false
set_option linter.unusedSimpArgs false

theorem val_congr {z z' : Nat → Int} {a : Nat} : ∀ k, (∀ i, i < k → z' (a + i) = z (a + i)) → val z' a k = val z a k
  | 0, _ => rfl
  | k + 1, h => by
    show 10 * val z' a k + (z' (a + k) - 48) = 10 * val z a k + (z (a + k) - 48)
    rw [val_congr k (fun i hi => h i (by omega)), h k (by omega)]
theorem okm_congr {z z' : Nat → Int} {a k : Nat} (h : ∀ i, i < k → z' (a + i) = z (a + i)) : okm z' a k = okm z a k := by
  unfold okm
  rw [val_congr k h]
  rcases Nat.eq_zero_or_pos k with rfl | hk
  · simp
  · have := h 0 hk
    rw [Nat.add_zero] at this
    rw [this]
theorem parse_bad {z : Nat → Int} {len a k : Nat} (hk : a + k ≤ len) (hok : k = 0 ∨ okm z a k = true) (hd : ∀ i, i < k → dgt (z (a + i)) = true)
    (he : (k = 0 ∧ ¬ (a < len ∧ dgt (z a) = true)) ∨ (a + k < len ∧ dgt (z (a + k)) = true ∧ ¬ okm z a (k + 1) = true)) : parse z len (a : Int) = (0, ((a + k : Nat) : Int), false) := by
  rcases parse_spec z len a (by omega) with ⟨q, g1, g2, g3, g4, g5, g6⟩ | ⟨q, g2, g3, g4, g5, g6⟩
  · exfalso
    rcases he with ⟨rfl, g⟩ | ⟨q1, q2, q3⟩
    · exact g ⟨by omega, by have := g4 0 (by omega); simpa using this⟩
    · by_cases e : q < k
      · exact g5 ⟨by omega, hd q e⟩
      · by_cases e' : k < q
        · exact q3 (okm_mono g3 (by omega) (by omega) g4)
        · obtain rfl : q = k := by omega
          exact g5 ⟨q1, q2⟩
  · by_cases e : q = k
    · rw [← e]; exact g6
    · exfalso
      rcases Nat.lt_or_gt_of_ne e with h | h
      · rcases g5 with ⟨rfl, g⟩ | ⟨q1, q2, q3⟩
        · exact g ⟨by omega, by have := hd 0 (by omega); simpa using this⟩
        · rcases hok with rfl | hok
          · omega
          · exact q3 (okm_mono hok (by omega) (by omega) hd)
      · rcases he with ⟨rfl, g⟩ | ⟨q1, q2, q3⟩
        · exact g ⟨by omega, by have := g4 0 (by omega); simpa using this⟩
        · rcases g3 with rfl | g3
          · omega
          · exact q3 (okm_mono g3 (by omega) (by omega) g4)
theorem parse_local {z z' : Nat → Int} {len len' a t : Nat} {n : Int} {ok : Bool} (ha : a ≤ len) (h : parse z len (a : Int) = (n, (t : Int), ok)) (hg : ∀ i, i ≤ t → z' i = z i) (ht : t < len) (ht' : t < len') :
    parse z' len' (a : Int) = (n, (t : Int), ok) := by
  rcases parse_spec z len a ha with ⟨k, g1, g2, g3, g4, g5, g6⟩ | ⟨k, g2, g3, g4, g5, g6⟩
  · rw [g6] at h
    simp at h
    obtain ⟨hn, ht2, rfl⟩ := h
    obtain rfl : t = a + k := by omega
    have hc : ∀ i, i < k → z' (a + i) = z (a + i) := fun i hi => hg _ (by omega)
    rw [parse_to (by omega) g1 (by rw [okm_congr hc]; exact g3) (fun i hi => by rw [hc i hi]; exact g4 i hi) (by rw [hg _ (Nat.le_refl _)]; intro q; exact g5 ⟨ht, q.2⟩), val_congr k hc, hn]
  · rw [g6] at h
    simp at h
    obtain ⟨rfl, ht2, rfl⟩ := h
    obtain rfl : t = a + k := by omega
    have hc : ∀ i, i < k → z' (a + i) = z (a + i) := fun i hi => hg _ (by omega)
    refine parse_bad (by omega) (by rw [okm_congr hc]; exact g3) (fun i hi => by rw [hc i hi]; exact g4 i hi) ?_
    rcases g5 with ⟨rfl, g⟩ | ⟨q1, q2, q3⟩
    · left
      have e0 := hg a (by omega)
      exact ⟨rfl, by rw [e0]; intro q; exact g ⟨by omega, q.2⟩⟩
    · right
      have hc1 : ∀ i, i < k + 1 → z' (a + i) = z (a + i) := fun i hi => hg _ (by omega)
      exact ⟨ht', by rw [hg _ (Nat.le_refl _)]; exact q2, by rw [okm_congr hc1]; exact q3⟩
theorem lscan_ge (z : Nat → Int) (len : Nat) : ∀ (f p : Nat) (acc : List Int), p ≤ len → ∃ (m : List Int) (t : Nat) (ok : Bool), p ≤ t ∧ t ≤ len ∧ lscan z len f p acc = (m, (t : Int), ok)
  | 0, p, acc, h => ⟨acc, p, true, Nat.le_refl _, h, rfl⟩
  | f + 1, p, acc, h => by
    by_cases g : p < len ∧ z p = 32
    · rcases parse_two z len (p + 1) (by omega) with ⟨n, u, h1, h2, _, _, hp⟩ | ⟨u, h1, h2, hp⟩
      · have hp' : parse z len ((p : Int) + 1) = (n, (u : Int), true) := hp
        obtain ⟨m, t, ok, g1, g2, g3⟩ := lscan_ge z len f u (acc ++ [n]) h2
        exact ⟨m, t, ok, by omega, g2, by rw [lscan, if_pos g, hp']; simpa using g3⟩
      · have hp' : parse z len ((p : Int) + 1) = (0, (u : Int), false) := hp
        exact ⟨[], u, false, by omega, h2, by rw [lscan, if_pos g, hp']; simp⟩
    · exact ⟨acc, p, true, Nat.le_refl _, h, by rw [lscan, if_neg g]⟩
theorem lscan_local {z z' : Nat → Int} {len len' : Nat} : ∀ (f f' p : Nat) (acc l : List Int) (t : Nat) (ok : Bool), p ≤ len → len - p ≤ f → len' - p ≤ f' → lscan z len f p acc = (l, (t : Int), ok) → (∀ i, i ≤ t → z' i = z i) → t < len → t < len' →
    lscan z' len' f' p acc = (l, (t : Int), ok)
  | 0, f', p, acc, l, t, ok, hp, hf, hf', h, hg, ht, ht' => by
    simp [lscan] at h
    omega
  | f + 1, f', p, acc, l, t, ok, hp, hf, hf', h, hg, ht, ht' => by
    obtain ⟨_, t2, _, hpt, _, h2⟩ := lscan_ge z len (f + 1) p acc hp
    have ett : t2 = t := by rw [h] at h2; simp at h2; omega
    subst ett
    by_cases g : p < len ∧ z p = 32
    · have g' : p < len' ∧ z' p = 32 := ⟨by omega, by rw [hg p hpt]; exact g.2⟩
      obtain ⟨g0, hg0⟩ : ∃ g0, f' = g0 + 1 := ⟨f' - 1, by omega⟩
      subst hg0
      rw [lscan, if_pos g] at h
      rw [lscan, if_pos g']
      rcases parse_two z len (p + 1) (by omega) with ⟨n, u, h1, h2', _, _, hpp⟩ | ⟨u, h1, h2', hpp⟩
      · have hp' : parse z len ((p : Int) + 1) = (n, (u : Int), true) := hpp
        rw [hp'] at h
        simp only [if_true, Int.toNat_natCast] at h
        obtain ⟨_, t3, _, hut, _, h3⟩ := lscan_ge z len f u (acc ++ [n]) h2'
        have e3 : t3 = t2 := by rw [h] at h3; simp at h3; omega
        have hl : parse z' len' ((p : Int) + 1) = (n, (u : Int), true) := parse_local (show p + 1 ≤ len by omega) hpp (fun i hi => hg i (by omega)) (by omega) (by omega)
        rw [hl]
        simp only [if_true, Int.toNat_natCast]
        exact lscan_local f g0 u _ l t2 ok h2' (by omega) (by omega) h hg ht ht'
      · have hp' : parse z len ((p : Int) + 1) = (0, (u : Int), false) := hpp
        rw [hp'] at h
        simp at h
        obtain ⟨rfl, hu, rfl⟩ := h
        have eu : u = t2 := by omega
        subst eu
        have hl : parse z' len' ((p : Int) + 1) = (0, (u : Int), false) := parse_local (show p + 1 ≤ len by omega) hpp (fun i hi => hg i (by omega)) (by omega) (by omega)
        rw [hl]
        simp
    · have e : t2 = p ∧ acc = l ∧ ok = true := by
        rw [lscan, if_neg g] at h
        simp at h
        exact ⟨by omega, h.1, by simpa using h.2.2⟩
      obtain ⟨rfl, rfl, rfl⟩ := e
      refine lscan_stop (by omega) ?_
      rintro ⟨q1, q2⟩
      exact g ⟨ht, by rw [← hg t2 (Nat.le_refl _)]; exact q2⟩
theorem lst_local {z z' : Nat → Int} {len len' a t : Nat} {l : List Int} {ok : Bool} (ha : a ≤ len) (h : lst z len (a : Int) = (l, (t : Int), ok)) (hg : ∀ i, i ≤ t → z' i = z i) (ht : t < len) (ht' : t < len') :
    lst z' len' (a : Int) = (l, (t : Int), ok) := by
  have hat : a ≤ t := by
    obtain ⟨_, t2, _, hpt, _, h2⟩ := lscan_ge z len (len - a) a [] ha
    rw [lst_in ha] at h
    rw [h] at h2
    simp at h2
    omega
  rw [lst_in ha] at h
  rw [lst_in (by omega)]
  exact lscan_local _ _ a [] l t ok ha (Nat.le_refl _) (Nat.le_refl _) h hg ht ht'
end Go.Proofs.Ytigmgkcojifbcaa.Dig
