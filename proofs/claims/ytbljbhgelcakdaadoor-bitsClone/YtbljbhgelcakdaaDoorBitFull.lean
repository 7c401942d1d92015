/- A set with all that it has room for; a clone. -/
import Derived.Test.YtbljbhgelcakdaaDoorBitPut
import Derived.Deep.RegionHeld3
namespace Go.Proofs.YtbljbhgelcakdaaDoor.Bit
open Go.RowKit Go.Proofs.YtbljbhgelcakdaaDoor.Dig Go.Proofs.YtbljbhgelcakdaaDoor.Mem
set_option linter.unusedVariables false
set_option linter.unusedSimpArgs false

/-- The first i words have all, the others none. -/
def fullW (n c i : Nat) : List Nat := (List.range c).map fun j => if j < i then fitN n j else 0
theorem fullW_length (n c i : Nat) : (fullW n c i).length = c := by simp [fullW]
theorem fullW_getD {n c i j : Nat} (hj : j < c) : (fullW n c i).getD j 0 = if j < i then fitN n j else 0 := by simp [fullW, List.getD_eq_getElem?_getD, hj]
theorem fullW_zero (n c : Nat) : fullW n c 0 = List.replicate c 0 := by
  refine ext_getN (by rw [fullW_length, List.length_replicate]) (fun j hj => ?_)
  rw [fullW_length] at hj
  rw [fullW_getD hj, List.getD_eq_getElem?_getD, List.getElem?_replicate, if_pos hj, if_neg (by omega)]
  rfl
theorem fullW_succ {n c i : Nat} (hi : i < c) : fullW n c (i + 1) = (fullW n c i).set i (fitN n i) := by
  refine ext_getN (by rw [List.length_set, fullW_length, fullW_length]) (fun j hj => ?_)
  rw [fullW_length] at hj
  rw [fullW_getD hj, List.getD_eq_getElem?_getD, List.getElem?_set]
  by_cases e : i = j
  · subst e
    rw [if_pos rfl, if_pos (by omega), if_pos (by rw [fullW_length]; exact hj)]
    rfl
  · rw [if_neg e, ← List.getD_eq_getElem?_getD, fullW_getD hj]
    by_cases q : j < i
    · rw [if_pos q, if_pos (by omega)]
    · rw [if_neg q, if_neg (by omega)]
theorem fullW_tight (n c i : Nat) : Tight n (fullW n c i) := fun k hk => by
  rcases Nat.lt_or_ge (k / 64) c with q | q
  · rw [fullW_getD q]
    split
    · rw [fitN_bit n _ _ (Nat.mod_lt _ (by decide)), decide_eq_false (by omega)]
    · simp
  · rw [List.getD_eq_getElem?_getD, List.getElem?_eq_none (by rw [fullW_length]; exact q)]; simp
theorem fullW_bits {n c : Nat} (hc : n ≤ 64 * c) : bitsW n (fullW n c c) = List.replicate n true := by
  refine ext_getD (by rw [bitsW_length, List.length_replicate]) (fun k hk => ?_)
  rw [bitsW_length] at hk
  rw [bitsW_getD hk, fullW_getD (by omega), if_pos (by omega), fitN_bit n _ _ (Nat.mod_lt _ (by decide)), decide_eq_true (by omega), List.getD_eq_getElem?_getD, List.getElem?_replicate, if_pos hk]
  rfl
def FullR (w : World) (b g n c : Nat) (iv : Value) (wr : World) : Prop := ∃ i, i ≤ c ∧ iv = .int .i64 (i : Int) ∧ Hid (Wd wr b g n c (fullW n c i)) ∧ Hid (Below w.heap.size w wr)
set_option maxHeartbeats 2000000 in
theorem full_any (k : Int) (w : World) :
    Calls Tryd.prog 9 #[.int .i64 k] w fun e w' => ∃ n c, n = (max 0 (min k 65536)).toNat ∧ e = .returned (.pointer (some ⟨w.heap.size + 1, 0, none⟩)) ∧ Wd w' (w.heap.size + 1) w.heap.size n c (fullW n c c) ∧ Below w.heap.size w w' := by
  have HN := hide (new_any k w)
  have key : ∀ n c w1, n = (max 0 (min k 65536)).toNat → Wd w1 (w.heap.size + 1) w.heap.size n c (List.replicate c 0) → Below w.heap.size w w1 → Hid (FullR w (w.heap.size + 1) w.heap.size n c (.int .i64 0) w1) := fun n c w1 _ h hb => ⟨0, Nat.zero_le _, rfl, by rw [fullW_zero]; exact h, hb⟩
  go_enter Tryd.func9, Tryd.ntmps9
  go_wp2_with (go_at_call 8; go_must ((with_reducible refine (Hid.out HN).mono ?_); rintro e w1 ⟨n, c, hn, rfl, hw, hb⟩; have R0 := key n c w1 hn hw hb; have HNN := hide hn; have h1 := hw.cells.2; have hcb := hw.bound; have hnb := hw.le; clear hn hw hb key))
  go_loopw [12] (fun iv wr => FullR w (w.heap.size + 1) w.heap.size n c iv wr) (fun iv _ => c - (intOf iv).toNat)
  case atStart => exact R0.out
  case round =>
    obtain ⟨i, hi, rfl, hW, hB⟩ := hrel
    clear R0 h1
    have h1 := hW.out.cells.2
    by_cases hlt : i < c
    · have hwd := hW.out.word hlt
      have hfr := hW.out.row.frozen i
      have HF := hide (fun (w' : World) (hb : Below wr.heap.size wr w') => fit_s (w := w') (p := .pointer (some ⟨w.heap.size + 1, 0, none⟩)) (.inr ⟨_, _, rfl, hW.out.below hb, rfl⟩) i (by omega))
      obtain ⟨z, hz⟩ : ∃ z, z = fitN n i := ⟨_, rfl⟩
      rw [← hz] at HF
      have HZ := hide hz
      have HS : Hid (Wd (wr.setCell ⟨w.heap.size, i, none⟩ (.int .u64 (z : Int))) (w.heap.size + 1) w.heap.size n c (fullW n c (i + 1))) := hide (by
        rw [hz, fullW_succ hlt]
        exact hW.out.set (fitN_lt n i) (by rw [← fullW_succ hlt]; exact fullW_tight n c (i + 1)))
      clear hz
      go_wp2
      go_region_held3 (fun w' => w'.cell? ⟨w.heap.size + 1, 1, none⟩ = some (.slice (some ⟨w.heap.size, 0, none⟩) c c)) (first | assumption | go_keep) (first | (go_at_call 30; (refine (Hid.out HF _ (by repeat (first | exact Below.refl _ _ | apply Below.drew))).mono ?_); rintro e w9 ⟨rfl, rfl⟩))
      go_wp2
      go_roundw
      case rel => exact ⟨i + 1, by omega, by simp, HS.out.drew, ((hB.out.setCell (p := ⟨w.heap.size, i, none⟩) (Nat.le_refl _) _).drew)⟩
      case measure => simp [intOf]; omega
    · obtain rfl : i = c := by omega
      go_wp2
      go_ret
      exact ⟨n, i, HNN.out, rfl, hW.out, hB.out⟩
/-- All words: bit by bit. -/
theorem up_bits {n n2 c c2 : Nat} {ws us : List Nat} {g : Nat → Nat} {pre : List Int} {how : Int} (hc : c = ws.length) (hn : n ≤ 64 * c) (h2 : Tight n2 us)
    (hg : ∀ k, k < n → (g (k / 64)).testBit (k % 64) = withF how ((ws.getD (k / 64) 0).testBit (k % 64)) ((us.getD (k / 64) 0).testBit (k % 64)))
    (hm : ∀ k, k < n → ¬ ((k / 64 : Nat) : Int) ∈ pre → (ws.getD (k / 64) 0).testBit (k % 64) = withF how ((ws.getD (k / 64) 0).testBit (k % 64)) ((us.getD (k / 64) 0).testBit (k % 64))) :
    bitsW n (modW g ws pre) = withB (bitsW n ws) (bitsW n2 us) how := by
  refine bitsW_with (fun k hk => ?_)
  rw [hasB_bits h2 k, modW_getD (by omega)]
  split
  · exact hg k hk
  · rename_i q
    exact hm k hk q
theorem zero_up {us : List Nat} {c2 i : Nat} (hc : c2 = us.length) (h : ¬ (i : Int) ∈ upW us 0 c2) : us.getD i 0 = 0 := by
  by_cases q : i < c2
  · by_cases q2 : us.getD i 0 = 0
    · exact q2
    · exact absurd (mem_upW.2 ⟨i, rfl, Nat.zero_le _, q, q2⟩) h
  · rw [List.getD_eq_getElem?_getD, List.getElem?_eq_none (by omega)]; rfl
theorem or_bits {n n2 c c2 : Nat} {ws us : List Nat} (hc : c = ws.length) (hn : n ≤ 64 * c) (hc2 : c2 = us.length) (h2 : Tight n2 us) : bitsW n (modW (orG n ws us) ws (upW us 0 c2)) = withB (bitsW n ws) (bitsW n2 us) 0 := by
  refine up_bits (c2 := c2) hc hn h2 (fun k hk => ?_) (fun k hk q => ?_)
  · unfold orG withF
    rw [if_pos rfl, Nat.testBit_or, Nat.testBit_and, fitN_bit n _ _ (Nat.mod_lt _ (by decide)), decide_eq_true (by omega), Bool.and_true]
  · rw [zero_up hc2 q]
    simp [withF]
theorem with_none {n : Nat} {m : List Bool} (hm : m.length = n) : withB (List.replicate n false) m 0 = m := by
  refine ext_getD (by rw [withB_length, List.length_replicate, hm]) (fun k hk => ?_)
  rw [withB_length, List.length_replicate] at hk
  rw [withB_getD _ _ _ k (by rw [List.length_replicate]; exact hk), hasB_nat, List.getD_eq_getElem?_getD, List.getElem?_replicate, if_pos hk]
  simp [withF]
set_option maxHeartbeats 1000000 in
theorem clone_s {w : World} {p : Value} {F : Nat → Prop} {n c : Nat} {ws : List Nat} (h : SetI w p F n c ws) :
    Calls Tryd.prog 25 #[p] w fun e w' => ∃ b g c' ws', e = .returned (.pointer (some ⟨b, 0, none⟩)) ∧ Wd w' b g n c' ws' ∧ bitsW n ws' = bitsW n ws ∧ w.heap.size ≤ b ∧ w.heap.size ≤ g ∧ Below w.heap.size w w' := by
  obtain ⟨f1, f2, f3, f4, f5, f6, ⟨q, rfl⟩, f7⟩ := h.facts
  have HRM := hide (room_s h)
  have HN := hide (new_any (n : Int) w)
  have e0 : (max 0 (min (n : Int) 65536)).toNat = n := by omega
  have HO : Hid (∀ w1 c1, Wd w1 (w.heap.size + 1) w.heap.size n c1 (List.replicate c1 0) → Below w.heap.size w w1 → Calls Tryd.prog 27 #[.pointer (some ⟨w.heap.size + 1, 0, none⟩), .pointer q] w1 fun e w' => e = .returned (.tuple #[]) ∧ Hid (∃ ws', Wd w' (w.heap.size + 1) w.heap.size n c1 ws' ∧ bitsW n ws' = bitsW n ws) ∧ Hid (Below w.heap.size w w')) := hide (fun w1 c1 hw hb => by
    refine (or_wd hw (h.below hb) (fun k hk hF => by have := f7 k hF; omega)).mono ?_
    rintro e w' ⟨rfl, hW, hO⟩
    have e1 := or_bits (n := n) (n2 := n) (c := c1) (c2 := c) (ws := List.replicate c1 0) (us := ws) (by simp) (by have := hw.cnt; omega) f1 f6
    rw [bitsW_new, with_none (bitsW_length _ _)] at e1
    exact ⟨rfl, ⟨_, hW, e1⟩, hb.only hO (fun k hk => by omega) hb.size⟩)
  clear h f1 f3 f4 f5 f6 f7
  go_enter Tryd.func25, Tryd.ntmps25
  go_wp2_with (first
    | (go_at_call 12; go_must ((with_reducible refine (Hid.out HRM).mono ?_); rintro e w9 ⟨rfl, rfl⟩))
    | (go_at_call 8; go_must ((with_reducible refine (Hid.out HN).mono ?_); rintro e w1 ⟨n1, c1, hn1, rfl, hw, hb⟩; rw [e0] at hn1; subst hn1; have HO1 := hide (HO.out w1 c1 hw hb); clear hw hb))
    | (go_at_call 27; go_must ((with_reducible refine (Hid.out HO1).mono ?_); rintro e w2 ⟨rfl, HW, HB⟩)))
  go_ret
  obtain ⟨ws', h1, h2⟩ := HW.out
  exact ⟨_, _, _, ws', rfl, h1, h2, by omega, Nat.le_refl _, HB.out⟩
end Go.Proofs.YtbljbhgelcakdaaDoor.Bit
