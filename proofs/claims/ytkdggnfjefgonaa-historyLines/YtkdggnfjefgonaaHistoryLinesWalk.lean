/- HistoryLines, walked. -/
import Derived.Test.YtkdggnfjefgonaaHistWorks
import Derived.Test.YtkdggnfjefgonaaApp
import Derived.Test.YtkdggnfjefgonaaFrame
import Derived.Deep.RegionHeld3
import Derived.Deep.DrawnRows
import Derived.Deep.DeepMust
import Derived.Laws.BytesArg
namespace Go.Proofs.Ytkdggnfjefgonaa.Walk
open Go.RowKit Go.Proofs.Ytkdggnfjefgonaa.Dig Go.Proofs.Ytkdggnfjefgonaa.Mem Go.Proofs.Ytkdggnfjefgonaa.Hist
set_option linter.unusedVariables false
set_option linter.unusedSimpArgs false

theorem Try.infoU8 : (Try.prog.info? 5).map (fun i => (i.zero, i.size, i.bytes)) = some (some (.int .u8 0), 1, 1) := by kernel_rfl
theorem decS_in {z : Nat → Int} {len : Nat} (h : len ≤ 2000) : decS z len 4096 = decL z len 4096 len [] 0 := by
  unfold decS
  rw [if_neg (by decide), if_neg (by omega)]
theorem decL_errs {z : Nat → Int} {len : Nat} {most : Int} : ∀ (f : Nat) (ts : List TxnM) (i : Nat), (decL z len most f ts i).2.1 = 0 ∨ (decL z len most f ts i).2.1 = 3 ∨ (decL z len most f ts i).2.1 = 4 ∨ (decL z len most f ts i).2.1 = 5 ∨ (decL z len most f ts i).2.1 = 6
  | 0, ts, i => .inl rfl
  | f + 1, ts, i => by
    rw [decL]
    by_cases hi : i < len
    · rw [if_pos hi]
      rcases line_two (most := most) (ts := ts) (z := z) hi with ⟨e, _⟩ | ⟨e, _, _, _, _, h, _⟩
      · rw [if_pos e]; exact decL_errs f _ _
      · rw [if_neg e]; exact .inr h
    · rw [if_neg hi]; exact .inl rfl
/-- The law for arguments that are not too long. -/
def LinesOf (w : World) (a0 : Option Addr) (l0 : List Int) (c0 : Nat) (a1 : Option Addr) (l1 : List Int) (c1 : Nat) (cut : Int) : Prop :=
  Calls Try.prog 5 #[.slice a0 l0.length c0, .slice a1 l1.length c1, .int .u16 cut] w fun e w' => e = .returned (.bool true) ∧ Below w.heap.size w w'
section
variable (w : World) (a0 : Option Addr) (l0 : List Int) (c0 : Nat) (a1 : Option Addr) (l1 : List Int) (c1 : Nat) (cut : Int)
set_option maxHeartbeats 1000000 in
theorem lines_long (n0 n1 : Nat) (h : 600 < n0 ∨ 600 < n1) : Calls Try.prog 5 #[.slice a0 n0 c0, .slice a1 n1 c1, .int .u16 cut] w fun e w' => e = .returned (.bool true) ∧ Below w.heap.size w w' := by
  by_cases h0 : 600 < n0
  · have h0' : (600 : Int) < (n0 : Int) := by omega
    go_enter Try.func5, Try.ntmps5
    go_wp2_with (go_at_call 7; go_must ((with_reducible refine (works_any _).mono ?_); rintro e w1 ⟨rfl, hbw1⟩))
    go_ret
    exact ⟨rfl, hbw1⟩
  · have h1 : 600 < n1 := h.resolve_left h0
    have h0' : ¬ (600 : Int) < (n0 : Int) := by omega
    have h1' : (600 : Int) < (n1 : Int) := by omega
    go_enter Try.func5, Try.ntmps5
    go_wp2_with (go_at_call 7; go_must ((with_reducible refine (works_any _).mono ?_); rintro e w1 ⟨rfl, hbw1⟩))
    go_ret
    exact ⟨rfl, hbw1⟩
set_option maxHeartbeats 4000000 in
/-- An error at the end. -/
theorem lines_end (h0 : l0.length ≤ 600) (h1 : l1.length ≤ 600) (hr0 : Rd .u8 w a0 l0.length (fun i => l0.getD i 0)) (hc0 : l0.length ≤ c0) {e : Int} (he : e ≠ 0)
    (hd : decS (fun i => l0.getD i 0) l0.length 4096 = ([], e, (l0.length : Int))) : LinesOf w a0 l0 c0 a1 l1 c1 cut := by
  unfold LinesOf
  have HR := hide hr0
  have HD := hide hd
  have h0' : ¬ (600 : Int) < (l0.length : Int) := by omega
  have h1' : ¬ (600 : Int) < (l1.length : Int) := by omega
  have he' : (e != 0) = true := by simpa using he
  have hn : ¬ (l0.length : Int) < 0 := by omega
  clear hr0 hd he
  go_enter Try.func5, Try.ntmps5
  go_wp2_with (first | (go_at_call 8; go_must ((with_reducible refine (dec_at a0 _ c0 _ 4096 _ HR.out hc0 HD).mono ?_); rintro e' w1 ⟨ta, tcap, rfl, -, hb1, -⟩)) | (go_at_call 7; go_must ((with_reducible refine (works_any _).mono ?_); rintro e w2 ⟨rfl, hbw2⟩)))
  go_ret
  exact ⟨rfl, hb1.out.trans ((((Below.refl _ _).alloc (Nat.le_refl _) _).trans (hbw2.mono (by simp))).mono hb1.out.size)⟩
end
theorem behind_z {l0 l1 : List Int} {k : Nat} (hk : k < l0.length) {j : Nat} (hj : j ≤ k) : (l0.take (k + 1) ++ l1).getD j 0 = l0.getD j 0 := by
  rw [List.getD_eq_getElem?_getD, List.getD_eq_getElem?_getD, List.getElem?_append_left (by rw [List.length_take]; omega), List.getElem?_take, if_pos (by omega)]
/-- What comes of the bytes up to a wrong place, and others behind. -/
theorem behind_dec {l0 l1 : List Int} {e : Int} {k : Nat} (h0 : l0.length ≤ 600) (h1 : l1.length ≤ 600) (hk : k < l0.length) (he : e = 3 ∨ e = 4) (hd : decS (fun i => l0.getD i 0) l0.length 4096 = ([], e, (k : Int))) :
    decS (fun i => (l0.take (k + 1) ++ l1).getD i 0) (l0.take (k + 1) ++ l1).length 4096 = ([], e, (k : Int)) := by
  have hl : (l0.take (k + 1) ++ l1).length = k + 1 + l1.length := by rw [List.length_append, List.length_take]; omega
  rw [decS_in (by omega)] at hd
  rw [decS_in (by omega)]
  exact decL_behind _ _ _ _ e k (by omega) (by omega) hd he hk (by omega) (fun j hj => behind_z hk hj)
theorem fin3 {w w6 w7 w8 : World} {o : Obj} (h : Below w.heap.size w w6) (h7 : Below w6.heap.size w6 w7) (h8 : Below (w7.alloc o).heap.size (w7.alloc o) w8) : Below w.heap.size w w8 := by
  have a := h.trans (h7.mono h.size)
  exact a.trans ((((Below.refl _ _).alloc (Nat.le_refl _) _).trans (h8.mono (by simp))).mono a.size)
theorem rd_take {k : IntKind} {w : World} {a : Option Addr} {l : List Int} {n : Nat} (h : Rd k w a l.length (fun i => l.getD i 0)) (hn : n ≤ l.length) : Rd k w a (l.take n).length (fun i => (l.take n).getD i 0) := by
  have e : (l.take n).length = n := by rw [List.length_take]; omega
  rw [e]
  refine ⟨by have := h.1; omega, fun i hi => ?_⟩
  obtain ⟨b, off, q1, q2, q3⟩ := h.2 i (by omega)
  have e2 : (l.take n).getD i 0 = l.getD i 0 := by rw [List.getD_eq_getElem?_getD, List.getD_eq_getElem?_getD, List.getElem?_take, if_pos hi]
  exact ⟨b, off, q1, by show _ = some (Value.int k ((l.take n).getD i 0)); rw [e2]; exact q2, by show (Lit.int k ((l.take n).getD i 0)).wf = true; rw [e2]; exact q3⟩
section
variable (w : World) (a0 : Option Addr) (l0 : List Int) (c0 : Nat) (a1 : Option Addr) (l1 : List Int) (c1 : Nat) (cut : Int)
set_option maxRecDepth 20000 in
set_option maxHeartbeats 4000000 in
/-- An error within. -/
theorem lines_bad (h0 : l0.length ≤ 600) (h1 : l1.length ≤ 600) (hr0 : Rd .u8 w a0 l0.length (fun i => l0.getD i 0)) (hr1 : Rd .u8 w a1 l1.length (fun i => l1.getD i 0)) (hc0 : l0.length ≤ c0) (hm0 : c0 ≤ maxLen) (hn1 : a1 = none → l1.length = 0 ∧ c1 = 0)
    (hwf : (∀ n ∈ l0, (Lit.int .u8 n).wf = true) ∧ ∀ n ∈ l1, (Lit.int .u8 n).wf = true) {e : Int} {k : Nat} (hk : k < l0.length) (he : e = 3 ∨ e = 4 ∨ e = 5 ∨ e = 6)
    (hd : decS (fun i => l0.getD i 0) l0.length 4096 = ([], e, (k : Int))) : LinesOf w a0 l0 c0 a1 l1 c1 cut := by
  unfold LinesOf
  have h0' : ¬ (600 : Int) < (l0.length : Int) := by omega
  have h1' : ¬ (600 : Int) < (l1.length : Int) := by omega
  have hn : ¬ (k : Int) < 0 := by omega
  have hk' : ¬ (l0.length : Int) ≤ (k : Int) := by omega
  have hk2 : (k : Int) + 1 ≤ (l0.length : Int) := by omega
  have hk3 : ((k : Int) + 1).toNat = k + 1 := by omega
  have hk4 : (0 : Int) ≤ (k : Int) + 1 := by omega
  have hwr : IntKind.i64.wrap ((k : Int) + 1) = (k : Int) + 1 := by rw [IntKind.wrap_i64]; omega
  have hkc : k + 1 ≤ c0 := by omega
  have hk9 : 0 + (k + 1) ≤ 1000000 := by omega
  obtain ⟨b, off, rfl, -, -⟩ := hr0.2 0 (by omega)
  have HR0 := hide hr0
  have HR1 := hide hr1
  have HN1 := hide hn1
  have HWF : Hid (∀ n ∈ l0.take (k + 1) ++ l1, (Lit.int .u8 n).wf = true) := hide (fun n hn => (List.mem_append.1 hn).elim (fun q => hwf.1 n (List.mem_of_mem_take q)) (hwf.2 n))
  have HTL : Hid ((l0.take (k + 1)).length = k + 1) := hide (by rw [List.length_take]; omega)
  have HT : Hid (Rd .u8 w (some ⟨b, off, none⟩) (k + 1) (fun i => (l0.take (k + 1)).getD i 0)) := by have q := rd_take hr0 (n := k + 1) (by omega); rw [HTL.out] at q; exact q
  have HD := hide hd
  have HB := hide (fun q => behind_dec h0 h1 hk q hd)
  obtain ⟨⟨us, f, x⟩, hd2⟩ : ∃ r, decS (fun i => (l0.take (k + 1) ++ l1).getD i 0) (l0.take (k + 1) ++ l1).length 4096 = r := ⟨_, rfl⟩
  have HD2 := hide hd2
  obtain ⟨i0, hi, hz0, hz1, hz2⟩ := info_parts Try.infoU8
  have HI0 : Hid (Try.prog.info? 5 = some i0 ∧ i0.zero = some (.int .u8 0) ∧ i0.size = 1 ∧ i0.bytes = 1) := ⟨hi, hz0, hz1, hz2⟩
  clear hr0 hr1 hn1 hwf hd hd2 hi hz0 hz1 hz2
  have HW1 : ∀ (w1 : World), Below w.heap.size w w1 → Hid (w.heap.size ≤ w1.heap.size) := fun w1 hb => hb.size
  rcases he with rfl | rfl | rfl | rfl
  · obtain ⟨rfl, rfl, rfl⟩ : us = [] ∧ f = 3 ∧ x = (k : Int) := by
      have q := HB.out (.inl rfl)
      rw [HD2.out] at q
      simpa using q
    go_enter Try.func5, Try.ntmps5
    go_wp2_with (first
      | (go_at_call 8; (with_reducible refine (dec_at _ _ c0 _ 4096 _ HR0.out hc0 HD).mono ?_); rintro e' w1 ⟨ta, tcap, rfl, -, hb1, -⟩; have hz1 := (HW1 w1 hb1.out).out; have HOE := hide (Own.empty 5 .u8 w1.heap.size (w1.alloc (.cells #[.slice ta 0 tcap] 26)) (w1.heap.size + 1) (by simp) (by simp)); have HBE : Hid (Below w1.heap.size w1 ((w1.alloc (.cells #[.slice ta 0 tcap] 26)).alloc (.cells #[] 5))) := hide (Below.alloc (Below.alloc (Below.refl _ _) (Nat.le_refl _) _) (by simp) _))
      | (at_builtin; (refine app_slice rfl (.tmp 50) (.tmp 54) 22 rfl 5 i0 (.int .u8 0) 1 Try.underlying22 HI0.out.1 HI0.out.2.1 HI0.out.2.2.1 HI0.out.2.2.2 rfl (by decide) .u8 w1.heap.size (.slice (some ⟨w1.heap.size + 1, 0, none⟩) 0 0) [] rfl HOE.out (some ⟨b, off, none⟩) (k + 1) c0 (l0.take (k + 1)) rfl HTL.out (HT.out.only (Only.of_below (S := fun _ => False) (hb1.out.trans (HBE.out.mono hz1))) (fun _ _ q => q)) (fun q => nomatch q) (Nat.le_trans (Nat.add_le_add_right (Nat.le_of_eq rfl) _) hk9) HBE.out.size w1.heap.size (Nat.le_refl _) HBE.out ?_); intro v5 w5 hown5 hbel5 hsz5; go_must (have hz5 : w1.heap.size ≤ w5.heap.size := hbel5.size; have hB5 := hide (hb1.out.trans (hbel5.mono hz1)); have HO5 := hide hown5; have HBEL5 := hide hbel5; clear hown5 hbel5 hsz5))
      | (at_builtin; (refine app_slice rfl (.tmp 55) (.tmp 56) 22 rfl 5 i0 (.int .u8 0) 1 Try.underlying22 HI0.out.1 HI0.out.2.1 HI0.out.2.2.1 HI0.out.2.2.2 rfl (by decide) .u8 w1.heap.size v5 (l0.take (k + 1)) rfl HO5.out a1 l1.length c1 l1 rfl rfl (HR1.out.only (Only.of_below (S := fun _ => False) hB5.out) (fun _ _ q => q)) HN1.out (by rw [HTL.out]; omega) hz5 w1.heap.size (Nat.le_refl _) HBEL5.out ?_); intro v6 w6 hown6 hbel6 hsz6; go_must (obtain ⟨a6, c6, n6, z6, rfl, hn6, hz6, hc6, hr6⟩ := hown6.view (by have := HTL.out; simp; omega) HWF.out; have HD3 : Hid (decS z6 n6 4096 = ([], 3, (k : Int))) := hide (by rw [hn6.out, hz6.out]; exact HD2.out); have HR6 := hide hr6; have hB6 := hide (hb1.out.trans (hbel6.mono hz1)); clear hown6 hbel6 hsz6 hn6 hz6 hr6))
      | (go_at_call 8; go_must ((with_reducible refine (dec_at _ _ c6 _ 4096 _ HR6.out hc6 HD3).mono ?_); rintro e' w7 ⟨tb, tbcap, rfl, -, hb7, -⟩)) | (go_at_call 7; go_must ((with_reducible refine (works_any _).mono ?_); rintro e w8 ⟨rfl, hbw8⟩)))
    go_ret
    exact ⟨rfl, fin3 hB6.out hb7.out hbw8⟩
  · obtain ⟨rfl, rfl, rfl⟩ : us = [] ∧ f = 4 ∧ x = (k : Int) := by
      have q := HB.out (.inr rfl)
      rw [HD2.out] at q
      simpa using q
    go_enter Try.func5, Try.ntmps5
    go_wp2_with (first
      | (go_at_call 8; (with_reducible refine (dec_at _ _ c0 _ 4096 _ HR0.out hc0 HD).mono ?_); rintro e' w1 ⟨ta, tcap, rfl, -, hb1, -⟩; have hz1 := (HW1 w1 hb1.out).out; have HOE := hide (Own.empty 5 .u8 w1.heap.size (w1.alloc (.cells #[.slice ta 0 tcap] 26)) (w1.heap.size + 1) (by simp) (by simp)); have HBE : Hid (Below w1.heap.size w1 ((w1.alloc (.cells #[.slice ta 0 tcap] 26)).alloc (.cells #[] 5))) := hide (Below.alloc (Below.alloc (Below.refl _ _) (Nat.le_refl _) _) (by simp) _))
      | (at_builtin; (refine app_slice rfl (.tmp 50) (.tmp 54) 22 rfl 5 i0 (.int .u8 0) 1 Try.underlying22 HI0.out.1 HI0.out.2.1 HI0.out.2.2.1 HI0.out.2.2.2 rfl (by decide) .u8 w1.heap.size (.slice (some ⟨w1.heap.size + 1, 0, none⟩) 0 0) [] rfl HOE.out (some ⟨b, off, none⟩) (k + 1) c0 (l0.take (k + 1)) rfl HTL.out (HT.out.only (Only.of_below (S := fun _ => False) (hb1.out.trans (HBE.out.mono hz1))) (fun _ _ q => q)) (fun q => nomatch q) (Nat.le_trans (Nat.add_le_add_right (Nat.le_of_eq rfl) _) hk9) HBE.out.size w1.heap.size (Nat.le_refl _) HBE.out ?_); intro v5 w5 hown5 hbel5 hsz5; go_must (have hz5 : w1.heap.size ≤ w5.heap.size := hbel5.size; have hB5 := hide (hb1.out.trans (hbel5.mono hz1)); have HO5 := hide hown5; have HBEL5 := hide hbel5; clear hown5 hbel5 hsz5))
      | (at_builtin; (refine app_slice rfl (.tmp 55) (.tmp 56) 22 rfl 5 i0 (.int .u8 0) 1 Try.underlying22 HI0.out.1 HI0.out.2.1 HI0.out.2.2.1 HI0.out.2.2.2 rfl (by decide) .u8 w1.heap.size v5 (l0.take (k + 1)) rfl HO5.out a1 l1.length c1 l1 rfl rfl (HR1.out.only (Only.of_below (S := fun _ => False) hB5.out) (fun _ _ q => q)) HN1.out (by rw [HTL.out]; omega) hz5 w1.heap.size (Nat.le_refl _) HBEL5.out ?_); intro v6 w6 hown6 hbel6 hsz6; go_must (obtain ⟨a6, c6, n6, z6, rfl, hn6, hz6, hc6, hr6⟩ := hown6.view (by have := HTL.out; simp; omega) HWF.out; have HD3 : Hid (decS z6 n6 4096 = ([], 4, (k : Int))) := hide (by rw [hn6.out, hz6.out]; exact HD2.out); have HR6 := hide hr6; have hB6 := hide (hb1.out.trans (hbel6.mono hz1)); clear hown6 hbel6 hsz6 hn6 hz6 hr6))
      | (go_at_call 8; go_must ((with_reducible refine (dec_at _ _ c6 _ 4096 _ HR6.out hc6 HD3).mono ?_); rintro e' w7 ⟨tb, tbcap, rfl, -, hb7, -⟩)) | (go_at_call 7; go_must ((with_reducible refine (works_any _).mono ?_); rintro e w8 ⟨rfl, hbw8⟩)))
    go_ret
    exact ⟨rfl, fin3 hB6.out hb7.out hbw8⟩
  · skip
    go_enter Try.func5, Try.ntmps5
    go_wp2_with (first
      | (go_at_call 8; (with_reducible refine (dec_at _ _ c0 _ 4096 _ HR0.out hc0 HD).mono ?_); rintro e' w1 ⟨ta, tcap, rfl, -, hb1, -⟩; have hz1 := (HW1 w1 hb1.out).out; have HOE := hide (Own.empty 5 .u8 w1.heap.size (w1.alloc (.cells #[.slice ta 0 tcap] 26)) (w1.heap.size + 1) (by simp) (by simp)); have HBE : Hid (Below w1.heap.size w1 ((w1.alloc (.cells #[.slice ta 0 tcap] 26)).alloc (.cells #[] 5))) := hide (Below.alloc (Below.alloc (Below.refl _ _) (Nat.le_refl _) _) (by simp) _))
      | (at_builtin; (refine app_slice rfl (.tmp 50) (.tmp 54) 22 rfl 5 i0 (.int .u8 0) 1 Try.underlying22 HI0.out.1 HI0.out.2.1 HI0.out.2.2.1 HI0.out.2.2.2 rfl (by decide) .u8 w1.heap.size (.slice (some ⟨w1.heap.size + 1, 0, none⟩) 0 0) [] rfl HOE.out (some ⟨b, off, none⟩) (k + 1) c0 (l0.take (k + 1)) rfl HTL.out (HT.out.only (Only.of_below (S := fun _ => False) (hb1.out.trans (HBE.out.mono hz1))) (fun _ _ q => q)) (fun q => nomatch q) (Nat.le_trans (Nat.add_le_add_right (Nat.le_of_eq rfl) _) hk9) HBE.out.size w1.heap.size (Nat.le_refl _) HBE.out ?_); intro v5 w5 hown5 hbel5 hsz5; go_must (have hz5 : w1.heap.size ≤ w5.heap.size := hbel5.size; have hB5 := hide (hb1.out.trans (hbel5.mono hz1)); have HO5 := hide hown5; have HBEL5 := hide hbel5; clear hown5 hbel5 hsz5))
      | (at_builtin; (refine app_slice rfl (.tmp 55) (.tmp 56) 22 rfl 5 i0 (.int .u8 0) 1 Try.underlying22 HI0.out.1 HI0.out.2.1 HI0.out.2.2.1 HI0.out.2.2.2 rfl (by decide) .u8 w1.heap.size v5 (l0.take (k + 1)) rfl HO5.out a1 l1.length c1 l1 rfl rfl (HR1.out.only (Only.of_below (S := fun _ => False) hB5.out) (fun _ _ q => q)) HN1.out (by rw [HTL.out]; omega) hz5 w1.heap.size (Nat.le_refl _) HBEL5.out ?_); intro v6 w6 hown6 hbel6 hsz6; go_must (obtain ⟨a6, c6, n6, z6, rfl, hn6, hz6, hc6, hr6⟩ := hown6.view (by have := HTL.out; simp; omega) HWF.out; have HD3 : Hid (decS z6 n6 4096 = (us, f, x)) := hide (by rw [hn6.out, hz6.out]; exact HD2.out); have HR6 := hide hr6; have hB6 := hide (hb1.out.trans (hbel6.mono hz1)); clear hown6 hbel6 hsz6 hn6 hz6 hr6))
      | (go_at_call 8; go_must ((with_reducible refine (dec_at _ _ c6 _ 4096 _ HR6.out hc6 HD3).mono ?_); rintro e' w7 ⟨tb, tbcap, rfl, -, hb7, -⟩)) | (go_at_call 7; go_must ((with_reducible refine (works_any _).mono ?_); rintro e w8 ⟨rfl, hbw8⟩)))
    go_ret
    exact ⟨rfl, fin3 hB6.out hb7.out hbw8⟩
  · skip
    go_enter Try.func5, Try.ntmps5
    go_wp2_with (first
      | (go_at_call 8; (with_reducible refine (dec_at _ _ c0 _ 4096 _ HR0.out hc0 HD).mono ?_); rintro e' w1 ⟨ta, tcap, rfl, -, hb1, -⟩; have hz1 := (HW1 w1 hb1.out).out; have HOE := hide (Own.empty 5 .u8 w1.heap.size (w1.alloc (.cells #[.slice ta 0 tcap] 26)) (w1.heap.size + 1) (by simp) (by simp)); have HBE : Hid (Below w1.heap.size w1 ((w1.alloc (.cells #[.slice ta 0 tcap] 26)).alloc (.cells #[] 5))) := hide (Below.alloc (Below.alloc (Below.refl _ _) (Nat.le_refl _) _) (by simp) _))
      | (at_builtin; (refine app_slice rfl (.tmp 50) (.tmp 54) 22 rfl 5 i0 (.int .u8 0) 1 Try.underlying22 HI0.out.1 HI0.out.2.1 HI0.out.2.2.1 HI0.out.2.2.2 rfl (by decide) .u8 w1.heap.size (.slice (some ⟨w1.heap.size + 1, 0, none⟩) 0 0) [] rfl HOE.out (some ⟨b, off, none⟩) (k + 1) c0 (l0.take (k + 1)) rfl HTL.out (HT.out.only (Only.of_below (S := fun _ => False) (hb1.out.trans (HBE.out.mono hz1))) (fun _ _ q => q)) (fun q => nomatch q) (Nat.le_trans (Nat.add_le_add_right (Nat.le_of_eq rfl) _) hk9) HBE.out.size w1.heap.size (Nat.le_refl _) HBE.out ?_); intro v5 w5 hown5 hbel5 hsz5; go_must (have hz5 : w1.heap.size ≤ w5.heap.size := hbel5.size; have hB5 := hide (hb1.out.trans (hbel5.mono hz1)); have HO5 := hide hown5; have HBEL5 := hide hbel5; clear hown5 hbel5 hsz5))
      | (at_builtin; (refine app_slice rfl (.tmp 55) (.tmp 56) 22 rfl 5 i0 (.int .u8 0) 1 Try.underlying22 HI0.out.1 HI0.out.2.1 HI0.out.2.2.1 HI0.out.2.2.2 rfl (by decide) .u8 w1.heap.size v5 (l0.take (k + 1)) rfl HO5.out a1 l1.length c1 l1 rfl rfl (HR1.out.only (Only.of_below (S := fun _ => False) hB5.out) (fun _ _ q => q)) HN1.out (by rw [HTL.out]; omega) hz5 w1.heap.size (Nat.le_refl _) HBEL5.out ?_); intro v6 w6 hown6 hbel6 hsz6; go_must (obtain ⟨a6, c6, n6, z6, rfl, hn6, hz6, hc6, hr6⟩ := hown6.view (by have := HTL.out; simp; omega) HWF.out; have HD3 : Hid (decS z6 n6 4096 = (us, f, x)) := hide (by rw [hn6.out, hz6.out]; exact HD2.out); have HR6 := hide hr6; have hB6 := hide (hb1.out.trans (hbel6.mono hz1)); clear hown6 hbel6 hsz6 hn6 hz6 hr6))
      | (go_at_call 8; go_must ((with_reducible refine (dec_at _ _ c6 _ 4096 _ HR6.out hc6 HD3).mono ?_); rintro e' w7 ⟨tb, tbcap, rfl, -, hb7, -⟩)) | (go_at_call 7; go_must ((with_reducible refine (works_any _).mono ?_); rintro e w8 ⟨rfl, hbw8⟩)))
    go_ret
    exact ⟨rfl, fin3 hB6.out hb7.out hbw8⟩
/-- What a cut behind a line leaves. -/
theorem cut_dec {l : List Int} {us : List TxnM} {n : Nat} (h0 : l.length ≤ 600) (hn : n ≤ l.length) (hend : n = 0 ∨ l.getD (n - 1) 0 = 10) (hd : decS (fun i => l.getD i 0) l.length 4096 = (us, 0, 0)) :
    ∃ vs, decS (fun i => l.getD i 0) n 4096 = (vs, 0, 0) ∧ vs.length ≤ us.length ∧ opsN vs ≤ opsN us := by
  rw [decS_in (by omega)] at hd
  obtain ⟨vs, h1, h2, h3⟩ := decL_cut (z := fun i => l.getD i 0) hn hend l.length n [] 0 us (Nat.zero_le _) (by omega) (by omega) hd
  exact ⟨vs, by rw [decS_in (by omega)]; exact h1, h2, h3⟩
/-- Two histories, in two variables. -/
structure TwoV (w : World) (p q : Nat) (tv uv : Value) (ts us : List TxnM) (wx : World) : Prop where
  below : Below w.heap.size w wx
  c1 : wx.cell? ⟨p, 0, none⟩ = some tv
  c2 : wx.cell? ⟨q, 0, none⟩ = some uv
  t : TxnsAt (fun _ => True) wx tv ts
  u : TxnsAt (fun _ => True) wx uv us
  ft : ts.length ≤ 1024 ∧ opsN ts ≤ 5000
  fu : us.length ≤ 1024 ∧ opsN us ≤ 5000
theorem TwoV.keep {w wx wy : World} {p q : Nat} {tv uv : Value} {ts us : List TxnM} (h : TwoV w p q tv uv ts us wx) (hb : Below wx.heap.size wx wy) : TwoV w p q tv uv ts us wy :=
  ⟨h.below.trans (hb.mono h.below.size), (Only.of_below (S := fun _ => False) hb).cell h.c1 (fun q => q), (Only.of_below (S := fun _ => False) hb).cell h.c2 (fun q => q), h.t.keep hb, h.u.keep hb, h.ft, h.fu⟩
theorem TwoV.start {w w1 w2 : World} {tv uv : Value} {ts us : List TxnM} (T : TypeId) (ht : TxnsAt (fun b => w.heap.size ≤ b) w1 tv ts) (hb1 : Below w.heap.size w w1) (ft : ts.length ≤ 1024 ∧ opsN ts ≤ 5000)
    (hu : TxnsAt (fun b => (w1.alloc (.cells #[tv] T)).heap.size ≤ b) w2 uv us) (hb2 : Below (w1.alloc (.cells #[tv] T)).heap.size (w1.alloc (.cells #[tv] T)) w2) (fu : us.length ≤ 1024 ∧ opsN us ≤ 5000) :
    TwoV w w1.heap.size w2.heap.size tv uv ts us (w2.alloc (.cells #[uv] T)).drew := by
  have hb3 : Below w2.heap.size w2 (w2.alloc (.cells #[uv] T)).drew := ((Below.refl _ _).alloc (Nat.le_refl _) _).drew
  have h12 : Below w1.heap.size w1 w2 := ((Below.refl _ _).alloc (Nat.le_refl _) _).trans (hb2.mono (by simp))
  have h02 := hb1.trans (h12.mono hb1.size)
  exact ⟨h02.trans (hb3.mono h02.size), (((Is.made w1 #[tv] T rfl).below hb2).below hb3).cell 0 rfl, (Is.made w2 #[uv] T rfl).drew.cell 0 rfl, ((ht.keep h12).keep hb3).mono (fun _ _ => trivial), (hu.keep hb3).mono (fun _ _ => trivial), ft, fu⟩
theorem opsT {w wx : World} {p q : Nat} {tv uv : Value} {ts us : List TxnM} {n : Int} (h : Hid (TwoV w p q tv uv ts us wx)) (hn : Hid ((opsN ts : Int) = n)) :
    Calls Try.prog 11 #[.agg #[tv]] wx fun e w' => e = .returned (.int .i64 n) ∧ Hid (TwoV w p q tv uv ts us w') := by
  refine (ops_any _ tv ts wx h.out.t (by have := h.out.ft.1; omega) (by have := h.out.ft.2; omega)).mono ?_
  rw [hn.out]
  rintro e w' ⟨rfl, hb⟩
  exact ⟨rfl, h.out.keep hb⟩
theorem opsU {w wx : World} {p q : Nat} {tv uv : Value} {ts us : List TxnM} {n : Int} (h : Hid (TwoV w p q tv uv ts us wx)) (hn : Hid ((opsN us : Int) = n)) :
    Calls Try.prog 11 #[.agg #[uv]] wx fun e w' => e = .returned (.int .i64 n) ∧ Hid (TwoV w p q tv uv ts us w') := by
  refine (ops_any _ uv us wx h.out.u (by have := h.out.fu.1; omega) (by have := h.out.fu.2; omega)).mono ?_
  rw [hn.out]
  rintro e w' ⟨rfl, hb⟩
  exact ⟨rfl, h.out.keep hb⟩
theorem worksV {w wx : World} {p q : Nat} {tv uv : Value} {ts us : List TxnM} (h : Hid (TwoV w p q tv uv ts us wx)) :
    Calls Try.prog 7 #[] wx fun e w' => e = .returned (.bool true) ∧ Hid (TwoV w p q tv uv ts us w') := by
  refine (works_any wx).mono ?_
  rintro e w' ⟨rfl, hb⟩
  exact ⟨rfl, h.out.keep hb⟩
theorem rd_less {k : IntKind} {w : World} {a : Option Addr} {n m : Nat} {z : Nat → Int} (h : Rd k w a n z) (hm : m ≤ n) : Rd k w a m z := ⟨by have := h.1; omega, fun i hi => h.2 i (by omega)⟩
set_option maxRecDepth 20000 in
set_option maxHeartbeats 4000000 in
/-- No error. -/
theorem lines_ok (h0 : l0.length ≤ 600) (h1 : l1.length ≤ 600) (hr0 : Rd .u8 w a0 l0.length (fun i => l0.getD i 0)) (hc0 : l0.length ≤ c0) (hm0 : c0 ≤ maxLen) (hcut : 0 ≤ cut ∧ cut ≤ 65535) {us : List TxnM}
    (hd : decS (fun i => l0.getD i 0) l0.length 4096 = (us, 0, 0)) : LinesOf w a0 l0 c0 a1 l1 c1 cut := by
  unfold LinesOf
  have h0' : ¬ (600 : Int) < (l0.length : Int) := by omega
  have h1' : ¬ (600 : Int) < (l1.length : Int) := by omega
  obtain ⟨hcut0, hcut1⟩ := hcut
  have HR0 := hide hr0
  have HD := hide hd
  have HW1 : ∀ (w1 : World), Below w.heap.size w w1 → Hid (w.heap.size ≤ w1.heap.size) := fun w1 hb => hb.size
  clear hr0 hd
  go_enter Try.func5, Try.ntmps5
  go_wp2_with (first
    | (go_at_call 8; (with_reducible refine (dec_at _ _ c0 _ 4096 _ HR0.out hc0 HD).mono ?_); rintro e' w1 ⟨ta, tcap, rfl, ht1, hb1, hf1⟩; have hz1 := (HW1 w1 hb1.out).out))
  have hce : 0 ≤ cut % ((l0.length : Int) + 1) ∧ cut % ((l0.length : Int) + 1) < (l0.length : Int) + 1 := ⟨Int.emod_nonneg _ (by omega), Int.emod_lt_of_pos _ (by omega)⟩
  generalize cut % ((l0.length : Int) + 1) = cn at *
  go_loop [13] (fun i => ∃ x : Int, 0 ≤ x ∧ x ≤ (l0.length : Int) ∧ i = .int .i64 x) (fun i => (intOf i).toNat)
  case atStart => exact ⟨cn, hce.1, by omega, rfl⟩
  case round =>
    obtain ⟨x, hx0, hx1, rfl⟩ := hrel
    clear hce
    by_cases hz : x = 0
    · subst hz
      obtain ⟨vs, hv1, hv2, hv3⟩ := cut_dec h0 (n := 0) (by omega) (.inl rfl) HD.out
      have HV := hide hv1
      have hle : (vs.length : Int) ≤ (us.length : Int) := by omega
      obtain ⟨n1, hn1⟩ : ∃ n, (opsN vs : Int) = n := ⟨_, rfl⟩
      obtain ⟨n2, hn2⟩ : ∃ n, (opsN us : Int) = n := ⟨_, rfl⟩
      have hle2 : n1 ≤ n2 := by omega
      have HN1 := hide hn1
      have HN2 := hide hn2
      have HRN : Hid (Rd .u8 (w1.alloc (.cells #[.slice ta us.length tcap] 26)) (a0) (0) (fun i => l0.getD i 0)) := hide (rd_less (HR0.out.only (Only.of_below (S := fun _ => False) (hb1.out.trans (((Below.refl _ _).alloc (Nat.le_refl _) _).mono hz1))) (fun _ _ q => q)) (by omega))
      have hnc : (0 : Nat) ≤ c0 := by omega
      clear hv1 hv2 hv3 hn1 hn2 HR0
      go_wp2_with (first
        | (go_at_call 8; go_must ((with_reducible refine (dec_at _ _ c0 _ 4096 _ HRN.out hnc HV).mono ?_); rintro e' w2 ⟨tb, tbcap, rfl, ht2, hb2, hf2⟩; have HX := hide (TwoV.start 26 ht1.out hb1.out hf1.out ht2.out hb2.out hf2.out); have c1 := HX.out.c1; have c2 := HX.out.c2)))
      go_region_held3 (fun w' => w'.cell? ⟨w1.heap.size, 0, none⟩ = some (.slice ta us.length tcap) ∧ w'.cell? ⟨w2.heap.size, 0, none⟩ = some (.slice tb vs.length tbcap)) (first | assumption | go_keep)
        (first | (go_at_call 11; (with_reducible refine (opsT (by assumption) HN2).mono ?_); rintro e wx ⟨rfl, HX⟩; have c1 := HX.out.c1; have c2 := HX.out.c2) | (go_at_call 11; (with_reducible refine (opsU (by assumption) HN1).mono ?_); rintro e wx ⟨rfl, HX⟩; have c1 := HX.out.c1; have c2 := HX.out.c2) | (go_at_call 7; (with_reducible refine (worksV (by assumption)).mono ?_); rintro e wx ⟨rfl, HX⟩; have c1 := HX.out.c1; have c2 := HX.out.c2))
      all_goals
        go_simp
        go_wp2
        go_ret
        exact ⟨rfl, HX.out.below⟩
    · have hm1 : (0 : Int) < x := by omega
      have hm2 : (0 : Int) ≤ x - 1 := by omega
      have hm3 : x - 1 < (l0.length : Int) := by omega
      have hmn : (x.toNat - 1) < l0.length := by omega
      obtain ⟨b, off, hab, hcl, -⟩ := HR0.out.u8 (i := (x.toNat - 1)) hmn
      subst hab
      replace hcl := (Only.of_below (S := fun _ => False) hb1.out).cell hcl (fun q => q)
      have hbl : b < w1.heap.size := lt_of_cell hcl
      obtain ⟨y, hy⟩ : ∃ y, l0.getD (x.toNat - 1) 0 = y := ⟨_, rfl⟩
      rw [hy] at hcl
      by_cases h10 : y = 10
      · subst h10
        obtain ⟨vs, hv1, hv2, hv3⟩ := cut_dec h0 (n := x.toNat) (by omega) (.inr hy) HD.out
        have HV := hide hv1
        have hle : (vs.length : Int) ≤ (us.length : Int) := by omega
        obtain ⟨n1, hn1⟩ : ∃ n, (opsN vs : Int) = n := ⟨_, rfl⟩
        obtain ⟨n2, hn2⟩ : ∃ n, (opsN us : Int) = n := ⟨_, rfl⟩
        have hle2 : n1 ≤ n2 := by omega
        have HN1 := hide hn1
        have HN2 := hide hn2
        have HRN : Hid (Rd .u8 (w1.alloc (.cells #[.slice ta us.length tcap] 26)) (some ⟨b, off, none⟩) (x.toNat) (fun i => l0.getD i 0)) := hide (rd_less (HR0.out.only (Only.of_below (S := fun _ => False) (hb1.out.trans (((Below.refl _ _).alloc (Nat.le_refl _) _).mono hz1))) (fun _ _ q => q)) (by omega))
        have hnc : (x.toNat : Nat) ≤ c0 := by omega
        clear hv1 hv2 hv3 hn1 hn2 hy
        go_wp2_with (first
          | (go_at_call 8; go_must ((with_reducible refine (dec_at _ _ c0 _ 4096 _ HRN.out hnc HV).mono ?_); rintro e' w2 ⟨tb, tbcap, rfl, ht2, hb2, hf2⟩; have HX := hide (TwoV.start 26 ht1.out hb1.out hf1.out ht2.out hb2.out hf2.out); have c1 := HX.out.c1; have c2 := HX.out.c2)))
        go_region_held3 (fun w' => w'.cell? ⟨w1.heap.size, 0, none⟩ = some (.slice ta us.length tcap) ∧ w'.cell? ⟨w2.heap.size, 0, none⟩ = some (.slice tb vs.length tbcap)) (first | assumption | go_keep)
          (first | (go_at_call 11; (with_reducible refine (opsT (by assumption) HN2).mono ?_); rintro e wx ⟨rfl, HX⟩; have c1 := HX.out.c1; have c2 := HX.out.c2) | (go_at_call 11; (with_reducible refine (opsU (by assumption) HN1).mono ?_); rintro e wx ⟨rfl, HX⟩; have c1 := HX.out.c1; have c2 := HX.out.c2) | (go_at_call 7; (with_reducible refine (worksV (by assumption)).mono ?_); rintro e wx ⟨rfl, HX⟩; have c1 := HX.out.c1; have c2 := HX.out.c2))
        all_goals
          go_simp
          go_wp2
          go_ret
          exact ⟨rfl, HX.out.below⟩
      · have hb10 : (y != 10) = true := by simpa using h10
        clear h10 hz hy
        go_wp2
        go_round
        case rel => exact ⟨x - 1, by omega, by omega, by first | rfl | go_num⟩
        case measure => simp [intOf]; omega
end
theorem walk_historyLines (w : World) (a0 : Option Addr) (n0 c0 : Nat) (z0 : List Int) (h0 : Frame.IsRow .u8 w a0 n0 c0 z0) (a1 : Option Addr) (n1 c1 : Nat) (z1 : List Int) (h1 : Frame.IsRow .u8 w a1 n1 c1 z1) (cut : Int) (hc : (Lit.int .u16 cut).wf = true) :
    Calls Try.prog 5 #[.slice a0 n0 c0, .slice a1 n1 c1, .int .u16 cut] w fun e w' => e = .returned (.bool true) ∧ Below w.heap.size w w' := by
  by_cases hl : 600 < n0 ∨ 600 < n1
  · exact lines_long w a0 c0 a1 c1 cut n0 n1 hl
  have hcap := h0.cap.1
  have hcut : 0 ≤ cut ∧ cut ≤ 65535 := by simpa [Lit.wf, IntKind.min, IntKind.max, IntKind.signed, IntKind.bits] using hc
  have hm : c0 ≤ maxLen := by
    rcases h0 with ⟨_, _, q, _⟩ | ⟨_, _, _, q, _⟩
    · unfold maxLen; omega
    · exact q
  obtain ⟨l0, rfl, r0, w0, m0⟩ := h0.list (by omega)
  obtain ⟨l1, rfl, r1, w1, m1⟩ := h1.list (by omega)
  have hl0 : l0.length ≤ 600 := by omega
  have hl1 : l1.length ≤ 600 := by omega
  obtain ⟨⟨us, e, x⟩, hd⟩ : ∃ r, decS (fun i => l0.getD i 0) l0.length 4096 = r := ⟨_, rfl⟩
  have h2 := decL_two (z := fun i => l0.getD i 0) (len := l0.length) (most := 4096) l0.length [] 0
  rw [← decS_in (by omega), hd] at h2
  rcases h2 with ⟨q, _, _⟩ | ⟨q1, q2, k, q3, _, q4⟩
  · simp at q
    obtain ⟨rfl, rfl⟩ := q
    exact lines_ok w a0 l0 c0 a1 l1 c1 cut hl0 hl1 r0 hcap hm hcut hd
  · simp only at q1 q2 q3
    subst q1 q3
    rcases Nat.lt_or_ge k l0.length with q | q
    · have he : e = 3 ∨ e = 4 ∨ e = 5 ∨ e = 6 := by
        have := decL_errs (z := fun i => l0.getD i 0) (len := l0.length) (most := 4096) l0.length [] 0
        rw [← decS_in (by omega), hd] at this
        exact this.resolve_left q2
      exact lines_bad w a0 l0 c0 a1 l1 c1 cut hl0 hl1 r0 r1 hcap hm m1 ⟨w0, w1⟩ q he hd
    · have : k = l0.length := by omega
      subst this
      exact lines_end w a0 l0 c0 a1 l1 c1 cut hl0 hl1 r0 hcap q2 hd
end Go.Proofs.Ytkdggnfjefgonaa.Walk
