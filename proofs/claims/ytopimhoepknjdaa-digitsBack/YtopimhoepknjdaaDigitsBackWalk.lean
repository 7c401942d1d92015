/- The walk of DigitsBack: whatever the bytes ahead, the bytes behind and the numbers are, it returns true and writes nothing that was there. -/
import Derived.Test.YtopimhoepknjdaaDigWorks
import Derived.Test.YtopimhoepknjdaaApp
import Derived.Test.YtopimhoepknjdaaFrame
namespace Go.Proofs.Ytopimhoepknjdaa.Walk
open Go.RowKit Dig
set_option linter.unusedVariables false
set_option linter.unusedSimpArgs false

theorem Try.info5 : (Try.prog.info? 5).map (fun i => (i.zero, i.size, i.bytes)) = some (some (.int .u8 0), 1, 1) := by kernel_rfl

def BRel (la ls : List Int) (B : Nat) (w : World) (v kv : Value) (wr : World) : Prop :=
  ∃ k : Nat, k ≤ ls.length ∧ kv = .int .i64 (k : Int) ∧ Own 5 .u8 B wr v (la ++ flat (ls.take k)) ∧ Below B w wr ∧ ∀ n ∈ ls.take k, 0 ≤ n ∧ n ≤ 2147483647
theorem take_next {ls : List Int} {k : Nat} (hk : k < ls.length) : ls.take (k + 1) = ls.take k ++ [ls.getD k 0] := by
  rw [List.take_succ_eq_append_getElem hk, List.getD_eq_getElem?_getD, List.getElem?_eq_getElem hk]; rfl
theorem BRel.step {la ls : List Int} {B k N : Nat} {w w6 : World} {v6 : Value} (hk : k < ls.length) (hx : ls.getD k 0 = (N : Int)) (hN : N ≤ 2147483647) (hall : ∀ n ∈ ls.take k, 0 ≤ n ∧ n ≤ 2147483647)
    (hown : Own 5 .u8 B w6 v6 (la ++ flat (ls.take k) ++ [32] ++ (txt N).map fun b => (b.toNat : Int))) (hb : Below B w w6) : BRel la ls B w v6 (.int .i64 ((k : Int) + 1)) w6 := by
  refine ⟨k + 1, by omega, by go_num, ?_, hb, ?_⟩
  · rw [take_next hk, hx, flat_append]
    have : flat [(N : Int)] = [32] ++ txtI N := by simp [flat]
    rw [this, ← List.append_assoc, ← List.append_assoc]
    exact hown
  · intro n hn
    rw [take_next hk, hx] at hn
    rcases List.mem_append.1 hn with q | q
    · exact hall n q
    · simp at q; omega
/-- What is read behind the bytes ahead is the number that was printed there. -/
theorem back_one {la lb : List Int} {N n4 : Nat} {z4 : Nat → Int} (hN : N ≤ 2147483647) (hlb : lb = [] ∨ dgt (lb.getD 0 0) = false) (hn : Hid (n4 = ([] ++ la ++ txtI N ++ lb).length)) (hz : Hid (z4 = fun i => ([] ++ la ++ txtI N ++ lb).getD i 0)) :
    Hid (parse z4 n4 (la.length : Int) = ((N : Int), (la.length : Int) + ((txt N).length : Int), true)) := by
  have e1 := hn.out
  have e2 := hz.out
  simp only [List.nil_append, List.length_append] at e1 e2
  have := parse_back (z := z4) (len := n4) (a := la.length) (n := N) hN (by omega) (fun j hj => by
    rw [e2]
    simp only [List.getD_eq_getElem?_getD]
    rw [List.append_assoc, List.getElem?_append_right (by omega), List.getElem?_append_left (by omega)]
    simp) (by
    rcases hlb with rfl | h
    · left; simp at e1; omega
    · right
      rw [e2]
      simp only [List.getD_eq_getElem?_getD] at h ⊢
      rw [List.getElem?_append_right (by simp)]
      simpa using h)
  show _ = _
  rw [this, txtI_len]
  simp
theorem back_all {la lb ls : List Int} {n7 nb : Nat} {z7 : Nat → Int} (hls : ∀ n ∈ ls, 0 ≤ n ∧ n ≤ 2147483647) (hlb : lb = [] ∨ (dgt (lb.getD 0 0) = false ∧ lb.getD 0 0 ≠ 32)) (hnb : Hid (nb = (la ++ flat ls).length)) (hn : Hid (n7 = (la ++ flat ls ++ lb).length)) (hz : Hid (z7 = fun i => (la ++ flat ls ++ lb).getD i 0)) :
    Hid (lst z7 n7 (la.length : Int) = (ls, (nb : Int), true)) := by
  have e1 := hn.out
  have e2 := hz.out
  have e3 := hnb.out
  simp only [List.length_append] at e1 e3
  have := lst_back (z := z7) (len := n7) ls la.length hls (by omega) (fun j hj => by
    rw [e2]
    simp only [List.getD_eq_getElem?_getD]
    rw [List.append_assoc, List.getElem?_append_right (by omega), List.getElem?_append_left (by omega)]
    simp) (by
    rcases hlb with rfl | h
    · left; simp at e1; omega
    · right
      rw [e2]
      simp only [List.getD_eq_getElem?_getD] at h ⊢
      rw [List.getElem?_append_right (by simp)]
      simpa using h)
  show _ = _
  rw [this, e3]

theorem wf_four {la lb : List Int} {N : Nat} (h1 : ∀ n ∈ la, (Lit.int .u8 n).wf = true) (h2 : ∀ x ∈ (txt N).map (fun b : UInt8 => (b.toNat : Int)), (Lit.int .u8 x).wf = true) (h3 : ∀ n ∈ lb, (Lit.int .u8 n).wf = true) :
    ∀ n ∈ [] ++ la ++ (txt N).map (fun b : UInt8 => (b.toNat : Int)) ++ lb, (Lit.int .u8 n).wf = true := by
  intro n hn
  rcases List.mem_append.1 hn with q | q
  · rcases List.mem_append.1 q with q | q
    · exact h1 n (by simpa using q)
    · exact h2 n q
  · exact h3 n q
theorem wf_app {l m : List Int} (h1 : ∀ n ∈ l, (Lit.int .u8 n).wf = true) (h2 : ∀ n ∈ m, (Lit.int .u8 n).wf = true) : ∀ n ∈ l ++ m, (Lit.int .u8 n).wf = true := by
  intro n hn
  rcases List.mem_append.1 hn with q | q
  · exact h1 n q
  · exact h2 n q
theorem wf_flat0 : ∀ l : List Int, ∀ n ∈ flat l, (Lit.int .u8 n).wf = true
  | [], n, h => by simp [flat] at h
  | x :: l, n, h => by
    rcases List.mem_cons.1 h with rfl | q
    · decide
    · rcases List.mem_append.1 q with q | q
      · exact wf_txtI _ n q
      · exact wf_flat0 l n q
theorem wf_flat {la ls : List Int} (h1 : ∀ n ∈ la, (Lit.int .u8 n).wf = true) : ∀ n ∈ la ++ flat ls, (Lit.int .u8 n).wf = true := wf_app h1 (wf_flat0 ls)
theorem cell_of {k : IntKind} {w : World} {b off len : Nat} {l : List Int} (h : Rd k w (some ⟨b, off, none⟩) len (fun i => l.getD i 0)) {i : Nat} (hi : i < len) {x : Int} (hx : l.getD i 0 = x) : w.cell? ⟨b, off + i, none⟩ = some (.int k x) := by
  obtain ⟨b', o', e, hc, _⟩ := h.2 i hi
  simp only [Option.some.injEq, Addr.mk.injEq] at e
  obtain ⟨rfl, rfl, _⟩ := e
  rw [← hx]; exact hc
set_option maxRecDepth 20000 in
set_option maxHeartbeats 4000000 in
theorem back_main (w : World) (a0 a1 a2 : Option Addr) (c0 c1 c2 : Nat) (la lb ls : List Int) (hA : Rd .u8 w a0 la.length (fun i => la.getD i 0)) (hB : Rd .u8 w a1 lb.length (fun i => lb.getD i 0)) (hL : Rd .i64 w a2 ls.length (fun i => ls.getD i 0))
    (wA : ∀ n ∈ la, (Lit.int .u8 n).wf = true) (wB : ∀ n ∈ lb, (Lit.int .u8 n).wf = true) (nA : a0 = none → la.length = 0 ∧ c0 = 0) (nB : a1 = none → lb.length = 0 ∧ c1 = 0)
    (h0 : ¬ (300 : Int) < la.length) (h1 : ¬ (300 : Int) < lb.length) (h2 : ¬ (60 : Int) < ls.length) (hlb : lb = [] ∨ (dgt (lb.getD 0 0) = false ∧ lb.getD 0 0 ≠ 32)) :
    Calls Try.prog 6 #[.slice a0 la.length c0, .slice a1 lb.length c1, .slice a2 ls.length c2] w fun e w' => e = .returned (.bool true) ∧ Below w.heap.size w w' := by
  have HLB : Hid (lb = [] ∨ (dgt (lb.getD 0 0) = false ∧ lb.getD 0 0 ≠ 32)) := hlb
  obtain ⟨i0, hi, hz0, hz1, hz2⟩ := info_parts Try.info5
  have hlbc : (0 < lb.length ∧ ∃ b off, a1 = some ⟨b, off, none⟩ ∧ w.cell? ⟨b, off, none⟩ = some (.int .u8 (lb.getD 0 0)) ∧ dgt (lb.getD 0 0) = false ∧ (lb.getD 0 0 == 32) = false) ∨ ¬ (0 : Int) < lb.length := by
    by_cases hb0 : 0 < lb.length
    · obtain ⟨b, off, e1, e2, _⟩ := hB.u8 hb0
      have hne : ¬ lb = [] := by intro e; simp [e] at hb0
      have hl := hlb.resolve_left hne
      exact .inl ⟨hb0, b, off, e1, by simpa using e2, hl.1, by simpa using hl.2⟩
    · exact .inr (by omega)
  have WA : Hid (∀ n ∈ la, (Lit.int .u8 n).wf = true) := wA
  have WB : Hid (∀ n ∈ lb, (Lit.int .u8 n).wf = true) := wB
  have NA : Hid (a0 = none → la.length = 0 ∧ c0 = 0) := nA
  have NB : Hid (a1 = none → lb.length = 0 ∧ c1 = 0) := nB
  obtain ⟨x0, hx0⟩ : ∃ x0, lb.getD 0 0 = x0 := ⟨_, rfl⟩
  rw [hx0] at hlbc
  clear hlb wA wB nA nB hx0
  rcases hlbc with ⟨hb0, b1, o1, rfl, hcb, hdb, h32⟩ | hb0
  all_goals
    have H1 : lb.length ≤ 300 := by omega
    go_enter Try.func6, Try.ntmps6
    go_wp2_with (first | (go_at_call 17; with_reducible refine (rdigit_any _ _).mono ?_; rintro e w' ⟨rfl, hq⟩; replace hq := hq.symm; subst hq) | (at_builtin; refine app_slice rfl _ _ 22 rfl 5 i0 (.int .u8 0) 1 Try.underlying22 hi hz0 hz1 hz2 rfl (by decide) .u8 w.heap.size _ [] rfl (Own.empty _ _ _ _ _ rfl (Nat.le_refl _)) a0 la.length c0 la rfl rfl (hA.keep ((Below.refl _ _).alloc (Nat.le_refl _) _)) NA.out (by simp; omega) (by simp) w.heap.size (Nat.le_refl _) ((Below.refl _ _).alloc (Nat.le_refl _) _) ?_; intro v1 w1 hown1 hbel1 hsz1))
    have HO1 : Hid (Own 5 .u8 w.heap.size w1 v1 ([] ++ la)) := hown1
    clear hown1
    go_loopw [7, 8] (fun v k wr => BRel la ls w.heap.size w v k wr) (fun _ k _ => ls.length - (intOf k).toNat)
    case atStart => exact ⟨0, by omega, rfl, by simpa [flat] using HO1.out, hbel1, by simp⟩
    case round =>
      obtain ⟨k, hk, rfl, hown, hbel, hall⟩ := hrel
      have hzr := hbel.size
      have HALL : Hid (∀ n ∈ ls.take k, 0 ≤ n ∧ n ≤ 2147483647) := hall
      clear hall
      by_cases hkl : k < ls.length
      · obtain ⟨bL, oL, rfl, hcL, wL⟩ := (hL.keep hbel).2 k hkl
        obtain ⟨x, hx⟩ : ∃ x, ls.getD k 0 = x := ⟨_, rfl⟩
        simp only [hx] at hcL wL
        have HX : Hid (ls.getD k 0 = x) := hx
        have HN64 : Hid (x < 9223372036854775808) := by have := bounds_i64 wL; show _ < _; omega
        clear hx wL
        by_cases hxr : 0 ≤ x ∧ x ≤ 2147483647
        · obtain ⟨N, rfl⟩ : ∃ N : Nat, x = N := ⟨x.toNat, by omega⟩
          have HN : Hid (N ≤ 2147483647) := by show _ ≤ _; omega
          have hT : Hid (printS (N : Int) = txt N) := (printS_in HN.out).1
          have hE : Hid (errS (N : Int) = 0) := (printS_in HN.out).2
          have hTl : (txt N).length ≤ 10 := (txt_len N).2
          have hFl : (flat (ls.take k)).length ≤ 660 := by have h1 := (flat_len (ls.take k)).2; have h2 := List.length_take_le k ls; have h3 : ¬ 60 < ls.length := by omega
                                                           rw [List.length_take] at h1; omega
          clear hxr
          go_wp2_with (first
            | (go_at_call 14; with_reducible refine (print_eq _ _ HN64 hT hE).mono ?_; rintro e w2 ⟨rfl, hb2⟩; have hB2 : Below w.heap.size w w2 := hbel.trans (hb2.mono hzr); have hz2' := hB2.size)
            | (at_builtin; (refine app_slice rfl (.tmp 84) (.tmp 85) 22 rfl 5 i0 (.int .u8 0) 1 Try.underlying22 hi hz0 hz1 hz2 rfl (by decide) .u8 w2.heap.size _ [] rfl (Own.empty _ _ _ _ _ rfl (Nat.le_refl _)) _ _ _ la rfl rfl (hA.keep (hB2.alloc hz2' _)) NA.out (by simp; omega) (by simp) w2.heap.size (Nat.le_refl _) ((Below.refl _ _).alloc (Nat.le_refl _) _) ?_); intro v3 w3 hown3 hbel3 hsz3)
            | (at_builtin; (refine app_string rfl (.tmp 86) (.tmp 87) 22 9 rfl 5 i0 Try.underlying22 Try.underlying9 hi hz0 hz1 hz2 w2.heap.size v3 _ rfl hown3 (txt N) rfl (by simp; omega) hbel3.size w2.heap.size (Nat.le_refl _) hbel3 ?_); intro v4 w4 hown4 hbel4 hsz4)
            | (at_builtin; (refine app_slice rfl (.tmp 88) (.tmp 89) 22 rfl 5 i0 (.int .u8 0) 1 Try.underlying22 hi hz0 hz1 hz2 rfl (by decide) .u8 w2.heap.size v4 _ rfl hown4 _ _ _ lb rfl rfl (hB.keep (hB2.trans (hbel4.mono hz2'))) NB.out (by simp; omega) hbel4.size w2.heap.size (Nat.le_refl _) hbel4 ?_); intro v5 w5 hown5 hbel5 hsz5; obtain ⟨a5, c5, n5, z5, rfl, hn5, hz5, hc5, hr5⟩ := hown5.view (by simp; omega) (wf_four WA.out (wf_txtI N) WB.out); have hp5 := back_one HN.out (HLB.out.imp id And.left) hn5 hz5; have hcL5 := cell_of ((hL.keep hbel).keep (hb2.trans (hbel5.mono hb2.size))) hkl HX.out; clear hn5 hz5 hown5)
            | (go_at_call 9; with_reducible refine (parse_eq _ _ _ z5 _ _ hr5 hp5).mono ?_; rintro e w' ⟨rfl, hq⟩; replace hq := hq.symm; subst hq)
            | (at_builtin; (refine app_slice rfl (.tmp 116) (.tmp 117) 22 rfl 5 i0 (.int .u8 0) 1 Try.underlying22 hi hz0 hz1 hz2 rfl (by decide) .u8 w.heap.size _ _ rfl ((hown.keep (hb2.trans (hbel5.mono hb2.size))).alloc _) _ _ _ [32] rfl rfl (Rd.lit .u8 [32] w5 5 _ (by decide) (by decide)) (by simp) (by simp; omega) (by have := (hB2.trans (hbel5.mono hz2')).size; simp; omega) w.heap.size (Nat.le_refl _) ((hB2.trans (hbel5.mono hz2')).alloc (hB2.trans (hbel5.mono hz2')).size _) ?_); intro v6 w6 hown6 hbel6 hsz6)
            | (at_builtin; (refine app_string rfl (.tmp 118) (.tmp 119) 22 9 rfl 5 i0 Try.underlying22 Try.underlying9 hi hz0 hz1 hz2 w.heap.size v6 _ rfl hown6 (txt N) rfl (by simp; omega) hbel6.size w.heap.size (Nat.le_refl _) hbel6 ?_); intro v7 w7 hown7 hbel7 hsz7))
          have R := BRel.step hkl HX.out HN.out HALL.out hown7 hbel7
          go_roundw
          case rel => exact R
          case measure => simp [intOf]; omega
        · have hT : Hid (printS x = []) := (printS_out hxr).1
          have hE : Hid (errS x = 2) := (printS_out hxr).2
          have hx' : x < 0 ∨ (¬ x < 0 ∧ 2147483647 < x) := by omega
          clear hxr
          rcases hx' with hx0 | ⟨hx0, hx1⟩
          all_goals
            go_wp2_with (first
              | (go_at_call 14; with_reducible refine (print_eq _ _ HN64 hT hE).mono ?_; rintro e w2 ⟨rfl, hb2⟩; have hB2 : Below w.heap.size w w2 := hbel.trans (hb2.mono hzr); have hcL2 := cell_of ((hL.keep hbel).keep hb2) hkl HX.out)
              | (go_at_call 8; with_reducible refine (works_any _).mono ?_; rintro e w3 ⟨rfl, hb3⟩))
            go_ret
            exact ⟨rfl, hB2.trans (hb3.mono hB2.size)⟩
      · have hkk : k = ls.length := by omega
        have htk : ls.take k = ls := by rw [hkk]; exact List.take_length
        have hall := HALL.out
        rw [htk] at hown hall
        have HALL2 : Hid (∀ n ∈ ls, 0 ≤ n ∧ n ≤ 2147483647) := hall
        have hFl : (flat ls).length ≤ 660 := by have h1 := (flat_len ls).2; have h3 : ¬ 60 < ls.length := by omega
                                                omega
        have HWF : Hid (∀ n ∈ la ++ flat ls, (Lit.int .u8 n).wf = true) := wf_flat WA.out
        obtain ⟨ab, cb, nb, zb, rfl, hnb, hzb, hcb, hrb⟩ := hown.view (by simp; omega) HWF.out
        clear hall htk hkk HALL hzb hrb
        go_wp2_with (first
          | (at_builtin; (refine app_slice rfl (.tmp 124) (.tmp 125) 22 rfl 5 i0 (.int .u8 0) 1 Try.underlying22 hi hz0 hz1 hz2 rfl (by decide) .u8 w.heap.size (.slice ab nb cb) _ rfl hown _ _ _ lb rfl rfl (hB.keep hbel) NB.out (by simp; omega) hzr w.heap.size (Nat.le_refl _) hbel ?_); intro v7 w7 hown7 hbel7 hsz7; obtain ⟨a7, c7, n7, z7, rfl, hn7, hz7, hc7, hr7⟩ := hown7.view (by simp; omega) (wf_app HWF.out WB.out); have hp7 := back_all HALL2.out HLB.out hnb hn7 hz7; clear hn7 hz7 hown7)
          | (go_at_call 11; with_reducible refine (list_eq _ _ _ z7 _ _ hr7 hp7).mono ?_; rintro e w8 ⟨a8, c8, rfl, hb8, hr8, hc8⟩; have hB8 : Below w.heap.size w w8 := hbel7.trans (hb8.mono hbel7.size))
          | (go_at_call 13; with_reducible refine (same_yes _ _ _ _ _ _ _ hr8 (hL.keep hB8)).mono ?_; rintro e w9 ⟨rfl, hb9⟩; have hB9 : Below w.heap.size w w9 := hB8.trans (hb9.mono hB8.size))
          | (go_at_call 8; with_reducible refine (works_any _).mono ?_; rintro e w10 ⟨rfl, hb10⟩))
        go_ret
        exact ⟨rfl, hB9.trans (hb10.mono hB9.size)⟩

theorem walk_digitsBack (w : World) (a0 : Option Addr) (len0 c0 : Nat) (z0 : List Int) (w0 : Frame.IsRow .u8 w a0 len0 c0 z0) (a1 : Option Addr) (len1 c1 : Nat) (z1 : List Int) (w1 : Frame.IsRow .u8 w a1 len1 c1 z1) (a2 : Option Addr) (len2 c2 : Nat) (z2 : List Int) (w2 : Frame.IsRow .i64 w a2 len2 c2 z2) :
    Calls Try.prog 6 #[.slice a0 len0 c0, .slice a1 len1 c1, .slice a2 len2 c2] w fun e w' => e = .returned (.bool true) ∧ Below w.heap.size w w' := by
  have q0 := w0.cap
  have q1 := w1.cap
  have q2 := w2.cap
  by_cases h0 : (300 : Int) < len0
  · go_enter Try.func6, Try.ntmps6
    go_wp2_with (go_at_call 8; with_reducible refine (works_any _).mono ?_; rintro e w2 ⟨rfl, hb2⟩)
    go_ret
    exact ⟨rfl, hb2⟩
  by_cases h1 : (300 : Int) < len1
  · go_enter Try.func6, Try.ntmps6
    go_wp2_with (go_at_call 8; with_reducible refine (works_any _).mono ?_; rintro e w2 ⟨rfl, hb2⟩)
    go_ret
    exact ⟨rfl, hb2⟩
  by_cases h2 : (60 : Int) < len2
  · go_enter Try.func6, Try.ntmps6
    go_wp2_with (go_at_call 8; with_reducible refine (works_any _).mono ?_; rintro e w2 ⟨rfl, hb2⟩)
    go_ret
    exact ⟨rfl, hb2⟩
  obtain ⟨la, rfl, hA, wA, nA⟩ := w0.list (by omega)
  obtain ⟨lb, rfl, hB, wB, nB⟩ := w1.list (by omega)
  obtain ⟨ls, rfl, hL, wL, nL⟩ := w2.list (by omega)
  clear q0 q1 q2 w0 w1 w2
  by_cases hlb : lb = [] ∨ (dgt (lb.getD 0 0) = false ∧ lb.getD 0 0 ≠ 32)
  · exact back_main w a0 a1 a2 c0 c1 c2 la lb ls hA hB hL wA wB nA nB h0 h1 h2 hlb
  · have hne : ¬ lb = [] := fun e => hlb (.inl e)
    have hpos : 0 < lb.length := by
      rcases Nat.eq_zero_or_pos lb.length with e | e
      · exact absurd (List.eq_nil_of_length_eq_zero e) hne
      · exact e
    obtain ⟨b, off, rfl, hcell, _, _⟩ := hB.u8 hpos
    obtain ⟨x0, hx0⟩ : ∃ x0, lb.getD 0 0 = x0 := ⟨_, rfl⟩
    simp only [Nat.add_zero, hx0] at hcell
    rw [hx0] at hlb
    have hcase : dgt x0 = true ∨ (dgt x0 = false ∧ (x0 == 32) = true) := by
      cases hd : dgt x0 with
      | true => exact .inl rfl
      | false =>
        refine .inr ⟨rfl, ?_⟩
        by_cases e : x0 = 32
        · simp [e]
        · exact absurd (.inr ⟨hd, e⟩) hlb
    have hpi : (0 : Int) < lb.length := by omega
    clear hlb hne hpos hA wA nA wB nB hL wL nL hx0 hB
    rcases hcase with hd | ⟨hd, h32⟩
    all_goals
      go_enter Try.func6, Try.ntmps6
      go_wp2_with (first | (go_at_call 17; with_reducible refine (rdigit_any _ _).mono ?_; rintro e w' ⟨rfl, hq⟩; replace hq := hq.symm; subst hq) | (go_at_call 8; with_reducible refine (works_any _).mono ?_; rintro e w2 ⟨rfl, hb2⟩))
      go_ret
      exact ⟨rfl, hb2⟩
end Go.Proofs.Ytopimhoepknjdaa.Walk
