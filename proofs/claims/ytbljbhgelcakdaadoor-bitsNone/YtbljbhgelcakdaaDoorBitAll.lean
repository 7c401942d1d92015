/- A set is gone through: the function that All hands back. -/
import Derived.Test.YtbljbhgelcakdaaDoorBitNext
import Derived.Test.YtbljbhgelcakdaaDoorBitGo
namespace Go.Proofs.YtbljbhgelcakdaaDoor.Bit
open Go.RowKit Go.Proofs.YtbljbhgelcakdaaDoor.Dig Go.Proofs.YtbljbhgelcakdaaDoor.Mem Go.Shelf
set_option linter.unusedVariables false
set_option linter.unusedSimpArgs false
attribute [local go_sem] Oper.semAt_some

theorem all_any (q : Option Addr) (w : World) :
    Calls Tryd.prog 23 #[.pointer q] w fun e w' => e = .returned (.func (.func 37) #[] #[.pointer (some ⟨w.heap.size, 0, none⟩)]) ∧ w' = w.alloc (.cells #[.pointer q] 24) := by
  go_enter Tryd.func23, Tryd.ntmps23
  go_wp2
  go_ret
  exact ⟨rfl, rfl⟩
theorem next_at {w : World} {p : Value} {F : Nat → Prop} {m : List Bool} (k : Int) (hk : (Lit.int .i64 k).wf = true) (HT : Tab w) (h : AtI w p F m) :
    Calls Tryd.prog 19 #[p, .int .i64 k] w fun e w' => e = .returned (.int .i64 (nextB m k)) ∧ Below w.heap.size w w' := by
  obtain ⟨n, c, ws, h2, rfl⟩ := h.set
  exact next_s k hk HT h2
theorem at_len {w : World} {p : Value} {F : Nat → Prop} {m : List Bool} (h : AtI w p F m) : m.length ≤ 65536 ∧ ∃ q, p = .pointer q := by
  obtain ⟨n, c, ws, h2, rfl⟩ := h.set
  exact ⟨by rw [bitsW_length]; exact h2.facts.2.1, h2.facts.2.2.2.2.2.2.1⟩
def left (v : Value) : Nat := if intOf v < 0 then 0 else (70000 - intOf v).toNat
theorem left_lt {k y : Int} (h0 : 0 ≤ k) (hk : k < 65536) (h : y < 0 ∨ (k < y ∧ y < 65536)) : left (.int .i64 y) < left (.int .i64 k) := by
  have e1 : left (.int .i64 k) = (70000 - k).toNat := by
    show (if k < 0 then 0 else (70000 - k).toNat) = _
    rw [if_neg (by omega)]
  have e2 : left (.int .i64 y) = if y < 0 then 0 else (70000 - y).toNat := rfl
  rw [e1, e2]
  split <;> omega
theorem grown_of_below {A V : World} (h : Below A.heap.size A V) : A.grownBy V none := ⟨h.os, h.tape, h.output, h.size, fun k hk _ => h.block k hk⟩
theorem abides {B : Nat} {J : List Int → World → Prop} (hJ : AbidesFrom B J) {s : List Int} {A V : World} (h : J s A) (hb : Below A.heap.size A V) : J s V := hJ s A V none h (grown_of_below hb) (fun q e => by cases e)
theorem wf_small {k : Int} (h1 : -1 ≤ k) (h2 : k ≤ 70000) : (Lit.int .i64 k).wf = true := WalkArith.wf_i64 ⟨by omega, by omega⟩
set_option maxRecDepth 100000 in
set_option maxHeartbeats 2000000 in
theorem allc_led (B : Nat) (p : Value) (I : List Int → World → Prop) (mOf : List Int → List Bool) (hI : ∀ pre W, I pre W → W.cell? ⟨B, 0, none⟩ = some p ∧ Tab W ∧ ∃ F, AtI W p F (mOf pre)) :
    Led Fence.wide 2 Tryd.prog 37 #[.pointer (some ⟨B, 0, none⟩)] (fun x => #[.int .i64 x]) I (fun pre x => nextB (mOf pre) (lastG pre + 1) = x ∧ x ≠ -1) (fun xs => nextB (mOf xs) (lastG xs + 1) = -1) (fun _ => True) := fun l J Jx W hJI hJ hJx hY h0 => by
  refine callsIn_of_wp Tryd.func37 rfl trivial ?_ rfl
  simp only [Tryd.ntmps37, List.size_toArray, List.length_cons, List.length_nil, Nat.reduceAdd, Nat.reduceSub, Array.replicate_succ, Array.replicate_zero, List.push_toArray, List.append_toArray, List.nil_append, List.cons_append]
  have HI := hide (fun pre W h => hI pre W (hJI pre W h))
  obtain ⟨k1, k2, F, k3⟩ := HI.out _ _ h0
  obtain ⟨k4, q, rfl⟩ := at_len k3
  have HN := hide (next_at 0 (by decide) k2 k3)
  obtain ⟨x, hx⟩ : ∃ x, x = nextB (mOf []) 0 := ⟨_, rfl⟩
  rw [← hx] at HN
  have HX := hide hx
  clear hI k2 k3 hx
  gi_wp2_with (refine ⟨trivial, ?_⟩; gi_at_call 19; go_must ((with_reducible refine (callsIn_wide.2 (Hid.out HN)).mono ?_); rintro e w1 ⟨rfl, hb⟩; have HB := hide hb; clear hb))
  have h1 := abides hJ h0 HB.out
  clear HN h0 k1
  gi_loopw [3] (fun kv wr => ∃ (pre : List Int) (k : Int), kv = .int .i64 k ∧ J pre wr ∧ k = nextB (mOf pre) (lastG pre + 1)) (fun kv _ => left kv)
  case atStart => exact ⟨[], x, rfl, h1, by rw [HX.out]; rfl⟩
  case round =>
    obtain ⟨pre, k, rfl, hJs, hk⟩ := hrel
    obtain ⟨k1, k2, F1, k3⟩ := HI.out _ _ hJs
    have k4 := (at_len k3).1
    have HK := hide hk
    by_cases hneg : k < 0
    · have e : nextB (mOf pre) (lastG pre + 1) = -1 := by
        rcases nextB_cases (mOf pre) (lastG pre + 1) with q | q
        · exact q
        · rw [hk] at hneg; omega
      clear hk k2 k3
      gi_wp2
      refine ⟨fun _ h => (by cases h), ?_⟩
      gi_wp2
      go_end0
      exact ⟨⟨_, rfl⟩, .inl ⟨pre, e, hJs⟩⟩
    · have hkb : 0 ≤ k ∧ k < 65536 := by
        rcases nextB_cases (mOf pre) (lastG pre + 1) with q | q
        · rw [hk] at hneg; omega
        · rw [hk]; omega
      obtain ⟨fn, tmps, assign, body, hy, hR⟩ := hY pre k wr hJs ⟨HK.out.symm, by omega⟩
      have h0k : 0 ≤ k := hkb.1
      clear hk k2 k3
      gi_wp2
      refine hR.mono ?_
      rintro e W3 (⟨rfl, hJ3⟩ | ⟨rfl, hJx3⟩)
      · obtain ⟨k5, k6, F2, k7⟩ := HI.out _ _ hJ3
        have HN := hide (next_at (k + 1) (wf_small (by omega) (by omega)) k6 k7)
        have hlen := (at_len k7).1
        obtain ⟨y, hy'⟩ : ∃ y, y = nextB (mOf (pre ++ [k])) (k + 1) := ⟨_, rfl⟩
        rw [← hy'] at HN
        have HY := hide hy'
        have hyb : y < 0 ∨ (k < y ∧ y < 65536) := by
          rcases nextB_cases (mOf (pre ++ [k])) (k + 1) with q | q
          · rw [hy']; omega
          · rw [hy']; omega
        clear hy' k6 k7
        gi_wp2_with (refine ⟨trivial, ?_⟩; gi_at_call 19; go_must ((with_reducible refine (callsIn_wide.2 (Hid.out HN)).mono ?_); rintro e w4 ⟨rfl, hb⟩; have HB4 := hide hb; clear hb))
        go_roundw
        case rel => exact ⟨pre ++ [k], y, rfl, abides hJ hJ3 HB4.out, by rw [HY.out, lastG_snoc]⟩
        case measure => exact left_lt h0k hkb.2 hyb
      · gi_wp2
        go_end0
        exact ⟨⟨_, rfl⟩, .inr ⟨_, trivial, hJx3⟩⟩
end Go.Proofs.YtbljbhgelcakdaaDoor.Bit
