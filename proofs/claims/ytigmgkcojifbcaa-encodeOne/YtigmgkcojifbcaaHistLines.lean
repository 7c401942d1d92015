/- The reader's lines, newReader, and the program's Decode: the document's history of bytes. -/
import Derived.Test.YtigmgkcojifbcaaHistLine
import Derived.Deep.LoopGhost
namespace Go.Proofs.Ytigmgkcojifbcaa.Hist
open Go.RowKit Go.Proofs.Ytigmgkcojifbcaa.Dig Go.Proofs.Ytigmgkcojifbcaa.Mem Go.Proofs.Ytigmgkcojifbcaa.Cur Go.Proofs.Ytigmgkcojifbcaa.Keys
set_option linter.unusedVariables false
set_option linter.unusedSimpArgs false
attribute [local go_sem ↓] Go.wp_at_zero Go.wp_at_succ

def measP (len : Nat) (s : St) : Nat := if s.e = 0 then len - s.at_ + 1 else 0
/-- In the midst of lines: what is left leads to r. -/
def LinesOk (z : Nat → Int) (len : Nat) (most : Int) (r : List TxnM × Int × Int) (s : St) (ts : List TxnM) : Prop :=
  (s.e = 0 ∧ s.x = 0 ∧ ∀ f, len - s.at_ ≤ f → decL z len most f ts s.at_ = r) ∨ (s.e ≠ 0 ∧ r = ([], s.e, s.x))
/-- .. at the end. -/
def LinesEnd (r : List TxnM × Int × Int) (s : St) (ts : List TxnM) : Prop := (s.e = 0 ∧ r = (ts, 0, 0)) ∨ (s.e ≠ 0 ∧ r = ([], s.e, s.x))
theorem decL_fuel {z : Nat → Int} {len : Nat} {most : Int} : ∀ (f f' : Nat) (ts : List TxnM) (i : Nat), len - i ≤ f → len - i ≤ f' → decL z len most f ts i = decL z len most f' ts i
  | 0, f', ts, i, h, h' => by rw [decL_done (by omega), decL_done (by omega)]
  | f + 1, 0, ts, i, h, h' => by rw [decL_done (by omega), decL_done (by omega)]
  | f + 1, f' + 1, ts, i, h, h' => by
    rw [decL, decL]
    by_cases hi : i < len
    · rw [if_pos hi, if_pos hi]
      rcases line_two (most := most) (ts := ts) (z := z) hi with ⟨e, g1, g2, _⟩ | ⟨e, _⟩
      · rw [if_pos e, if_pos e]
        exact decL_fuel f f' _ _ (by omega) (by omega)
      · rw [if_neg e, if_neg e]
    · rw [if_neg hi, if_neg hi]
theorem LinesOk.step {z : Nat → Int} {len : Nat} {most : Int} {r : List TxnM × Int × Int} {s : St} {ts : List TxnM} (h : LinesOk z len most r s ts) (he : s.e = 0) (hi : s.at_ < len) :
    LinesOk z len most r (pLine z len most (z s.at_) s ts).1 (pLine z len most (z s.at_) s ts).2 ∧ measP len (pLine z len most (z s.at_) s ts).1 < measP len s := by
  rcases h with ⟨_, hx, hd⟩ | ⟨q, _⟩
  · obtain ⟨i, e0, x0⟩ := s
    simp only at he hx hi hd
    subst he hx
    have hm := line_meets (most := most) (ts := ts) (z := z) hi
    have h1 := hd (len - i - 1 + 1) (by show len - i ≤ _; omega)
    rw [decL, if_pos hi] at h1
    have em : measP len ⟨i, 0, 0⟩ = len - i + 1 := rfl
    rw [em]
    rcases line_two (most := most) (ts := ts) (z := z) hi with ⟨e, g1, g2, _⟩ | ⟨e, _⟩
    · rw [if_pos e] at h1
      have hp := hm.1 e
      simp only [hp]
      refine ⟨.inl ⟨rfl, rfl, fun f hf => ?_⟩, ?_⟩
      · rw [← h1]
        simp only at hf ⊢
        exact decL_fuel _ _ _ _ hf (by omega)
      · show len - _ + 1 < _
        simp only
        omega
    · rw [if_neg e] at h1
      obtain ⟨q1, q2⟩ := hm.2 e
      refine ⟨.inr ⟨by rw [q1]; exact e, by rw [q1, q2]; exact h1.symm⟩, ?_⟩
      unfold measP
      rw [if_neg (by rw [q1]; exact e)]
      omega
  · exact absurd he q
theorem LinesOk.done {z : Nat → Int} {len : Nat} {most : Int} {r : List TxnM × Int × Int} {s : St} {ts : List TxnM} (h : LinesOk z len most r s ts) (hq : (peekP z len s).2 = false) : LinesEnd r s ts := by
  rcases h with ⟨he, hx, hd⟩ | h
  · left
    refine ⟨he, ?_⟩
    unfold peekP at hq
    rw [if_pos he] at hq
    have hi : ¬ s.at_ < len := fun q => by rw [peekS_in q] at hq; cases hq
    have := hd (len - s.at_) (Nat.le_refl _)
    rw [decL_done (by omega)] at this
    exact this.symm
  · exact .inr h
def LinesRel (w : World) (B rb cb nb vb : Nat) (most : Int) (a : Option Addr) (len cap : Nat) (z : Nat → Int) (r : List TxnM × Int × Int) (g : Nat) (wr : World) : Prop :=
  ∃ s ts tv cs, RAll wr B rb cb nb vb most a len cap z s ts tv cs ∧ Only (fun k => B ≤ k) w wr ∧ LinesOk z len most r s ts ∧ Hid (measP len s ≤ g)
set_option maxHeartbeats 4000000 in
theorem lines_any (B rb cb nb vb : Nat) (most : Int) (a : Option Addr) (len cap : Nat) (z : Nat → Int) (s : St) (ts : List TxnM) (tv : Value) (cs : List (List Value)) (r : List TxnM × Int × Int) (w : World)
    (h : RAll w B rb cb nb vb most a len cap z s ts tv cs) (hmx : most ≤ 4096) (hr : LinesOk z len most r s ts) :
    Calls Try.prog 31 #[.pointer (some ⟨rb, 0, none⟩)] w fun e w' => e = .returned (.tuple #[]) ∧ ∃ s' ts' tv' cs', RAll w' B rb cb nb vb most a len cap z s' ts' tv' cs' ∧ Only (fun k => B ≤ k) w w' ∧ LinesEnd r s' ts' := by
  have R0 : Hid (LinesRel w B rb cb nb vb most a len cap z r (measP len s) w) := ⟨s, ts, tv, cs, h, Only.refl _ _, hr, Nat.le_refl _⟩
  clear h hr
  go_enter Try.func31, Try.ntmps31
  go_wp2
  go_loopg [3] (measP len s) (fun g _ wr => LinesRel w B rb cb nb vb most a len cap z r g wr)
  case atStart => exact R0.out
  case round =>
    obtain ⟨s1, ts1, tv1, cs1, h1, ho1, hr1, hg1⟩ := hrel
    obtain ⟨c0, -, -, -, -, -⟩ := h1.1.rdr.six
    obtain ⟨⟨x, q⟩, hp⟩ : ∃ p, peekP z len s1 = p := ⟨_, rfl⟩
    have HL : Hid (Live wr cb a len cap z s1) := h1.1.live
    have HP : Hid (peekP z len s1 = (x, q)) := hp
    have HO1 := hide ho1
    have HR1 := hide hr1
    have H1 : Hid (RAll wr B rb cb nb vb most a len cap z s1 ts1 tv1 cs1) := h1
    clear h1 ho1 hr1 hp
    have HB : ∀ (w2 : World), Below wr.heap.size wr w2 → Live w2 cb a len cap z s1 → Hid (RAll w2 B rb cb nb vb most a len cap z s1 ts1 tv1 cs1) := fun w2 hb hl => hide (H1.out.went (Only.of_below hb) hl)
    cases q with
    | false =>
      have HE := hide (HR1.out.done (by rw [HP.out]))
      go_wp2_with (go_at_call 44; go_must ((with_reducible refine (peek_live cb a len cap s1 z _ HL.out).mono ?_); rw [HP.out]; rintro e w2 ⟨rfl, hb2, hl2⟩; have HA2 := HB w2 hb2 hl2; have HO2 : Hid (Only (fun k => B ≤ k) w w2) := HO1.out.trans (Only.of_below hb2); clear hb2 hl2))
      refine bodyPost_ret (results_none rfl _ _ _) rfl ?_
      exact ⟨rfl, s1, ts1, tv1, cs1, HA2.out, HO2.out, HE.out⟩
    | true =>
      have HX : Hid (s1.e = 0 ∧ s1.at_ < len ∧ x = z s1.at_) := by
        have hp := HP.out
        unfold peekP at hp
        by_cases he : s1.e = 0
        · rw [if_pos he] at hp
          by_cases hi : s1.at_ < len
          · rw [peekS_in hi] at hp; exact ⟨he, hi, (congrArg Prod.fst hp).symm⟩
          · rw [peekS_out hi] at hp; simp at hp
        · rw [if_neg he] at hp; simp at hp
      have HS := hide (HR1.out.step HX.out.1 HX.out.2.1)
      rw [← HX.out.2.2] at HS
      go_wp2_with (first | (go_at_call 44; go_must ((with_reducible refine (peek_live cb a len cap s1 z _ HL.out).mono ?_); rw [HP.out]; rintro e w2 ⟨rfl, hb2, hl2⟩; have HA2 := HB w2 hb2 hl2; have HO2 : Hid (Only (fun k => B ≤ k) w w2) := HO1.out.trans (Only.of_below hb2); clear hb2 hl2)) | (go_at_call 45; go_must ((with_reducible refine (line_any B rb cb nb vb most a len cap z s1 ts1 tv1 cs1 x _ HA2.out hmx).mono ?_); rintro e w3 ⟨rfl, tv3, cs3, h3, ho3⟩; have M : Hid (LinesRel w B rb cb nb vb most a len cap z r (measP len (pLine z len most x s1 ts1).1) w3) := hide ⟨_, _, tv3, cs3, h3, HO2.out.trans ho3, HS.out.1, Nat.le_refl _⟩; clear h3 ho3)))
      go_roundg (measP len (pLine z len most x s1 ts1).1)
      case measure => exact Nat.lt_of_lt_of_le HS.out.2 hg1.out
      case rel => exact M.out
end Go.Proofs.Ytigmgkcojifbcaa.Hist
