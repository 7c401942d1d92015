/- CursorSticks, walked. -/
import Derived.Test.YtogfmaanmifdgaaCurDo
import Derived.Test.YtogfmaanmifdgaaCurNot
import Derived.Test.YtogfmaanmifdgaaCurWorks
import Derived.Test.YtogfmaanmifdgaaRecs
import Derived.Deep.LoopGhost
import Derived.Deep.DeepCutAuto
namespace Go.Proofs.Ytogfmaanmifdgaa.Walk
open Go.RowKit Go.Proofs.Ytogfmaanmifdgaa.Dig Go.Proofs.Ytogfmaanmifdgaa.Mem Go.Proofs.Ytogfmaanmifdgaa.Cur
set_option linter.unusedVariables false
set_option linter.unusedSimpArgs false

/-- Where both are: the program's cursor, and the document's in its own block. -/
structure Both (w : World) (cb db : Nat) (a : Option Addr) (len cap : Nat) (z : Nat → Int) (s t : St) (wr : World) : Prop where
  live : Live wr cb a len cap z s
  at_ : t.at_ ≤ len
  ref : Is wr db #[.slice a len cap, .int .i64 (t.at_ : Int), .int .i64 t.e, .int .i64 t.x]
  below : Below w.heap.size w wr
def StickRel (w : World) (cb db : Nat) (a : Option Addr) (len cap : Nat) (z : Nat → Int) (ok : St → Prop) (n g : Nat) (k : Value) (wr : World) : Prop :=
  ∃ (i : Nat) (s t : St), i ≤ n ∧ k = .int .i64 (i : Int) ∧ g = n - i ∧ ok s ∧ Both w cb db a len cap z s t wr
section
variable {w wr w4 : World} {cb db : Nat} {a : Option Addr} {len cap : Nat} {z : Nat → Int} {s t s' t' : St}
theorem both_step (h : Both w cb db a len cap z s t wr) (hcw : w.heap.size ≤ cb) (hcd : cb < db) (hne : 0 < len → ∀ x, a = some x → x.block ≠ db)
    (ho : Only (fun k => k = cb) wr.drew w4) (hc : Cur w4 cb a len cap s') (hat : s'.at_ ≤ len) (hat' : t'.at_ ≤ len) :
    Both w cb db a len cap z s' t' ((((w4.setCell ⟨db, 0, none⟩ (.slice a len cap)).setCell ⟨db, 1, none⟩ (.int .i64 (t'.at_ : Int))).setCell ⟨db, 2, none⟩ (.int .i64 t'.e)).setCell ⟨db, 3, none⟩ (.int .i64 t'.x)) := by
  have hO : Only (fun k => k = db) w4 ((((w4.setCell ⟨db, 0, none⟩ (.slice a len cap)).setCell ⟨db, 1, none⟩ (.int .i64 (t'.at_ : Int))).setCell ⟨db, 2, none⟩ (.int .i64 t'.e)).setCell ⟨db, 3, none⟩ (.int .i64 t'.x)) :=
    ((((Only.refl _ _).put 0 _).put 1 _).put 2 _).put 3 _
  have hb4 : Below w.heap.size w w4 := (h.below.drew).only ho (fun i q => by omega) (by have := h.below.size; exact this)
  have hl4 : Live w4 cb a len cap z s' := (h.live.drewN 1).step ho hc hat
  have hi : Is w4 db _ := h.ref.drew.keep ho (by omega)
  exact ⟨hl4.other hO (by omega) hne, hat', (((hi.set 0 _).set 1 _).set 2 _).set 3 _, hb4.only hO (fun i q => by omega) hb4.size⟩
theorem Both.only (h : Both w cb db a len cap z s t wr) (hcw : w.heap.size ≤ cb) (hcd : cb < db) (ho : Only (fun k => k = cb) wr w4) (hc : Cur w4 cb a len cap s') (hat : s'.at_ ≤ len) : Both w cb db a len cap z s' t w4 :=
  ⟨h.live.step ho hc hat, h.at_, h.ref.keep ho (by omega), h.below.only ho (fun i q => by omega) h.below.size⟩
theorem Both.drewN (h : Both w cb db a len cap z s t wr) (n : Nat) : Both w cb db a len cap z s t (wr.drewN n) :=
  ⟨h.live.drewN n, h.at_, h.ref.drewN n, h.below.only ((Only.refl (fun _ => False) _).drewN n) (fun i q => q.elim) h.below.size⟩
end
theorem failS_e (s : St) : (failS s 2 5).e ≠ 0 := by
  unfold failS
  split
  · show (2 : Int) ≠ 0
    decide
  · rename_i h
    intro q
    exact h ⟨q, by decide⟩
set_option maxHeartbeats 2000000 in
set_option maxRecDepth 20000 in
theorem walk_cursorSticks (w : World) (a0 : Option Addr) (len0 cap0 : Nat) (z0 : List Int) (w0 : Frame.IsRow .u8 w a0 len0 cap0 z0) (a1 : Option Addr) (len1 cap1 : Nat) (Y : Nat → Nat → Int) (w1 : Frame.IsRec [.i64, .u8, .i64, .i64] w a1 len1 cap1 Y)
    (a2 : Option Addr) (len2 cap2 : Nat) (X : Nat → Nat → Int) (w2 : Frame.IsRec [.i64, .u8, .i64, .i64] w a2 len2 cap2 X) :
    Calls Try.prog 4 #[.slice a0 len0 cap0, .slice a1 len1 cap1, .slice a2 len2 cap2] w fun e w' => e = .returned (.bool true) ∧ Below w.heap.size w w' := by
  have W : Hid (Calls Try.prog 7 #[] w fun e w' => e = .returned (.bool true) ∧ Below w.heap.size w w') := works_any w
  have hc0 := w0.cap
  have hc1 := w1.cap
  have hc2 := w2.cap
  by_cases h0 : 300 < len0
  · go_enter Try.func4, Try.ntmps4
    go_wp2_with (go_at_call 7; refine W.out.mono ?_; rintro e w9 ⟨rfl, hb9⟩)
    go_ret
    exact ⟨rfl, hb9⟩
  by_cases h1 : 60 < len1
  · go_enter Try.func4, Try.ntmps4
    go_wp2_with (go_at_call 7; refine W.out.mono ?_; rintro e w9 ⟨rfl, hb9⟩)
    go_ret
    exact ⟨rfl, hb9⟩
  by_cases h2 : 60 < len2
  · go_enter Try.func4, Try.ntmps4
    go_wp2_with (go_at_call 7; refine W.out.mono ?_; rintro e w9 ⟨rfl, hb9⟩)
    go_ret
    exact ⟨rfl, hb9⟩
  have g0 : ¬ (300 : Int) < len0 := by omega
  have g1 : ¬ (60 : Int) < len1 := by omega
  have g2 : ¬ (60 : Int) < len2 := by omega
  have hrd : Hid (Rd .u8 w a0 len0 (fun i => z0.getD i 0)) := w0.rd (by omega)
  have hcap : Hid (len0 ≤ cap0) := w0.cap.1
  have hrec : Hid (Frame.RdRec [.i64, .u8, .i64, .i64] w a1 len1 Y) := w1.rd (by decide)
  have hrec2 : Hid (Frame.RdRec [.i64, .u8, .i64, .i64] w a2 len2 X) := w2.rd (by decide)
  clear w0 w1 w2 W
  go_enter Try.func4, Try.ntmps4
  go_wp2_with (go_at_call 8; refine (new_live _ _ a0 len0 cap0 _ rfl hrd.out hcap.out).mono ?_; rintro e w2 ⟨rfl, ho, hl⟩)
  obtain ⟨db, hdb⟩ : ∃ db, w2.heap.size = db := ⟨_, rfl⟩
  rw [hdb]
  have hcd : w.heap.size < db := by rw [← hdb]; exact hl.cur.lt
  have hne : Hid (0 < len0 → ∀ x, a0 = some x → x.block ≠ db) := fun h x hx q => by have := hrd.out.lt h x hx; omega
  have R0 : Hid (StickRel w w.heap.size db a0 len0 cap0 (fun i => z0.getD i 0) (fun _ => True) len1 len1 (.int .i64 0) (w2.alloc (.cells #[.slice a0 len0 cap0, .int .i64 0, .int .i64 0, .int .i64 0] 28))) :=
    ⟨0, ⟨0, 0, 0⟩, ⟨0, 0, 0⟩, by omega, rfl, rfl, trivial, hl.keep ((Below.refl _ _).alloc (Nat.le_refl _) _), Nat.zero_le _, Is.made _ _ _ hdb.symm, ((Below.refl _ _).only ho (fun i q => q.elim) (Nat.le_refl _)).alloc (by rw [hdb]; omega) _⟩
  clear hl ho hdb
  go_loopg [9] len1 (fun g k wr => StickRel w w.heap.size db a0 len0 cap0 (fun i => z0.getD i 0) (fun _ => True) len1 g k wr)
  case atStart => exact R0.out
  case round =>
    obtain ⟨k, s, t, hk, rfl, hg, _, hB⟩ := hrel
    have HB := hide hB
    by_cases hlt : k < len1
    · obtain ⟨b1, o1, rfl, hb1, e0, e1, e2, e3, _⟩ := (hrec.out.keep (by decide) hB.below).four hlt
      obtain ⟨⟨c0, c1, c2, c3⟩, f0, f1, f2, f3⟩ := hB.ref.four
      have hsd := hB.ref.lt
      have hlen : (k : Int) < (len1 : Int) := by omega
      have HD1 := hide (do_any w.heap.size a0 len0 cap0 s t _ (Y k 0) (Y k 1) (Y k 2) (Y k 3) wr.drew (hB.live.drewN 1) hB.at_)
      clear hB
      go_wp2_with fail
      go_region_with (go_at_call 9; (with_reducible refine HD1.out.mono ?_); rintro e w4 ⟨r, rfl, hr, ho, hc⟩; obtain ⟨⟨k0, k1, k2, k3⟩, m0, m1, m2, m3⟩ := (HB.out.ref.drew.keep ho (by omega)).four; have M := hide (both_step (t' := doS (fun i => z0.getD i 0) len0 t (Y k 0) (Y k 1) (Y k 2) (Y k 3)) HB.out (Nat.le_refl _) hcd hne.out ho hc (doS_at HB.out.live.at_) (doS_at HB.out.at_)); clear hr ho hc)
      all_goals
        go_simp
        go_wp2
        have RR := hide (show StickRel w w.heap.size db a0 len0 cap0 (fun i => z0.getD i 0) (fun _ => True) len1 (len1 - (k + 1)) (.int .i64 ((k : Int) + 1)) _ from ⟨k + 1, _, _, by omega, by go_num, rfl, trivial, M.out⟩)
        go_roundg (len1 - (k + 1))
        case rel => exact RR.out
        case measure => omega
    · clear hB
      obtain ⟨s1, hs1⟩ : ∃ s1, failS s 2 5 = s1 := ⟨_, rfl⟩
      have hE : s1.e ≠ 0 := by rw [← hs1]; exact failS_e s
      have HE := hide hE
      have hE0 : (s1.e == 0) = false := by simpa using hE
      have HS1 := hide hs1
      clear hs1 hE
      go_upto_region 14 with (first | (go_at_call 12; refine (fail_live w.heap.size a0 len0 cap0 s (fun i => z0.getD i 0) 2 5 _ HB.out.live).mono ?_; rintro e w4 ⟨rfl, ho, hl⟩; rw [HS1.out] at hl; have HF := hide (HB.out.only (Nat.le_refl _) hcd ho hl.cur hl.at_); clear ho hl) | (go_at_call 10; refine (err_any w.heap.size a0 len0 cap0 _ _ HF.out.live.cur).mono ?_; rintro e w5 ⟨rfl, hw⟩; have HG : Hid (Both w w.heap.size db a0 len0 cap0 (fun i => z0.getD i 0) s1 t w5) := (by obtain ⟨n, rfl⟩ := hw; exact HF.out.drewN n); clear hw) | (go_at_call 11; refine (at_any w.heap.size a0 len0 cap0 _ _ HG.out.live.cur).mono ?_; rintro e w6 ⟨rfl, hw⟩; replace hw := hw.symm; subst hw))
      clear HB HF
      have R1 : Hid (StickRel w w.heap.size db a0 len0 cap0 (fun i => z0.getD i 0) (fun s => s = s1) len2 len2 (.int .i64 0) w5) := ⟨0, s1, t, by omega, rfl, rfl, rfl, HG.out⟩
      clear HG
      go_wp2
      go_loopg [13] len2 (fun g k wr => StickRel w w.heap.size db a0 len0 cap0 (fun i => z0.getD i 0) (fun s => s = s1) len2 g k wr)
      case atStart => exact R1.out
      case round =>
        obtain ⟨k, s, t, hk, rfl, hg, rfl, hB⟩ := hrel
        have HB := hide hB
        by_cases hlt : k < len2
        · obtain ⟨b1, o1, rfl, hb1, e0, e1, e2, e3, _⟩ := (hrec2.out.keep (by decide) hB.below).four hlt
          obtain ⟨⟨c0, c1, c2, c3⟩, f0, f1, f2, f3⟩ := hB.ref.four
          have hsd := hB.ref.lt
          have hlen : (k : Int) < (len2 : Int) := by omega
          have hd1 := do_any w.heap.size a0 len0 cap0 s t _ (X k 0) (X k 1) (X k 2) (X k 3) wr.drew (hB.live.drewN 1) hB.at_
          rw [doS_stuck HE.out] at hd1
          have HD1 := hide hd1
          clear hB hd1
          go_upto_region 17 with fail
          go_cut [8] (fun d wx => d = .pointer (some ⟨db, 0, none⟩) ∧ ∃ t', Both w w.heap.size db a0 len0 cap0 (fun i => z0.getD i 0) s t' wx)
          case first =>
            go_region_with (go_at_call 9; (with_reducible refine HD1.out.mono ?_); rintro e w4 ⟨r, rfl, hr, ho, hc⟩; obtain ⟨⟨k0, k1, k2, k3⟩, m0, m1, m2, m3⟩ := (HB.out.ref.drew.keep ho (by omega)).four; have M := hide (both_step (t' := doS (fun i => z0.getD i 0) len0 t (X k 0) (X k 1) (X k 2) (X k 3)) HB.out (Nat.le_refl _) hcd hne.out ho hc HB.out.live.at_ (doS_at HB.out.at_)); clear hr ho hc)
            all_goals
              go_simp
              go_wp2_with fail
              go_meet
              case rel => exact ⟨rfl, _, M.out⟩
          case rest =>
            obtain ⟨rfl, t', hq⟩ := hcut
            have HQ := hide hq
            clear hq e0 e1 e2 e3 HD1 c0 c1 c2 c3 f0 f1 f2 f3 HB
            go_wp2_with (first | (go_at_call 10; refine (err_any w.heap.size a0 len0 cap0 _ _ HQ.out.live.cur).mono ?_; rintro e w5 ⟨rfl, hw⟩; have HG : Hid (Both w w.heap.size db a0 len0 cap0 (fun i => z0.getD i 0) s t' w5) := (by obtain ⟨n, rfl⟩ := hw; exact HQ.out.drewN n); clear hw; have HK : Hid (StuckAt w5 (some ⟨w.heap.size, 0, none⟩)) := stuckAt HG.out.live.cur HE.out) | (go_at_call 13; refine (peek_stuck _ _ HK).mono ?_; rintro e w6 ⟨rfl, hw⟩; replace hw := hw.symm; subst hw) | (go_at_call 11; refine (at_any w.heap.size a0 len0 cap0 _ _ HG.out.live.cur).mono ?_; rintro e w6 ⟨rfl, hw⟩; replace hw := hw.symm; subst hw) | (go_at_call 14; refine (num_stuck _ _ HK).mono ?_; rintro e w6 ⟨rfl, hw⟩; replace hw := hw.symm; subst hw) | (go_at_call 15; refine (list_stuck _ _ HK).mono ?_; rintro e w6 ⟨rfl, hw⟩; replace hw := hw.symm; subst hw))
            have RR := hide (show StickRel w w.heap.size db a0 len0 cap0 (fun i => z0.getD i 0) (fun u => u = s) len2 (len2 - (k + 1)) (.int .i64 ((k : Int) + 1)) _ from ⟨k + 1, _, _, by omega, by go_num, rfl, rfl, HG.out⟩)
            go_roundg (len2 - (k + 1))
            case rel => exact RR.out
            case measure => omega
        · have HBB := hide hB.below
          clear hB HB
          go_wp2_with (go_at_call 7; refine (works_any _).mono ?_; rintro e w9 ⟨rfl, hb9⟩)
          go_ret
          exact ⟨rfl, HBB.out.trans (hb9.mono HBB.out.size)⟩
end Go.Proofs.Ytogfmaanmifdgaa.Walk
