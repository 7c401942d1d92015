/- CursorPlays, walked. -/
import Derived.Test.YtogfmaanmifdgaaCurDo
import Derived.Test.YtogfmaanmifdgaaCurWorks
import Derived.Test.YtogfmaanmifdgaaRecs
import Derived.Deep.LoopGhost
import Derived.Deep.DeepCutAuto
namespace Go.Proofs.Ytogfmaanmifdgaa.Walk
open Go.RowKit Go.Proofs.Ytogfmaanmifdgaa.Dig Go.Proofs.Ytogfmaanmifdgaa.Mem Go.Proofs.Ytogfmaanmifdgaa.Cur
set_option linter.unusedVariables false
set_option linter.unusedSimpArgs false

def PlayRel (w : World) (cb db : Nat) (a : Option Addr) (len cap : Nat) (z : Nat → Int) (n g : Nat) (k : Value) (wr : World) : Prop :=
  ∃ (i : Nat) (s : St), i ≤ n ∧ k = .int .i64 (i : Int) ∧ g = n - i ∧ Live wr cb a len cap z s ∧ Is wr db #[.slice a len cap, .int .i64 (s.at_ : Int), .int .i64 s.e, .int .i64 s.x] ∧ Below w.heap.size w wr
def PlayMid (w : World) (cb db : Nat) (a : Option Addr) (len cap : Nat) (z : Nat → Int) (s s' : St) (u is : Value) (wx : World) : Prop :=
  ∃ ub, u = .pointer (some ⟨ub, 0, none⟩) ∧ is = .bool true ∧ Live wx cb a len cap z s' ∧ Is wx db #[.slice a len cap, .int .i64 (s.at_ : Int), .int .i64 s.e, .int .i64 s.x] ∧
    Is wx ub #[.slice a len cap, .int .i64 (s'.at_ : Int), .int .i64 s'.e, .int .i64 s'.x] ∧ db < ub ∧ Below w.heap.size w wx
section
variable {w wr w4 : World} {cb db : Nat} {a : Option Addr} {len cap : Nat} {z : Nat → Int} {s s' : St}
/-- The new variable was laid behind the act .. -/
theorem mid_behind (hl : Live wr cb a len cap z s) (hd : Is wr db #[.slice a len cap, .int .i64 (s.at_ : Int), .int .i64 s.e, .int .i64 s.x]) (hb : Below w.heap.size w wr) (hcw : w.heap.size ≤ cb) (hcd : cb < db)
    (ho : Only (fun k => k = cb) wr.drew w4) (hc : Cur w4 cb a len cap s') (hat : s'.at_ ≤ len) (T : TypeId) :
    PlayMid w cb db a len cap z s s' (.pointer (some ⟨w4.heap.size, 0, none⟩)) (.bool true) (w4.alloc (.cells #[.slice a len cap, .int .i64 (s'.at_ : Int), .int .i64 s'.e, .int .i64 s'.x] T)) := by
  have hdl := hd.lt
  have hs : wr.heap.size ≤ w4.heap.size := ho.size
  have hb4 : Below w.heap.size w w4 := (hb.drew).only ho (fun i q => by omega) (by have := hb.size; exact this)
  exact ⟨_, rfl, rfl, ((hl.drewN 1).step ho hc hat).keep ((Below.refl _ _).alloc (Nat.le_refl _) _), (hd.drew.keep ho (by omega)).alloc _, Is.made _ _ _ rfl, by omega, hb4.alloc hb4.size _⟩
/-- .. or ahead of it. -/
theorem mid_ahead (hl : Live wr cb a len cap z s) (hd : Is wr db #[.slice a len cap, .int .i64 (s.at_ : Int), .int .i64 s.e, .int .i64 s.x]) (hb : Below w.heap.size w wr) (hcw : w.heap.size ≤ cb) (hcd : cb < db)
    {o : Array Value} {T : TypeId} (h4 : ∃ v0 v1 v2 v3, o = #[v0, v1, v2, v3]) (ho : Only (fun k => k = cb) (wr.alloc (.cells o T)).drew w4) (hc : Cur w4 cb a len cap s') (hat : s'.at_ ≤ len) :
    PlayMid w cb db a len cap z s s' (.pointer (some ⟨wr.heap.size, 0, none⟩)) (.bool true)
      ((((w4.setCell ⟨wr.heap.size, 0, none⟩ (.slice a len cap)).setCell ⟨wr.heap.size, 1, none⟩ (.int .i64 (s'.at_ : Int))).setCell ⟨wr.heap.size, 2, none⟩ (.int .i64 s'.e)).setCell ⟨wr.heap.size, 3, none⟩ (.int .i64 s'.x)) := by
  obtain ⟨v0, v1, v2, v3, rfl⟩ := h4
  have hdl := hd.lt
  have hbs := hb.size
  have hs : wr.heap.size + 1 ≤ w4.heap.size := by have := ho.size; simpa using this
  have hcl := hl.cur.lt
  have hb4 : Below w.heap.size w w4 := ((hb.alloc hbs _).drew).only ho (fun i q => by omega) (by show w.heap.size ≤ (wr.alloc _).heap.size; simp; omega)
  have hO : Only (fun k => k = wr.heap.size) w4 ((((w4.setCell ⟨wr.heap.size, 0, none⟩ (.slice a len cap)).setCell ⟨wr.heap.size, 1, none⟩ (.int .i64 (s'.at_ : Int))).setCell ⟨wr.heap.size, 2, none⟩ (.int .i64 s'.e)).setCell ⟨wr.heap.size, 3, none⟩ (.int .i64 s'.x)) :=
    ((((Only.refl _ _).put 0 _).put 1 _).put 2 _).put 3 _
  have hl4 : Live w4 cb a len cap z s' := ((hl.keep ((Below.refl _ _).alloc (Nat.le_refl _) _)).drewN 1).step ho hc hat
  have hi : Is w4 wr.heap.size #[v0, v1, v2, v3] := (Is.made wr _ T rfl).drew.keep ho (by omega)
  refine ⟨_, rfl, rfl, hl4.other hO (by omega) (fun hl0 x hx q => ?_), (((hd.alloc _).drew).keep ho (by omega)).keep hO (by omega), (((hi.set 0 _).set 1 _).set 2 _).set 3 _, by omega, hb4.only hO (fun i q => by omega) (by omega)⟩
  have := hl.rd.lt hl0 x hx
  omega
/-- The new state is copied into the old one's place. -/
theorem mid_copy {wx : World} {ub : Nat} (hl : Live wx cb a len cap z s') (hd : Is wx db #[.slice a len cap, .int .i64 (s.at_ : Int), .int .i64 s.e, .int .i64 s.x]) (hb : Below w.heap.size w wx) (hw : w.heap.size ≤ db) (hcd : cb < db)
    (hne : 0 < len → ∀ x, a = some x → x.block ≠ db) :
    Live ((((wx.setCell ⟨db, 0, none⟩ (.slice a len cap)).setCell ⟨db, 1, none⟩ (.int .i64 (s'.at_ : Int))).setCell ⟨db, 2, none⟩ (.int .i64 s'.e)).setCell ⟨db, 3, none⟩ (.int .i64 s'.x)) cb a len cap z s' ∧
    Is ((((wx.setCell ⟨db, 0, none⟩ (.slice a len cap)).setCell ⟨db, 1, none⟩ (.int .i64 (s'.at_ : Int))).setCell ⟨db, 2, none⟩ (.int .i64 s'.e)).setCell ⟨db, 3, none⟩ (.int .i64 s'.x)) db #[.slice a len cap, .int .i64 (s'.at_ : Int), .int .i64 s'.e, .int .i64 s'.x] ∧
    Below w.heap.size w ((((wx.setCell ⟨db, 0, none⟩ (.slice a len cap)).setCell ⟨db, 1, none⟩ (.int .i64 (s'.at_ : Int))).setCell ⟨db, 2, none⟩ (.int .i64 s'.e)).setCell ⟨db, 3, none⟩ (.int .i64 s'.x)) := by
  have hO : Only (fun k => k = db) wx ((((wx.setCell ⟨db, 0, none⟩ (.slice a len cap)).setCell ⟨db, 1, none⟩ (.int .i64 (s'.at_ : Int))).setCell ⟨db, 2, none⟩ (.int .i64 s'.e)).setCell ⟨db, 3, none⟩ (.int .i64 s'.x)) :=
    ((((Only.refl _ _).put 0 _).put 1 _).put 2 _).put 3 _
  exact ⟨hl.other hO (by omega) hne, (((hd.set 0 _).set 1 _).set 2 _).set 3 _, hb.only hO (fun i q => by omega) hb.size⟩
end
set_option maxHeartbeats 1000000 in
theorem walk_cursorPlays (w : World) (a0 : Option Addr) (len0 cap0 : Nat) (z0 : List Int) (w0 : Frame.IsRow .u8 w a0 len0 cap0 z0) (a1 : Option Addr) (len1 cap1 : Nat) (Y : Nat → Nat → Int) (w1 : Frame.IsRec [.i64, .u8, .i64, .i64] w a1 len1 cap1 Y) :
    Calls Try.prog 3 #[.slice a0 len0 cap0, .slice a1 len1 cap1] w fun e w' => e = .returned (.bool true) ∧ Below w.heap.size w w' := by
  by_cases hbig : 300 < len0 ∨ 60 < len1
  · have W : Hid (Calls Try.prog 7 #[] w fun e w' => e = .returned (.bool true) ∧ Below w.heap.size w w') := works_any w
    have hc0 := w0.cap
    have hc1 := w1.cap
    by_cases h0 : 300 < len0
    · go_enter Try.func3, Try.ntmps3
      go_wp2_with (go_at_call 7; refine W.out.mono ?_; rintro e w9 ⟨rfl, hb9⟩)
      go_ret
      exact ⟨rfl, hb9⟩
    · have h1 : 60 < len1 := by omega
      clear hbig
      go_enter Try.func3, Try.ntmps3
      go_wp2_with (go_at_call 7; refine W.out.mono ?_; rintro e w9 ⟨rfl, hb9⟩)
      go_ret
      exact ⟨rfl, hb9⟩
  · have h0 : len0 ≤ 300 := by omega
    have h1 : len1 ≤ 60 := by omega
    have g0 : ¬ (300 : Int) < len0 := by omega
    have g1 : ¬ (60 : Int) < len1 := by omega
    have hrd : Hid (Rd .u8 w a0 len0 (fun i => z0.getD i 0)) := w0.rd (by omega)
    have hcap : Hid (len0 ≤ cap0) := w0.cap.1
    have hrec : Hid (Frame.RdRec [.i64, .u8, .i64, .i64] w a1 len1 Y) := w1.rd (by decide)
    clear hbig w0 w1
    go_enter Try.func3, Try.ntmps3
    go_wp2_with (go_at_call 8; refine (new_live _ _ a0 len0 cap0 _ rfl hrd.out hcap.out).mono ?_; rintro e w2 ⟨rfl, ho, hl⟩)
    obtain ⟨db, hdb⟩ : ∃ db, w2.heap.size = db := ⟨_, rfl⟩
    rw [hdb]
    have hcd : w.heap.size < db := by rw [← hdb]; exact hl.cur.lt
    have R0 : Hid (PlayRel w w.heap.size db a0 len0 cap0 (fun i => z0.getD i 0) len1 len1 (.int .i64 0) (w2.alloc (.cells #[.slice a0 len0 cap0, .int .i64 0, .int .i64 0, .int .i64 0] 28))) :=
      ⟨0, ⟨0, 0, 0⟩, by omega, rfl, rfl, hl.keep ((Below.refl _ _).alloc (Nat.le_refl _) _), Is.made _ _ _ hdb.symm, ((Below.refl _ _).only ho (fun i q => q.elim) (Nat.le_refl _)).alloc (by rw [hdb]; omega) _⟩
    have HDB : Hid (w2.heap.size = db) := hdb
    clear hl ho hdb
    go_loopg [7] len1 (fun g k wr => PlayRel w w.heap.size db a0 len0 cap0 (fun i => z0.getD i 0) len1 g k wr)
    case atStart => exact R0.out
    case round =>
      obtain ⟨k, s, hk, rfl, hg, hl, hd, hb⟩ := hrel
      by_cases hlt : k < len1
      · obtain ⟨b1, o1, rfl, hb1, e0, e1, e2, e3, _⟩ := (hrec.out.keep (by decide) hb).four hlt
        obtain ⟨⟨c0, c1, c2, c3⟩, f0, f1, f2, f3⟩ := hd.four
        have hsd := hd.lt
        have hlen : (k : Int) < (len1 : Int) := by omega
        have HD1 := do_any w.heap.size a0 len0 cap0 s s _ (Y k 0) (Y k 1) (Y k 2) (Y k 3) wr.drew (hl.drewN 1) hl.at_
        have HD2 := do_any w.heap.size a0 len0 cap0 s s _ (Y k 0) (Y k 1) (Y k 2) (Y k 3) (wr.alloc (.cells #[.slice none 0 0, .int .i64 0, .int .i64 0, .int .i64 0] 28)).drew ((hl.keep ((Below.refl _ _).alloc (Nat.le_refl _) _)).drewN 1) hl.at_
        obtain ⟨s', hs'⟩ : ∃ s', doS (fun i => z0.getD i 0) len0 s (Y k 0) (Y k 1) (Y k 2) (Y k 3) = s' := ⟨_, rfl⟩
        rw [hs'] at HD1 HD2
        replace HD1 := hide HD1
        replace HD2 := hide HD2
        have HL : Hid (Live wr w.heap.size a0 len0 cap0 (fun i => z0.getD i 0) s) := hl
        have HD : Hid (Is wr db _) := hd
        have HB : Hid (Below w.heap.size w wr) := hb
        have hat : s'.at_ ≤ len0 := by rw [← hs']; exact doS_at hl.at_
        clear hs' hl hd hb
        go_upto_region 8 with fail
        go_cut [8, 9] (fun u is wx => PlayMid w w.heap.size db a0 len0 cap0 (fun i => z0.getD i 0) s s' u is wx)
        case first =>
          go_region_with (first | (go_at_call 9; (with_reducible refine HD1.out.mono ?_); rintro e w4 ⟨r, rfl, hr, ho, hc⟩; obtain rfl : r = true := hr rfl; have M := hide (mid_behind HL.out HD.out HB.out (Nat.le_refl _) hcd ho hc hat 28); clear hr ho hc) | (go_at_call 9; (with_reducible refine HD2.out.mono ?_); rintro e w4 ⟨r, rfl, hr, ho, hc⟩; obtain rfl : r = true := hr rfl; obtain ⟨⟨k0, k1, k2, k3⟩, m0, m1, m2, m3⟩ := ((Is.made wr _ _ rfl).drew.keep ho (by omega)).four; have M := hide (mid_ahead HL.out HD.out HB.out (Nat.le_refl _) hcd ⟨_, _, _, _, rfl⟩ ho hc hat); clear hr ho hc))
          all_goals
            go_simp
            go_wp2_with fail
            go_meet
            case rel => exact M.out
        case rest =>
          obtain ⟨ub, rfl, rfl, hl', hd', hu', hub, hb'⟩ := hcut
          obtain ⟨⟨c0, c1, c2, c3⟩, f0, f1, f2, f3⟩ := hd'.four
          obtain ⟨⟨k0, k1, k2, k3⟩, m0, m1, m2, m3⟩ := hu'.four
          obtain ⟨q1, q2, q3⟩ := mid_copy (ub := ub) hl' hd' hb' (by omega) hcd (fun h x hx q => by have := hrd.out.lt h x hx; omega)
          have Q1 := hide q1
          have Q2 := hide q2
          have Q3 := hide q3
          clear hl' hd' hu' hb' q1 q2 q3 e0 e1 e2 e3 HD1 HD2
          go_wp2_with (go_at_call 10; refine (err_any w.heap.size a0 len0 cap0 s' _ Q1.out.cur).mono ?_; rintro e wy ⟨rfl, hw⟩; have R1 : Hid (Live wy w.heap.size a0 len0 cap0 (fun i => z0.getD i 0) s') := (by obtain ⟨n, rfl⟩ := hw; exact Q1.out.drewN n); have R2 : Hid (Is wy db #[.slice a0 len0 cap0, .int .i64 (s'.at_ : Int), .int .i64 s'.e, .int .i64 s'.x]) := (by obtain ⟨n, rfl⟩ := hw; exact Q2.out.drewN n); have R3 : Hid (Below w.heap.size w wy) := (by obtain ⟨n, rfl⟩ := hw; exact Q3.out.only ((Only.refl (fun _ => False) _).drewN n) (fun i q => q.elim) Q3.out.size); clear hw Q1 Q2 Q3 c0 c1 c2 c3 f0 f1 f2 f3 k0 k1 k2 k3 m0 m1 m2 m3; obtain ⟨⟨x0, x1, x2, x3⟩, y0, y1, y2, y3⟩ := R2.out.four)
          go_quiet ((go_at_call 11; exact Calls.quiet_of_same (at_any w.heap.size a0 len0 cap0 s' _ (R1.out.cur.drewN _))))
          go_wp2
          have RR : Hid (PlayRel w w.heap.size db a0 len0 cap0 (fun i => z0.getD i 0) len1 (len1 - (k + 1)) (.int .i64 ((k : Int) + 1)) (wy.drewN nq)) :=
            ⟨k + 1, s', by omega, by go_num, rfl, R1.out.drewN nq, R2.out.drewN nq, R3.out.only ((Only.refl (fun _ => False) _).drewN nq) (fun i q => q.elim) R3.out.size⟩
          go_roundg (len1 - (k + 1))
          case rel => exact RR.out
          case measure => omega
      · have hb' := hb
        have HB : Hid (Below w.heap.size w wr) := hb
        clear hl hd hb hb'
        go_wp2_with (go_at_call 7; refine (works_any _).mono ?_; rintro e w9 ⟨rfl, hb9⟩)
        go_ret
        exact ⟨rfl, HB.out.trans (hb9.mono HB.out.size)⟩
end Go.Proofs.Ytogfmaanmifdgaa.Walk
