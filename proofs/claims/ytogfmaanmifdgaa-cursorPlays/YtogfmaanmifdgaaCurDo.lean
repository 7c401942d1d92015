/- One act, by the program and by the document: both go on alike. -/
import Derived.Test.YtogfmaanmifdgaaCurLive
namespace Go.Proofs.Ytogfmaanmifdgaa.Cur
open Go.RowKit Go.Proofs.Ytogfmaanmifdgaa.Dig Go.Proofs.Ytogfmaanmifdgaa.Mem
set_option linter.unusedVariables false
set_option linter.unusedSimpArgs false

/-- Three blocks that were laid ahead of a call that may turn block b alone, behind it. -/
theorem three_boxes {b : Nat} {w w' : World} {c d f : Array Value} {T U V : TypeId} (ho : Only (fun k => k = b) (((w.alloc (.cells c T)).alloc (.cells d U)).alloc (.cells f V)) w') (hb : b < w.heap.size) :
    Is w' w.heap.size c ∧ Is w' (w.heap.size + 1) d ∧ Is w' (w.heap.size + 1 + 1) f ∧ Only (fun k => k = b) w w' ∧ w.heap.size + 1 + 1 < w'.heap.size := by
  have hs := ho.size
  simp at hs
  exact ⟨(((Is.made w c T rfl).alloc _).alloc _).keep ho (by omega), ((Is.made _ d U (by simp)).alloc _).keep ho (by omega), (Is.made _ f V (by simp)).keep ho (by omega), ((((Only.refl _ _).alloc _).alloc _).alloc _).trans' ho (fun i q => .inl q), by omega⟩
theorem live3 {w : World} {b : Nat} {a : Option Addr} {len cap : Nat} {z : Nat → Int} {s : St} (h : Live w b a len cap z s) (o1 o2 o3 : Obj) : Live (((w.alloc o1).alloc o2).alloc o3) b a len cap z s :=
  h.keep ((((Below.refl _ _).alloc (Nat.le_refl _) _).alloc (by simp) _).alloc (by simp; omega) _)
/-- What an act does to a state. -/
def doS (z : Nat → Int) (len : Nat) (s : St) (d x e n : Int) : St :=
  if d = 0 then byteS z len s x else if d = 1 then (numS z len s).1 else if d = 2 then (listS z len s).1 else if d = 3 then failS s e n else s
theorem doS_at {z : Nat → Int} {len : Nat} {s : St} {d x e n : Int} (h : s.at_ ≤ len) : (doS z len s d x e n).at_ ≤ len := by
  unfold doS
  split
  · exact byteS_at h
  · split
    · exact numS_at h
    · split
      · exact listS_at h
      · split
        · rw [failS_at]; exact h
        · exact h
theorem doS_stuck {z : Nat → Int} {len : Nat} {s : St} {d x e n : Int} (h : s.e ≠ 0) : doS z len s d x e n = s := by
  unfold doS byteS numS listS failS
  simp [h]
def DoPost (b : Nat) (a : Option Addr) (len cap : Nat) (s t s' t' : St) (w : World) (e : Ending) (w' : World) : Prop :=
  ∃ r, e = .returned (.tuple #[.agg #[.slice a len cap, .int .i64 (t'.at_ : Int), .int .i64 t'.e, .int .i64 t'.x], .bool r]) ∧ (t = s → r = true) ∧ Only (fun k => k = b) w w' ∧ Cur w' b a len cap s'

/-- Peek, whatever the state. -/
def peekL (z : Nat → Int) (len : Nat) (s : St) : Int × Bool := if s.e = 0 then peekS z len s.at_ else (0, false)
theorem peek_live (b : Nat) (a : Option Addr) (len cap : Nat) (s : St) (z : Nat → Int) (w : World) (h : Live w b a len cap z s) :
    Calls Try.prog 13 #[.pointer (some ⟨b, 0, none⟩)] w fun e w' => e = .returned (.tuple #[.int .u8 (peekL z len s).1, .bool (peekL z len s).2]) ∧ ∃ n, w' = w.drewN n := by
  by_cases he : s.e = 0
  · rw [show peekL z len s = peekS z len s.at_ from if_pos he]
    exact peek_any b a len cap s z w h.cur h.rd he
  · rw [show peekL z len s = (0, false) from if_neg he]
    exact (peek_no b a len cap s w h.cur he).mono fun e w' ⟨h1, h2⟩ => ⟨h1, 0, h2⟩
theorem rpeek_live (a : Option Addr) (len cap : Nat) (s : St) (z : Nat → Int) (w : World) (hr : Rd .u8 w a len z) :
    Calls Try.prog 24 #[.agg #[.slice a len cap, .int .i64 (s.at_ : Int), .int .i64 s.e, .int .i64 s.x]] w fun e w' => e = .returned (.tuple #[.int .u8 (peekL z len s).1, .bool (peekL z len s).2]) ∧ Below w.heap.size w w' := by
  by_cases he : s.e = 0
  · rw [show peekL z len s = peekS z len s.at_ from if_pos he]
    exact rpeek_any a len cap s z w hr he
  · rw [show peekL z len s = (0, false) from if_neg he]
    exact rpeek_no a len cap s w he
theorem do_end {b : Nat} {w w5 : World} {a : Option Addr} {len cap : Nat} {s' : St} (hO : Only (fun k => k = b) w w5) (hc : Cur w5 b a len cap s') (hb : b < w.heap.size) (v0 v1 v2 v3 : Value) :
    Only (fun k => k = b) w ((((w5.setCell ⟨w.heap.size + 1 + 1, 0, none⟩ v0).setCell ⟨w.heap.size + 1 + 1, 1, none⟩ v1).setCell ⟨w.heap.size + 1 + 1, 2, none⟩ v2).setCell ⟨w.heap.size + 1 + 1, 3, none⟩ v3) ∧
    Cur ((((w5.setCell ⟨w.heap.size + 1 + 1, 0, none⟩ v0).setCell ⟨w.heap.size + 1 + 1, 1, none⟩ v1).setCell ⟨w.heap.size + 1 + 1, 2, none⟩ v2).setCell ⟨w.heap.size + 1 + 1, 3, none⟩ v3) b a len cap s' := by
  have h1 : w.heap.size ≤ w.heap.size + 1 + 1 := by omega
  have h2 : w.heap.size + 1 + 1 ≠ b := by omega
  exact ⟨(((hO.setCell (p := ⟨_, _, _⟩) (.inr h1) _).setCell (p := ⟨_, _, _⟩) (.inr h1) _).setCell (p := ⟨_, _, _⟩) (.inr h1) _).setCell (p := ⟨_, _, _⟩) (.inr h1) _, (((Is.other hc (p := ⟨_, _, _⟩) h2 _).other (p := ⟨_, _, _⟩) h2 _).other (p := ⟨_, _, _⟩) h2 _).other (p := ⟨_, _, _⟩) h2 _⟩
theorem do_end' {b : Nat} {w w5 : World} {a : Option Addr} {len cap : Nat} {s' : St} (hO : Only (fun k => k = b) w w5) (hc : Cur w5 b a len cap s') (hb : b < w.heap.size) (v0 v1 v2 v3 : Value) (o : Obj) :
    Only (fun k => k = b) w (((((w5.setCell ⟨w.heap.size + 1 + 1, 0, none⟩ v0).setCell ⟨w.heap.size + 1 + 1, 1, none⟩ v1).setCell ⟨w.heap.size + 1 + 1, 2, none⟩ v2).setCell ⟨w.heap.size + 1 + 1, 3, none⟩ v3).alloc o) ∧
    Cur (((((w5.setCell ⟨w.heap.size + 1 + 1, 0, none⟩ v0).setCell ⟨w.heap.size + 1 + 1, 1, none⟩ v1).setCell ⟨w.heap.size + 1 + 1, 2, none⟩ v2).setCell ⟨w.heap.size + 1 + 1, 3, none⟩ v3).alloc o) b a len cap s' :=
  ⟨(do_end hO hc hb v0 v1 v2 v3).1.alloc o, Is.alloc (do_end hO hc hb v0 v1 v2 v3).2 o⟩

set_option maxHeartbeats 1000000 in
theorem do_byte (b : Nat) (a : Option Addr) (len cap : Nat) (s t : St) (z : Nat → Int) (x E N : Int) (w : World) (h : Live w b a len cap z s) (ht : t.at_ ≤ len) :
    Calls Try.prog 9 #[.pointer (some ⟨b, 0, none⟩), .agg #[.slice a len cap, .int .i64 (t.at_ : Int), .int .i64 t.e, .int .i64 t.x], .agg #[.int .i64 0, .int .u8 x, .int .i64 E, .int .i64 N]] w fun e w' => DoPost b a len cap s t (byteS z len s x) (byteS z len t x) w e w' := by
  have H : Hid (Live w b a len cap z s) := h
  have hb : b < w.heap.size := h.cur.lt
  have HB : Hid (b < w.heap.size) := hb
  have ht' : Hid (t.at_ ≤ len) := ht
  clear h ht
  go_enter Try.func9, Try.ntmps9
  go_wp2_with (first | (go_at_call 16; refine (byte_live b a len cap s z x _ (live3 H.out _ _ _)).mono ?_; rintro e w4 ⟨rfl, ho, hl⟩; obtain ⟨i1, i2, i3, hO, hsz⟩ := three_boxes ho hb; obtain ⟨⟨c0, c1, c2, c3⟩, f0, f1, f2, f3⟩ := i1.four; obtain ⟨⟨d0, d1, d2, d3⟩, g0, g1, g2, g3⟩ := i2.four; have I3 : Hid (Is w4 (w.heap.size + 1 + 1) _) := i3; have HL : Hid (Live w4 b a len cap z _) := hl; have HO : Hid (Only (fun k => k = b) w w4) := hO; clear ho hl i1 i2 i3 hO) | (go_at_call 19; refine (rbyte_any a len cap t z x _ HL.out.rd).mono ?_; rintro e w5 ⟨rfl, hb5⟩; have j3 := I3.out.below hb5; obtain ⟨⟨k0, k1, k2, k3⟩, m0, m1, m2, m3⟩ := j3.four; have hsz5 := hb5.size; have HO5 : Hid (Only (fun k => k = b) w w5) := HO.out.trans' (Only.of_below (S := fun _ => False) hb5) (fun i q => q.elim); have HL5 : Hid (Live w5 b a len cap z _) := HL.out.keep hb5; have hz5 : w.heap.size + 1 + 1 < w5.heap.size := (by omega); clear hb5 j3 c0 c1 c2 c3 f0 f1 f2 f3 d0 d1 d2 d3 g0 g1 g2 g3))
  exact bodyPost_ret (v := .tuple #[.agg #[.slice a len cap, .int .i64 ((byteS z len t x).at_ : Int), .int .i64 (byteS z len t x).e, .int .i64 (byteS z len t x).x], .bool true]) (by simp [results, Try.results9, go_sem, k0, k1, k2, k3]) rfl ⟨true, rfl, fun _ => rfl, do_end HO5.out HL5.out.cur HB.out _ _ _ _⟩
set_option maxHeartbeats 1000000 in
theorem do_fail (b : Nat) (a : Option Addr) (len cap : Nat) (s t : St) (z : Nat → Int) (x E N : Int) (w : World) (h : Live w b a len cap z s) (ht : t.at_ ≤ len) :
    Calls Try.prog 9 #[.pointer (some ⟨b, 0, none⟩), .agg #[.slice a len cap, .int .i64 (t.at_ : Int), .int .i64 t.e, .int .i64 t.x], .agg #[.int .i64 3, .int .u8 x, .int .i64 E, .int .i64 N]] w fun e w' => DoPost b a len cap s t (failS s E N) (failS t E N) w e w' := by
  have H : Hid (Live w b a len cap z s) := h
  have hb : b < w.heap.size := h.cur.lt
  have HB : Hid (b < w.heap.size) := hb
  have ht' : Hid (t.at_ ≤ len) := ht
  clear h ht
  go_enter Try.func9, Try.ntmps9
  go_wp2_with (first | (go_at_call 12; refine (fail_live b a len cap s z E N _ (live3 H.out _ _ _)).mono ?_; rintro e w4 ⟨rfl, ho, hl⟩; obtain ⟨i1, i2, i3, hO, hsz⟩ := three_boxes ho hb; obtain ⟨⟨c0, c1, c2, c3⟩, f0, f1, f2, f3⟩ := i1.four; obtain ⟨⟨d0, d1, d2, d3⟩, g0, g1, g2, g3⟩ := i2.four; have I3 : Hid (Is w4 (w.heap.size + 1 + 1) _) := i3; have HL : Hid (Live w4 b a len cap z _) := hl; have HO : Hid (Only (fun k => k = b) w w4) := hO; clear ho hl i1 i2 i3 hO) | (go_at_call 23; refine (rfail_any E N a len cap t _).mono ?_; rintro e w5 ⟨rfl, hb5⟩; have j3 := I3.out.below hb5; obtain ⟨⟨k0, k1, k2, k3⟩, m0, m1, m2, m3⟩ := j3.four; have hsz5 := hb5.size; have HO5 : Hid (Only (fun k => k = b) w w5) := HO.out.trans' (Only.of_below (S := fun _ => False) hb5) (fun i q => q.elim); have HL5 : Hid (Live w5 b a len cap z _) := HL.out.keep hb5; have hz5 : w.heap.size + 1 + 1 < w5.heap.size := (by omega); clear hb5 j3 c0 c1 c2 c3 f0 f1 f2 f3 d0 d1 d2 d3 g0 g1 g2 g3))
  exact bodyPost_ret (v := .tuple #[.agg #[.slice a len cap, .int .i64 ((failS t E N).at_ : Int), .int .i64 (failS t E N).e, .int .i64 (failS t E N).x], .bool true]) (by simp [results, Try.results9, go_sem, k0, k1, k2, k3]) rfl ⟨true, rfl, fun _ => rfl, do_end HO5.out HL5.out.cur HB.out _ _ _ _⟩
set_option maxHeartbeats 1000000 in
theorem do_num (b : Nat) (a : Option Addr) (len cap : Nat) (s t : St) (z : Nat → Int) (x E N : Int) (w : World) (h : Live w b a len cap z s) (ht : t.at_ ≤ len) :
    Calls Try.prog 9 #[.pointer (some ⟨b, 0, none⟩), .agg #[.slice a len cap, .int .i64 (t.at_ : Int), .int .i64 t.e, .int .i64 t.x], .agg #[.int .i64 1, .int .u8 x, .int .i64 E, .int .i64 N]] w fun e w' => DoPost b a len cap s t ((numS z len s).1) ((numS z len t).1) w e w' := by
  have H : Hid (Live w b a len cap z s) := h
  have hb : b < w.heap.size := h.cur.lt
  have HB : Hid (b < w.heap.size) := hb
  have ht' : Hid (t.at_ ≤ len) := ht
  clear h ht
  go_enter Try.func9, Try.ntmps9
  go_wp2_with (first | (go_at_call 14; refine (num_live b a len cap s z _ (live3 H.out _ _ _)).mono ?_; rintro e w4 ⟨rfl, ho, hl⟩; obtain ⟨i1, i2, i3, hO, hsz⟩ := three_boxes ho hb; obtain ⟨⟨c0, c1, c2, c3⟩, f0, f1, f2, f3⟩ := i1.four; obtain ⟨⟨d0, d1, d2, d3⟩, g0, g1, g2, g3⟩ := i2.four; have I3 : Hid (Is w4 (w.heap.size + 1 + 1) _) := i3; have HL : Hid (Live w4 b a len cap z _) := hl; have HO : Hid (Only (fun k => k = b) w w4) := hO; clear ho hl i1 i2 i3 hO) | (go_at_call 20; refine (rnum_any a len cap t z _ HL.out.rd HL.out.cap ht'.out).mono ?_; rintro e w5 ⟨rfl, hb5⟩; have j3 := I3.out.below hb5; obtain ⟨⟨k0, k1, k2, k3⟩, m0, m1, m2, m3⟩ := j3.four; have hsz5 := hb5.size; have HO5 : Hid (Only (fun k => k = b) w w5) := HO.out.trans' (Only.of_below (S := fun _ => False) hb5) (fun i q => q.elim); have HL5 : Hid (Live w5 b a len cap z _) := HL.out.keep hb5; have hz5 : w.heap.size + 1 + 1 < w5.heap.size := (by omega); clear hb5 j3 c0 c1 c2 c3 f0 f1 f2 f3 d0 d1 d2 d3 g0 g1 g2 g3))
  exact bodyPost_ret (v := .tuple #[.agg #[.slice a len cap, .int .i64 (((numS z len t).1).at_ : Int), .int .i64 ((numS z len t).1).e, .int .i64 ((numS z len t).1).x], .bool ((numS z len s).2 == (numS z len t).2)]) (by simp [results, Try.results9, go_sem, k0, k1, k2, k3, hz5]) rfl ⟨((numS z len s).2 == (numS z len t).2), rfl, fun q => by subst q; simp, do_end' HO5.out HL5.out.cur HB.out _ _ _ _ _⟩
set_option maxHeartbeats 1000000 in
theorem do_list (b : Nat) (a : Option Addr) (len cap : Nat) (s t : St) (z : Nat → Int) (x E N : Int) (w : World) (h : Live w b a len cap z s) (ht : t.at_ ≤ len) :
    Calls Try.prog 9 #[.pointer (some ⟨b, 0, none⟩), .agg #[.slice a len cap, .int .i64 (t.at_ : Int), .int .i64 t.e, .int .i64 t.x], .agg #[.int .i64 2, .int .u8 x, .int .i64 E, .int .i64 N]] w fun e w' => DoPost b a len cap s t ((listS z len s).1) ((listS z len t).1) w e w' := by
  have H : Hid (Live w b a len cap z s) := h
  have hb : b < w.heap.size := h.cur.lt
  have HB : Hid (b < w.heap.size) := hb
  have ht' : Hid (t.at_ ≤ len) := ht
  clear h ht
  go_enter Try.func9, Try.ntmps9
  go_wp2_with (first | (go_at_call 15; refine (list_live b a len cap s z _ (live3 H.out _ _ _)).mono ?_; rintro e w4 ⟨a1, c1, rfl, ho, hl, hr1, hc1, hx1⟩; have HR1 : Hid (Rd .i64 w4 a1 _ _) := hr1; clear hr1 hc1 hx1; obtain ⟨i1, i2, i3, hO, hsz⟩ := three_boxes ho hb; obtain ⟨⟨c0, c1, c2, c3⟩, f0, f1, f2, f3⟩ := i1.four; obtain ⟨⟨d0, d1, d2, d3⟩, g0, g1, g2, g3⟩ := i2.four; have I3 : Hid (Is w4 (w.heap.size + 1 + 1) _) := i3; have HL : Hid (Live w4 b a len cap z _) := hl; have HO : Hid (Only (fun k => k = b) w w4) := hO; clear ho hl i1 i2 i3 hO) | (go_at_call 21; refine (rclist_any a len cap t z _ HL.out.rd HL.out.cap ht'.out).mono ?_; rintro e w5 ⟨a2, c2', rfl, hb5, hr2⟩; have I5 : Hid (Is w5 (w.heap.size + 1 + 1) _) := I3.out.below hb5; have hsz5 := hb5.size; have HO5 : Hid (Only (fun k => k = b) w w5) := HO.out.trans' (Only.of_below (S := fun _ => False) hb5) (fun i q => q.elim); have HL5 : Hid (Live w5 b a len cap z _) := HL.out.keep hb5; have hz5 : w.heap.size + 1 + 1 < w5.heap.size := (by omega); have HS : Hid (∀ o c d, Calls Try.prog 22 #[.slice a1 (listS z len s).2.length c, .slice a2 (listS z len t).2.length d] (w5.alloc o).drew fun e w' => ∃ r, e = .returned (.bool r) ∧ Below (w5.alloc o).drew.heap.size (w5.alloc o).drew w' ∧ (((listS z len s).2.length = (listS z len t).2.length ∧ ∀ i, i < (listS z len s).2.length → (listS z len s).2.getD i 0 = (listS z len t).2.getD i 0) → r = true)) := fun o c d => same_some a1 a2 _ _ c d _ _ _ ((HR1.out.keep hb5).keep (((Below.refl _ _).alloc (Nat.le_refl _) _).drew)) (hr2.keep (((Below.refl _ _).alloc (Nat.le_refl _) _).drew)); clear hb5 hr2 c0 c1 c2 c3 f0 f1 f2 f3 d0 d1 d2 d3 g0 g1 g2 g3))
  go_region_with (go_at_call 22; refine (HS.out _ _ _).mono ?_; rintro e w7 ⟨r, rfl, hb7, hr⟩; obtain ⟨⟨k0, k1, k2, k3⟩, m0, m1, m2, m3⟩ := (((I5.out.alloc _).drew).below hb7).four; obtain ⟨⟨u0, u1, u2, u3⟩, v0, v1, v2, v3⟩ := (((Is.made w5 _ _ rfl).drew).below hb7).four; have hsz7 := hb7.size; have HO7 : Hid (Only (fun k => k = b) w w7) := ((HO5.out.alloc _).drew).trans' (Only.of_below (S := fun _ => False) hb7) (fun i q => q.elim); have HC7 : Hid (Cur w7 b a len cap _) := Is.below ((Is.alloc HL5.out.cur _).drew) hb7; have HRR : Hid (_ → r = true) := hr; clear hb7 hr)
  all_goals
    go_simp
    go_wp2
    exact bodyPost_ret (v := .tuple #[.agg #[.slice a len cap, .int .i64 ((listS z len t).1.at_ : Int), .int .i64 (listS z len t).1.e, .int .i64 (listS z len t).1.x], .bool r]) (by simp [results, Try.results9, go_sem, k0, k1, k2, k3]) rfl ⟨r, rfl, fun q => HRR.out (by subst q; exact ⟨rfl, fun _ _ => rfl⟩), do_end HO7.out HC7.out HB.out _ _ _ _⟩
set_option maxHeartbeats 1000000 in
theorem do_peek (b : Nat) (a : Option Addr) (len cap : Nat) (s t : St) (z : Nat → Int) (d x E N : Int) (w : World) (h : Live w b a len cap z s) (ht : t.at_ ≤ len) (n0 : (d == 0) = false) (n1 : (d == 1) = false) (n2 : (d == 2) = false) (n3 : (d == 3) = false) :
    Calls Try.prog 9 #[.pointer (some ⟨b, 0, none⟩), .agg #[.slice a len cap, .int .i64 (t.at_ : Int), .int .i64 t.e, .int .i64 t.x], .agg #[.int .i64 d, .int .u8 x, .int .i64 E, .int .i64 N]] w fun e w' => DoPost b a len cap s t (s) (t) w e w' := by
  have H : Hid (Live w b a len cap z s) := h
  have hb : b < w.heap.size := h.cur.lt
  have HB : Hid (b < w.heap.size) := hb
  have ht' : Hid (t.at_ ≤ len) := ht
  clear h ht
  have HRd : Hid (∀ o1 o2 o3 n, Rd .u8 ((((w.alloc o1).alloc o2).alloc o3).drewN n) a len z) := fun o1 o2 o3 n => (live3 H.out o1 o2 o3).rd.only ((Only.refl (fun _ => False) _).drewN n) (fun _ _ q => q)
  have HLd : Hid (∀ o1 o2 o3, Cur (((w.alloc o1).alloc o2).alloc o3) b a len cap s) := fun o1 o2 o3 => (live3 H.out o1 o2 o3).cur
  go_enter Try.func9, Try.ntmps9
  go_wp2_with (first | (go_at_call 13; refine (peek_live b a len cap s z _ (live3 H.out _ _ _)).mono ?_; rintro e w4 ⟨rfl, np, rfl⟩) | (go_at_call 24; refine (rpeek_live a len cap t z _ (HRd.out _ _ _ _)).mono ?_; rintro e w5 ⟨rfl, hb5⟩; obtain ⟨i1, i2, i3, hO, hsz⟩ := three_boxes (b := b) (((Only.refl _ _).drewN _).trans (Only.of_below hb5)) hb; obtain ⟨⟨c0, c1, c2, c3⟩, f0, f1, f2, f3⟩ := i1.four; obtain ⟨⟨k0, k1, k2, k3⟩, m0, m1, m2, m3⟩ := i3.four; have HO5 : Hid (Only (fun k => k = b) w w5) := hO; have HC5 : Hid (Cur w5 b a len cap s) := Is.below ((HLd.out _ _ _).drewN _) hb5; clear hb5 i1 i2 i3 hO))
  · exact bodyPost_ret (v := .tuple #[.agg #[.slice a len cap, .int .i64 (t.at_ : Int), .int .i64 t.e, .int .i64 t.x], .bool ((peekL z len s).2 == (peekL z len t).2)]) (by simp [results, Try.results9, go_sem, k0, k1, k2, k3]) rfl ⟨_, rfl, fun q => by subst q; simp, do_end HO5.out HC5.out HB.out _ _ _ _⟩
  · have ge : ¬ (peekL z len s).1 = (peekL z len t).1 := by assumption
    have hne : ¬ t = s := by rintro rfl; exact ge rfl
    exact bodyPost_ret (v := .tuple #[.agg #[.slice a len cap, .int .i64 (t.at_ : Int), .int .i64 t.e, .int .i64 t.x], .bool false]) (by simp [results, Try.results9, go_sem, k0, k1, k2, k3]) rfl ⟨false, rfl, fun q => absurd q hne, do_end HO5.out HC5.out HB.out _ _ _ _⟩
theorem do_any (b : Nat) (a : Option Addr) (len cap : Nat) (s t : St) (z : Nat → Int) (d x E N : Int) (w : World) (h : Live w b a len cap z s) (ht : t.at_ ≤ len) :
    Calls Try.prog 9 #[.pointer (some ⟨b, 0, none⟩), .agg #[.slice a len cap, .int .i64 (t.at_ : Int), .int .i64 t.e, .int .i64 t.x], .agg #[.int .i64 d, .int .u8 x, .int .i64 E, .int .i64 N]] w fun e w' => DoPost b a len cap s t (doS z len s d x E N) (doS z len t d x E N) w e w' := by
  by_cases h0 : d = 0
  · subst h0
    exact do_byte b a len cap s t z x E N w h ht
  by_cases h1 : d = 1
  · subst h1
    exact do_num b a len cap s t z x E N w h ht
  by_cases h2 : d = 2
  · subst h2
    exact do_list b a len cap s t z x E N w h ht
  by_cases h3 : d = 3
  · subst h3
    exact do_fail b a len cap s t z x E N w h ht
  · have e : ∀ u, doS z len u d x E N = u := fun u => by rw [doS, if_neg h0, if_neg h1, if_neg h2, if_neg h3]
    rw [e, e]
    exact do_peek b a len cap s t z d x E N w h ht (by simpa using h0) (by simpa using h1) (by simpa using h2) (by simpa using h3)
end Go.Proofs.Ytogfmaanmifdgaa.Cur
