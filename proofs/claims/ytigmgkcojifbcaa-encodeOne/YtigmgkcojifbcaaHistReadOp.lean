/- The reader's readOp. -/
import Derived.Test.YtigmgkcojifbcaaHistRd
namespace Go.Proofs.Ytigmgkcojifbcaa.Hist
open Go.RowKit Go.Proofs.Ytigmgkcojifbcaa.Dig Go.Proofs.Ytigmgkcojifbcaa.Mem Go.Proofs.Ytigmgkcojifbcaa.Cur Go.Proofs.Ytigmgkcojifbcaa.Keys
set_option linter.unusedVariables false
set_option linter.unusedSimpArgs false
attribute [local go_sem ↓] Go.wp_at_zero Go.wp_at_succ

/-- What a read's two calls leave: the operation in a variable of the call's own. -/
def ReadMid (w : World) (rb cb nb vb ob : Nat) (most ops : Int) (tv : Value) (a : Option Addr) (len cap : Nat) (z : Nat → Int) (s : St) (k : Int) (l : List Int) (x : Value) (wx : World) : Prop :=
  ∃ xb lv, x = .pointer (some ⟨xb, 0, none⟩) ∧ w.heap.size < xb ∧ Is wx xb #[.bool true, .int .i64 k, .int .i64 0, lv] ∧ Is wx ob #[.bool false, .int .i64 0, .int .i64 0, .slice none 0 0] ∧ IntsAt (fun b => ob < b) wx lv l ∧
    Live wx cb a len cap z s ∧ Rdr wx rb cb most ops nb vb tv ∧ Only (fun k => k = cb) w wx
def ReadAt (w : World) (rb cb nb vb ob : Nat) (most ops : Int) (tv : Value) (a : Option Addr) (len cap : Nat) (z : Nat → Int) (s : St) (w3 : World) : Prop :=
  Live w3 cb a len cap z s ∧ Rdr w3 rb cb most ops nb vb tv ∧ Is w3 ob #[.bool false, .int .i64 0, .int .i64 0, .slice none 0 0] ∧ Only (fun k => k = cb) w w3
section
variable {w w2 w3 w4 : World} {rb cb nb vb ob : Nat} {most ops : Int} {tv : Value} {a : Option Addr} {len cap : Nat} {z : Nat → Int} {s : St}
theorem read_num {wm : World} (hr : Rdr w2 rb cb most ops nb vb tv) (hi : Is w2 ob #[.bool false, .int .i64 0, .int .i64 0, .slice none 0 0]) (ho : Only (fun k => k = cb) w w2) (hm : Only (fun k => k = cb) w2 wm) (h3 : Only (fun k => k = cb) wm w3)
    (hl : Live w3 cb a len cap z s) (h1 : rb ≠ cb) (h2 : ob ≠ cb) : ReadAt w rb cb nb vb ob most ops tv a len cap z s w3 :=
  ⟨hl, hr.keep (hm.trans h3) h1, hi.keep (hm.trans h3) h2, ho.trans (hm.trans h3)⟩
theorem read_numB {T : TypeId} {cs : Array Value} (hr : Rdr w2 rb cb most ops nb vb tv) (hi : Is w2 ob #[.bool false, .int .i64 0, .int .i64 0, .slice none 0 0]) (ho : Only (fun k => k = cb) w w2) (h3 : Only (fun k => k = cb) (w2.alloc (.cells cs T)).drew w3)
    (hl : Live w3 cb a len cap z s) (h1 : rb ≠ cb) (h2 : ob ≠ cb) (hc : cb < w2.heap.size) : ReadAt w rb cb nb vb ob most ops tv a len cap z s w3 ∧ Is w3 w2.heap.size cs ∧ w2.heap.size < w3.heap.size := by
  have hs := h3.size
  have hs' : w2.heap.size + 1 ≤ w3.heap.size := by simpa using hs
  exact ⟨read_num hr hi ho ((Only.refl _ _).alloc _).drew h3 hl h1 h2, ((Is.made w2 cs T rfl).drew).keep h3 (fun (q : w2.heap.size = cb) => by omega), hs'⟩
theorem read_end1 {k : Int} {l : List Int} {lv : Value} (T : TypeId) {s' : St} (h : ReadAt w rb cb nb vb w.heap.size most ops tv a len cap z s' w3) (ho : Only (fun k => k = cb) w3 w4) (hl : Live w4 cb a len cap z s) (hi : IntsAt (fun b => w3.heap.size ≤ b) w4 lv l) (h1 : rb ≠ cb) (h2 : w.heap.size ≠ cb) :
    ReadMid w rb cb nb vb w.heap.size most ops tv a len cap z s k l (.pointer (some ⟨w4.heap.size, 0, none⟩)) (w4.alloc (.cells #[.bool true, .int .i64 k, .int .i64 0, lv] T)) := by
  obtain ⟨_, g2, g3, g4⟩ := h
  have hB : Below w4.heap.size w4 (w4.alloc (.cells #[.bool true, .int .i64 k, .int .i64 0, lv] T)) := (Below.refl _ _).alloc (Nat.le_refl _) _
  have hs3 := g3.lt
  have hs4 := ho.size
  exact ⟨_, _, rfl, by omega, Is.made _ _ _ rfl, (g3.keep ho h2).alloc _, (hi.keep hB).mono (fun b q => by omega), hl.keep hB, (g2.keep ho h1).keep (Only.of_below (S := fun _ => False) hB) (fun q => q), (g4.trans ho).alloc _⟩
theorem read_end2 {wm : World} {k : Int} {l : List Int} {lv : Value} {u0 u1 u2 u3 : Value} {xb : Nat} {s' : St} (h : ReadAt w rb cb nb vb w.heap.size most ops tv a len cap z s' w3) (hm : Below w3.heap.size w3 wm) (hx : Is wm xb #[u0, u1, u2, u3]) (ho : Only (fun k => k = cb) wm w4) (hl : Live w4 cb a len cap z s)
    (hi : IntsAt (fun b => wm.heap.size ≤ b) w4 lv l) (h1 : rb ≠ cb) (h2 : w.heap.size ≠ cb) (h3 : w.heap.size < xb) (h4 : rb < w.heap.size) (h5 : cb < w.heap.size) (ha : ∀ (_ : 0 < len) x, a = some x → x.block < w.heap.size) :
    Is w4 xb #[u0, u1, u2, u3] ∧ ReadMid w rb cb nb vb w.heap.size most ops tv a len cap z s k l (.pointer (some ⟨xb, 0, none⟩)) ((((w4.setCell ⟨xb, 0, none⟩ (.bool true)).setCell ⟨xb, 1, none⟩ (.int .i64 k)).setCell ⟨xb, 2, none⟩ (.int .i64 0)).setCell ⟨xb, 3, none⟩ lv) := by
  obtain ⟨_, g2, g3, g4⟩ := h
  have hxl := hx.lt
  have hs4 := ho.size
  have hx4 : Is w4 xb #[u0, u1, u2, u3] := hx.keep ho (fun q => by omega)
  obtain ⟨hO, hY⟩ := put_four hx4 (.bool true) (.int .i64 k) (.int .i64 0) lv
  have hm' : Only (fun k => k = cb) w3 wm := Only.of_below hm
  refine ⟨hx4, xb, lv, rfl, h3, hY, ((g3.keep hm' h2).keep ho h2).keep hO (fun q => by omega), (hi.only hO (fun b q r => by omega)).mono (fun b q => by omega), hl.other hO (fun q => by omega) (fun h0 x hx q => ?_), ((g2.keep hm' h1).keep ho h1).keep hO (fun q => by omega), (g4.trans (hm'.trans ho)).trans' hO (fun i q => .inr (by omega))⟩
  have := ha h0 x hx
  omega
end
set_option maxHeartbeats 4000000 in
theorem readOp_any (rb cb nb vb : Nat) (most ops : Int) (tv : Value) (a : Option Addr) (len cap : Nat) (z : Nat → Int) (s : St) (w : World)
    (hr : Rdr w rb cb most ops nb vb tv) (hl : Live w cb a len cap z s) (h1 : rb ≠ cb) :
    Calls Try.prog 65 #[.pointer (some ⟨rb, 0, none⟩)] w fun e w' => ∃ k l lv, pRead z len s = ((pRead z len s).1, ⟨true, k, 0, l⟩) ∧ e = .returned (.agg #[.bool true, .int .i64 k, .int .i64 0, lv]) ∧ (Lit.int .i64 k).wf = true ∧
      Only (fun k => k = cb) w w' ∧ Live w' cb a len cap z (pRead z len s).1 ∧ IntsAt (fun b => w.heap.size ≤ b) w' lv l := by
  obtain ⟨c0, -, -, -, -, -⟩ := hr.six
  have hrl : rb < w.heap.size := Is.lt hr
  have hcl : cb < w.heap.size := hl.cur.lt
  obtain ⟨s1, hs1⟩ : ∃ s1, byteS z len s 114 = s1 := ⟨_, rfl⟩
  obtain ⟨s2, hs2⟩ : ∃ s2, byteS z len s1 32 = s2 := ⟨_, rfl⟩
  obtain ⟨⟨s3, k⟩, hs3⟩ : ∃ r, numS z len s2 = r := ⟨_, rfl⟩
  obtain ⟨⟨s4, l⟩, hs4⟩ : ∃ r, listS z len s3 = r := ⟨_, rfl⟩
  have hat2 : s2.at_ ≤ len := by rw [← hs2]; exact byteS_at (by rw [← hs1]; exact byteS_at hl.at_)
  have hkf : (Lit.int .i64 k).wf = true := by have := numS_wf (z := z) hat2; rwa [hs3] at this
  have HS : Hid (pRead z len s = (byteS z len s4 10, ⟨true, k, 0, l⟩)) := by show _ = _; unfold pRead; simp only [hs1, hs2, hs3, hs4]
  have HR : Hid (Rdr w rb cb most ops nb vb tv) := hr
  have HL : Hid (Live w cb a len cap z s) := hl
  replace hs1 := hide hs1
  replace hs2 := hide hs2
  replace hs3 := hide hs3
  replace hs4 := hide hs4
  have HB : Hid (Below w.heap.size w (w.alloc (.cells #[.bool false, .int .i64 0, .int .i64 0, .slice none 0 0] 45))) := (Below.refl _ _).alloc (Nat.le_refl _) _
  have HI : Hid (Is (w.alloc (.cells #[.bool false, .int .i64 0, .int .i64 0, .slice none 0 0] 45)) w.heap.size #[.bool false, .int .i64 0, .int .i64 0, .slice none 0 0]) := Is.made _ _ _ rfl
  clear hr hl hat2
  go_enter Try.func65, Try.ntmps65
  go_upto_region 3 with (first | (go_at_call 70; (with_reducible refine (byte_live cb a len cap s z 114 _ (HL.out.keep HB.out)).mono ?_); rw [hs1.out]; rintro e w1 ⟨rfl, ho1, hl1⟩; have HL1 := hide hl1; have HO1 := hide ((Only.of_below HB.out).trans ho1); obtain ⟨HR1, HI1⟩ := stays (HR.out.keep (Only.of_below (S := fun _ => False) HB.out) (fun q => q)) HI.out ho1 h1 (fun (q : w.heap.size = cb) => by omega); obtain ⟨c0, -, -, -, -, -⟩ := HR1.out.six; clear hl1 ho1) | (go_at_call 70; (with_reducible refine (byte_live cb a len cap s1 z 32 _ HL1.out).mono ?_); rw [hs2.out]; rintro e w2 ⟨rfl, ho2, hl2⟩; have HL2 := hide hl2; have HO2 := hide (HO1.out.trans ho2); obtain ⟨HR2, HI2⟩ := stays HR1.out HI1.out ho2 h1 (fun (q : w.heap.size = cb) => by omega); obtain ⟨c0, -, -, -, -, -⟩ := HR2.out.six; clear hl2 ho2))
  go_cut [3] (fun x wx => ReadMid w rb cb nb vb w.heap.size most ops tv a len cap z s4 k l x wx)
  case first =>
    have hz2 : w.heap.size < w2.heap.size := HI2.out.lt
    have HX : Hid (∀ (_ : 0 < len) x, a = some x → x.block < w.heap.size) := HL.out.rd.lt
    have NA : Hid (Live w2.drew cb a len cap z s2) := HL2.out.drewN 1
    have NB : Hid (Live (w2.alloc (.cells #[.bool false, .int .i64 0, .int .i64 0, .slice none 0 0] 45)).drew cb a len cap z s2) := (HL2.out.keep ((Below.refl _ _).alloc (Nat.le_refl _) _)).drewN 1
    have n2 := World.new_ne w2 _ c0
    go_region_held3 (fun w' => w'.cell? ⟨rb, 0, none⟩ = some (.pointer (some ⟨cb, 0, none⟩))) (first | assumption | go_keep)
      (first | (go_at_call 73; (with_reducible refine (num_live cb a len cap s2 z _ NA.out).mono ?_); rw [hs3.out]; rintro e w3 ⟨rfl, ho3, hl3⟩; have RA := hide (read_num HR2.out HI2.out HO2.out (Only.refl (fun k => k = cb) w2).drew ho3 hl3 h1 (by omega)); clear ho3 hl3; have HLA : Hid (Live w3 cb a len cap z s3) := RA.out.1; have HLA2 : Hid (Live (w3.alloc (.cells #[.bool false, .int .i64 0, .int .i64 0, .slice none 0 0] 45)) cb a len cap z s3) := RA.out.1.keep ((Below.refl _ _).alloc (Nat.le_refl _) _); have c3 := RA.out.2.1.cell 0 rfl; have n3 := World.new_ne w3 _ c3) | (go_at_call 73; (with_reducible refine (num_live cb a len cap s2 z _ NB.out).mono ?_); rw [hs3.out]; rintro e w3 ⟨rfl, ho3, hl3⟩; have RB := hide (read_numB HR2.out HI2.out HO2.out ho3 hl3 h1 (by omega) (by have := HL2.out.cur.lt; omega)); clear ho3 hl3; have HLB : Hid (Live w3 cb a len cap z s3) := RB.out.1.1; have c3 := RB.out.1.2.1.cell 0 rfl; have n3 := World.new_ne w3 _ c3) | (go_at_call 75; (with_reducible refine (list_ints cb a len cap s3 z _ HLA.out).mono ?_); rw [hs4.out]; rintro e w4 ⟨lv, rfl, ho4, hl4, hi4⟩; obtain ⟨la, lcap, rfl, -, -⟩ := IntsAt.shape hi4; have c4 := (RA.out.2.1.keep ho4 h1).cell 0 rfl; have M := hide (read_end1 (k := k) 45 RA.out ho4 hl4 hi4 h1 (by omega)); clear ho4 hl4 hi4; have n4 := World.new_ne w4 _ c4) | (go_at_call 75; (with_reducible refine (list_ints cb a len cap s3 z _ HLA2.out).mono ?_); rw [hs4.out]; rintro e w4 ⟨lv, rfl, ho4, hl4, hi4⟩; obtain ⟨la, lcap, rfl, -, -⟩ := IntsAt.shape hi4; have c4 := ((Is.alloc RA.out.2.1 _).keep ho4 h1).cell 0 rfl; obtain ⟨hx4, hM⟩ := read_end2 (k := k) RA.out ((Below.refl _ _).alloc (Nat.le_refl _) _) (Is.made w3 _ _ rfl) ho4 hl4 hi4 h1 (by omega) (RA.out.2.2.1.lt) hrl hcl HX.out; obtain ⟨⟨x0, x1, x2, x3⟩, y0, y1, y2, y3⟩ := hx4.four; have M := hide hM; clear ho4 hl4 hi4 hM hx4; have n4 := World.new_ne w4 _ c4) | (go_at_call 75; (with_reducible refine (list_ints cb a len cap s3 z _ HLB.out).mono ?_); rw [hs4.out]; rintro e w4 ⟨lv, rfl, ho4, hl4, hi4⟩; obtain ⟨la, lcap, rfl, -, -⟩ := IntsAt.shape hi4; have c4 := (RB.out.1.2.1.keep ho4 h1).cell 0 rfl; obtain ⟨hx4, hM⟩ := read_end2 (k := k) RB.out.1 (Below.refl _ _) RB.out.2.1 ho4 hl4 hi4 h1 (by omega) hz2 hrl hcl HX.out; obtain ⟨⟨x0, x1, x2, x3⟩, y0, y1, y2, y3⟩ := hx4.four; have M := hide hM; clear ho4 hl4 hi4 hM hx4; have n4 := World.new_ne w4 _ c4))
    all_goals
      go_simp
      go_wp2_with fail
      go_meet
      case rel => exact M.out
  case rest =>
    obtain ⟨xb, lv, rfl, hxb, hx, hi, hli, hl3, hr3, ho3⟩ := hcut
    obtain ⟨la, lcap, rfl, -, -⟩ := IntsAt.shape hli
    obtain ⟨c0, -, -, -, -, -⟩ := hr3.six
    have HX := hide hx
    have HI3 := hide hi
    have HLI := hide hli
    have HL3 := hide hl3
    have HO3 := hide ho3
    clear hx hi hli hl3 hr3 ho3
    go_wp2_with (go_at_call 70; (with_reducible refine (byte_live cb a len cap s4 z 10 _ HL3.out).mono ?_); rintro e w5 ⟨rfl, ho5, hl5⟩; have HL5 := hide hl5; have HO5 := hide (HO3.out.trans ho5); have HI5 := hide (HI3.out.keep ho5 (fun (q : w.heap.size = cb) => by omega)); have HJ5 := hide (HX.out.keep ho5 (fun (q : xb = cb) => by omega)); have HLI5 := hide (HLI.out.only ho5 (fun b q (r : b = cb) => by omega)); obtain ⟨⟨d0, d1, d2, d3⟩, f0, f1, f2, f3⟩ := HI5.out.four; obtain ⟨⟨e0, e1, e2, e3⟩, -, -, -, -⟩ := HJ5.out.four; clear hl5 ho5)
    obtain ⟨hO, hY⟩ := put_four HI5.out (.bool true) (.int .i64 k) (.int .i64 0) (.slice la l.length lcap)
    obtain ⟨⟨y0, y1, y2, y3⟩, -, -, -, -⟩ := hY.four
    have hlx : ∀ (_ : 0 < len) x, a = some x → ¬ x.block = w.heap.size := fun h0 x hx q => by have := HL.out.rd.lt h0 x hx; omega
    refine bodyPost_ret (v := .agg #[.bool true, .int .i64 k, .int .i64 0, .slice la l.length lcap]) (by simp [results, Try.results65, go_sem, y0, y1, y2, y3]) rfl ⟨k, l, _, by rw [HS.out], rfl, hkf, ?_, ?_, ?_⟩
    · exact HO5.out.trans' hO (fun i q => .inr (by omega))
    · rw [HS.out]
      exact HL5.out.other hO (by omega) hlx
    · exact (HLI5.out.only hO (fun b q r => by omega)).mono (fun b q => by omega)
end Go.Proofs.Ytigmgkcojifbcaa.Hist
