/- The reader's aborted, appendOp and readOp. -/
import Derived.Test.YtigmgkcojifbcaaHistValue
import Derived.Test.YtigmgkcojifbcaaHistList
import Derived.Test.YtigmgkcojifbcaaHistOps
namespace Go.Proofs.Ytigmgkcojifbcaa.Hist
open Go.RowKit Go.Proofs.Ytigmgkcojifbcaa.Dig Go.Proofs.Ytigmgkcojifbcaa.Mem Go.Proofs.Ytigmgkcojifbcaa.Cur Go.Proofs.Ytigmgkcojifbcaa.Keys
set_option linter.unusedVariables false
set_option linter.unusedSimpArgs false
attribute [local go_sem ↓] Go.wp_at_zero Go.wp_at_succ

theorem peek_live (b : Nat) (a : Option Addr) (len cap : Nat) (s : St) (z : Nat → Int) (w : World) (h : Live w b a len cap z s) :
    Calls Try.prog 44 #[.pointer (some ⟨b, 0, none⟩)] w fun e w' => e = .returned (.tuple #[.int .u8 (peekP z len s).1, .bool (peekP z len s).2]) ∧ Below w.heap.size w w' ∧ Live w' b a len cap z s := by
  unfold peekP
  by_cases he : s.e = 0
  · rw [if_pos he]
    refine (peek_any b a len cap s z w h.cur h.rd he).mono ?_
    rintro e w' ⟨rfl, n, rfl⟩
    exact ⟨rfl, (Below.refl _ _).drewN n, h.drewN n⟩
  · rw [if_neg he]
    refine (peek_no b a len cap s w h.cur he).mono ?_
    rintro e w' ⟨rfl, rfl⟩
    exact ⟨rfl, Below.refl _ _, h⟩
theorem aborted_any (rb cb nb vb : Nat) (most ops : Int) (tv : Value) (a : Option Addr) (len cap : Nat) (z : Nat → Int) (s : St) (w : World)
    (hr : Rdr w rb cb most ops nb vb tv) (hl : Live w cb a len cap z s) (h1 : rb ≠ cb) :
    Calls Try.prog 72 #[.pointer (some ⟨rb, 0, none⟩)] w fun e w' => e = .returned (.bool (pAborted z len s).2) ∧ Only (fun k => k = cb) w w' ∧ Live w' cb a len cap z (pAborted z len s).1 := by
  obtain ⟨c0, -, -, -, -, -⟩ := hr.six
  obtain ⟨⟨x, q⟩, hx⟩ : ∃ p, peekP z len s = p := ⟨_, rfl⟩
  have HX : Hid (peekP z len s = (x, q)) := hx
  have HR : Hid (Rdr w rb cb most ops nb vb tv) := hr
  have HL : Hid (Live w cb a len cap z s) := hl
  clear hr hl
  by_cases hp : x = 97
  · have HS : Hid (pAborted z len s = (byteS z len s 97, true)) := by show _ = _; unfold pAborted; rw [hx, if_pos hp]
    subst hp
    clear hx
    go_enter Try.func72, Try.ntmps72
    go_wp2_with (first | (go_at_call 44; (with_reducible refine (peek_live cb a len cap s z _ HL.out).mono ?_); rw [HX.out]; rintro e w1 ⟨rfl, hb1, hl1⟩; have HL1 := hide hl1; have HO1 := hide hb1; have HR1 := hide (HR.out.keep (Only.of_below (S := fun _ => False) hb1) (fun q => q)); obtain ⟨c0, -, -, -, -, -⟩ := HR1.out.six; clear hl1 hb1) | (go_at_call 70; (with_reducible refine (byte_live cb a len cap s z 97 _ HL1.out).mono ?_); rintro e w2 ⟨rfl, ho2, hl2⟩))
    go_ret
    rw [HS.out]
    exact ⟨rfl, (Only.of_below HO1.out).trans ho2, hl2⟩
  · have HS : Hid (pAborted z len s = (byteS z len s 99, false)) := by show _ = _; unfold pAborted; rw [hx, if_neg hp]
    have hp' : (x == 97) = false := by simpa using hp
    clear hx hp
    go_enter Try.func72, Try.ntmps72
    go_wp2_with (first | (go_at_call 44; (with_reducible refine (peek_live cb a len cap s z _ HL.out).mono ?_); rw [HX.out]; rintro e w1 ⟨rfl, hb1, hl1⟩; have HL1 := hide hl1; have HO1 := hide hb1; have HR1 := hide (HR.out.keep (Only.of_below (S := fun _ => False) hb1) (fun q => q)); obtain ⟨c0, -, -, -, -, -⟩ := HR1.out.six; clear hl1 hb1) | (go_at_call 70; (with_reducible refine (byte_live cb a len cap s z 99 _ HL1.out).mono ?_); rintro e w2 ⟨rfl, ho2, hl2⟩))
    go_ret
    rw [HS.out]
    exact ⟨rfl, (Only.of_below HO1.out).trans ho2, hl2⟩

/-- What stays while the cursor goes on: the reader, and a block of the call's own. -/
theorem stays {w w' : World} {S : Nat → Prop} {rb cb nb vb ob : Nat} {most ops : Int} {tv : Value} {cs : Array Value} (hr : Rdr w rb cb most ops nb vb tv) (hi : Is w ob cs) (ho : Only S w w') (h1 : ¬ S rb) (h2 : ¬ S ob) : Hid (Rdr w' rb cb most ops nb vb tv) ∧ Hid (Is w' ob cs) :=
  ⟨hr.keep ho h1, hi.keep ho h2⟩
theorem put_four {w : World} {b : Nat} {u0 u1 u2 u3 : Value} (h : Is w b #[u0, u1, u2, u3]) (v0 v1 v2 v3 : Value) :
    Only (fun k => k = b) w ((((w.setCell ⟨b, 0, none⟩ v0).setCell ⟨b, 1, none⟩ v1).setCell ⟨b, 2, none⟩ v2).setCell ⟨b, 3, none⟩ v3) ∧
    Is ((((w.setCell ⟨b, 0, none⟩ v0).setCell ⟨b, 1, none⟩ v1).setCell ⟨b, 2, none⟩ v2).setCell ⟨b, 3, none⟩ v3) b #[v0, v1, v2, v3] :=
  ⟨((((Only.refl _ _).put 0 _).put 1 _).put 2 _).put 3 _, (((h.set 0 _).set 1 _).set 2 _).set 3 _⟩
set_option maxHeartbeats 1000000 in
theorem appendOp_any (rb cb nb vb : Nat) (most ops : Int) (tv : Value) (a : Option Addr) (len cap : Nat) (z : Nat → Int) (s : St) (n : Nat) (P : Int × Int → Bool) (w : World)
    (hr : Rdr w rb cb most ops nb vb tv) (hl : Live w cb a len cap z s) (hn : Vals w vb n P) (h1 : rb ≠ cb) (h2 : rb ≠ vb) (h3 : cb ≠ vb) (ha : 0 < len → ∀ x, a = some x → x.block ≠ vb) (hm : n < 1000000) :
    Calls Try.prog 64 #[.pointer (some ⟨rb, 0, none⟩)] w fun e w' => ∃ k v, pAppP z len (fun k y => P (k, y)) s = ((pAppP z len (fun k y => P (k, y)) s).1, ⟨false, k, v, []⟩) ∧ e = .returned (.agg #[.bool false, .int .i64 k, .int .i64 v, .slice none 0 0]) ∧ (Lit.int .i64 k).wf = true ∧ (Lit.int .i64 v).wf = true ∧
      Only (fun k => k = cb ∨ k = vb) w w' ∧ Live w' cb a len cap z (pAppP z len (fun k y => P (k, y)) s).1 ∧ Vals w' vb (n + 1) (fun p => P p || (k == p.1 && v == p.2)) := by
  obtain ⟨c0, -, -, -, -, -⟩ := hr.six
  have hrl : rb < w.heap.size := Is.lt hr
  have hcl : cb < w.heap.size := hl.cur.lt
  have hvl : vb < w.heap.size := SetAt.lt hn
  obtain ⟨s1, hs1⟩ : ∃ s1, byteS z len s 97 = s1 := ⟨_, rfl⟩
  obtain ⟨s2, hs2⟩ : ∃ s2, byteS z len s1 32 = s2 := ⟨_, rfl⟩
  obtain ⟨⟨s3, k⟩, hs3⟩ : ∃ r, numS z len s2 = r := ⟨_, rfl⟩
  obtain ⟨⟨s4, v⟩, hs4⟩ : ∃ r, pKey z len 6 (fun y => P (k, y)) s3 = r := ⟨_, rfl⟩
  have hat2 : s2.at_ ≤ len := by rw [← hs2]; exact byteS_at (by rw [← hs1]; exact byteS_at hl.at_)
  have hat3 : s3.at_ ≤ len := by have := numS_at (z := z) hat2; rwa [hs3] at this
  have hkf : (Lit.int .i64 k).wf = true := by have := numS_wf (z := z) hat2; rwa [hs3] at this
  have hvf : (Lit.int .i64 v).wf = true := by
    have e : v = (numS z len (byteS z len s3 32)).2 := by have := congrArg Prod.snd hs4; simpa [pKey] using this.symm
    rw [e]
    exact numS_wf (byteS_at hat3)
  have HS : Hid (pAppP z len (fun k y => P (k, y)) s = (byteS z len s4 10, ⟨false, k, v, []⟩)) := by show _ = _; unfold pAppP; simp only [hs1, hs2, hs3, hs4]
  have HR : Hid (Rdr w rb cb most ops nb vb tv) := hr
  have HL : Hid (Live w cb a len cap z s) := hl
  have HN : Hid (Vals w vb n P) := hn
  have HA : Hid (0 < len → ∀ x, a = some x → x.block ≠ vb) := ha
  replace hs1 := hide hs1
  replace hs2 := hide hs2
  replace hs3 := hide hs3
  replace hs4 := hide hs4
  have HB : Hid (Below w.heap.size w (w.alloc (.cells #[.bool false, .int .i64 0, .int .i64 0, .slice none 0 0] 45))) := (Below.refl _ _).alloc (Nat.le_refl _) _
  have HI : Hid (Is (w.alloc (.cells #[.bool false, .int .i64 0, .int .i64 0, .slice none 0 0] 45)) w.heap.size #[.bool false, .int .i64 0, .int .i64 0, .slice none 0 0]) := Is.made _ _ _ rfl
  clear hr hl hn ha hat2 hat3
  go_enter Try.func64, Try.ntmps64
  go_wp2_with (first | (go_at_call 70; (with_reducible refine (byte_live cb a len cap s z 97 _ (HL.out.keep HB.out)).mono ?_); rw [hs1.out]; rintro e w1 ⟨rfl, ho1, hl1⟩; have HL1 := hide hl1; have HO1 := hide ((Only.of_below HB.out).trans ho1); obtain ⟨HR1, HI1⟩ := stays (HR.out.keep (Only.of_below (S := fun _ => False) HB.out) (fun q => q)) HI.out ho1 h1 (fun (q : w.heap.size = cb) => by omega); obtain ⟨c0, -, -, -, -, -⟩ := HR1.out.six; clear hl1 ho1) | (go_at_call 70; (with_reducible refine (byte_live cb a len cap s1 z 32 _ HL1.out).mono ?_); rw [hs2.out]; rintro e w2 ⟨rfl, ho2, hl2⟩; have HL2 := hide hl2; have HO2 := hide (HO1.out.trans ho2); obtain ⟨HR2, HI2⟩ := stays HR1.out HI1.out ho2 h1 (fun (q : w.heap.size = cb) => by omega); obtain ⟨c0, -, -, -, -, -⟩ := HR2.out.six; clear hl2 ho2) | (go_at_call 73; (with_reducible refine (num_live cb a len cap s2 z _ HL2.out).mono ?_); rw [hs3.out]; rintro e w3 ⟨rfl, ho3, hl3⟩; have HL3 := hide hl3; have HO3 := hide (HO2.out.trans ho3); obtain ⟨HR3, HI3⟩ := stays HR2.out HI2.out ho3 h1 (fun (q : w.heap.size = cb) => by omega); have HN3 : Hid (Vals w3 vb n P) := SetAt.keep HN.out HO3.out (Ne.symm h3); obtain ⟨c0, -, -, -, -, -⟩ := HR3.out.six; clear hl3 ho3) | (go_at_call 74; (with_reducible refine (value_any rb cb nb vb most ops tv a len cap z s3 n P k hkf _ HR3.out HL3.out HN3.out h1 h2 h3 HA.out hm).mono ?_); rw [hs4.out]; rintro e w4 ⟨rfl, ho4, hl4, hn4⟩; have HL4 := hide hl4; have HN4 := hide hn4; have HO4 := hide ((HO3.out.mono (S' := fun k => k = cb ∨ k = vb) (fun _ q => .inl q)).trans ho4); obtain ⟨HR4, HI4⟩ := stays HR3.out HI3.out ho4 (fun q => q.elim h1 h2) (fun (q : w.heap.size = cb ∨ w.heap.size = vb) => by omega); obtain ⟨c0, -, -, -, -, -⟩ := HR4.out.six; have hz4 : w.heap.size < w4.heap.size := HI4.out.lt; have HB4 := hide ((Below.refl w4.heap.size w4).alloc (Nat.le_refl _) (.cells #[.bool false, .int .i64 k, .int .i64 v, .slice none 0 0] 45)); have hr4 : rb < w4.heap.size := (by omega); clear hl4 ho4 hn4) | (go_at_call 70; (with_reducible refine (byte_live cb a len cap s4 z 10 _ (HL4.out.keep HB4.out)).mono ?_); rintro e w5 ⟨rfl, ho5, hl5⟩; have HL5 := hide hl5; have HN5 := hide (SetAt.keep (SetAt.keep HN4.out (Only.of_below (S := fun _ => False) HB4.out) (fun q => q)) ho5 (Ne.symm h3)); have HO5 := hide (HO4.out.trans ((Only.of_below HB4.out).trans (ho5.mono fun _ q => .inl q))); have HI5 := hide ((HI4.out.keep (Only.of_below (S := fun _ => False) HB4.out) (fun q => q)).keep ho5 (fun (q : w.heap.size = cb) => by omega)); have HJ5 := hide ((Is.made w4 #[.bool false, .int .i64 k, .int .i64 v, .slice none 0 0] 45 rfl).keep ho5 (fun (q : w4.heap.size = cb) => by omega)); obtain ⟨⟨d0, d1, d2, d3⟩, f0, f1, f2, f3⟩ := HI5.out.four; obtain ⟨⟨e0, e1, e2, e3⟩, -, -, -, -⟩ := HJ5.out.four; clear hl5 ho5))
  obtain ⟨hO, hY⟩ := put_four HI5.out (.bool false) (.int .i64 k) (.int .i64 v) (.slice none 0 0)
  obtain ⟨⟨y0, y1, y2, y3⟩, -, -, -, -⟩ := hY.four
  have hlx : ∀ (_ : 0 < len) x, a = some x → ¬ x.block = w.heap.size := fun h0 x hx q => by have := HL.out.rd.lt h0 x hx; omega
  refine bodyPost_ret (v := .agg #[.bool false, .int .i64 k, .int .i64 v, .slice none 0 0]) (by simp [results, Try.results64, go_sem, y0, y1, y2, y3]) rfl ⟨k, v, by rw [HS.out], rfl, hkf, hvf, ?_, ?_, ?_⟩
  · exact HO5.out.trans' hO (fun i q => .inr (by omega))
  · rw [HS.out]
    exact HL5.out.other hO (by omega) hlx
  · exact SetAt.keep HN5.out hO (by omega)
end Go.Proofs.Ytigmgkcojifbcaa.Hist
