/- Joined out of the texts HistAdd, HistReadOp, HistLine, HistLines, HistDec, in that order. -/
import Derived.Test.YtigmgkcojifbcaaAll13
import Derived.Test.YtigmgkcojifbcaaAll6
import Derived.Deep.DeepMust
import Derived.Deep.LoopGhost
/- The reader's add: an operation behind those of the last transaction. -/
namespace Go.Proofs.Ytigmgkcojifbcaa.Hist
open Go.RowKit Go.Proofs.Ytigmgkcojifbcaa.Dig Go.Proofs.Ytigmgkcojifbcaa.Mem Go.Proofs.Ytigmgkcojifbcaa.Cur Go.Proofs.Ytigmgkcojifbcaa.Keys
set_option linter.unusedVariables false
set_option linter.unusedSimpArgs false
attribute [local go_sem ↓] Go.wp_at_zero Go.wp_at_succ

theorem Try.info45 : (Try.prog.info? 45).map (fun i => (i.zero, i.size, i.bytes)) = some (some (.agg #[.bool false, .int .i64 0, .int .i64 0, .slice none 0 0]), 4, 48) := by kernel_rfl
theorem own_only {e : TypeId} {n B m : Nat} {w w' : World} {v : Value} {xs : List Value} (h : w.ownsRow B e n v m xs) (ho : Only (fun _ => False) w w') : w'.ownsRow B e n v m xs := by
  refine ⟨h.1, ?_⟩
  rcases h.2 with hn | ⟨g, cap, cur, rfl, hg, hh, r⟩
  · exact .inl hn
  · have hlt : g < w.heap.size := by
      rcases Nat.lt_or_ge g w.heap.size with q | q
      · exact q
      · rw [Array.getElem?_eq_none q] at hh; cases hh
    exact .inr ⟨g, cap, cur, rfl, hg, by rw [ho.block g hlt (fun q => q)]; exact hh, r⟩
set_option maxHeartbeats 4000000 in
theorem add_any (B rb cb nb vb : Nat) (most : Int) (a : Option Addr) (len cap : Nat) (z : Nat → Int) (s : St) (ts : List TxnM) (tv : Value) (cs : List (List Value)) (o : OpM) (la : Option Addr) (lcap M : Nat) (w : World)
    (h : RCore w B rb cb nb vb most a len cap z s ts tv cs) (hne : ts ≠ []) (hv : Vals w vb (opsN ts + 1) (fun p => appB (addOp ts o) p.1 p.2)) (hi : IntsAt (fun b => Gb B rb cb nb vb b ∧ M ≤ b) w (.slice la o.list.length lcap) o.list)
    (hk : (Lit.int .i64 o.key).wf = true) (hval : (Lit.int .i64 o.value).wf = true) (hM : (∀ b, tv.ownBlock = some b → b < M) ∧ ∀ cs0 x y ov, cs = cs0 ++ [[x, y, ov]] → ∀ b, ov.ownBlock = some b → b < M) (hN : opsN ts < 5000) :
    Calls Try.prog 63 #[.pointer (some ⟨rb, 0, none⟩), .agg #[.bool o.read, .int .i64 o.key, .int .i64 o.value, .slice la o.list.length lcap]] w fun e w' => e = .returned (.tuple #[]) ∧ ∃ tv' cs', RAll w' B rb cb nb vb most a len cap z s (addOp ts o) tv' cs' ∧ Only (fun k => B ≤ k) w w' := by
  obtain ⟨-, -, c2, -, -, c5⟩ := h.rdr.six
  have hrl : rb < w.heap.size := Is.lt h.rdr
  have f2 := Is.frozen h.rdr 2
  obtain ⟨hG, hown, hcase⟩ := h.own
  rcases hcase with ⟨h0, _⟩ | ⟨pre, last, cs0, ov, ocs, rfl, rfl, hlast⟩
  · exact absurd h0 hne
  have hlen := h.own.len
  obtain ⟨tg, tcap, rfl, ht1, ht2⟩ := own_some hown (by simp)
  have hl0 : cs0.length = pre.length := by simpa using hlen
  have el : (cs0 ++ [[Value.int .i64 last.id, .bool last.ab, ov]]).length = pre.length + 1 := by simp [hl0]
  rw [el] at h hown ht1 hM hG hlast c5
  obtain ⟨oa, ocap, rfl, ho1, ho2⟩ := hlast.2.2.1.row.shape
  have eo : ocs.length = last.ops.length := hlast.2.2.2.1.1
  rw [eo] at h hown hM hlast ho1
  have HS : Hid (RCore w B rb cb nb vb most a len cap z s (pre ++ [last]) (.slice (some ⟨tg, 0, none⟩) (pre.length + 1) tcap) (cs0 ++ [[.int .i64 last.id, .bool last.ab, .slice oa last.ops.length ocap]])) := h
  have HL := hide hlast
  have HV := hide hv
  have HI := hide hi
  have HM : Hid (tg < M ∧ ∀ b, (Value.slice oa last.ops.length ocap).ownBlock = some b → b < M) := hide ⟨hM.1 tg rfl, hM.2 _ _ _ _ rfl⟩
  have hnt := h.few.1
  have hno : last.ops.length ≤ 5000 := by have h1 := h.few.2; rw [opsN_app] at h1; simp [opsN] at h1; omega
  have ct : w.cell? ⟨tg, pre.length * 3 + 2, none⟩ = some (.slice oa last.ops.length ocap) := OwnC.cell hown (i := pre.length) (by simp [hl0]) (by rw [List.getElem_append_right (by omega)]; simp [hl0])
  have HCT := hide ct
  have htl : tg < w.heap.size := (hown.lt tg rfl).2
  have hBl : B ≤ w.heap.size := h.hi.1
  have hGt : Gb B rb cb nb vb tg := hG tg rfl
  have hrt : rb ≠ tg := fun q => hGt.2.1 q.symm
  have HOWN : Hid (w.ownsRow B 45 4 (.slice oa last.ops.length ocap) last.ops.length ocs.flatten) := by have q := hlast.2.2.1.1; rw [eo] at q; exact q
  have HOT : Hid (OwnC 48 3 B w (.slice (some ⟨tg, 0, none⟩) (pre.length + 1) tcap) (cs0 ++ [[Value.int .i64 last.id, .bool last.ab, .slice oa last.ops.length ocap]])) := hown
  have HGO : Hid (∀ b, (Value.slice oa last.ops.length ocap).ownBlock = some b → b ≠ rb ∧ b ≠ tg) := hide (fun b q => ⟨(hlast.2.2.2.2 b q).1.2.1, fun r => (hlast.2.2.2.2 b q).2 (by rw [r]; rfl)⟩)
  clear h hlast hv hi hM hG hown hne hGt
  obtain ⟨i0, hi0, hz0, hz1, hz2⟩ := info_parts Try.info45
  have HI0 : Hid (Try.prog.info? 45 = some i0 ∧ i0.zero = some (.agg #[.bool false, .int .i64 0, .int .i64 0, .slice none 0 0]) ∧ i0.size = 4 ∧ i0.bytes = 48) := ⟨hi0, hz0, hz1, hz2⟩
  clear hi0 hz0 hz1 hz2
  go_enter Try.func63, Try.ntmps63
  go_wp2
  go_quiet (fail)
  go_simp
  have HB : Hid (Only (fun _ => False) w ((w.alloc (.cells #[.bool o.read, .int .i64 o.key, .int .i64 o.value, .slice la o.list.length lcap] 45)).drewN nq)) := ((Only.refl _ _).alloc _).drewN nq
  obtain ⟨⟨d0, d1, d2, d3⟩, -, -, -, -⟩ := ((Is.made w #[.bool o.read, .int .i64 o.key, .int .i64 o.value, .slice la o.list.length lcap] 45 rfl).drewN nq).four
  have hzb : ((w.alloc (.cells #[.bool o.read, .int .i64 o.key, .int .i64 o.value, .slice la o.list.length lcap] 45)).drewN nq).heap.size = w.heap.size + 1 := by simp
  generalize (w.alloc (.cells #[.bool o.read, .int .i64 o.key, .int .i64 o.value, .slice la o.list.length lcap] 45)).drewN nq = wb at *
  have c2 := HB.out.cell c2 (fun q => q)
  have ct := HB.out.cell ct (fun q => q)
  have hrb : rb < wb.heap.size := by omega
  have htb : tg < wb.heap.size := by omega
  have hbb : w.heap.size < wb.heap.size := by omega
  have HZ := hide hzb
  have HBL : Hid (B ≤ wb.heap.size) := hide (by omega)
  clear hzb
  go_wp2
  go_region_law
    ((refine step_append_lies _ (by rfl) _ _ _ (by rfl) B 45 i0 _ 4 48 Try.underlying46 HI0.out.1 HI0.out.2.1 HI0.out.2.2.1 HI0.out.2.2.2 rfl (by omega) (.slice oa last.ops.length ocap) last.ops.length ocs.flatten (by rfl) (own_only HOWN.out (((HB.out.alloc _).drew)))
          ⟨wb.heap.size, 0, none⟩ 1 1 [.bool o.read, .int .i64 o.key, .int .i64 o.value, .slice la o.list.length lcap] (by rfl) (by rfl) (World.news_of_block (cs := #[.bool o.read, .int .i64 o.key, .int .i64 o.value, .slice la o.list.length lcap]) (t := 45) (fr := (0, 0)) (heap_alloc_new wb _)) (by simp [Value.oneCell'])
          (by omega) (by unfold maxLen; omega) (by omega) (by have := HBL.out; simp; omega) (wb.heap.size + 1) (by simp) ?_; intro gg gcap w3 hown3 hgrow3 hat3 hlt3; have hO3 : Hid (Only (fun k => (Value.slice oa last.ops.length ocap).ownBlock = some k) w w3) := ((((HB.out.alloc _).drew).mono (fun _ q => q.elim)).trans (grown_only hgrow3)); have RX := Is.keep HS.out.rdr hO3.out (fun q => (HGO.out _ q).1 rfl); have TX := HOT.out.keep hO3.out (fun b q r => (by simp [Value.ownBlock] at q; subst q; exact (HGO.out _ r).2 rfl)); have ftx := own_frozen TX (pre.length * 3 + 2); have ct3 := hO3.out.cell HCT.out (fun q => (HGO.out _ q).2 rfl); have r2 := RX.cell 2 rfl; have fr2 := RX.frozen 2; have M := hide (RAll.added (o := o) (n1 := (opsN (pre ++ [last]) : Int) + 1) HS.out HL.out HV.out HI.out hk hval HM.out ((HB.out.alloc _).drew) hgrow3 hown3 hat3 (by have := HZ.out; omega) hN (by push_cast; rfl)); clear RX TX))
  all_goals
    go_simp
    go_wp2
    go_end0
    exact ⟨rfl, _, _, M.out.1, M.out.2⟩
end Go.Proofs.Ytigmgkcojifbcaa.Hist

/- The reader's readOp. -/
namespace Go.Proofs.Ytigmgkcojifbcaa.Hist
open Go.RowKit Go.Proofs.Ytigmgkcojifbcaa.Dig Go.Proofs.Ytigmgkcojifbcaa.Mem Go.Proofs.Ytigmgkcojifbcaa.Cur Go.Proofs.Ytigmgkcojifbcaa.Keys
set_option linter.unusedVariables false
set_option linter.unusedSimpArgs false
attribute [local go_sem ↓] Go.wp_at_zero Go.wp_at_succ

/-- What a read's two calls leave: the operation in a variable of the call's own. -/
def ReadMid (w : World) (rb cb nb vb ob : Nat) (most ops : Int) (tv : Value) (a : Option Addr) (len cap : Nat) (z : Nat → Int) (s : St) (k : Int) (l : List Int) (x : Value) (wx : World) : Prop :=
  ∃ xb lv, x = .pointer (some ⟨xb, 0, none⟩) ∧ w.heap.size < xb ∧ Is wx xb #[.bool true, .int .i64 k, .int .i64 0, lv] ∧ Is wx ob #[.bool false, .int .i64 0, .int .i64 0, .slice none 0 0] ∧ IntsAt (fun b => ob < b) wx lv l ∧
    Live wx cb a len cap z s ∧ Rdr wx rb cb most ops nb vb tv ∧ Only (fun k => k = cb) w wx
def ReadAt (w : World) (rb cb nb vb ob : Nat) (most ops : Int) (tv : Value) (a : Option Addr) (len cap : Nat) (z : Nat → Int) (s : St) (w3 : World) : Prop :=
  Live w3 cb a len cap z s ∧ Rdr w3 rb cb most ops nb vb tv ∧ Is w3 ob #[.bool false, .int .i64 0, .int .i64 0, .slice none 0 0] ∧ Only (fun k => k = cb) w w3
section
variable {w w2 w3 w4 : World} {rb cb nb vb ob : Nat} {most ops : Int} {tv : Value} {a : Option Addr} {len cap : Nat} {z : Nat → Int} {s : St}
theorem read_num {wm : World} (hr : Rdr w2 rb cb most ops nb vb tv) (hi : Is w2 ob #[.bool false, .int .i64 0, .int .i64 0, .slice none 0 0]) (ho : Only (fun k => k = cb) w w2) (hm : Only (fun k => k = cb) w2 wm) (h3 : Only (fun k => k = cb) wm w3)
    (hl : Live w3 cb a len cap z s) (h1 : rb ≠ cb) (h2 : ob ≠ cb) : ReadAt w rb cb nb vb ob most ops tv a len cap z s w3 :=
  ⟨hl, hr.keep (hm.trans h3) h1, hi.keep (hm.trans h3) h2, ho.trans (hm.trans h3)⟩
theorem read_numB {T : TypeId} {cs : Array Value} (hr : Rdr w2 rb cb most ops nb vb tv) (hi : Is w2 ob #[.bool false, .int .i64 0, .int .i64 0, .slice none 0 0]) (ho : Only (fun k => k = cb) w w2) (h3 : Only (fun k => k = cb) (w2.alloc (.cells cs T)).drew w3)
    (hl : Live w3 cb a len cap z s) (h1 : rb ≠ cb) (h2 : ob ≠ cb) (hc : cb < w2.heap.size) : ReadAt w rb cb nb vb ob most ops tv a len cap z s w3 ∧ Is w3 w2.heap.size cs ∧ w2.heap.size < w3.heap.size := by
  have hs := h3.size
  have hs' : w2.heap.size + 1 ≤ w3.heap.size := by simpa using hs
  exact ⟨read_num hr hi ho ((Only.refl _ _).alloc _).drew h3 hl h1 h2, ((Is.made w2 cs T rfl).drew).keep h3 (fun (q : w2.heap.size = cb) => by omega), hs'⟩
theorem read_end1 {k : Int} {l : List Int} {lv : Value} (T : TypeId) {s' : St} (h : ReadAt w rb cb nb vb w.heap.size most ops tv a len cap z s' w3) (ho : Only (fun k => k = cb) w3 w4) (hl : Live w4 cb a len cap z s) (hi : IntsAt (fun b => w3.heap.size ≤ b) w4 lv l) (h1 : rb ≠ cb) (h2 : w.heap.size ≠ cb) :
    ReadMid w rb cb nb vb w.heap.size most ops tv a len cap z s k l (.pointer (some ⟨w4.heap.size, 0, none⟩)) (w4.alloc (.cells #[.bool true, .int .i64 k, .int .i64 0, lv] T)) := by
  obtain ⟨_, g2, g3, g4⟩ := h
  have hB : Below w4.heap.size w4 (w4.alloc (.cells #[.bool true, .int .i64 k, .int .i64 0, lv] T)) := (Below.refl _ _).alloc (Nat.le_refl _) _
  have hs3 := g3.lt
  have hs4 := ho.size
  exact ⟨_, _, rfl, by omega, Is.made _ _ _ rfl, (g3.keep ho h2).alloc _, (hi.keep hB).mono (fun b q => by omega), hl.keep hB, (g2.keep ho h1).keep (Only.of_below (S := fun _ => False) hB) (fun q => q), (g4.trans ho).alloc _⟩
theorem read_end2 {wm : World} {k : Int} {l : List Int} {lv : Value} {u0 u1 u2 u3 : Value} {xb : Nat} {s' : St} (h : ReadAt w rb cb nb vb w.heap.size most ops tv a len cap z s' w3) (hm : Below w3.heap.size w3 wm) (hx : Is wm xb #[u0, u1, u2, u3]) (ho : Only (fun k => k = cb) wm w4) (hl : Live w4 cb a len cap z s)
    (hi : IntsAt (fun b => wm.heap.size ≤ b) w4 lv l) (h1 : rb ≠ cb) (h2 : w.heap.size ≠ cb) (h3 : w.heap.size < xb) (h4 : rb < w.heap.size) (h5 : cb < w.heap.size) (ha : ∀ (_ : 0 < len) x, a = some x → x.block < w.heap.size) :
    Is w4 xb #[u0, u1, u2, u3] ∧ ReadMid w rb cb nb vb w.heap.size most ops tv a len cap z s k l (.pointer (some ⟨xb, 0, none⟩)) ((((w4.setCell ⟨xb, 0, none⟩ (.bool true)).setCell ⟨xb, 1, none⟩ (.int .i64 k)).setCell ⟨xb, 2, none⟩ (.int .i64 0)).setCell ⟨xb, 3, none⟩ lv) := by
  obtain ⟨_, g2, g3, g4⟩ := h
  have hxl := hx.lt
  have hs4 := ho.size
  have hx4 : Is w4 xb #[u0, u1, u2, u3] := hx.keep ho (fun q => by omega)
  obtain ⟨hO, hY⟩ := put_four hx4 (.bool true) (.int .i64 k) (.int .i64 0) lv
  have hm' : Only (fun k => k = cb) w3 wm := Only.of_below hm
  refine ⟨hx4, xb, lv, rfl, h3, hY, ((g3.keep hm' h2).keep ho h2).keep hO (fun q => by omega), (hi.only hO (fun b q r => by omega)).mono (fun b q => by omega), hl.other hO (fun q => by omega) (fun h0 x hx q => ?_), ((g2.keep hm' h1).keep ho h1).keep hO (fun q => by omega), (g4.trans (hm'.trans ho)).trans' hO (fun i q => .inr (by omega))⟩
  have := ha h0 x hx
  omega
end
set_option maxHeartbeats 4000000 in
theorem readOp_any (rb cb nb vb : Nat) (most ops : Int) (tv : Value) (a : Option Addr) (len cap : Nat) (z : Nat → Int) (s : St) (w : World)
    (hr : Rdr w rb cb most ops nb vb tv) (hl : Live w cb a len cap z s) (h1 : rb ≠ cb) :
    Calls Try.prog 65 #[.pointer (some ⟨rb, 0, none⟩)] w fun e w' => ∃ k l lv, pRead z len s = ((pRead z len s).1, ⟨true, k, 0, l⟩) ∧ e = .returned (.agg #[.bool true, .int .i64 k, .int .i64 0, lv]) ∧ (Lit.int .i64 k).wf = true ∧
      Only (fun k => k = cb) w w' ∧ Live w' cb a len cap z (pRead z len s).1 ∧ IntsAt (fun b => w.heap.size ≤ b) w' lv l := by
  obtain ⟨c0, -, -, -, -, -⟩ := hr.six
  have hrl : rb < w.heap.size := Is.lt hr
  have hcl : cb < w.heap.size := hl.cur.lt
  obtain ⟨s1, hs1⟩ : ∃ s1, byteS z len s 114 = s1 := ⟨_, rfl⟩
  obtain ⟨s2, hs2⟩ : ∃ s2, byteS z len s1 32 = s2 := ⟨_, rfl⟩
  obtain ⟨⟨s3, k⟩, hs3⟩ : ∃ r, numS z len s2 = r := ⟨_, rfl⟩
  obtain ⟨⟨s4, l⟩, hs4⟩ : ∃ r, listS z len s3 = r := ⟨_, rfl⟩
  have hat2 : s2.at_ ≤ len := by rw [← hs2]; exact byteS_at (by rw [← hs1]; exact byteS_at hl.at_)
  have hkf : (Lit.int .i64 k).wf = true := by have := numS_wf (z := z) hat2; rwa [hs3] at this
  have HS : Hid (pRead z len s = (byteS z len s4 10, ⟨true, k, 0, l⟩)) := by show _ = _; unfold pRead; simp only [hs1, hs2, hs3, hs4]
  have HR : Hid (Rdr w rb cb most ops nb vb tv) := hr
  have HL : Hid (Live w cb a len cap z s) := hl
  replace hs1 := hide hs1
  replace hs2 := hide hs2
  replace hs3 := hide hs3
  replace hs4 := hide hs4
  have HB : Hid (Below w.heap.size w (w.alloc (.cells #[.bool false, .int .i64 0, .int .i64 0, .slice none 0 0] 45))) := (Below.refl _ _).alloc (Nat.le_refl _) _
  have HI : Hid (Is (w.alloc (.cells #[.bool false, .int .i64 0, .int .i64 0, .slice none 0 0] 45)) w.heap.size #[.bool false, .int .i64 0, .int .i64 0, .slice none 0 0]) := Is.made _ _ _ rfl
  clear hr hl hat2
  go_enter Try.func65, Try.ntmps65
  go_upto_region 3 with (first | (go_at_call 70; (with_reducible refine (byte_live cb a len cap s z 114 _ (HL.out.keep HB.out)).mono ?_); rw [hs1.out]; rintro e w1 ⟨rfl, ho1, hl1⟩; have HL1 := hide hl1; have HO1 := hide ((Only.of_below HB.out).trans ho1); obtain ⟨HR1, HI1⟩ := stays (HR.out.keep (Only.of_below (S := fun _ => False) HB.out) (fun q => q)) HI.out ho1 h1 (fun (q : w.heap.size = cb) => by omega); obtain ⟨c0, -, -, -, -, -⟩ := HR1.out.six; clear hl1 ho1) | (go_at_call 70; (with_reducible refine (byte_live cb a len cap s1 z 32 _ HL1.out).mono ?_); rw [hs2.out]; rintro e w2 ⟨rfl, ho2, hl2⟩; have HL2 := hide hl2; have HO2 := hide (HO1.out.trans ho2); obtain ⟨HR2, HI2⟩ := stays HR1.out HI1.out ho2 h1 (fun (q : w.heap.size = cb) => by omega); obtain ⟨c0, -, -, -, -, -⟩ := HR2.out.six; clear hl2 ho2))
  go_cut [3] (fun x wx => ReadMid w rb cb nb vb w.heap.size most ops tv a len cap z s4 k l x wx)
  case first =>
    have hz2 : w.heap.size < w2.heap.size := HI2.out.lt
    have HX : Hid (∀ (_ : 0 < len) x, a = some x → x.block < w.heap.size) := HL.out.rd.lt
    have NA : Hid (Live w2.drew cb a len cap z s2) := HL2.out.drewN 1
    have NB : Hid (Live (w2.alloc (.cells #[.bool false, .int .i64 0, .int .i64 0, .slice none 0 0] 45)).drew cb a len cap z s2) := (HL2.out.keep ((Below.refl _ _).alloc (Nat.le_refl _) _)).drewN 1
    have n2 := World.new_ne w2 _ c0
    go_region_held3 (fun w' => w'.cell? ⟨rb, 0, none⟩ = some (.pointer (some ⟨cb, 0, none⟩))) (first | assumption | go_keep)
      (first | (go_at_call 73; (with_reducible refine (num_live cb a len cap s2 z _ NA.out).mono ?_); rw [hs3.out]; rintro e w3 ⟨rfl, ho3, hl3⟩; have RA := hide (read_num HR2.out HI2.out HO2.out (Only.refl (fun k => k = cb) w2).drew ho3 hl3 h1 (by omega)); clear ho3 hl3; have HLA : Hid (Live w3 cb a len cap z s3) := RA.out.1; have HLA2 : Hid (Live (w3.alloc (.cells #[.bool false, .int .i64 0, .int .i64 0, .slice none 0 0] 45)) cb a len cap z s3) := RA.out.1.keep ((Below.refl _ _).alloc (Nat.le_refl _) _); have c3 := RA.out.2.1.cell 0 rfl; have n3 := World.new_ne w3 _ c3) | (go_at_call 73; (with_reducible refine (num_live cb a len cap s2 z _ NB.out).mono ?_); rw [hs3.out]; rintro e w3 ⟨rfl, ho3, hl3⟩; have RB := hide (read_numB HR2.out HI2.out HO2.out ho3 hl3 h1 (by omega) (by have := HL2.out.cur.lt; omega)); clear ho3 hl3; have HLB : Hid (Live w3 cb a len cap z s3) := RB.out.1.1; have c3 := RB.out.1.2.1.cell 0 rfl; have n3 := World.new_ne w3 _ c3) | (go_at_call 75; (with_reducible refine (list_ints cb a len cap s3 z _ HLA.out).mono ?_); rw [hs4.out]; rintro e w4 ⟨lv, rfl, ho4, hl4, hi4⟩; obtain ⟨la, lcap, rfl, -, -⟩ := IntsAt.shape hi4; have c4 := (RA.out.2.1.keep ho4 h1).cell 0 rfl; have M := hide (read_end1 (k := k) 45 RA.out ho4 hl4 hi4 h1 (by omega)); clear ho4 hl4 hi4; have n4 := World.new_ne w4 _ c4) | (go_at_call 75; (with_reducible refine (list_ints cb a len cap s3 z _ HLA2.out).mono ?_); rw [hs4.out]; rintro e w4 ⟨lv, rfl, ho4, hl4, hi4⟩; obtain ⟨la, lcap, rfl, -, -⟩ := IntsAt.shape hi4; have c4 := ((Is.alloc RA.out.2.1 _).keep ho4 h1).cell 0 rfl; obtain ⟨hx4, hM⟩ := read_end2 (k := k) RA.out ((Below.refl _ _).alloc (Nat.le_refl _) _) (Is.made w3 _ _ rfl) ho4 hl4 hi4 h1 (by omega) (RA.out.2.2.1.lt) hrl hcl HX.out; obtain ⟨⟨x0, x1, x2, x3⟩, y0, y1, y2, y3⟩ := hx4.four; have M := hide hM; clear ho4 hl4 hi4 hM hx4; have n4 := World.new_ne w4 _ c4) | (go_at_call 75; (with_reducible refine (list_ints cb a len cap s3 z _ HLB.out).mono ?_); rw [hs4.out]; rintro e w4 ⟨lv, rfl, ho4, hl4, hi4⟩; obtain ⟨la, lcap, rfl, -, -⟩ := IntsAt.shape hi4; have c4 := (RB.out.1.2.1.keep ho4 h1).cell 0 rfl; obtain ⟨hx4, hM⟩ := read_end2 (k := k) RB.out.1 (Below.refl _ _) RB.out.2.1 ho4 hl4 hi4 h1 (by omega) hz2 hrl hcl HX.out; obtain ⟨⟨x0, x1, x2, x3⟩, y0, y1, y2, y3⟩ := hx4.four; have M := hide hM; clear ho4 hl4 hi4 hM hx4; have n4 := World.new_ne w4 _ c4))
    all_goals
      go_simp
      go_wp2_with fail
      go_meet
      case rel => exact M.out
  case rest =>
    obtain ⟨xb, lv, rfl, hxb, hx, hi, hli, hl3, hr3, ho3⟩ := hcut
    obtain ⟨la, lcap, rfl, -, -⟩ := IntsAt.shape hli
    obtain ⟨c0, -, -, -, -, -⟩ := hr3.six
    have HX := hide hx
    have HI3 := hide hi
    have HLI := hide hli
    have HL3 := hide hl3
    have HO3 := hide ho3
    clear hx hi hli hl3 hr3 ho3
    go_wp2_with (go_at_call 70; (with_reducible refine (byte_live cb a len cap s4 z 10 _ HL3.out).mono ?_); rintro e w5 ⟨rfl, ho5, hl5⟩; have HL5 := hide hl5; have HO5 := hide (HO3.out.trans ho5); have HI5 := hide (HI3.out.keep ho5 (fun (q : w.heap.size = cb) => by omega)); have HJ5 := hide (HX.out.keep ho5 (fun (q : xb = cb) => by omega)); have HLI5 := hide (HLI.out.only ho5 (fun b q (r : b = cb) => by omega)); obtain ⟨⟨d0, d1, d2, d3⟩, f0, f1, f2, f3⟩ := HI5.out.four; obtain ⟨⟨e0, e1, e2, e3⟩, -, -, -, -⟩ := HJ5.out.four; clear hl5 ho5)
    obtain ⟨hO, hY⟩ := put_four HI5.out (.bool true) (.int .i64 k) (.int .i64 0) (.slice la l.length lcap)
    obtain ⟨⟨y0, y1, y2, y3⟩, -, -, -, -⟩ := hY.four
    have hlx : ∀ (_ : 0 < len) x, a = some x → ¬ x.block = w.heap.size := fun h0 x hx q => by have := HL.out.rd.lt h0 x hx; omega
    refine bodyPost_ret (v := .agg #[.bool true, .int .i64 k, .int .i64 0, .slice la l.length lcap]) (by simp [results, Try.results65, go_sem, y0, y1, y2, y3]) rfl ⟨k, l, _, by rw [HS.out], rfl, hkf, ?_, ?_, ?_⟩
    · exact HO5.out.trans' hO (fun i q => .inr (by omega))
    · rw [HS.out]
      exact HL5.out.other hO (by omega) hlx
    · exact (HLI5.out.only hO (fun b q r => by omega)).mono (fun b q => by omega)
end Go.Proofs.Ytigmgkcojifbcaa.Hist

/- The reader's line: what a line leaves, whichever it is. -/
namespace Go.Proofs.Ytigmgkcojifbcaa.Hist
open Go.RowKit Go.Proofs.Ytigmgkcojifbcaa.Dig Go.Proofs.Ytigmgkcojifbcaa.Mem Go.Proofs.Ytigmgkcojifbcaa.Cur Go.Proofs.Ytigmgkcojifbcaa.Keys
set_option linter.unusedVariables false
set_option linter.unusedSimpArgs false
attribute [local go_sem ↓] Go.wp_at_zero Go.wp_at_succ

/-- What an operation that was read leaves, ahead of its being added. -/
theorem op_mid {w w' : World} {B rb cb nb vb : Nat} {most : Int} {a : Option Addr} {len cap : Nat} {z : Nat → Int} {s s' : St} {ts : List TxnM} {tv lv : Value} {cs : List (List Value)} {o : OpM}
    (h : RAll w B rb cb nb vb most a len cap z s ts tv cs) (hne : ts ≠ []) (ho : Only (fun k => k = cb ∨ k = vb) w w') (hl : Live w' cb a len cap z s') (hv : Vals w' vb (opsN ts + 1) (fun p => appB (addOp ts o) p.1 p.2))
    (hi : IntsAt (fun b => w.heap.size ≤ b) w' lv o.list) :
    RCore w' B rb cb nb vb most a len cap z s' ts tv cs ∧ IntsAt (fun b => Gb B rb cb nb vb b ∧ w.heap.size ≤ b) w' lv o.list ∧ ((∀ b, tv.ownBlock = some b → b < w.heap.size) ∧ ∀ cs0 x y ov, cs = cs0 ++ [[x, y, ov]] → ∀ b, ov.ownBlock = some b → b < w.heap.size) ∧ Only (fun k => B ≤ k) w w' := by
  have hh := h.1.hi
  have hvl := SetAt.lt h.2
  exact ⟨⟨h.1.rdr.keep ho (fun q => q.elim h.1.lay.rc h.1.lay.rv), hl, SetAt.keep h.1.names ho (fun q => q.elim (Ne.symm h.1.lay.cn) h.1.lay.nv), h.1.own.keep ho (fun b q r => r.elim q.2.2.1 q.2.2.2.2), h.1.lay, h.1.few⟩,
    hi.mono (fun b q => ⟨⟨by omega, by omega, by omega, by omega, by omega⟩, q⟩), h.1.own.lt, ho.mono (fun k q => by have := h.1.lay.c; have := h.1.lay.v; omega)⟩
theorem app_any (ts : List TxnM) (hne : ts ≠ []) (o : OpM) (k v : Int) : appB (addOp ts o) k v = (appB ts k v || (!o.read && o.key == k && o.value == v)) := by
  obtain ⟨pre, last, rfl⟩ : ∃ us t, ts = us ++ [t] := ⟨_, _, (List.dropLast_concat_getLast hne).symm⟩
  exact app_addOp pre last o k v
set_option maxHeartbeats 4000000 in
theorem line_bad (B rb cb nb vb : Nat) (most : Int) (a : Option Addr) (len cap : Nat) (z : Nat → Int) (s : St) (ts : List TxnM) (tv : Value) (cs : List (List Value)) (x : Int) (w : World)
    (h : RAll w B rb cb nb vb most a len cap z s ts tv cs) (hx : x ≠ 116) (hc : (x ≠ 97 ∧ x ≠ 114) ∨ ts.length = 0) :
    Calls Try.prog 45 #[.pointer (some ⟨rb, 0, none⟩), .int .u8 x] w fun e w' => e = .returned (.tuple #[]) ∧ ∃ tv' cs', RAll w' B rb cb nb vb most a len cap z (pLine z len most x s ts).1 (pLine z len most x s ts).2 tv' cs' ∧ Only (fun k => B ≤ k) w w' := by
  obtain ⟨ta, tcap, rfl, hc1, hc2⟩ := h.1.own.shape
  obtain ⟨c0, c1, c2, -, -, c5⟩ := h.1.rdr.six
  have hf := h.1.few.1
  have hx1 : (x == 116) = false := by simpa using hx
  have HS : Hid (pLine z len most x s ts = (failS s 4 s.at_, ts)) := by show _ = _; unfold pLine; rw [if_neg hx, if_pos hc]
  have HL : Hid (Live w.drew cb a len cap z s) := h.1.live.drewN 1
  have H : Hid (RAll w B rb cb nb vb most a len cap z s ts (.slice ta ts.length tcap) cs) := h
  clear h hx
  by_cases h97 : x = 97 ∨ x = 114
  · have h0 : ts.length = 0 := hc.resolve_left (fun q => h97.elim q.1 q.2)
    clear hc
    rw [h0] at c5 H
    have h0' : (((0 : Nat) : Int) == 0) = true := rfl
    rcases h97 with rfl | rfl
    all_goals
      go_enter Try.func45, Try.ntmps45
      go_wp2
      go_region_held3 (fun w' => w'.cell? ⟨rb, 0, none⟩ = some (.pointer (some ⟨cb, 0, none⟩))) (first | assumption | go_keep)
        (first | (go_at_call 62; (with_reducible refine (at_any cb a len cap s _ HL.out.cur).mono ?_); rintro e w2 ⟨rfl, hw⟩; replace hw := hw.symm; subst hw) | (go_at_call 61; (with_reducible refine (fail_live cb a len cap s z 4 s.at_ _ HL.out).mono ?_); rintro e w3 ⟨rfl, ho3, hl3⟩; have M := hide (failAt H.out ((Only.refl _ _).drew.trans ho3) hl3); have c3 := (Is.keep H.out.1.rdr ((Only.refl _ _).drew.trans ho3) H.out.1.lay.rc).cell 0 rfl; clear ho3 hl3))
      all_goals
        go_simp
        go_wp2
        go_end0
        rw [HS.out]
        exact ⟨rfl, _, _, M.out.1, M.out.2⟩
  · have h1 : (x != 97) = true := by simp; omega
    have h2 : (x != 114) = true := by simp; omega
    clear hc h97
    go_enter Try.func45, Try.ntmps45
    go_wp2
    go_region_held3 (fun w' => w'.cell? ⟨rb, 0, none⟩ = some (.pointer (some ⟨cb, 0, none⟩))) (first | assumption | go_keep)
      (first | (go_at_call 62; (with_reducible refine (at_any cb a len cap s _ HL.out.cur).mono ?_); rintro e w2 ⟨rfl, hw⟩; replace hw := hw.symm; subst hw) | (go_at_call 61; (with_reducible refine (fail_live cb a len cap s z 4 s.at_ _ HL.out).mono ?_); rintro e w3 ⟨rfl, ho3, hl3⟩; have M := hide (failAt H.out ((Only.refl _ _).drew.trans ho3) hl3); have c3 := (Is.keep H.out.1.rdr ((Only.refl _ _).drew.trans ho3) H.out.1.lay.rc).cell 0 rfl; clear ho3 hl3))
    all_goals
      go_simp
      go_wp2
      go_end0
      rw [HS.out]
      exact ⟨rfl, _, _, M.out.1, M.out.2⟩
set_option maxHeartbeats 4000000 in
theorem line_full (B rb cb nb vb : Nat) (most : Int) (a : Option Addr) (len cap : Nat) (z : Nat → Int) (s : St) (ts : List TxnM) (tv : Value) (cs : List (List Value)) (x : Int) (w : World)
    (h : RAll w B rb cb nb vb most a len cap z s ts tv cs) (hx : x ≠ 116) (hc : x = 97 ∨ x = 114) (hne : ¬ ts.length = 0) (hm : most ≤ (opsN ts : Int)) :
    Calls Try.prog 45 #[.pointer (some ⟨rb, 0, none⟩), .int .u8 x] w fun e w' => e = .returned (.tuple #[]) ∧ ∃ tv' cs', RAll w' B rb cb nb vb most a len cap z (pLine z len most x s ts).1 (pLine z len most x s ts).2 tv' cs' ∧ Only (fun k => B ≤ k) w w' := by
  obtain ⟨ta, tcap, rfl, hc1, hc2⟩ := h.1.own.shape
  obtain ⟨c0, c1, c2, -, -, c5⟩ := h.1.rdr.six
  have hf := h.1.few.1
  have HS : Hid (pLine z len most x s ts = (failS s 3 s.at_, ts)) := by show _ = _; unfold pLine; rw [if_neg hx, if_neg (by rintro (q | q); exact hc.elim q.1 q.2; exact hne q), if_pos hm]
  have h0 : ((ts.length : Int) == 0) = false := by simp; simpa using hne
  have hm' : (most ≤ (opsN ts : Int)) := hm
  have H0 : ∀ n, Hid (RAll (w.drewN n) B rb cb nb vb most a len cap z s ts (.slice ta ts.length tcap) cs ∧ Only (fun k => B ≤ k) w (w.drewN n)) := fun n => ⟨h.went ((Only.refl _ _).drewN n) (h.1.live.drewN n), (Only.refl _ _).drewN n⟩
  clear h hx hne hm
  rcases hc with rfl | rfl
  all_goals
    go_enter Try.func45, Try.ntmps45
    go_wp2
    go_quiet (fail)
    go_simp
    obtain ⟨H, hO⟩ := (H0 nq).out
    have HO := hide hO
    clear hO H0
    obtain ⟨c0, c1, c2, -, -, c5⟩ := H.1.rdr.six
    generalize w.drewN nq = w1 at *
    have HL : Hid (Live w1.drew cb a len cap z s) := H.1.live.drewN 1
    have H := hide H
    go_wp2
    go_region_held3 (fun w' => w'.cell? ⟨rb, 0, none⟩ = some (.pointer (some ⟨cb, 0, none⟩))) (first | assumption | go_keep)
      (first | (go_at_call 62; (with_reducible refine (at_any cb a len cap s _ HL.out.cur).mono ?_); rintro e w2 ⟨rfl, hw⟩; replace hw := hw.symm; subst hw) | (go_at_call 61; (with_reducible refine (fail_live cb a len cap s z 3 s.at_ _ HL.out).mono ?_); rintro e w3 ⟨rfl, ho3, hl3⟩; have M := hide (failAt H.out ((Only.refl _ _).drew.trans ho3) hl3); have c3 := (Is.keep H.out.1.rdr ((Only.refl _ _).drew.trans ho3) H.out.1.lay.rc).cell 0 rfl; clear ho3 hl3))
    all_goals
      go_simp
      go_wp2
      go_end0
      rw [HS.out]
      exact ⟨rfl, _, _, M.out.1, HO.out.trans M.out.2⟩
theorem add_app (B rb cb nb vb : Nat) (most : Int) (a : Option Addr) (len cap : Nat) (z : Nat → Int) (s : St) (ts : List TxnM) (tv : Value) (cs : List (List Value)) (k v : Int) (M : Nat) (w : World)
    (h : RCore w B rb cb nb vb most a len cap z s ts tv cs) (hne : ts ≠ []) (hv : Vals w vb (opsN ts + 1) (fun p => appB (addOp ts ⟨false, k, v, []⟩) p.1 p.2))
    (hk : (Lit.int .i64 k).wf = true) (hval : (Lit.int .i64 v).wf = true) (hM : (∀ b, tv.ownBlock = some b → b < M) ∧ ∀ cs0 x y ov, cs = cs0 ++ [[x, y, ov]] → ∀ b, ov.ownBlock = some b → b < M) (hN : opsN ts < 5000) :
    Calls Try.prog 63 #[.pointer (some ⟨rb, 0, none⟩), .agg #[.bool false, .int .i64 k, .int .i64 v, .slice none 0 0]] w fun e w' => e = .returned (.tuple #[]) ∧ ∃ tv' cs', RAll w' B rb cb nb vb most a len cap z s (addOp ts ⟨false, k, v, []⟩) tv' cs' ∧ Only (fun k => B ≤ k) w w' :=
  add_any B rb cb nb vb most a len cap z s ts tv cs ⟨false, k, v, []⟩ none 0 M w h hne hv IntsAt.nil hk hval hM hN
theorem add_read (B rb cb nb vb : Nat) (most : Int) (a : Option Addr) (len cap : Nat) (z : Nat → Int) (s : St) (ts : List TxnM) (tv : Value) (cs : List (List Value)) (k : Int) (l : List Int) (la : Option Addr) (lcap M : Nat) (w : World)
    (h : RCore w B rb cb nb vb most a len cap z s ts tv cs) (hne : ts ≠ []) (hv : Vals w vb (opsN ts + 1) (fun p => appB (addOp ts ⟨true, k, 0, l⟩) p.1 p.2)) (hi : IntsAt (fun b => Gb B rb cb nb vb b ∧ M ≤ b) w (.slice la l.length lcap) l)
    (hk : (Lit.int .i64 k).wf = true) (hM : (∀ b, tv.ownBlock = some b → b < M) ∧ ∀ cs0 x y ov, cs = cs0 ++ [[x, y, ov]] → ∀ b, ov.ownBlock = some b → b < M) (hN : opsN ts < 5000) :
    Calls Try.prog 63 #[.pointer (some ⟨rb, 0, none⟩), .agg #[.bool true, .int .i64 k, .int .i64 0, .slice la l.length lcap]] w fun e w' => e = .returned (.tuple #[]) ∧ ∃ tv' cs', RAll w' B rb cb nb vb most a len cap z s (addOp ts ⟨true, k, 0, l⟩) tv' cs' ∧ Only (fun k => B ≤ k) w w' :=
  add_any B rb cb nb vb most a len cap z s ts tv cs ⟨true, k, 0, l⟩ la lcap M w h hne hv hi hk (show (Lit.int .i64 0).wf = true by decide) hM hN
set_option maxHeartbeats 4000000 in
theorem go_line_txn (B rb cb nb vb : Nat) (most : Int) (a : Option Addr) (len cap : Nat) (z : Nat → Int) (s : St) (ts : List TxnM) (tv : Value) (cs : List (List Value)) (w : World)
    (h : RAll w B rb cb nb vb most a len cap z s ts tv cs) :
    Calls Try.prog 45 #[.pointer (some ⟨rb, 0, none⟩), .int .u8 116] w fun e w' => e = .returned (.tuple #[]) ∧ ∃ tv' cs', RAll w' B rb cb nb vb most a len cap z (pLine z len most 116 s ts).1 (pLine z len most 116 s ts).2 tv' cs' ∧ Only (fun k => B ≤ k) w w' := by
  have HS : Hid (pLine z len most 116 s ts = pTxn z len s ts) := if_pos rfl
  have H := hide h
  clear h
  go_enter Try.func45, Try.ntmps45
  go_wp2_with (go_at_call 60; (with_reducible refine (txn_any B rb cb nb vb most a len cap z s ts tv cs _ H.out).mono ?_); rintro e w1 ⟨rfl, tv1, cs1, h1, ho1⟩; have M := hide (And.intro h1 ho1); clear h1 ho1)
  go_end0
  rw [HS.out]
  exact ⟨rfl, _, _, M.out.1, M.out.2⟩
set_option maxHeartbeats 4000000 in
theorem line_app (B rb cb nb vb : Nat) (most : Int) (a : Option Addr) (len cap : Nat) (z : Nat → Int) (s : St) (ts : List TxnM) (tv : Value) (cs : List (List Value)) (w : World)
    (h : RAll w B rb cb nb vb most a len cap z s ts tv cs) (hne : ¬ ts.length = 0) (hm : ¬ most ≤ (opsN ts : Int)) (hmx : most ≤ 4096) :
    Calls Try.prog 45 #[.pointer (some ⟨rb, 0, none⟩), .int .u8 97] w fun e w' => e = .returned (.tuple #[]) ∧ ∃ tv' cs', RAll w' B rb cb nb vb most a len cap z (pLine z len most 97 s ts).1 (pLine z len most 97 s ts).2 tv' cs' ∧ Only (fun k => B ≤ k) w w' := by
  obtain ⟨ta, tcap, rfl, hc1, hc2⟩ := h.1.own.shape
  obtain ⟨c0, c1, c2, -, -, c5⟩ := h.1.rdr.six
  have hf := h.1.few.1
  have HS : Hid (pLine z len most 97 s ts = ((pApp z len s ts).1, addOp ts (pApp z len s ts).2)) := by show _ = _; unfold pLine; rw [if_neg (by decide), if_neg (by rintro (q | q); exact q.1 rfl; exact hne q), if_neg hm, if_pos rfl]
  have h0 : ((ts.length : Int) == 0) = false := by simp; simpa using hne
  have hm' : ¬ (most ≤ (opsN ts : Int)) := hm
  have HNE : Hid (ts ≠ []) := hide (fun q => hne (by rw [q]; rfl))
  have HN : Hid (opsN ts < 5000) := hide (by omega)
  have H0 : ∀ n, Hid (RAll (w.drewN n) B rb cb nb vb most a len cap z s ts (.slice ta ts.length tcap) cs ∧ Only (fun k => B ≤ k) w (w.drewN n)) := fun n => ⟨h.went ((Only.refl _ _).drewN n) (h.1.live.drewN n), (Only.refl _ _).drewN n⟩
  clear h hne hm
  go_enter Try.func45, Try.ntmps45
  go_wp2
  go_quiet (fail)
  go_simp
  obtain ⟨H, hO⟩ := (H0 nq).out
  have HO := hide hO
  clear hO H0
  generalize w.drewN nq = w1 at *
  have HC := hide H.1
  have HW : Hid (Vals w1 vb (opsN ts) (fun p => appB ts p.1 p.2)) := H.2
  have H := hide H
  go_wp2_with (first | (go_at_call 64; (with_reducible refine (appendOp_any rb cb nb vb most (opsN ts : Int) (.slice ta ts.length tcap) a len cap z s (opsN ts) (fun p => appB ts p.1 p.2) _ HC.out.rdr HC.out.live HW.out HC.out.lay.rc HC.out.lay.rv HC.out.lay.cv HC.out.lay.av (by have := HN.out; omega)).mono ?_); rintro e w2 ⟨k, v, hp, rfl, hk, hv, ho2, hl2, hn2⟩; have HP : Hid (pApp z len s ts = ((pApp z len s ts).1, ⟨false, k, v, []⟩)) := hide hp; have HM := hide (op_mid (o := ⟨false, k, v, []⟩) H.out HNE.out ho2 hl2 (SetAt.congr hn2 (fun p => (by rw [app_any ts HNE.out]; rfl))) IntsAt.nil); have HV : Hid (Vals w2 vb (opsN ts + 1) (fun p => appB (addOp ts ⟨false, k, v, []⟩) p.1 p.2)) := SetAt.congr hn2 (fun p => (by rw [app_any ts HNE.out]; rfl)); clear hp ho2 hl2 hn2) | (go_at_call 63; (with_reducible refine (add_app B rb cb nb vb most a len cap z _ ts _ cs k v w1.heap.size _ HM.out.1 HNE.out HV.out hk hv HM.out.2.2.1 HN.out).mono ?_); rintro e w3 ⟨rfl, tv3, cs3, h3, ho3⟩; have M := hide (And.intro h3 ho3); clear h3 ho3))
  go_end0
  rw [HS.out, HP.out]
  exact ⟨rfl, _, _, M.out.1, (HO.out.trans HM.out.2.2.2).trans M.out.2⟩
set_option maxHeartbeats 4000000 in
theorem go_line_read (B rb cb nb vb : Nat) (most : Int) (a : Option Addr) (len cap : Nat) (z : Nat → Int) (s : St) (ts : List TxnM) (tv : Value) (cs : List (List Value)) (w : World)
    (h : RAll w B rb cb nb vb most a len cap z s ts tv cs) (hne : ¬ ts.length = 0) (hm : ¬ most ≤ (opsN ts : Int)) (hmx : most ≤ 4096) :
    Calls Try.prog 45 #[.pointer (some ⟨rb, 0, none⟩), .int .u8 114] w fun e w' => e = .returned (.tuple #[]) ∧ ∃ tv' cs', RAll w' B rb cb nb vb most a len cap z (pLine z len most 114 s ts).1 (pLine z len most 114 s ts).2 tv' cs' ∧ Only (fun k => B ≤ k) w w' := by
  obtain ⟨ta, tcap, rfl, hc1, hc2⟩ := h.1.own.shape
  obtain ⟨c0, c1, c2, -, -, c5⟩ := h.1.rdr.six
  have hf := h.1.few.1
  have HS : Hid (pLine z len most 114 s ts = ((pRead z len s).1, addOp ts (pRead z len s).2)) := by show _ = _; unfold pLine; rw [if_neg (by decide), if_neg (by rintro (q | q); exact q.2 rfl; exact hne q), if_neg hm, if_neg (by decide)]
  have h0 : ((ts.length : Int) == 0) = false := by simp; simpa using hne
  have hm' : ¬ (most ≤ (opsN ts : Int)) := hm
  have HNE : Hid (ts ≠ []) := hide (fun q => hne (by rw [q]; rfl))
  have HN : Hid (opsN ts < 5000) := hide (by omega)
  have H0 : ∀ n, Hid (RAll (w.drewN n) B rb cb nb vb most a len cap z s ts (.slice ta ts.length tcap) cs ∧ Only (fun k => B ≤ k) w (w.drewN n)) := fun n => ⟨h.went ((Only.refl _ _).drewN n) (h.1.live.drewN n), (Only.refl _ _).drewN n⟩
  clear h hne hm
  go_enter Try.func45, Try.ntmps45
  go_wp2
  go_quiet (fail)
  go_simp
  obtain ⟨H, hO⟩ := (H0 nq).out
  have HO := hide hO
  clear hO H0
  generalize w.drewN nq = w1 at *
  have HC := hide H.1
  have HW : Hid (Vals w1 vb (opsN ts) (fun p => appB ts p.1 p.2)) := H.2
  have H := hide H
  go_wp2_with (first | (go_at_call 65; (with_reducible refine (readOp_any rb cb nb vb most (opsN ts : Int) (.slice ta ts.length tcap) a len cap z s _ HC.out.rdr HC.out.live HC.out.lay.rc).mono ?_); rintro e w2 ⟨k, l, lv, hp, rfl, hk, ho2, hl2, hi2⟩; obtain ⟨la, lcap, rfl, -, -⟩ := IntsAt.shape hi2; have HP : Hid (pRead z len s = ((pRead z len s).1, ⟨true, k, 0, l⟩)) := hide hp; have HV : Hid (Vals w2 vb (opsN ts + 1) (fun p => appB (addOp ts ⟨true, k, 0, l⟩) p.1 p.2)) := SetAt.congr (SetAt.mono (SetAt.keep H.out.2 ho2 (Ne.symm H.out.1.lay.cv)) (Nat.le_succ _)) (fun p => (by rw [app_any ts HNE.out]; simp)); have HM := hide (op_mid (o := ⟨true, k, 0, l⟩) H.out HNE.out (ho2.mono (fun _ q => .inl q)) hl2 HV.out hi2); clear hp ho2 hl2 hi2) | (go_at_call 63; (with_reducible refine (add_read B rb cb nb vb most a len cap z _ ts _ cs k l la lcap w1.heap.size _ HM.out.1 HNE.out HV.out HM.out.2.1 hk HM.out.2.2.1 HN.out).mono ?_); rintro e w3 ⟨rfl, tv3, cs3, h3, ho3⟩; have M := hide (And.intro h3 ho3); clear h3 ho3))
  go_end0
  rw [HS.out, HP.out]
  exact ⟨rfl, _, _, M.out.1, (HO.out.trans HM.out.2.2.2).trans M.out.2⟩
theorem line_any (B rb cb nb vb : Nat) (most : Int) (a : Option Addr) (len cap : Nat) (z : Nat → Int) (s : St) (ts : List TxnM) (tv : Value) (cs : List (List Value)) (x : Int) (w : World)
    (h : RAll w B rb cb nb vb most a len cap z s ts tv cs) (hmx : most ≤ 4096) :
    Calls Try.prog 45 #[.pointer (some ⟨rb, 0, none⟩), .int .u8 x] w fun e w' => e = .returned (.tuple #[]) ∧ ∃ tv' cs', RAll w' B rb cb nb vb most a len cap z (pLine z len most x s ts).1 (pLine z len most x s ts).2 tv' cs' ∧ Only (fun k => B ≤ k) w w' := by
  by_cases h1 : x = 116
  · subst h1; exact go_line_txn B rb cb nb vb most a len cap z s ts tv cs w h
  by_cases h2 : (x ≠ 97 ∧ x ≠ 114) ∨ ts.length = 0
  · exact line_bad B rb cb nb vb most a len cap z s ts tv cs x w h h1 h2
  have h3 : x = 97 ∨ x = 114 := by omega
  have h4 : ¬ ts.length = 0 := fun q => h2 (.inr q)
  by_cases h5 : most ≤ (opsN ts : Int)
  · exact line_full B rb cb nb vb most a len cap z s ts tv cs x w h h1 h3 h4 h5
  · rcases h3 with rfl | rfl
    · exact line_app B rb cb nb vb most a len cap z s ts tv cs w h h4 h5 hmx
    · exact go_line_read B rb cb nb vb most a len cap z s ts tv cs w h h4 h5 hmx
end Go.Proofs.Ytigmgkcojifbcaa.Hist

/- The reader's lines, newReader, and the program's Decode: the document's history of bytes. -/
namespace Go.Proofs.Ytigmgkcojifbcaa.Hist
open Go.RowKit Go.Proofs.Ytigmgkcojifbcaa.Dig Go.Proofs.Ytigmgkcojifbcaa.Mem Go.Proofs.Ytigmgkcojifbcaa.Cur Go.Proofs.Ytigmgkcojifbcaa.Keys
set_option linter.unusedVariables false
set_option linter.unusedSimpArgs false
attribute [local go_sem ↓] Go.wp_at_zero Go.wp_at_succ

def measP (len : Nat) (s : St) : Nat := if s.e = 0 then len - s.at_ + 1 else 0
/-- In the midst of lines: what is left leads to r. -/
def LinesOk (z : Nat → Int) (len : Nat) (most : Int) (r : List TxnM × Int × Int) (s : St) (ts : List TxnM) : Prop :=
  (s.e = 0 ∧ s.x = 0 ∧ ∀ f, len - s.at_ ≤ f → decL z len most f ts s.at_ = r) ∨ (s.e ≠ 0 ∧ r = ([], s.e, s.x))
/-- .. at the end. -/
def LinesEnd (r : List TxnM × Int × Int) (s : St) (ts : List TxnM) : Prop := (s.e = 0 ∧ r = (ts, 0, 0)) ∨ (s.e ≠ 0 ∧ r = ([], s.e, s.x))
theorem decL_fuel {z : Nat → Int} {len : Nat} {most : Int} : ∀ (f f' : Nat) (ts : List TxnM) (i : Nat), len - i ≤ f → len - i ≤ f' → decL z len most f ts i = decL z len most f' ts i
  | 0, f', ts, i, h, h' => by rw [decL_done (by omega), decL_done (by omega)]
  | f + 1, 0, ts, i, h, h' => by rw [decL_done (by omega), decL_done (by omega)]
  | f + 1, f' + 1, ts, i, h, h' => by
    rw [decL, decL]
    by_cases hi : i < len
    · rw [if_pos hi, if_pos hi]
      rcases line_two (most := most) (ts := ts) (z := z) hi with ⟨e, g1, g2, _⟩ | ⟨e, _⟩
      · rw [if_pos e, if_pos e]
        exact decL_fuel f f' _ _ (by omega) (by omega)
      · rw [if_neg e, if_neg e]
    · rw [if_neg hi, if_neg hi]
theorem LinesOk.step {z : Nat → Int} {len : Nat} {most : Int} {r : List TxnM × Int × Int} {s : St} {ts : List TxnM} (h : LinesOk z len most r s ts) (he : s.e = 0) (hi : s.at_ < len) :
    LinesOk z len most r (pLine z len most (z s.at_) s ts).1 (pLine z len most (z s.at_) s ts).2 ∧ measP len (pLine z len most (z s.at_) s ts).1 < measP len s := by
  rcases h with ⟨_, hx, hd⟩ | ⟨q, _⟩
  · obtain ⟨i, e0, x0⟩ := s
    simp only at he hx hi hd
    subst he hx
    have hm := line_meets (most := most) (ts := ts) (z := z) hi
    have h1 := hd (len - i - 1 + 1) (by show len - i ≤ _; omega)
    rw [decL, if_pos hi] at h1
    have em : measP len ⟨i, 0, 0⟩ = len - i + 1 := rfl
    rw [em]
    rcases line_two (most := most) (ts := ts) (z := z) hi with ⟨e, g1, g2, _⟩ | ⟨e, _⟩
    · rw [if_pos e] at h1
      have hp := hm.1 e
      simp only [hp]
      refine ⟨.inl ⟨rfl, rfl, fun f hf => ?_⟩, ?_⟩
      · rw [← h1]
        simp only at hf ⊢
        exact decL_fuel _ _ _ _ hf (by omega)
      · show len - _ + 1 < _
        simp only
        omega
    · rw [if_neg e] at h1
      obtain ⟨q1, q2⟩ := hm.2 e
      refine ⟨.inr ⟨by rw [q1]; exact e, by rw [q1, q2]; exact h1.symm⟩, ?_⟩
      unfold measP
      rw [if_neg (by rw [q1]; exact e)]
      omega
  · exact absurd he q
theorem LinesOk.done {z : Nat → Int} {len : Nat} {most : Int} {r : List TxnM × Int × Int} {s : St} {ts : List TxnM} (h : LinesOk z len most r s ts) (hq : (peekP z len s).2 = false) : LinesEnd r s ts := by
  rcases h with ⟨he, hx, hd⟩ | h
  · left
    refine ⟨he, ?_⟩
    unfold peekP at hq
    rw [if_pos he] at hq
    have hi : ¬ s.at_ < len := fun q => by rw [peekS_in q] at hq; cases hq
    have := hd (len - s.at_) (Nat.le_refl _)
    rw [decL_done (by omega)] at this
    exact this.symm
  · exact .inr h
def LinesRel (w : World) (B rb cb nb vb : Nat) (most : Int) (a : Option Addr) (len cap : Nat) (z : Nat → Int) (r : List TxnM × Int × Int) (g : Nat) (wr : World) : Prop :=
  ∃ s ts tv cs, RAll wr B rb cb nb vb most a len cap z s ts tv cs ∧ Only (fun k => B ≤ k) w wr ∧ LinesOk z len most r s ts ∧ Hid (measP len s ≤ g)
set_option maxHeartbeats 4000000 in
theorem lines_any (B rb cb nb vb : Nat) (most : Int) (a : Option Addr) (len cap : Nat) (z : Nat → Int) (s : St) (ts : List TxnM) (tv : Value) (cs : List (List Value)) (r : List TxnM × Int × Int) (w : World)
    (h : RAll w B rb cb nb vb most a len cap z s ts tv cs) (hmx : most ≤ 4096) (hr : LinesOk z len most r s ts) :
    Calls Try.prog 31 #[.pointer (some ⟨rb, 0, none⟩)] w fun e w' => e = .returned (.tuple #[]) ∧ ∃ s' ts' tv' cs', RAll w' B rb cb nb vb most a len cap z s' ts' tv' cs' ∧ Only (fun k => B ≤ k) w w' ∧ LinesEnd r s' ts' := by
  have R0 : Hid (LinesRel w B rb cb nb vb most a len cap z r (measP len s) w) := ⟨s, ts, tv, cs, h, Only.refl _ _, hr, Nat.le_refl _⟩
  clear h hr
  go_enter Try.func31, Try.ntmps31
  go_wp2
  go_loopg [3] (measP len s) (fun g _ wr => LinesRel w B rb cb nb vb most a len cap z r g wr)
  case atStart => exact R0.out
  case round =>
    obtain ⟨s1, ts1, tv1, cs1, h1, ho1, hr1, hg1⟩ := hrel
    obtain ⟨c0, -, -, -, -, -⟩ := h1.1.rdr.six
    obtain ⟨⟨x, q⟩, hp⟩ : ∃ p, peekP z len s1 = p := ⟨_, rfl⟩
    have HL : Hid (Live wr cb a len cap z s1) := h1.1.live
    have HP : Hid (peekP z len s1 = (x, q)) := hp
    have HO1 := hide ho1
    have HR1 := hide hr1
    have H1 : Hid (RAll wr B rb cb nb vb most a len cap z s1 ts1 tv1 cs1) := h1
    clear h1 ho1 hr1 hp
    have HB : ∀ (w2 : World), Below wr.heap.size wr w2 → Live w2 cb a len cap z s1 → Hid (RAll w2 B rb cb nb vb most a len cap z s1 ts1 tv1 cs1) := fun w2 hb hl => hide (H1.out.went (Only.of_below hb) hl)
    cases q with
    | false =>
      have HE := hide (HR1.out.done (by rw [HP.out]))
      go_wp2_with (go_at_call 44; go_must ((with_reducible refine (peek_live cb a len cap s1 z _ HL.out).mono ?_); rw [HP.out]; rintro e w2 ⟨rfl, hb2, hl2⟩; have HA2 := HB w2 hb2 hl2; have HO2 : Hid (Only (fun k => B ≤ k) w w2) := HO1.out.trans (Only.of_below hb2); clear hb2 hl2))
      refine bodyPost_ret (results_none rfl _ _ _) rfl ?_
      exact ⟨rfl, s1, ts1, tv1, cs1, HA2.out, HO2.out, HE.out⟩
    | true =>
      have HX : Hid (s1.e = 0 ∧ s1.at_ < len ∧ x = z s1.at_) := by
        have hp := HP.out
        unfold peekP at hp
        by_cases he : s1.e = 0
        · rw [if_pos he] at hp
          by_cases hi : s1.at_ < len
          · rw [peekS_in hi] at hp; exact ⟨he, hi, (congrArg Prod.fst hp).symm⟩
          · rw [peekS_out hi] at hp; simp at hp
        · rw [if_neg he] at hp; simp at hp
      have HS := hide (HR1.out.step HX.out.1 HX.out.2.1)
      rw [← HX.out.2.2] at HS
      go_wp2_with (first | (go_at_call 44; go_must ((with_reducible refine (peek_live cb a len cap s1 z _ HL.out).mono ?_); rw [HP.out]; rintro e w2 ⟨rfl, hb2, hl2⟩; have HA2 := HB w2 hb2 hl2; have HO2 : Hid (Only (fun k => B ≤ k) w w2) := HO1.out.trans (Only.of_below hb2); clear hb2 hl2)) | (go_at_call 45; go_must ((with_reducible refine (line_any B rb cb nb vb most a len cap z s1 ts1 tv1 cs1 x _ HA2.out hmx).mono ?_); rintro e w3 ⟨rfl, tv3, cs3, h3, ho3⟩; have M : Hid (LinesRel w B rb cb nb vb most a len cap z r (measP len (pLine z len most x s1 ts1).1) w3) := hide ⟨_, _, tv3, cs3, h3, HO2.out.trans ho3, HS.out.1, Nat.le_refl _⟩; clear h3 ho3)))
      go_roundg (measP len (pLine z len most x s1 ts1).1)
      case measure => exact Nat.lt_of_lt_of_le HS.out.2 hg1.out
      case rel => exact M.out
end Go.Proofs.Ytigmgkcojifbcaa.Hist

/- newReader, and the program's Decode: the document's history of bytes. -/
namespace Go.Proofs.Ytigmgkcojifbcaa.Hist
open Go.RowKit Go.Proofs.Ytigmgkcojifbcaa.Dig Go.Proofs.Ytigmgkcojifbcaa.Mem Go.Proofs.Ytigmgkcojifbcaa.Cur Go.Proofs.Ytigmgkcojifbcaa.Keys
set_option linter.unusedVariables false
set_option linter.unusedSimpArgs false
attribute [local go_sem ↓] Go.wp_at_zero Go.wp_at_succ

theorem newReader_all {w w1 : World} {a : Option Addr} {len cap : Nat} {z : Nat → Int} {most : Int} {T : TypeId} (hr : Rd .u8 w a len z) (ho : Only (fun _ => False) w w1) (hl : Live w1 w.heap.size a len cap z ⟨0, 0, 0⟩) :
    RAll (((w1.alloc (.map #[] 0)).alloc (.map #[] 0)).alloc (.cells #[.pointer (some ⟨w.heap.size, 0, none⟩), .int .i64 most, .int .i64 0, .map (some w1.heap.size), .map (some (w1.heap.size + 1)), .slice none 0 0] T)) w.heap.size (w1.heap.size + 2) w.heap.size w1.heap.size (w1.heap.size + 1) most a len cap z ⟨0, 0, 0⟩ [] (.slice none 0 0) [] ∧
      Below w.heap.size w (((w1.alloc (.map #[] 0)).alloc (.map #[] 0)).alloc (.cells #[.pointer (some ⟨w.heap.size, 0, none⟩), .int .i64 most, .int .i64 0, .map (some w1.heap.size), .map (some (w1.heap.size + 1)), .slice none 0 0] T)) := by
  have hcl := hl.cur.lt
  have hb1 : Below w1.heap.size w1 (w1.alloc (.map #[] 0)) := (Below.refl _ _).alloc (Nat.le_refl _) _
  have hb2 : Below w1.heap.size w1 ((w1.alloc (.map #[] 0)).alloc (.map #[] 0)) := hb1.alloc (by simp) _
  have hb3 : ∀ o, Below w1.heap.size w1 (((w1.alloc (.map #[] 0)).alloc (.map #[] 0)).alloc o) := fun o => hb2.alloc (by simp; omega) _
  have hF : ∀ {x y : World}, Below x.heap.size x y → Only (fun _ => False) x y := fun h => Only.of_below h
  refine ⟨⟨⟨?_, hl.keep (hb3 _), ?_, HistOwn.nil _ _ _, ⟨by omega, by omega, by omega, by omega, by omega, by omega, by omega, by omega, by omega, by omega, fun h0 x hx => hr.lt h0 x hx⟩, by simp [opsN]⟩, ?_⟩, ho.below (fun _ q => q.elim) (Nat.le_refl _) |>.trans ((hb3 _).mono (by omega))⟩
  · exact Is.made _ _ _ (by simp)
  · have h1 : Names (w1.alloc (.map #[] 0)) w1.heap.size 0 (fun _ => false) := SetAt.made _ rfl
    exact SetAt.congr (SetAt.keep (SetAt.keep h1 (hF ((Below.refl _ _).alloc (Nat.le_refl _) _)) (fun q => q)) (hF ((Below.refl _ _).alloc (Nat.le_refl _) _)) (fun q => q)) (fun x => rfl)
  · have h1 : Vals ((w1.alloc (.map #[] 0)).alloc (.map #[] 0)) (w1.heap.size + 1) 0 (fun _ => false) := SetAt.made _ (by simp)
    exact SetAt.congr (SetAt.keep h1 (hF ((Below.refl _ _).alloc (Nat.le_refl _) _)) (fun q => q)) (fun x => rfl)
theorem newReader_any (a : Option Addr) (len cap : Nat) (z : Nat → Int) (most : Int) (w : World) (hr : Rd .u8 w a len z) (hc : len ≤ cap) :
    Calls Try.prog 30 #[.slice a len cap, .int .i64 most] w fun e w' => ∃ rb cb nb vb, e = .returned (.pointer (some ⟨rb, 0, none⟩)) ∧ RAll w' w.heap.size rb cb nb vb most a len cap z ⟨0, 0, 0⟩ [] (.slice none 0 0) [] ∧ Below w.heap.size w w' := by
  have HR := hide hr
  have hmm := @run_makeMap Try.prog
  clear hr
  go_enter Try.func30, Try.ntmps30
  go_wp2_with (go_at_call 43; go_must ((with_reducible refine (new_live _ w.heap.size a len cap z rfl HR.out hc).mono ?_); rintro e w1 ⟨rfl, ho1, hl1⟩; have HO1 := hide ho1; have HL1 := hide hl1; clear ho1 hl1))
  go_ret
  obtain ⟨h1, h2⟩ := newReader_all (most := most) (T := 72) HR.out HO1.out HL1.out
  exact ⟨_, _, _, _, rfl, h1, h2⟩
set_option maxHeartbeats 4000000 in
theorem dec_any (a : Option Addr) (len cap : Nat) (z : Nat → Int) (most : Int) (w : World) (hr : Rd .u8 w a len z) (hc : len ≤ cap) :
    Calls Try.prog 14 #[.slice a len cap, .int .i64 most] w fun e w' => ∃ tv, e = .returned (.tuple #[.agg #[tv], .int .i64 (decS z len most).2.1, .int .i64 (decS z len most).2.2]) ∧ TxnsAt (fun b => w.heap.size ≤ b) w' tv (decS z len most).1 ∧ Below w.heap.size w w' ∧ (decS z len most).1.length ≤ 1024 ∧ opsN (decS z len most).1 ≤ 5000 := by
  have HR := hide hr
  have hl := hr.1
  clear hr
  by_cases h1 : most < 0 ∨ 4096 < most
  · have HS : Hid (decS z len most = ([], 2, 0)) := if_pos h1
    have hd : Hid (Below w.heap.size w (w.alloc (.cells #[.slice none 0 0] 24))) := (Below.refl _ _).alloc (Nat.le_refl _) _
    rcases h1 with h1 | h1
    · go_enter Try.func14, Try.ntmps14
      go_wp2
      refine bodyPost_ret (v := .tuple #[.agg #[.slice none 0 0], .int .i64 2, .int .i64 0]) (by simp [results, Try.results14, go_sem]) rfl ⟨.slice none 0 0, by rw [HS.out], ?_, hd.out, ?_⟩
      all_goals rw [HS.out]
      · exact TxnsAt.nil
      · exact ⟨by simp, by simp [opsN]⟩
    · have h1' : ¬ most < 0 := by omega
      go_enter Try.func14, Try.ntmps14
      go_wp2
      refine bodyPost_ret (v := .tuple #[.agg #[.slice none 0 0], .int .i64 2, .int .i64 0]) (by simp [results, Try.results14, go_sem]) rfl ⟨.slice none 0 0, by rw [HS.out], ?_, hd.out, ?_⟩
      all_goals rw [HS.out]
      · exact TxnsAt.nil
      · exact ⟨by simp, by simp [opsN]⟩
  have h2 : ¬ most < 0 := fun q => h1 (.inl q)
  have h3 : ¬ 4096 < most := fun q => h1 (.inr q)
  by_cases h4 : 262144 < len
  · have HS : Hid (decS z len most = ([], 3, 262144)) := by show _ = _; unfold decS; rw [if_neg h1, if_pos h4]
    have hd : Hid (Below w.heap.size w (w.alloc (.cells #[.slice none 0 0] 24))) := (Below.refl _ _).alloc (Nat.le_refl _) _
    have h4' : (262144 : Int) < (len : Int) := by omega
    clear h1
    go_enter Try.func14, Try.ntmps14
    go_wp2
    refine bodyPost_ret (v := .tuple #[.agg #[.slice none 0 0], .int .i64 3, .int .i64 262144]) (by simp [results, Try.results14, go_sem]) rfl ⟨.slice none 0 0, by rw [HS.out], ?_, hd.out, ?_⟩
    all_goals rw [HS.out]
    · exact TxnsAt.nil
    · exact ⟨by simp, by simp [opsN]⟩
  have HS : Hid (decS z len most = decL z len most len [] 0) := by show _ = _; unfold decS; rw [if_neg h1, if_neg h4]
  have h4' : ¬ (262144 : Int) < (len : Int) := by omega
  have HR1 : Hid (Rd .u8 (w.alloc (.cells #[.slice none 0 0] 24)) a len z) := HR.out.only (Only.of_below (S := fun _ => False) ((Below.refl w.heap.size _).alloc (Nat.le_refl _) _)) (fun _ _ q => q)
  have hB : Hid ((w.alloc (.cells #[.slice none 0 0] 24)).heap.size = w.heap.size + 1) := hide (by simp)
  obtain ⟨r, hr⟩ : ∃ r, decL z len most len [] 0 = r := ⟨_, rfl⟩
  have HOK : Hid (LinesOk z len most r ⟨0, 0, 0⟩ []) := .inl ⟨rfl, rfl, fun f hf => by rw [← hr]; exact decL_fuel _ _ _ _ hf (by omega)⟩
  have HD := hide (decL_two (z := z) (len := len) (most := most) len [] 0)
  have HRR := hide hr
  clear h1 h4 hr
  by_cases h0 : r.2.1 = 0
  · have HE : ∀ (s : St) (ts : List TxnM), LinesEnd r s ts → s.e = 0 ∧ r = (ts, 0, 0) := fun s ts h => h.elim id (fun q => absurd (by rw [q.2] at h0; exact h0) q.1)
    clear h0
    go_enter Try.func14, Try.ntmps14
    go_wp2_with (first | (go_at_call 30; go_must ((with_reducible refine (newReader_any a len cap z most _ HR1.out hc).mono ?_); rintro e w1 ⟨rb, cb, nb, vb, rfl, h1, hb1⟩; have HI1 := hide ((Is.made w #[.slice none 0 0] 24 rfl).below hb1); rw [hB.out] at h1 hb1; have H1 := hide h1; have HB1 := hide hb1; clear h1 hb1)) | (go_at_call 31; go_must ((with_reducible refine (lines_any _ rb cb nb vb most a len cap z _ _ _ _ r _ H1.out h3 HOK.out).mono ?_); rintro e w2 ⟨rfl, s2, ts2, tv2, cs2, h2', ho2, he2⟩; have H2 := hide h2'; obtain ⟨ta, tcap, rfl, -, -⟩ := h2'.1.own.shape; obtain ⟨c0, -, -, -, -, c5⟩ := h2'.1.rdr.six; have HC2 := hide h2'.1.live.cur; have HE2 := hide (HE s2 ts2 he2); have HO2 := hide ho2; have HI2 : Hid (Is w2 w.heap.size #[.slice none 0 0]) := hide (HI1.out.keep ho2 (by omega)); have k0 := HI2.out.cell 0 rfl; have f0 := HI2.out.frozen 0; clear h2' ho2 he2)) | (go_at_call 32; go_must ((with_reducible refine (err_any cb a len cap s2 _ HC2.out).mono ?_); rw [HE2.out.1]; rintro e w3 ⟨rfl, n3, rfl⟩)))
    have hY := ((HI2.out.drewN n3).set 0 (.slice ta ts2.length tcap)).cell 0 rfl
    have hO : Only (fun k => k = w.heap.size) w2 ((w2.drewN n3).setCell ⟨w.heap.size, 0, none⟩ (.slice ta ts2.length tcap)) := ((Only.refl _ _).drewN n3).put 0 _
    have hBB : Below w.heap.size w ((w2.drewN n3).setCell ⟨w.heap.size, 0, none⟩ (.slice ta ts2.length tcap)) := ((((Below.refl w.heap.size w).alloc (Nat.le_refl _) _).trans (HB1.out.mono (by omega))).only HO2.out (fun i q => by omega) (by have := HI1.out.lt; omega)).only hO (fun i q => by omega) (by have := HI2.out.lt; omega)
    refine bodyPost_ret (v := .tuple #[.agg #[.slice ta ts2.length tcap], .int .i64 0, .int .i64 0]) (by simp [results, Try.results14, go_sem, hY]) rfl ⟨.slice ta ts2.length tcap, by rw [HS.out, HRR.out, HE2.out.2], ?_, hBB, ?_⟩
    all_goals rw [HS.out, HRR.out, HE2.out.2]
    rotate_left
    · exact H2.out.1.few
    exact (H2.out.1.own.txns.only hO (fun b q r => by have := q.1; omega)).mono (fun b q => by have := q.1; omega)
  · have HE : ∀ (s : St) (ts : List TxnM), LinesEnd r s ts → (¬ s.e = 0) ∧ r = ([], s.e, s.x) := fun s ts h => h.elim (fun q => absurd (by rw [q.2]) h0) id
    clear h0
    go_enter Try.func14, Try.ntmps14
    go_wp2_with (first | (go_at_call 30; go_must ((with_reducible refine (newReader_any a len cap z most _ HR1.out hc).mono ?_); rintro e w1 ⟨rb, cb, nb, vb, rfl, h1, hb1⟩; have HI1 := hide ((Is.made w #[.slice none 0 0] 24 rfl).below hb1); rw [hB.out] at h1 hb1; have H1 := hide h1; have HB1 := hide hb1; clear h1 hb1)) | (go_at_call 31; go_must ((with_reducible refine (lines_any _ rb cb nb vb most a len cap z _ _ _ _ r _ H1.out h3 HOK.out).mono ?_); rintro e w2 ⟨rfl, s2, ts2, tv2, cs2, h2', ho2, he2⟩; have H2 := hide h2'; obtain ⟨ta, tcap, rfl, -, -⟩ := h2'.1.own.shape; obtain ⟨c0, -, -, -, -, c5⟩ := h2'.1.rdr.six; have HC2 := hide h2'.1.live.cur; have HE2 := hide (HE s2 ts2 he2); have HO2 := hide ho2; have HI2 : Hid (Is w2 w.heap.size #[.slice none 0 0]) := hide (HI1.out.keep ho2 (by omega)); have k0 := HI2.out.cell 0 rfl; have f0 := HI2.out.frozen 0; have hne2 : (s2.e != 0) = true := (by simpa using HE2.out.1); clear h2' ho2 he2)) | (go_at_call 32; go_must ((with_reducible refine (err_any cb a len cap s2 _ HC2.out).mono ?_); rintro e w3 ⟨rfl, n3, rfl⟩)))
    have hY := ((HI2.out.drewN n3).set 0 (.slice none 0 0)).cell 0 rfl
    have hO : Only (fun k => k = w.heap.size) w2 ((w2.drewN n3).setCell ⟨w.heap.size, 0, none⟩ (.slice none 0 0)) := ((Only.refl _ _).drewN n3).put 0 _
    have hBB : Below w.heap.size w ((w2.drewN n3).setCell ⟨w.heap.size, 0, none⟩ (.slice none 0 0)) := ((((Below.refl w.heap.size w).alloc (Nat.le_refl _) _).trans (HB1.out.mono (by omega))).only HO2.out (fun i q => by omega) (by have := HI1.out.lt; omega)).only hO (fun i q => by omega) (by have := HI2.out.lt; omega)
    refine bodyPost_ret (v := .tuple #[.agg #[.slice none 0 0], .int .i64 s2.e, .int .i64 s2.x]) (by simp [results, Try.results14, go_sem, hY]) rfl ⟨.slice none 0 0, by rw [HS.out, HRR.out, HE2.out.2], ?_, hBB, ?_⟩
    all_goals rw [HS.out, HRR.out, HE2.out.2]
    · exact TxnsAt.nil
    · exact ⟨by simp, by simp [opsN]⟩
/-- .. where its answer is known. -/
theorem dec_at (a : Option Addr) (len cap : Nat) (z : Nat → Int) (most : Int) (w : World) {us : List TxnM} {e x : Int} (hr : Rd .u8 w a len z) (hc : len ≤ cap) (hd : Hid (decS z len most = (us, e, x))) :
    Calls Try.prog 14 #[.slice a len cap, .int .i64 most] w fun e' w' => ∃ ta tcap, e' = .returned (.tuple #[.agg #[.slice ta us.length tcap], .int .i64 e, .int .i64 x]) ∧ Hid (TxnsAt (fun b => w.heap.size ≤ b) w' (.slice ta us.length tcap) us) ∧ Hid (Below w.heap.size w w') ∧ Hid (us.length ≤ 1024 ∧ opsN us ≤ 5000) := by
  refine (dec_any a len cap z most w hr hc).mono ?_
  rw [hd.out]
  rintro e' w' ⟨tv, rfl, ht, hb, hf⟩
  obtain ⟨ta, tcap, rfl, -, -⟩ := ht.shape
  exact ⟨ta, tcap, rfl, ht, hb, hf⟩
end Go.Proofs.Ytigmgkcojifbcaa.Hist
