/- The reader's add: an operation behind those of the last transaction. -/
import Derived.Test.YtigmgkcojifbcaaHistTxn
import Derived.Test.YtigmgkcojifbcaaGrow
import Derived.Deep.DeepMust
namespace Go.Proofs.Ytigmgkcojifbcaa.Hist
open Go.RowKit Go.Proofs.Ytigmgkcojifbcaa.Dig Go.Proofs.Ytigmgkcojifbcaa.Mem Go.Proofs.Ytigmgkcojifbcaa.Cur Go.Proofs.Ytigmgkcojifbcaa.Keys
set_option linter.unusedVariables false
set_option linter.unusedSimpArgs false
attribute [local go_sem ↓] Go.wp_at_zero Go.wp_at_succ

theorem Try.info45 : (Try.prog.info? 45).map (fun i => (i.zero, i.size, i.bytes)) = some (some (.agg #[.bool false, .int .i64 0, .int .i64 0, .slice none 0 0]), 4, 48) := by kernel_rfl
theorem own_only {e : TypeId} {n B m : Nat} {w w' : World} {v : Value} {xs : List Value} (h : w.ownsRow B e n v m xs) (ho : Only (fun _ => False) w w') : w'.ownsRow B e n v m xs := by
  refine ⟨h.1, ?_⟩
  rcases h.2 with hn | ⟨g, cap, cur, rfl, hg, hh, r⟩
  · exact .inl hn
  · have hlt : g < w.heap.size := by
      rcases Nat.lt_or_ge g w.heap.size with q | q
      · exact q
      · rw [Array.getElem?_eq_none q] at hh; cases hh
    exact .inr ⟨g, cap, cur, rfl, hg, by rw [ho.block g hlt (fun q => q)]; exact hh, r⟩
set_option maxHeartbeats 4000000 in
theorem add_any (B rb cb nb vb : Nat) (most : Int) (a : Option Addr) (len cap : Nat) (z : Nat → Int) (s : St) (ts : List TxnM) (tv : Value) (cs : List (List Value)) (o : OpM) (la : Option Addr) (lcap M : Nat) (w : World)
    (h : RCore w B rb cb nb vb most a len cap z s ts tv cs) (hne : ts ≠ []) (hv : Vals w vb (opsN ts + 1) (fun p => appB (addOp ts o) p.1 p.2)) (hi : IntsAt (fun b => Gb B rb cb nb vb b ∧ M ≤ b) w (.slice la o.list.length lcap) o.list)
    (hk : (Lit.int .i64 o.key).wf = true) (hval : (Lit.int .i64 o.value).wf = true) (hM : (∀ b, tv.ownBlock = some b → b < M) ∧ ∀ cs0 x y ov, cs = cs0 ++ [[x, y, ov]] → ∀ b, ov.ownBlock = some b → b < M) (hN : opsN ts < 5000) :
    Calls Try.prog 63 #[.pointer (some ⟨rb, 0, none⟩), .agg #[.bool o.read, .int .i64 o.key, .int .i64 o.value, .slice la o.list.length lcap]] w fun e w' => e = .returned (.tuple #[]) ∧ ∃ tv' cs', RAll w' B rb cb nb vb most a len cap z s (addOp ts o) tv' cs' ∧ Only (fun k => B ≤ k) w w' := by
  obtain ⟨-, -, c2, -, -, c5⟩ := h.rdr.six
  have hrl : rb < w.heap.size := Is.lt h.rdr
  have f2 := Is.frozen h.rdr 2
  obtain ⟨hG, hown, hcase⟩ := h.own
  rcases hcase with ⟨h0, _⟩ | ⟨pre, last, cs0, ov, ocs, rfl, rfl, hlast⟩
  · exact absurd h0 hne
  have hlen := h.own.len
  obtain ⟨tg, tcap, rfl, ht1, ht2⟩ := own_some hown (by simp)
  have hl0 : cs0.length = pre.length := by simpa using hlen
  have el : (cs0 ++ [[Value.int .i64 last.id, .bool last.ab, ov]]).length = pre.length + 1 := by simp [hl0]
  rw [el] at h hown ht1 hM hG hlast c5
  obtain ⟨oa, ocap, rfl, ho1, ho2⟩ := hlast.2.2.1.row.shape
  have eo : ocs.length = last.ops.length := hlast.2.2.2.1.1
  rw [eo] at h hown hM hlast ho1
  have HS : Hid (RCore w B rb cb nb vb most a len cap z s (pre ++ [last]) (.slice (some ⟨tg, 0, none⟩) (pre.length + 1) tcap) (cs0 ++ [[.int .i64 last.id, .bool last.ab, .slice oa last.ops.length ocap]])) := h
  have HL := hide hlast
  have HV := hide hv
  have HI := hide hi
  have HM : Hid (tg < M ∧ ∀ b, (Value.slice oa last.ops.length ocap).ownBlock = some b → b < M) := hide ⟨hM.1 tg rfl, hM.2 _ _ _ _ rfl⟩
  have hnt := h.few.1
  have hno : last.ops.length ≤ 5000 := by have h1 := h.few.2; rw [opsN_app] at h1; simp [opsN] at h1; omega
  have ct : w.cell? ⟨tg, pre.length * 3 + 2, none⟩ = some (.slice oa last.ops.length ocap) := OwnC.cell hown (i := pre.length) (by simp [hl0]) (by rw [List.getElem_append_right (by omega)]; simp [hl0])
  have HCT := hide ct
  have htl : tg < w.heap.size := (hown.lt tg rfl).2
  have hBl : B ≤ w.heap.size := h.hi.1
  have hGt : Gb B rb cb nb vb tg := hG tg rfl
  have hrt : rb ≠ tg := fun q => hGt.2.1 q.symm
  have HOWN : Hid (w.ownsRow B 45 4 (.slice oa last.ops.length ocap) last.ops.length ocs.flatten) := by have q := hlast.2.2.1.1; rw [eo] at q; exact q
  have HOT : Hid (OwnC 48 3 B w (.slice (some ⟨tg, 0, none⟩) (pre.length + 1) tcap) (cs0 ++ [[Value.int .i64 last.id, .bool last.ab, .slice oa last.ops.length ocap]])) := hown
  have HGO : Hid (∀ b, (Value.slice oa last.ops.length ocap).ownBlock = some b → b ≠ rb ∧ b ≠ tg) := hide (fun b q => ⟨(hlast.2.2.2.2 b q).1.2.1, fun r => (hlast.2.2.2.2 b q).2 (by rw [r]; rfl)⟩)
  clear h hlast hv hi hM hG hown hne hGt
  obtain ⟨i0, hi0, hz0, hz1, hz2⟩ := info_parts Try.info45
  have HI0 : Hid (Try.prog.info? 45 = some i0 ∧ i0.zero = some (.agg #[.bool false, .int .i64 0, .int .i64 0, .slice none 0 0]) ∧ i0.size = 4 ∧ i0.bytes = 48) := ⟨hi0, hz0, hz1, hz2⟩
  clear hi0 hz0 hz1 hz2
  go_enter Try.func63, Try.ntmps63
  go_wp2
  go_quiet (fail)
  go_simp
  have HB : Hid (Only (fun _ => False) w ((w.alloc (.cells #[.bool o.read, .int .i64 o.key, .int .i64 o.value, .slice la o.list.length lcap] 45)).drewN nq)) := ((Only.refl _ _).alloc _).drewN nq
  obtain ⟨⟨d0, d1, d2, d3⟩, -, -, -, -⟩ := ((Is.made w #[.bool o.read, .int .i64 o.key, .int .i64 o.value, .slice la o.list.length lcap] 45 rfl).drewN nq).four
  have hzb : ((w.alloc (.cells #[.bool o.read, .int .i64 o.key, .int .i64 o.value, .slice la o.list.length lcap] 45)).drewN nq).heap.size = w.heap.size + 1 := by simp
  generalize (w.alloc (.cells #[.bool o.read, .int .i64 o.key, .int .i64 o.value, .slice la o.list.length lcap] 45)).drewN nq = wb at *
  have c2 := HB.out.cell c2 (fun q => q)
  have ct := HB.out.cell ct (fun q => q)
  have hrb : rb < wb.heap.size := by omega
  have htb : tg < wb.heap.size := by omega
  have hbb : w.heap.size < wb.heap.size := by omega
  have HZ := hide hzb
  have HBL : Hid (B ≤ wb.heap.size) := hide (by omega)
  clear hzb
  go_wp2
  go_region_law
    ((refine step_append_lies _ (by rfl) _ _ _ (by rfl) B 45 i0 _ 4 48 Try.underlying46 HI0.out.1 HI0.out.2.1 HI0.out.2.2.1 HI0.out.2.2.2 rfl (by omega) (.slice oa last.ops.length ocap) last.ops.length ocs.flatten (by rfl) (own_only HOWN.out (((HB.out.alloc _).drew)))
          ⟨wb.heap.size, 0, none⟩ 1 1 [.bool o.read, .int .i64 o.key, .int .i64 o.value, .slice la o.list.length lcap] (by rfl) (by rfl) (World.news_of_block (cs := #[.bool o.read, .int .i64 o.key, .int .i64 o.value, .slice la o.list.length lcap]) (t := 45) (fr := (0, 0)) (heap_alloc_new wb _)) (by simp [Value.oneCell'])
          (by omega) (by unfold maxLen; omega) (by omega) (by have := HBL.out; simp; omega) (wb.heap.size + 1) (by simp) ?_; intro gg gcap w3 hown3 hgrow3 hat3 hlt3; have hO3 : Hid (Only (fun k => (Value.slice oa last.ops.length ocap).ownBlock = some k) w w3) := ((((HB.out.alloc _).drew).mono (fun _ q => q.elim)).trans (grown_only hgrow3)); have RX := Is.keep HS.out.rdr hO3.out (fun q => (HGO.out _ q).1 rfl); have TX := HOT.out.keep hO3.out (fun b q r => (by simp [Value.ownBlock] at q; subst q; exact (HGO.out _ r).2 rfl)); have ftx := own_frozen TX (pre.length * 3 + 2); have ct3 := hO3.out.cell HCT.out (fun q => (HGO.out _ q).2 rfl); have r2 := RX.cell 2 rfl; have fr2 := RX.frozen 2; have M := hide (RAll.added (o := o) (n1 := (opsN (pre ++ [last]) : Int) + 1) HS.out HL.out HV.out HI.out hk hval HM.out ((HB.out.alloc _).drew) hgrow3 hown3 hat3 (by have := HZ.out; omega) hN (by push_cast; rfl)); clear RX TX))
  all_goals
    go_simp
    go_wp2
    go_end0
    exact ⟨rfl, _, _, M.out.1, M.out.2⟩
end Go.Proofs.Ytigmgkcojifbcaa.Hist
