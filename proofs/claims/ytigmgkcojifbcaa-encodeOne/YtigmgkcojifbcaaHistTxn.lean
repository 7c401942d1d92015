/- The reader's txn: a transaction's line. -/
import Derived.Test.YtigmgkcojifbcaaHistRd
import Derived.Test.YtigmgkcojifbcaaHistAll
import Derived.Deep.RegionLaw
namespace Go.Proofs.Ytigmgkcojifbcaa.Hist
open Go.RowKit Go.Proofs.Ytigmgkcojifbcaa.Dig Go.Proofs.Ytigmgkcojifbcaa.Mem Go.Proofs.Ytigmgkcojifbcaa.Cur Go.Proofs.Ytigmgkcojifbcaa.Keys
set_option linter.unusedVariables false
set_option linter.unusedSimpArgs false
attribute [local go_sem ↓] Go.wp_at_zero Go.wp_at_succ

theorem Try.info48 : (Try.prog.info? 48).map (fun i => (i.zero, i.size, i.bytes)) = some (some (.agg #[.int .i64 0, .bool false, .slice none 0 0]), 3, 40) := by kernel_rfl
/-- An error at the cursor's place. -/
theorem failAt {w w' : World} {B rb cb nb vb : Nat} {most : Int} {a : Option Addr} {len cap : Nat} {z : Nat → Int} {s s' : St} {ts : List TxnM} {tv : Value} {cs : List (List Value)} (h : RAll w B rb cb nb vb most a len cap z s ts tv cs) (ho : Only (fun k => k = cb) w w') (hl : Live w' cb a len cap z s') :
    RAll w' B rb cb nb vb most a len cap z s' ts tv cs ∧ Only (fun k => B ≤ k) w w' := ⟨h.went ho hl, ho.mono (fun k q => by have := h.1.lay.c; omega)⟩
theorem three' {w : World} {b : Nat} {v0 v1 v2 : Value} (h : Is w b #[v0, v1, v2]) :
    (w.cell? ⟨b, 0, none⟩ = some v0 ∧ w.cell? ⟨b, 1, none⟩ = some v1 ∧ w.cell? ⟨b, 2, none⟩ = some v2) ∧ w.frozen? ⟨b, 1, none⟩ = false := ⟨⟨h.cell 0 rfl, h.cell 1 rfl, h.cell 2 rfl⟩, h.frozen 1⟩
/-- In the midst of a transaction's line: the transaction lies in block tb. -/
def TxnMid (w : World) (rb cb nb vb : Nat) (most ops : Int) (tv : Value) (a : Option Addr) (len cap : Nat) (z : Nat → Int) (n : Nat) (P : Int → Bool) (tb : Nat) (id : Int) (ab : Bool) (s : St) (wi : World) : Prop :=
  Live wi cb a len cap z s ∧ Names wi nb n P ∧ Rdr wi rb cb most ops nb vb tv ∧ Is wi tb #[.int .i64 id, .bool ab, .slice none 0 0] ∧ Only (fun k => k = cb ∨ k = nb) w wi ∧ w.heap.size ≤ tb
section
variable {w w2 wi wj : World} {rb cb nb vb : Nat} {most ops : Int} {tv : Value} {a : Option Addr} {len cap : Nat} {z : Nat → Int} {n : Nat} {P : Int → Bool} {tb : Nat} {id : Int} {ab : Bool} {s s' : St}
theorem TxnMid.start (T : TypeId) (hl : Live w2 cb a len cap z s) (hn : Names w2 nb n P) (hr : Rdr w2 rb cb most ops nb vb tv) (ho : Only (fun k => k = cb ∨ k = nb) w w2) :
    TxnMid w rb cb nb vb most ops tv a len cap z n P w2.heap.size id ab s (w2.alloc (.cells #[.int .i64 id, .bool ab, .slice none 0 0] T)) := by
  have hB : Below w2.heap.size w2 (w2.alloc (.cells #[.int .i64 id, .bool ab, .slice none 0 0] T)) := (Below.refl _ _).alloc (Nat.le_refl _) _
  exact ⟨hl.keep hB, SetAt.keep hn (Only.of_below (S := fun _ => False) hB) (fun q => q), hr.keep (Only.of_below (S := fun _ => False) hB) (fun q => q), Is.made _ _ _ rfl, ho.alloc _, ho.size⟩
theorem TxnMid.go (h : TxnMid w rb cb nb vb most ops tv a len cap z n P tb id ab s wi) (h1 : rb ≠ cb) (h3 : cb ≠ nb) (h4 : cb < w.heap.size) (ho : Only (fun k => k = cb) wi wj) (hl : Live wj cb a len cap z s') : TxnMid w rb cb nb vb most ops tv a len cap z n P tb id ab s' wj := by
  obtain ⟨g1, g2, g3, g4, g5, g6⟩ := h
  exact ⟨hl, SetAt.keep g2 ho (Ne.symm h3), g3.keep ho h1, g4.keep ho (fun q => by omega), g5.trans (ho.mono fun _ q => .inl q), g6⟩
theorem TxnMid.put (h : TxnMid w rb cb nb vb most ops tv a len cap z n P tb id ab s wi) (h1 : rb < w.heap.size) (h2 : cb < w.heap.size) (h3 : nb < w.heap.size) (ha : ∀ (_ : 0 < len) x, a = some x → x.block < w.heap.size) (ab' : Bool) :
    TxnMid w rb cb nb vb most ops tv a len cap z n P tb id ab' s (wi.setCell ⟨tb, 1, none⟩ (.bool ab')) := by
  obtain ⟨g1, g2, g3, g4, g5, g6⟩ := h
  have hO : Only (fun k => k = tb) wi (wi.setCell ⟨tb, 1, none⟩ (.bool ab')) := (Only.refl _ _).put 1 _
  exact ⟨g1.other hO (fun q => by omega) (fun h0 x hx q => by have := ha h0 x hx; omega), SetAt.keep g2 hO (fun q => by omega), g3.keep hO (fun q => by omega), g4.set 1 _, g5.trans' hO (fun i q => .inr (by omega)), g6⟩
end
set_option maxHeartbeats 4000000 in
theorem txn_any (B rb cb nb vb : Nat) (most : Int) (a : Option Addr) (len cap : Nat) (z : Nat → Int) (s : St) (ts : List TxnM) (tv : Value) (cs : List (List Value)) (w : World)
    (h : RAll w B rb cb nb vb most a len cap z s ts tv cs) :
    Calls Try.prog 60 #[.pointer (some ⟨rb, 0, none⟩)] w fun e w' => e = .returned (.tuple #[]) ∧ ∃ tv' cs', RAll w' B rb cb nb vb most a len cap z (pTxn z len s ts).1 (pTxn z len s ts).2 tv' cs' ∧ Only (fun k => B ≤ k) w w' := by
  obtain ⟨ta, tcap, rfl, hc1, hc2⟩ := h.1.own.shape
  obtain ⟨c0, -, -, -, -, c5⟩ := h.1.rdr.six
  have hf := h.1.few.1
  by_cases h24 : 1024 ≤ ts.length
  · have h24' : (1024 : Int) ≤ (ts.length : Int) := by omega
    have HS : Hid (pTxn z len s ts = (failS s 3 s.at_, ts)) := if_pos h24
    have HL : Hid (Live w.drew cb a len cap z s) := h.1.live.drewN 1
    have H : Hid (RAll w B rb cb nb vb most a len cap z s ts (.slice ta ts.length tcap) cs) := h
    clear h
    go_enter Try.func60, Try.ntmps60
    go_wp2
    go_region_held3 (fun w' => w'.cell? ⟨rb, 0, none⟩ = some (.pointer (some ⟨cb, 0, none⟩))) (first | assumption | go_keep)
      (first | (go_at_call 62; (with_reducible refine (at_any cb a len cap s _ HL.out.cur).mono ?_); rintro e w2 ⟨rfl, hw⟩; replace hw := hw.symm; subst hw) | (go_at_call 61; (with_reducible refine (fail_live cb a len cap s z 3 s.at_ _ HL.out).mono ?_); rintro e w3 ⟨rfl, ho3, hl3⟩; have M := hide (failAt H.out ((Only.refl _ _).drew.trans ho3) hl3); have c3 := (Is.keep H.out.1.rdr ((Only.refl _ _).drew.trans ho3) H.out.1.lay.rc).cell 0 rfl; clear ho3 hl3))
    all_goals
      go_simp
      go_wp2
      refine bodyPost_ret (results_none rfl _ _ _) rfl ?_
      rw [HS.out]
      exact ⟨rfl, _, _, M.out.1, M.out.2⟩
  · have h24' : ¬ (1024 : Int) ≤ (ts.length : Int) := by omega
    obtain ⟨s1, hs1⟩ : ∃ s1, byteS z len s 116 = s1 := ⟨_, rfl⟩
    obtain ⟨⟨s2, id⟩, hs2⟩ : ∃ r, pKey z len 5 (twinB ts) s1 = r := ⟨_, rfl⟩
    obtain ⟨s3, hs3⟩ : ∃ s3, byteS z len s2 32 = s3 := ⟨_, rfl⟩
    obtain ⟨⟨s4, ab⟩, hs4⟩ : ∃ r, pAborted z len s3 = r := ⟨_, rfl⟩
    obtain ⟨s5, hs5⟩ : ∃ s5, byteS z len s4 10 = s5 := ⟨_, rfl⟩
    have HS : Hid (pTxn z len s ts = (s5, ts ++ [⟨id, ab, []⟩])) := by show _ = _; unfold pTxn pName; rw [if_neg h24]; simp only [hs1, hs2, hs3, hs4, hs5]
    have hwf : (Lit.int .i64 id).wf = true := by
      have e : id = (numS z len (byteS z len s1 32)).2 := by have := congrArg Prod.snd hs2; simpa [pKey] using this.symm
      rw [e]
      exact numS_wf (byteS_at (by rw [← hs1]; exact byteS_at h.1.live.at_))
    obtain ⟨hB, hrl, hcl, hnl⟩ := h.1.hi
    have H : Hid (RAll w B rb cb nb vb most a len cap z s ts (.slice ta ts.length tcap) cs) := h
    have HL : Hid (Live w cb a len cap z s) := h.1.live
    have L : Hid (Lay B rb cb nb vb a len) := h.1.lay
    have HA : Hid (∀ (_ : 0 < len) x, a = some x → x.block < w.heap.size) := hide (fun h0 x hx => by have := h.1.lay.a h0 x hx; omega)
    replace hs1 := hide hs1
    replace hs2 := hide hs2
    replace hs3 := hide hs3
    replace hs4 := hide hs4
    replace hs5 := hide hs5
    clear h
    obtain ⟨i0, hi, hz0, hz1, hz2⟩ := info_parts Try.info48
    have HI0 : Hid (Try.prog.info? 48 = some i0 ∧ i0.zero = some (.agg #[.int .i64 0, .bool false, .slice none 0 0]) ∧ i0.size = 3 ∧ i0.bytes = 40) := ⟨hi, hz0, hz1, hz2⟩
    clear hi hz0 hz1 hz2
    have hrc : rb ≠ cb := L.out.rc
    have hcn : cb ≠ nb := L.out.cn
    go_enter Try.func60, Try.ntmps60
    go_wp2_with (first | (go_at_call 70; (with_reducible refine (byte_live cb a len cap s z 116 _ HL.out).mono ?_); rw [hs1.out]; rintro e w1 ⟨rfl, ho1, hl1⟩; have HL1 := hide hl1; have HO1 := hide ho1; have HR1 := hide (H.out.1.rdr.keep ho1 hrc); have HN1 : Hid (Names w1 nb ts.length (twinB ts)) := SetAt.keep H.out.1.names ho1 (Ne.symm hcn); obtain ⟨c0, -, -, -, -, -⟩ := HR1.out.six; clear hl1 ho1) | (go_at_call 71; (with_reducible refine (name_any rb cb nb vb most (opsN ts : Int) (.slice ta ts.length tcap) a len cap z s1 ts.length (twinB ts) _ HR1.out HL1.out HN1.out hrc L.out.rn hcn L.out.an (by omega)).mono ?_); rw [hs2.out]; rintro e w2 ⟨rfl, ho2, hl2, hn2⟩; have M2 := hide (TxnMid.start (id := id) (ab := false) 48 hl2 hn2 (HR1.out.keep ho2 (fun q => q.elim hrc L.out.rn)) ((HO1.out.mono (S' := fun k => k = cb ∨ k = nb) (fun _ q => .inl q)).trans ho2)); have HL2 : Hid (Live (w2.alloc (.cells #[.int .i64 id, .bool false, .slice none 0 0] 48)) cb a len cap z s2) := M2.out.1; obtain ⟨c0, -, -, -, -, -⟩ := (HR1.out.keep ho2 (fun q => q.elim hrc L.out.rn)).six; have hrl2 : rb < w2.heap.size := (by have := HO1.out.size; have := ho2.size; omega); clear ho2 hl2 hn2) | (go_at_call 70; (with_reducible refine (byte_live cb a len cap s2 z 32 _ HL2.out).mono ?_); rw [hs3.out]; rintro e w3 ⟨rfl, ho3, hl3⟩; have M3 := hide (TxnMid.go M2.out hrc hcn hcl ho3 hl3); have HL3 : Hid (Live w3 cb a len cap z s3) := hl3; have HR3 : Hid (Rdr w3 rb cb most (opsN ts : Int) nb vb (.slice ta ts.length tcap)) := M3.out.2.2.1; obtain ⟨c0, -, -, -, -, -⟩ := HR3.out.six; clear ho3 hl3) | (go_at_call 72; (with_reducible refine (aborted_any rb cb nb vb most (opsN ts : Int) (.slice ta ts.length tcap) a len cap z s3 _ HR3.out HL3.out hrc).mono ?_); rw [hs4.out]; rintro e w4 ⟨rfl, ho4, hl4⟩; have M4 := hide (TxnMid.go M3.out hrc hcn hcl ho4 hl4); obtain ⟨⟨d0, d1, d2⟩, f1⟩ := three' M4.out.2.2.2.1; have M4' := hide (TxnMid.put M4.out hrl hcl hnl HA.out ab); have HL4 : Hid (Live (w4.setCell ⟨w2.heap.size, 1, none⟩ (.bool ab)) cb a len cap z s4) := M4'.out.1; obtain ⟨c0, -, -, -, -, -⟩ := M4.out.2.2.1.six; clear ho4 hl4) | (go_at_call 70; (with_reducible refine (byte_live cb a len cap s4 z 10 _ HL4.out).mono ?_); rw [hs5.out]; rintro e w5 ⟨rfl, ho5, hl5⟩; have M5 := hide (TxnMid.go M4'.out hrc hcn hcl ho5 hl5); obtain ⟨⟨d0, d1, d2⟩, f1⟩ := three' M5.out.2.2.2.1; obtain ⟨c0, -, -, -, -, c5⟩ := M5.out.2.2.1.six; clear ho5 hl5))
    have hs5' := M5.out.2.2.2.2.1.size
    have htl : ∀ b, (Value.slice ta ts.length tcap).ownBlock = some b → b < w.heap.size ∧ Gb B rb cb nb vb b := fun b q => ⟨H.out.1.own.lt.1 b q, H.out.1.own.1 b q⟩
    have HT : Hid ((Value.slice ta ts.length tcap).ownBlock ≠ some rb ∧ (Value.slice ta ts.length tcap).ownBlock ≠ some w2.heap.size) := hide ⟨fun q => (htl _ q).2.2.1 rfl, fun q => by have := (htl _ q).1; have := M5.out.2.2.2.2.2; omega⟩
    have HOWN : Hid (w5.ownsRow B 48 3 (.slice ta ts.length tcap) ts.length cs.flatten) := by
      have q := (H.out.1.own.keep M5.out.2.2.2.2.1 (fun b q r => r.elim q.2.2.1 q.2.2.2.1)).2.1.1
      rw [H.out.1.own.len] at q
      exact q
    have hrl5 : rb < w5.heap.size := by omega
    have htb5 : w2.heap.size < w5.heap.size := M5.out.2.2.2.1.lt
    clear htl
    go_region_law
      ((refine step_append_lies _ (by rfl) _ _ _ (by rfl) B 48 i0 _ 3 40 Try.underlying22 HI0.out.1 HI0.out.2.1 HI0.out.2.2.1 HI0.out.2.2.2 rfl (by omega) (.slice ta ts.length tcap) ts.length cs.flatten (by rfl) ((HOWN.out.alloc _).drew)
            ⟨w5.heap.size, 0, none⟩ 1 1 [.int .i64 id, .bool ab, .slice none 0 0] (by rfl) (by rfl) (World.news_of_block (cs := #[.int .i64 id, .bool ab, .slice none 0 0]) (t := 48) (fr := (0, 0)) (heap_alloc_new w5 _)) (by simp [Value.oneCell'])
            (by omega) (by unfold maxLen; omega) (by omega) (by simp; omega) (w5.heap.size + 1) (by simp) ?_; intro gg gcap w6 hown6 hgrow6 hat6 hlt6; have RX := Is.keep ((Is.alloc M5.out.2.2.1 _).drew) (grown_only hgrow6) HT.out.1; have TX := Is.keep ((Is.alloc M5.out.2.2.2.1 _).drew) (grown_only hgrow6) HT.out.2; have q5 := RX.cell 5 rfl; have f5 := RX.frozen 5; obtain ⟨⟨t0, t1, t2⟩, -⟩ := three' TX; have M := hide (RAll.pushed H.out M5.out.2.2.2.2.1 M5.out.1 M5.out.2.1 (by omega) hwf hgrow6 hown6 hat6); clear RX TX))
    all_goals
      go_simp
      go_wp2
      go_end0
      rw [HS.out]
      exact ⟨rfl, _, _, M.out.1, M.out.2⟩
end Go.Proofs.Ytigmgkcojifbcaa.Hist
