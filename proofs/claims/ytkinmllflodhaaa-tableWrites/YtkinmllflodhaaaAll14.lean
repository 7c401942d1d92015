/- Joined out of the texts TabGet, TabSeq, TabOne, TabWorks, SetOwn, SetRef, TabIds, in that order. -/
import Derived.Test.YtkinmllflodhaaaAll13
import Derived.Laws.StructEq
import Derived.Test.YtkinmllflodhaaaAll9
import Derived.Deep.LoopGhost
/- What a table answers. -/
namespace Go.Proofs.Ytkinmllflodhaaa.Tab
open Go.RowKit Go.Proofs.Ytkinmllflodhaaa.Dig Go.Proofs.Ytkinmllflodhaaa.Mem Go.Proofs.Ytkinmllflodhaaa.Hist Go.Proofs.Ytkinmllflodhaaa.Own Go.Proofs.Ytkinmllflodhaaa.Thing Go.Proofs.Ytkinmllflodhaaa.Sets Go.Shelf Go.Proofs.Ytkinmllflodhaaa.Keys
set_option linter.unusedVariables false
set_option linter.unusedSimpArgs false

section
variable {v : Value} {ids keys : List Int} {s : Tb} {w : World}
theorem ids_any (h : TabV w v ids keys s) (hl : ids.length ≤ 1000000) : Calls Try.prog 14 #[v] w fun e w' => ∃ (a : Option Addr) (n c : Nat), e = .returned (.slice a n c) ∧ Hid (n = ids.length ∧ RowV w' a c ids) ∧ Hid (Below w.heap.size w w') := by
  have HO := hide (orn_any v ids keys s w h)
  clear h
  have HC : Hid (∀ (a : Option Addr) (c : Nat) (W : World), RowV W a c ids → Calls Try.prog 42 #[.slice a ids.length c] W fun e w' => ∃ (a' : Option Addr) (c' : Nat), e = .returned (.slice a' ids.length c') ∧ Hid (RowV w' a' c' ids ∧ Below W.heap.size W w')) := hide fun a c W hr => by
    refine (clone_any a c ids W hr hl).mono ?_
    rintro e w' ⟨⟨a', c', rfl, h1⟩, h2⟩
    exact ⟨a', c', rfl, h1, h2⟩
  go_enter Try.func14, Try.ntmps14
  go_wp2_with (first | (go_at_call 41; go_must ((with_reducible refine (Hid.out HO).mono ?_); rintro e w1 ⟨bT, rfl, hv, hb⟩; obtain ⟨ia, ic, ka, kc, m0, m1, m2, m3, hi, h1, h2, h4⟩ := hv.out.ex; have c0 : w1.cell? ⟨bT, 0, none⟩ = some (.slice ia ids.length ic) := hi.cell 0 rfl; have H1 := hide h1; clear hi h1 h2 h4)) | (go_at_call 42; go_must ((with_reducible refine (Hid.out HC _ _ _ H1.out).mono ?_); rintro e w2 ⟨a', c', rfl, h3⟩)))
  go_ret
  exact ⟨_, _, _, rfl, ⟨rfl, h3.out.1⟩, hb.out.trans (h3.out.2.mono hb.out.size)⟩
theorem keys_any (h : TabV w v ids keys s) (hl : keys.length ≤ 1000000) : Calls Try.prog 16 #[v] w fun e w' => ∃ (a : Option Addr) (n c : Nat), e = .returned (.slice a n c) ∧ Hid (n = keys.length ∧ RowV w' a c keys) ∧ Hid (Below w.heap.size w w') := by
  have HO := hide (orn_any v ids keys s w h)
  clear h
  have HC : Hid (∀ (a : Option Addr) (c : Nat) (W : World), RowV W a c keys → Calls Try.prog 42 #[.slice a keys.length c] W fun e w' => ∃ (a' : Option Addr) (c' : Nat), e = .returned (.slice a' keys.length c') ∧ Hid (RowV w' a' c' keys ∧ Below W.heap.size W w')) := hide fun a c W hr => by
    refine (clone_any a c keys W hr hl).mono ?_
    rintro e w' ⟨⟨a', c', rfl, h1⟩, h2⟩
    exact ⟨a', c', rfl, h1, h2⟩
  go_enter Try.func16, Try.ntmps16
  go_wp2_with (first | (go_at_call 41; go_must ((with_reducible refine (Hid.out HO).mono ?_); rintro e w1 ⟨bT, rfl, hv, hb⟩; obtain ⟨ia, ic, ka, kc, m0, m1, m2, m3, hi, h1, h2, h4⟩ := hv.out.ex; have c0 : w1.cell? ⟨bT, 1, none⟩ = some (.slice ka keys.length kc) := hi.cell 1 rfl; have H1 := hide h2; clear hi h1 h2 h4)) | (go_at_call 42; go_must ((with_reducible refine (Hid.out HC _ _ _ H1.out).mono ?_); rintro e w2 ⟨a', c', rfl, h3⟩)))
  go_ret
  exact ⟨_, _, _, rfl, ⟨rfl, h3.out.1⟩, hb.out.trans (h3.out.2.mono hb.out.size)⟩
/-- The place of a number. -/
def rankL (ids : List Int) (id : Int) : Nat := if id ∈ ids then ids.countP (fun y => ltI y id) else 0
theorem rank_any (id : Int) (h : TabV w v ids keys s) (hl : ids.length ≤ 1000000) (hs : Rising ltI ids) : Calls Try.prog 11 #[v, .int .i64 id] w fun e w' => e = .returned (.tuple #[.int .i64 (rankL ids id : Int), .bool (decide (id ∈ ids))]) ∧ Hid (Below w.heap.size w w') := by
  have HO := hide (orn_any v ids keys s w h)
  clear h
  obtain ⟨m, hm⟩ : ∃ m, m = ids.countP fun y => ltI y id := ⟨_, rfl⟩
  obtain ⟨q, hq⟩ : ∃ q, q = decide (id ∈ ids) := ⟨_, rfl⟩
  have HC : Hid (∀ (a : Option Addr) (c : Nat) (W : World), RowV W a c ids → Calls Try.prog 40 #[.slice a ids.length c, .int .i64 id] W fun e w' => e = .returned (.tuple #[.int .i64 (m : Int), .bool q]) ∧ Hid (Below W.heap.size W w')) := hide fun a c W hr => by
    have := bs_any a c ids id W hr hl hs
    rw [← hm, ← hq] at this
    exact this
  have hr : rankL ids id = if q = true then m else 0 := by
    unfold rankL
    rw [hm, hq]
    by_cases e : id ∈ ids <;> simp [e]
  rw [hr, ← hq]
  clear hm hq hr
  cases q
  · go_enter Try.func11, Try.ntmps11
    go_wp2_with (first | (go_at_call 41; go_must ((with_reducible refine (Hid.out HO).mono ?_); rintro e w1 ⟨bT, rfl, hv, hb⟩; obtain ⟨ia, ic, ka, kc, m0, m1, m2, m3, hi, h1, h2, h4⟩ := hv.out.ex; have c0 : w1.cell? ⟨bT, 0, none⟩ = some (.slice ia ids.length ic) := hi.cell 0 rfl; have H1 := hide h1; clear hi h1 h2 h4)) | (go_at_call 40; go_must ((with_reducible refine (Hid.out HC _ _ _ H1.out).mono ?_); rintro e w2 ⟨rfl, h3⟩)))
    go_ret2
    exact ⟨rfl, hb.out.trans (h3.out.mono hb.out.size)⟩
  · go_enter Try.func11, Try.ntmps11
    go_wp2_with (first | (go_at_call 41; go_must ((with_reducible refine (Hid.out HO).mono ?_); rintro e w1 ⟨bT, rfl, hv, hb⟩; obtain ⟨ia, ic, ka, kc, m0, m1, m2, m3, hi, h1, h2, h4⟩ := hv.out.ex; have c0 : w1.cell? ⟨bT, 0, none⟩ = some (.slice ia ids.length ic) := hi.cell 0 rfl; have H1 := hide h1; clear hi h1 h2 h4)) | (go_at_call 40; go_must ((with_reducible refine (Hid.out HC _ _ _ H1.out).mono ?_); rintro e w2 ⟨rfl, h3⟩)))
    go_ret2
    exact ⟨rfl, hb.out.trans (h3.out.mono hb.out.size)⟩
theorem apps_any (id key : Int) (h : TabV w v ids keys s) (h1 : (Lit.int .i64 id).wf = true) (h2 : (Lit.int .i64 key).wf = true) (hl : (s.ap (id, key)).length ≤ 1000000) : Calls Try.prog 20 #[v, .int .i64 id, .int .i64 key] w fun e w' => ∃ (a : Option Addr) (n c : Nat), e = .returned (.slice a n c) ∧ Hid (n = (s.ap (id, key)).length ∧ RowV w' a c (s.ap (id, key))) ∧ Hid (Below w.heap.size w w') := by
  have HO := hide (orn_any v ids keys s w h)
  clear h
  obtain ⟨l, hL⟩ : ∃ l, l = s.ap (id, key) := ⟨_, rfl⟩
  have HLL := hide hL
  rw [← hL] at hl ⊢
  clear hL
  have HC : Hid (∀ (a : Option Addr) (c : Nat) (W : World), RowV W a c l → Calls Try.prog 42 #[.slice a l.length c] W fun e w' => ∃ (a' : Option Addr) (c' : Nat), e = .returned (.slice a' l.length c') ∧ Hid (RowV w' a' c' l ∧ Below W.heap.size W w')) := hide fun a c W hr => by
    refine (clone_any a c l W hr hl).mono ?_
    rintro e w' ⟨⟨a', c', rfl, h1⟩, h2⟩
    exact ⟨a', c', rfl, h1, h2⟩
  have HP : Hid (appOk (id, key)) := hide ⟨h1, h2⟩
  clear h1 h2
  go_enter Try.func20, Try.ntmps20
  go_wp2_with (first | (go_at_call 41; go_must ((with_reducible refine (Hid.out HO).mono ?_); rintro e w1 ⟨bT, rfl, hv, hb⟩; obtain ⟨ia, ic, ka, kc, m0, m1, m2, m3, hi, h1, h2, h4⟩ := hv.out.ex; obtain ⟨la, lc, hlk, hrw⟩ := (h4 w1 (Below.refl _ _)).l1 _ HP.out; rw [← HLL.out] at hlk hrw; have c0 : w1.cell? ⟨bT, 3, none⟩ = some (.map m1) := hi.cell 3 rfl; have H1 := hide hrw; clear hi h1 h2 h4 hrw)) | (go_at_call 42; go_must ((with_reducible refine (Hid.out HC _ _ _ H1.out).mono ?_); rintro e w2 ⟨a', c', rfl, h3⟩)))
  go_ret
  exact ⟨_, _, _, rfl, ⟨rfl, h3.out.1⟩, hb.out.trans (h3.out.2.mono hb.out.size)⟩
set_option maxHeartbeats 4000000 in
set_option maxRecDepth 100000 in
theorem writer_any (key value : Int) (h : TabV w v ids keys s) (h1 : (Lit.int .i64 key).wf = true) (h2 : (Lit.int .i64 value).wf = true) : Calls Try.prog 18 #[v, .int .i64 key, .int .i64 value] w fun e w' => e = .returned (.tuple #[wrO (s.wr (key, value)), .bool (s.wr (key, value)).isSome]) ∧ Hid (Below w.heap.size w w') := by
  have hz : ∀ (o : Obj), Hid (Below w.heap.size w (w.alloc o)) := fun o => (Below.refl _ _).alloc (Nat.le_refl _) _
  have HO := hide (fun W (hW : Below w.heap.size w W) => orn_any v ids keys s W (h.keep hW))
  have HP : Hid (appOk (key, value)) := hide ⟨h1, h2⟩
  clear h h1 h2
  obtain ⟨r0, r1, r2, r3, r4, hr⟩ : ∃ r0 r1 r2 r3 r4, wrO (s.wr (key, value)) = .agg #[.int .i64 r0, .int .i64 r1, .int .i64 r2, .int .i64 r3, .bool r4] := by
    cases s.wr (key, value) with
    | none => exact ⟨_, _, _, _, _, rfl⟩
    | some m => exact ⟨_, _, _, _, _, rfl⟩
  obtain ⟨q, hq⟩ : ∃ q, q = (s.wr (key, value)).isSome := ⟨_, rfl⟩
  have HR := hide hr
  have HQ := hide hq
  rw [hr, ← hq]
  clear hr hq
  go_enter Try.func18, Try.ntmps18
  go_upto_region 2 with (go_at_call 41; go_must ((with_reducible refine (Hid.out HO _ (hz _).out).mono ?_); rintro e w1 ⟨bT, rfl, hv, hb⟩; obtain ⟨ia, ic, ka, kc, m0, m1, m2, m3, hi, h1, h2, h4⟩ := hv.out.ex; have hlk := (h4 w1 (Below.refl _ _)).l0 _ HP.out; rw [HR.out, ← HQ.out] at hlk; have c0 : w1.cell? ⟨bT, 2, none⟩ = some (.map m0) := hi.cell 2 rfl; clear hi h1 h2 h4))
  obtain ⟨w2, hw2⟩ : ∃ w2, w2 = w1.alloc (.cells #[.int .i64 r0, .int .i64 r1, .int .i64 r2, .int .i64 r3, .bool r4] 41) := ⟨_, rfl⟩
  rw [← hw2]
  have R1 := (Is.made w #[.int .i64 0, .int .i64 0, .int .i64 0, .int .i64 0, .bool false] 41 rfl).below hb.out
  have hb2 : Below w1.heap.size w1 w2 := by rw [hw2]; exact (Below.refl _ _).alloc (Nat.le_refl _) _
  have X2 : Is w2 w1.heap.size #[.int .i64 r0, .int .i64 r1, .int .i64 r2, .int .i64 r3, .bool r4] := by rw [hw2]; exact Is.made _ _ _ rfl
  have R2 := R1.below hb2
  have hne : ¬ w.heap.size = w1.heap.size := by have := R1.lt; omega
  have b0 : w2.cell? ⟨w.heap.size, 0, none⟩ = some (.int .i64 0) := R2.cell 0 rfl
  have b1 : w2.cell? ⟨w.heap.size, 1, none⟩ = some (.int .i64 0) := R2.cell 1 rfl
  have b2 : w2.cell? ⟨w.heap.size, 2, none⟩ = some (.int .i64 0) := R2.cell 2 rfl
  have b3 : w2.cell? ⟨w.heap.size, 3, none⟩ = some (.int .i64 0) := R2.cell 3 rfl
  have b4 : w2.cell? ⟨w.heap.size, 4, none⟩ = some (.bool false) := R2.cell 4 rfl
  have x0 : w2.cell? ⟨w1.heap.size, 0, none⟩ = some (.int .i64 r0) := X2.cell 0 rfl
  have x1 : w2.cell? ⟨w1.heap.size, 1, none⟩ = some (.int .i64 r1) := X2.cell 1 rfl
  have x2 : w2.cell? ⟨w1.heap.size, 2, none⟩ = some (.int .i64 r2) := X2.cell 2 rfl
  have x3 : w2.cell? ⟨w1.heap.size, 3, none⟩ = some (.int .i64 r3) := X2.cell 3 rfl
  have x4 : w2.cell? ⟨w1.heap.size, 4, none⟩ = some (.bool r4) := X2.cell 4 rfl
  have f0 := R2.frozen 0
  have f1 := R2.frozen 1
  have f2 := R2.frozen 2
  have f3 := R2.frozen 3
  have f4 := R2.frozen 4
  have HB2 := hide hb2
  have HR2 := hide R2
  clear hw2 R1 X2 R2 hb2 hlk c0
  go_wp2
  have Y0 := HR2.out.set 0 (.int .i64 r0)
  have Y1 := Y0.set 1 (.int .i64 r1)
  have Y2 := Y1.set 2 (.int .i64 r2)
  have Y3 := Y2.set 3 (.int .i64 r3)
  have Y4 := (Y3.set 4 (.bool r4)).eq (cs' := #[.int .i64 r0, .int .i64 r1, .int .i64 r2, .int .i64 r3, .bool r4]) rfl
  have hbf : Below w.heap.size w (((((w2.setCell ⟨w.heap.size, 0, none⟩ (.int .i64 r0)).setCell ⟨w.heap.size, 1, none⟩ (.int .i64 r1)).setCell ⟨w.heap.size, 2, none⟩ (.int .i64 r2)).setCell ⟨w.heap.size, 3, none⟩ (.int .i64 r3)).setCell ⟨w.heap.size, 4, none⟩ (.bool r4)) := by
    have h0 : Below w.heap.size w w2 := (((hz (.cells #[.int .i64 0, .int .i64 0, .int .i64 0, .int .i64 0, .bool false] 41)).out).trans (hb.out.mono (by simp))).trans (HB2.out.mono (by have := hb.out.size; simp at this; omega))
    exact ((((h0.setCell (p := ⟨w.heap.size, 0, none⟩) (Nat.le_refl _) _).setCell (p := ⟨w.heap.size, 1, none⟩) (Nat.le_refl _) _).setCell (p := ⟨w.heap.size, 2, none⟩) (Nat.le_refl _) _).setCell (p := ⟨w.heap.size, 3, none⟩) (Nat.le_refl _) _).setCell (p := ⟨w.heap.size, 4, none⟩) (Nat.le_refl _) _
  clear Y0 Y1 Y2 Y3 b0 b1 b2 b3 b4 x0 x1 x2 x3 x4 f0 f1 f2 f3 f4
  generalize (((((w2.setCell ⟨w.heap.size, 0, none⟩ (.int .i64 r0)).setCell ⟨w.heap.size, 1, none⟩ (.int .i64 r1)).setCell ⟨w.heap.size, 2, none⟩ (.int .i64 r2)).setCell ⟨w.heap.size, 3, none⟩ (.int .i64 r3)).setCell ⟨w.heap.size, 4, none⟩ (.bool r4)) = wf at Y4 hbf ⊢
  have q0 : wf.cell? ⟨w.heap.size, 0, none⟩ = some (.int .i64 r0) := Y4.cell 0 rfl
  have q1 : wf.cell? ⟨w.heap.size, 1, none⟩ = some (.int .i64 r1) := Y4.cell 1 rfl
  have q2 : wf.cell? ⟨w.heap.size, 2, none⟩ = some (.int .i64 r2) := Y4.cell 2 rfl
  have q3 : wf.cell? ⟨w.heap.size, 3, none⟩ = some (.int .i64 r3) := Y4.cell 3 rfl
  have q4 : wf.cell? ⟨w.heap.size, 4, none⟩ = some (.bool r4) := Y4.cell 4 rfl
  refine bodyPost_ret (v := .tuple #[.agg #[.int .i64 r0, .int .i64 r1, .int .i64 r2, .int .i64 r3, .bool r4], .bool q]) (by simp [results, Try.results18, go_sem, q0, q1, q2, q3, q4]) rfl ⟨rfl, hbf⟩
end
end Go.Proofs.Ytkinmllflodhaaa.Tab

/- What is gone through: Reads and Writes, as far as they are only asked for. -/
namespace Go.Proofs.Ytkinmllflodhaaa.Tab
open Go.RowKit Go.Proofs.Ytkinmllflodhaaa.Dig Go.Proofs.Ytkinmllflodhaaa.Mem Go.Proofs.Ytkinmllflodhaaa.Hist Go.Proofs.Ytkinmllflodhaaa.Own Go.Proofs.Ytkinmllflodhaaa.Thing Go.Proofs.Ytkinmllflodhaaa.Sets Go.Shelf Go.Proofs.Ytkinmllflodhaaa.Keys
set_option linter.unusedVariables false
set_option linter.unusedSimpArgs false

theorem reads_any (p : Option Addr) (k : Int) (w : World) : Calls Try.prog 26 #[.pointer p, .int .i64 k] w fun e w' => e = .returned (.func (.func 47) #[] #[.pointer (some ⟨w.heap.size, 0, none⟩), .pointer (some ⟨w.heap.size + 1, 0, none⟩)]) ∧ w' = (w.alloc (.cells #[.pointer p] 27)).alloc (.cells #[.int .i64 k] 3) := by
  go_enter Try.func26, Try.ntmps26
  go_wp2
  go_ret
  exact ⟨rfl, rfl⟩
theorem valw_any (a : Option Addr) (len cap : Nat) (w : World) :
    Calls Try.prog 46 #[.slice a len cap] w fun e w' => e = .returned (.func (.func 65) #[] #[.pointer (some ⟨w.heap.size, 0, none⟩)]) ∧ w' = w.alloc (.cells #[.slice a len cap] 99) := by
  go_enter Try.func46, Try.ntmps46
  go_wp2
  go_ret
  exact ⟨rfl, rfl⟩
theorem writes_any (v : Value) (ids keys : List Int) (s : Tb) (k : Int) (w : World) (h : TabV w v ids keys s) (hk : (Lit.int .i64 k).wf = true) :
    Calls Try.prog 22 #[v, .int .i64 k] w fun e w' => ∃ B, e = .returned (.func (.func 65) #[] #[.pointer (some ⟨B, 0, none⟩)]) ∧ Hid (w.heap.size ≤ B ∧ (∃ a c, w'.cell? ⟨B, 0, none⟩ = some (.slice a (s.ws k).length c) ∧ Row5 w' a (s.ws k).length ((s.ws k).flatMap wrC)) ∧ Below w.heap.size w w') := by
  have HO := hide (orn_any v ids keys s w h)
  have HP : Hid (nameOk k) := hk
  clear h hk
  obtain ⟨m, hm⟩ : ∃ m, m = (s.ws k).length := ⟨_, rfl⟩
  have HM := hide hm
  rw [← hm]
  clear hm
  go_enter Try.func22, Try.ntmps22
  go_wp2_with (first | (go_at_call 41; go_must ((with_reducible refine (Hid.out HO).mono ?_); rintro e w1 ⟨bT, rfl, hv, hb⟩; obtain ⟨ia, ic, ka, kc, m0, m1, m2, m3, hi, h1, h2, h4⟩ := hv.out.ex; obtain ⟨la, lc, hlk, hrw⟩ := (h4 w1 (Below.refl _ _)).l3 _ HP.out; rw [← HM.out] at hlk hrw; have c0 : w1.cell? ⟨bT, 5, none⟩ = some (.map m3) := hi.cell 5 rfl; have H1 := hide hrw; clear hi h1 h2 h4 hrw)) | (go_at_call 46; go_must ((with_reducible refine (valw_any _ _ _ _).mono ?_); rintro e w2 ⟨rfl, rfl⟩)))
  go_ret
  have hB : Below w1.heap.size w1 (w1.alloc (.cells #[.slice la m lc] 99)) := (Below.refl _ _).alloc (Nat.le_refl _) _
  refine ⟨_, rfl, hb.out.size, ⟨la, lc, (Is.made w1 #[.slice la m lc] 99 rfl).cell 0 rfl, H1.out.1, fun i u hu => ?_⟩, hb.out.trans (hB.mono hb.out.size)⟩
  obtain ⟨b, e, hc⟩ := H1.out.2 i u hu
  exact ⟨b, e, (hB.cell (p := ⟨b, i, none⟩) (lt_of_cell hc)).trans hc⟩
end Go.Proofs.Ytkinmllflodhaaa.Tab

/- The document's example of layer 12. -/
namespace Go.Proofs.Ytkinmllflodhaaa.Tab
open Go.RowKit Go.Proofs.Ytkinmllflodhaaa.Dig Go.Proofs.Ytkinmllflodhaaa.Mem Go.Proofs.Ytkinmllflodhaaa.Hist Go.Proofs.Ytkinmllflodhaaa.Own Go.Proofs.Ytkinmllflodhaaa.Thing Go.Proofs.Ytkinmllflodhaaa.Sets Go.Shelf Go.Proofs.Ytkinmllflodhaaa.Keys
set_option linter.unusedVariables false
set_option linter.unusedSimpArgs false

def oneH : List TxnM := [⟨7, false, [⟨false, 1, 5, []⟩, ⟨true, 1, 0, [3, 5]⟩]⟩, ⟨2, true, [⟨false, 0, 3, []⟩]⟩]
theorem one_chk : checkS oneH = 0 := by decide +kernel
theorem one_few : Few4 oneH := ⟨by decide, by decide, fun t ht => by
  simp only [oneH, List.mem_cons, List.not_mem_nil, or_false] at ht
  rcases ht with rfl | rfl
  · exact ⟨by decide, fun o ho => by
      simp only [List.mem_cons, List.not_mem_nil, or_false] at ho
      rcases ho with rfl | rfl <;> decide⟩
  · exact ⟨by decide, fun o ho => by
      simp only [List.mem_cons, List.not_mem_nil, or_false] at ho
      subst ho; decide⟩⟩
theorem one_few2 : FewT oneH := ⟨by decide, by decide, fun t ht o ho => by
  simp only [oneH, List.mem_cons, List.not_mem_nil, or_false] at ht
  rcases ht with rfl | rfl
  · simp only [List.mem_cons, List.not_mem_nil, or_false] at ho
    rcases ho with rfl | rfl <;> decide
  · simp only [List.mem_cons, List.not_mem_nil, or_false] at ho
    subst ho; decide⟩
theorem AllAt.two {α : Type} {R : List Value → α → Prop} {c d : List Value} {x y : α} (h : R c x) (k : R d y) : AllAt R [c, d] [x, y] := (AllAt.one h).append (AllAt.one k)
set_option maxRecDepth 20000 in
theorem one_at {w : World} {b0 b1 b2 b3 : Nat} (h0 : Is w b0 #[.int .i64 3, .int .i64 5]) (h1 : Is w b1 #[.bool false, .int .i64 1, .int .i64 5, .slice none 0 0, .bool true, .int .i64 1, .int .i64 0, .slice (some ⟨b0, 0, none⟩) 2 2])
    (h2 : Is w b2 #[.bool false, .int .i64 0, .int .i64 3, .slice none 0 0]) (h3 : Is w b3 #[.int .i64 7, .bool false, .slice (some ⟨b1, 0, none⟩) 2 2, .int .i64 2, .bool true, .slice (some ⟨b2, 0, none⟩) 1 1]) :
    TxnsAt (fun b => b < w.heap.size) w (.slice (some ⟨b3, 0, none⟩) 2 2) oneH := by
  have l0 := h0.lt
  have l1 := h1.lt
  have l2 := h2.lt
  have l3 := h3.lt
  have r0 := RowAt.block (n := 1) (cs := [[Value.int .i64 3], [.int .i64 5]]) (cap := 2) (by simp) h0 (by simp) (by unfold maxLen; omega)
  have r1 := RowAt.block (n := 4) (cs := [[Value.bool false, .int .i64 1, .int .i64 5, .slice none 0 0], [.bool true, .int .i64 1, .int .i64 0, .slice (some ⟨b0, 0, none⟩) 2 2]]) (cap := 2) (by simp) h1 (by simp) (by unfold maxLen; omega)
  have r2 := RowAt.block (n := 4) (cs := [[Value.bool false, .int .i64 0, .int .i64 3, .slice none 0 0]]) (cap := 1) (by simp) h2 (by simp) (by unfold maxLen; omega)
  have r3 := RowAt.block (n := 3) (cs := [[Value.int .i64 7, .bool false, .slice (some ⟨b1, 0, none⟩) 2 2], [.int .i64 2, .bool true, .slice (some ⟨b2, 0, none⟩) 1 1]]) (cap := 2) (by simp) h3 (by simp) (by unfold maxLen; omega)
  exact ⟨_, r3.mono (fun b q => by omega), AllAt.two ⟨_, rfl, ⟨_, r1.mono (fun b q => by omega), AllAt.two ⟨_, rfl, IntsAt.nil, by decide, by decide⟩ ⟨_, rfl, ⟨r0.mono (fun b q => by omega), by decide⟩, by decide, by decide⟩⟩, by decide⟩ ⟨_, rfl, ⟨_, r2.mono (fun b q => by omega), AllAt.one ⟨_, rfl, IntsAt.nil, by decide, by decide⟩⟩, by decide⟩⟩
set_option maxRecDepth 20000 in
set_option maxHeartbeats 2000000 in
theorem one_any (w : World) : Calls Try.prog 25 #[] w fun e w' => ∃ a c, e = .returned (.agg #[.slice a 2 c]) ∧ Hid (TxnsAt (fun b => b < w'.heap.size) w' (.slice a 2 c) oneH) ∧ Hid (Below w.heap.size w w') := by
  go_enter Try.func25, Try.ntmps25
  go_wp2
  obtain ⟨W0, hW0⟩ : ∃ W0, W0 = w.alloc (.cells #[.slice (some ⟨w.heap.size + 1 + 1 + 1 + 1, 0, none⟩) 2 2] 24) := ⟨_, rfl⟩
  obtain ⟨W1, hW1⟩ : ∃ W1, W1 = W0.alloc (.cells #[.int .i64 3, .int .i64 5] 3) := ⟨_, rfl⟩
  obtain ⟨W2, hW2⟩ : ∃ W2, W2 = W1.alloc (.cells #[.bool false, .int .i64 1, .int .i64 5, .slice none 0 0, .bool true, .int .i64 1, .int .i64 0, .slice (some ⟨w.heap.size + 1, 0, none⟩) 2 2] 68) := ⟨_, rfl⟩
  obtain ⟨W3, hW3⟩ : ∃ W3, W3 = W2.alloc (.cells #[.bool false, .int .i64 0, .int .i64 3, .slice none 0 0] 68) := ⟨_, rfl⟩
  obtain ⟨W4, hW4⟩ : ∃ W4, W4 = W3.alloc (.cells #[.int .i64 7, .bool false, .slice (some ⟨w.heap.size + 1 + 1, 0, none⟩) 2 2, .int .i64 2, .bool true, .slice (some ⟨w.heap.size + 1 + 1 + 1, 0, none⟩) 1 1] 66) := ⟨_, rfl⟩
  rw [← hW0, ← hW1, ← hW2, ← hW3, ← hW4]
  have z0 : W0.heap.size = w.heap.size + 1 := by rw [hW0]; simp
  have z1 : W1.heap.size = w.heap.size + 1 + 1 := by rw [hW1]; simp [z0]
  have z2 : W2.heap.size = w.heap.size + 1 + 1 + 1 := by rw [hW2]; simp [z1]
  have z3 : W3.heap.size = w.heap.size + 1 + 1 + 1 + 1 := by rw [hW3]; simp [z2]
  have b1 : Below W1.heap.size W1 W2 := by rw [hW2]; exact (Below.refl _ _).alloc (Nat.le_refl _) _
  have b2 : Below W2.heap.size W2 W3 := by rw [hW3]; exact (Below.refl _ _).alloc (Nat.le_refl _) _
  have b3 : Below W3.heap.size W3 W4 := by rw [hW4]; exact (Below.refl _ _).alloc (Nat.le_refl _) _
  have hbw : Below w.heap.size w W4 := by rw [hW4, hW3, hW2, hW1, hW0]; exact (((((Below.refl _ _).alloc (Nat.le_refl _) _).alloc (by simp) _).alloc (by simp; omega) _).alloc (by simp; omega) _).alloc (by simp; omega) _
  have i0 : Is W4 w.heap.size #[.slice (some ⟨w.heap.size + 1 + 1 + 1 + 1, 0, none⟩) 2 2] := by
    have h := Is.made w #[.slice (some ⟨w.heap.size + 1 + 1 + 1 + 1, 0, none⟩) 2 2] 24 rfl
    rw [← hW0] at h
    have b0 : Below W0.heap.size W0 W1 := by rw [hW1]; exact (Below.refl _ _).alloc (Nat.le_refl _) _
    exact (((h.below b0).below b1).below b2).below b3
  have i1 : Is W4 (w.heap.size + 1) #[.int .i64 3, .int .i64 5] := by
    have h := Is.made W0 #[.int .i64 3, .int .i64 5] 3 z0.symm
    rw [← hW1] at h
    exact ((h.below b1).below b2).below b3
  have i2 : Is W4 (w.heap.size + 1 + 1) #[.bool false, .int .i64 1, .int .i64 5, .slice none 0 0, .bool true, .int .i64 1, .int .i64 0, .slice (some ⟨w.heap.size + 1, 0, none⟩) 2 2] := by
    have h := Is.made W1 #[.bool false, .int .i64 1, .int .i64 5, .slice none 0 0, .bool true, .int .i64 1, .int .i64 0, .slice (some ⟨w.heap.size + 1, 0, none⟩) 2 2] 68 z1.symm
    rw [← hW2] at h
    exact (h.below b2).below b3
  have i3 : Is W4 (w.heap.size + 1 + 1 + 1) #[.bool false, .int .i64 0, .int .i64 3, .slice none 0 0] := by
    have h := Is.made W2 #[.bool false, .int .i64 0, .int .i64 3, .slice none 0 0] 68 z2.symm
    rw [← hW3] at h
    exact h.below b3
  have i4 : Is W4 (w.heap.size + 1 + 1 + 1 + 1) #[.int .i64 7, .bool false, .slice (some ⟨w.heap.size + 1 + 1, 0, none⟩) 2 2, .int .i64 2, .bool true, .slice (some ⟨w.heap.size + 1 + 1 + 1, 0, none⟩) 1 1] := by
    have h := Is.made W3 #[.int .i64 7, .bool false, .slice (some ⟨w.heap.size + 1 + 1, 0, none⟩) 2 2, .int .i64 2, .bool true, .slice (some ⟨w.heap.size + 1 + 1 + 1, 0, none⟩) 1 1] 66 z3.symm
    rw [← hW4] at h
    exact h
  have c0 : W4.cell? ⟨w.heap.size, 0, none⟩ = some (.slice (some ⟨w.heap.size + 1 + 1 + 1 + 1, 0, none⟩) 2 2) := i0.cell 0 rfl
  have hat := one_at i1 i2 i3 i4
  clear hW0 hW1 hW2 hW3 hW4 z0 z1 z2 z3 b1 b2 b3 i0 i1 i2 i3 i4
  refine bodyPost_ret (v := .agg #[.slice (some ⟨w.heap.size + 1 + 1 + 1 + 1, 0, none⟩) 2 2]) (by simp [results, Try.results25, go_sem, c0]) rfl ⟨_, _, rfl, hat, hbw⟩
end Go.Proofs.Ytkinmllflodhaaa.Tab

/- The document's example of layer 12, played. -/
namespace Go.Proofs.Ytkinmllflodhaaa.Tab
open Go.RowKit Go.Proofs.Ytkinmllflodhaaa.Dig Go.Proofs.Ytkinmllflodhaaa.Mem Go.Proofs.Ytkinmllflodhaaa.Hist Go.Proofs.Ytkinmllflodhaaa.Own Go.Proofs.Ytkinmllflodhaaa.Thing Go.Proofs.Ytkinmllflodhaaa.Sets Go.Shelf Go.Proofs.Ytkinmllflodhaaa.Keys
set_option linter.unusedVariables false
set_option linter.unusedSimpArgs false

theorem RowV.i {w : World} {a : Option Addr} {c : Nat} {l : List Int} (h : RowV w a c l) : Dq.RowI w a c l := ⟨h.cap, h.rd, h.nil⟩
theorem oneIds : docIds oneH = [7] := by decide +kernel
theorem oneKeys : docKeys oneH = [0, 1] := by decide +kernel
theorem oneApps : docApps oneH 2 0 = [3] := by decide +kernel
theorem oneWr : wrO (docWriter oneH (1, 5)) = .agg #[.int .i64 7, .int .i64 0, .int .i64 1, .int .i64 5, .bool false] ∧ (docWriter oneH (1, 5)).isSome = true := ⟨rfl, rfl⟩
/-- What the example's table says. -/
structure OneT (w : World) (bT : Nat) (s : Tb) (w' : World) : Prop where
  vw : TabV w' (.pointer (some ⟨bT, 0, none⟩)) [7] [0, 1] s
  below : Below w.heap.size w w'
theorem OneT.keep {w w' w2 : World} {bT : Nat} {s : Tb} (h : OneT w bT s w') (hb : Below w'.heap.size w' w2) : OneT w bT s w2 := ⟨h.vw.keep hb, h.below.trans (hb.mono h.below.size)⟩
theorem new_one (w wx : World) (a : Option Addr) (c : Nat) (h : TxnsAt (fun b => b < wx.heap.size) wx (.slice a 2 c) oneH) (hb : Below w.heap.size w wx) :
    Calls Try.prog 9 #[.agg #[.slice a 2 c]] wx fun e w' => ∃ bT s, e = .returned (.tuple #[.pointer (some ⟨bT, 0, none⟩), .int .i64 0]) ∧ Hid (OneT w bT s w') ∧ Hid (s.wr (1, 5) = docWriter oneH (1, 5) ∧ s.ap (2, 0) = [3]) := by
  refine (new_any (.slice a 2 c) oneH wx h one_few one_few2).mono ?_
  rintro e w' (⟨q, _⟩ | ⟨_, bT, rfl, hm⟩)
  · exact absurd one_chk q
  · obtain ⟨us, ho, hv⟩ := hm.vw one_few2
    have hu : Uq oneH := valid_uq (checkS_ok one_chk).1
    refine ⟨bT, tb (flat us), rfl, ⟨.inr ⟨bT, rfl, ?_⟩, hb.trans (hm.below.mono hb.size)⟩, ⟨writer_ord ho hu (1, 5), by rw [← oneApps]; exact apps_ord ho hu 2 0⟩⟩
    rw [← oneIds, ← ids_ord ho, ← oneKeys]
    exact hv
theorem wrEq (W : World) (a0 a1 a2 a3 : Int) (a4 : Bool) : (binOp .eql 41 (.agg #[.int .i64 a0, .int .i64 a1, .int .i64 a2, .int .i64 a3, .bool a4]) (.agg #[.int .i64 a0, .int .i64 a1, .int .i64 a2, .int .i64 a3, .bool a4])).run Try.prog W = .ok (.bool true) W := by
  have u3 := Try.underlying3
  have a3' := Try.isAgg3
  have z3 := Try.sizeOf3
  have hS : Try.prog.underlying 41 = some (.struct (Try.prog.fieldsOf 41)) := by kernel_rfl
  have hp : Try.prog.stoodInHeld 41 = false := by kernel_rfl
  rw [run_eql_struct, show (10000 : Nat) = 9999 + 1 from rfl, run_equalIn_agg W 9999 41 _ _ hS hp]
  simp only [Program.fieldsOf, Try.underlying41]
  go_simp
theorem same_lit {w wx : World} {bT : Nat} {s : Tb} {a : Option Addr} {n c : Nat} {l : List Int} {xs : List Int} (h : OneT w bT s wx) (hr : RowV wx a c l) (hn : n = l.length) (hx : ∀ x ∈ xs, (Lit.int .i64 x).wf = true) (hl : l = xs) (m : Nat) (hm : m = xs.length) (cs : Array Value) (hcs : cs = (xs.map (Value.int .i64)).toArray) (hm0 : xs.length ≤ 100) (b : Nat) (hb : b = wx.heap.size) :
    Calls Try.prog 13 #[.slice a n c, .slice (some ⟨b, 0, none⟩) m m] (wx.alloc (.cells cs 3)) fun e w' => e = .returned (.bool true) ∧ Hid (OneT w bT s w') := by
  subst hl hn hm hcs hb
  have hB : Below wx.heap.size wx (wx.alloc (.cells (l.map (Value.int .i64)).toArray 3)) := (Below.refl _ _).alloc (Nat.le_refl _) _
  have h2 := Dq.rowi_made wx l 3 (p := wx.heap.size) (n := l.length) rfl rfl (by omega) hx
  refine (Dq.same_is _ _ _ _ _ _ _ (RowV.i (hr.keep hB)) h2).mono ?_
  rintro e w' ⟨rfl, hb⟩
  exact ⟨by simp, h.keep (hB.trans (hb.mono hB.size))⟩
set_option maxRecDepth 100000 in
set_option maxHeartbeats 4000000 in
theorem works12_any (w : World) : Calls Try.prog 8 #[] w fun e w' => e = .returned (.bool true) ∧ Below w.heap.size w w' := by
  have hr71 : ∀ (p q : Option Addr) (W : World), (binOp .neq 71 (.func (.func 47) #[] #[.pointer p, .pointer q]) Value.nilFunc).run Try.prog W = .ok (.bool true) W := fun p q W => by kernel_rfl
  have hr51 : ∀ (p : Option Addr) (W : World), (binOp .neq 51 (.func (.func 65) #[] #[.pointer p]) Value.nilFunc).run Try.prog W = .ok (.bool true) W := fun p W => by kernel_rfl
  have hweq := fun W => wrEq W 7 0 1 5 false
  have H71 := hide hr71
  have wf1 : (Lit.int .i64 1).wf = true := by decide
  have wf5 : (Lit.int .i64 5).wf = true := by decide
  have wf2 : (Lit.int .i64 2).wf = true := by decide
  have wf0 : (Lit.int .i64 0).wf = true := by decide
  go_enter Try.func8, Try.ntmps8
  go_upto_region 2 with (first
    | (go_at_call 25; go_must ((with_reducible refine (one_any _).mono ?_); rintro e w1 ⟨a, c, rfl, ht, hb⟩))
    | (go_at_call 9; go_must ((with_reducible refine (new_one w _ a c ht.out hb.out).mono ?_); rintro e w2 ⟨bT, s, rfl, H2, HS⟩)))
  have CW : Hid (Calls Try.prog 18 #[.pointer (some ⟨bT, 0, none⟩), .int .i64 1, .int .i64 5] w2 fun e w' => e = .returned (.tuple #[.agg #[.int .i64 7, .int .i64 0, .int .i64 1, .int .i64 5, .bool false], .bool true]) ∧ Hid (OneT w bT s w')) := hide (by
    have := writer_any 1 5 H2.out.vw wf1 wf5
    rw [HS.out.1, oneWr.1, oneWr.2] at this
    refine this.mono ?_
    rintro e w' ⟨rfl, hb⟩
    exact ⟨rfl, H2.out.keep hb.out⟩)
  go_upto_region 3 with (go_at_call 18; go_must ((with_reducible refine (Hid.out CW).mono ?_); rintro e w3 ⟨rfl, H3⟩))
  have H4 := hide (H3.out.keep ((Below.refl w3.heap.size w3).alloc (Nat.le_refl _) (.cells #[.int .i64 7, .int .i64 0, .int .i64 1, .int .i64 5, .bool false] 41)))
  have X4 := Is.made w3 #[.int .i64 7, .int .i64 0, .int .i64 1, .int .i64 5, .bool false] 41 rfl
  generalize (w3.alloc (.cells #[.int .i64 7, .int .i64 0, .int .i64 1, .int .i64 5, .bool false] 41)) = w4 at H4 X4 ⊢
  have CR : Hid (Calls Try.prog 11 #[.pointer (some ⟨bT, 0, none⟩), .int .i64 7] w4 fun e w' => e = .returned (.tuple #[.int .i64 0, .bool true]) ∧ Hid (OneT w bT s w') ∧ Hid (Below w4.heap.size w4 w')) := hide (by
    have := rank_any 7 H4.out.vw (by decide) (by simp [Rising])
    refine this.mono ?_
    rintro e w' ⟨rfl, hb⟩
    exact ⟨by simp [rankL, ltI], H4.out.keep hb.out, hb⟩)
  go_upto_region 4 with (go_at_call 11; go_must ((with_reducible refine (Hid.out CR).mono ?_); rintro e w5 ⟨rfl, H5, B5⟩))
  have X5 := X4.below B5.out
  have x0 : w5.cell? ⟨w3.heap.size, 0, none⟩ = some (.int .i64 7) := X5.cell 0 rfl
  have x1 : w5.cell? ⟨w3.heap.size, 1, none⟩ = some (.int .i64 0) := X5.cell 1 rfl
  have x2 : w5.cell? ⟨w3.heap.size, 2, none⟩ = some (.int .i64 1) := X5.cell 2 rfl
  have x3 : w5.cell? ⟨w3.heap.size, 3, none⟩ = some (.int .i64 5) := X5.cell 3 rfl
  have x4 : w5.cell? ⟨w3.heap.size, 4, none⟩ = some (.bool false) := X5.cell 4 rfl
  clear CW CR H2 H3 H4 X4 X5 ht hb
  have wfA : ∀ x ∈ ([7] : List Int), (Lit.int .i64 x).wf = true := by decide
  have wfB : ∀ x ∈ ([0, 1] : List Int), (Lit.int .i64 x).wf = true := by decide
  have wfC : ∀ x ∈ ([3] : List Int), (Lit.int .i64 x).wf = true := by decide
  have hap : Hid (s.ap (2, 0) = [3]) := hide HS.out.2
  go_wp2_with (first
    | (go_at_call 14; go_must ((with_reducible refine (ids_any H5.out.vw (by decide)).mono ?_); rintro e w6 ⟨ia, il, ic, rfl, hi, hb6⟩; obtain ⟨hin, hir⟩ := hi.out; obtain rfl : il = 1 := hin; have H6 := hide (H5.out.keep hb6.out); have S1 := hide (same_lit (n := 1) H6.out hir rfl wfA rfl 1 rfl #[.int .i64 7] rfl (by decide) _ rfl); clear hi hir))
    | (go_at_call 16; go_must ((with_reducible refine (keys_any H7.out.vw (by decide)).mono ?_); rintro e w8 ⟨ka, kl, kc, rfl, hi, hb8⟩; obtain ⟨hin, hir⟩ := hi.out; obtain rfl : kl = 2 := hin; have H8 := hide (H7.out.keep hb8.out); have S2 := hide (same_lit (n := 2) H8.out hir rfl wfB rfl 2 rfl #[.int .i64 0, .int .i64 1] rfl (by decide) _ rfl); clear hi hir))
    | (go_at_call 20; go_must ((with_reducible refine (apps_any 2 0 H9.out.vw wf2 wf0 (by rw [hap.out]; decide)).mono ?_); rintro e wa ⟨pa, pl, pc, rfl, hi, hba⟩; obtain ⟨hin, hir⟩ := hi.out; rw [hap.out] at hin hir; obtain rfl : pl = 1 := hin; have HA := hide (H9.out.keep hba.out); have S3 := hide (same_lit (n := 1) HA.out hir rfl wfC rfl 1 rfl #[.int .i64 3] rfl (by decide) _ rfl); clear hi hir))
    | (go_at_call 13; go_must (first
        | ((with_reducible refine (Hid.out S1).mono ?_); rintro e w7 ⟨rfl, H7⟩; clear S1)
        | ((with_reducible refine (Hid.out S2).mono ?_); rintro e w9 ⟨rfl, H9⟩; clear S2)
        | ((with_reducible refine (Hid.out S3).mono ?_); rintro e wc ⟨rfl, HC⟩; clear S3)))
    | (go_at_call 26; go_must ((with_reducible refine (reads_any _ _ _).mono ?_); rintro e wd ⟨rfl, hwd⟩; have HD := hide (HC.out.keep (w2 := wd) (by rw [hwd]; exact ((Below.refl _ _).alloc (Nat.le_refl _) _).alloc (by simp) _)); clear hwd))
    | (go_at_call 22; go_must ((with_reducible refine (writes_any _ _ _ s 1 _ HD.out.vw wf1).mono ?_); rintro e wz ⟨B, rfl, hz⟩)))
  go_ret
  exact ⟨rfl, HD.out.below.trans (hz.out.2.2.mono HD.out.below.size)⟩
end Go.Proofs.Ytkinmllflodhaaa.Tab

/- A row of the call's own, as a row that is read. -/
namespace Go.Proofs.Ytkinmllflodhaaa.Sets
open Go.RowKit Go.Proofs.Ytkinmllflodhaaa.Dig Go.Proofs.Ytkinmllflodhaaa.Mem
set_option linter.unusedVariables false
set_option linter.unusedSimpArgs false

/-- A row that is owned, read. -/
theorem rowv_of_own {w : World} {base : Nat} {a : Option Addr} {n c : Nat} {l : List Int} (h : w.ownsRow base 3 1 (.slice a n c) l.length (l.map (Value.int .i64))) (hl : l.length ≤ 1000000) (hw : ∀ n ∈ l, (Lit.int .i64 n).wf = true) : n = l.length ∧ RowV w a c l := by
  obtain ⟨a', c', e, hr⟩ := own_rowv h (by omega) hw
  injection e with e1 e2 e3
  subst e1; subst e2; subst e3
  exact ⟨rfl, hr⟩
theorem own_form {w : World} {base e : TypeId} {v : Value} {n : Nat} {xs : List Value} (h : w.ownsRow base e 1 v n xs) : ∃ a c, v = .slice a n c := by
  rcases h.2 with ⟨rfl, h0⟩ | ⟨g, cap, cur, rfl, _⟩
  · have : n = 0 := by omega
    exact ⟨none, 0, by rw [this]⟩
  · exact ⟨_, _, rfl⟩
theorem fresh_own {w : World} {base e : TypeId} {a : Option Addr} {n m c : Nat} {xs : List Value} (h : w.ownsRow base e 1 (.slice a n c) n xs) : FreshV base (.agg #[.slice a m c]) := fun b o sp n' c' q _ => by
  injection q with q
  simp at q
  obtain ⟨rfl, rfl, rfl⟩ := q
  exact (World.ownsRow.lt h b rfl).1
end Go.Proofs.Ytkinmllflodhaaa.Sets

/- The document's set of a row: the least that is not taken, again and again. -/
namespace Go.Proofs.Ytkinmllflodhaaa.Sets
open Go.RowKit Go.Proofs.Ytkinmllflodhaaa.Dig Go.Proofs.Ytkinmllflodhaaa.Mem
set_option linter.unusedVariables false
set_option linter.unusedSimpArgs false

/-- The least that is not among the first k is the next one. -/
theorem next_least {l : List Int} {k : Nat} {b : Int} (hb : b ∈ l) (hn : b ∉ (setL ltI l).take k) (hm : ∀ x ∈ l, x ∉ (setL ltI l).take k → b ≤ x) :
    k < (setL ltI l).length ∧ (setL ltI l).take k ++ [b] = (setL ltI l).take (k + 1) := by
  obtain ⟨s, hs⟩ : ∃ s, s = setL ltI l := ⟨_, rfl⟩
  have hr := rising_setL totI l
  have hmem := mem_setL totI l
  rw [← hs] at hn hm hr hmem ⊢
  have hbs : b ∈ s := (hmem b).2 hb
  rw [← List.take_append_drop k s] at hbs
  have hbd : b ∈ s.drop k := (List.mem_append.1 hbs).resolve_left hn
  have hlt : k < s.length := by
    rcases Nat.lt_or_ge k s.length with q | q
    · exact q
    · rw [List.drop_eq_nil_of_le q] at hbd; simp at hbd
  refine ⟨hlt, ?_⟩
  have hd := List.drop_eq_getElem_cons hlt
  rw [← List.take_append_drop k s] at hr
  obtain ⟨_, hr2, hr3⟩ := rising_append.1 hr
  have hx : s[k] ∉ s.take k := fun q => by
    have hin : s[k] ∈ s.drop k := by rw [hd]; exact List.mem_cons_self
    have := hr3 _ q s[k] hin
    rw [totI.irr] at this; cases this
  have h1 := hm s[k] ((hmem _).1 (List.getElem_mem hlt)) hx
  have h2 : s[k] ≤ b := by
    rw [hd] at hbd hr2
    rcases List.mem_cons.1 hbd with e | q
    · omega
    · have := (rising_cons.1 hr2).1 b q
      simp [ltI] at this
      omega
  have e : s[k] = b := by omega
  rw [List.take_add_one, List.getElem?_eq_getElem hlt, e]
  rfl
theorem none_left {l : List Int} {k : Nat} (h : ∀ x ∈ l, x ∈ (setL ltI l).take k) (hk : k ≤ (setL ltI l).length) : k = (setL ltI l).length := by
  rcases Nat.lt_or_ge k (setL ltI l).length with q | q
  · exfalso
    have hr := rising_setL totI l
    have hd := List.drop_eq_getElem_cons q
    have hx := h _ ((mem_setL totI l _).1 (List.getElem_mem q))
    rw [← List.take_append_drop k (setL ltI l)] at hr
    have hin : (setL ltI l)[k] ∈ (setL ltI l).drop k := by rw [hd]; exact List.mem_cons_self
    have := (rising_append.1 hr).2.2 _ hx _ hin
    rw [totI.irr] at this; cases this
  · omega
def OfR (w : World) (s : List Int) (ov nv : Value) (wr : World) : Prop :=
  ∃ (k : Nat), k ≤ s.length ∧ nv = .int .i64 (k : Int) ∧ Hid (wr.ownsRow w.heap.size 3 1 ov k ((s.take k).map (Value.int .i64))) ∧ Hid (Below w.heap.size w wr)
def InR (l out : List Int) (n : Nat) (bv fv kv : Value) : Prop :=
  ∃ (j : Nat), j ≤ n ∧ kv = .int .i64 (j : Int) ∧ ((fv = .bool false ∧ bv = .int .i64 0 ∧ Hid (∀ i, i < j → l.getD i 0 ∈ out)) ∨ ∃ b, fv = .bool true ∧ bv = .int .i64 b ∧ Hid (b ∈ l ∧ b ∉ out ∧ ∀ i, i < j → l.getD i 0 ∉ out → b ≤ l.getD i 0))
set_option maxHeartbeats 2000000 in
set_option maxRecDepth 20000 in
theorem rof_fresh (a : Option Addr) (c : Nat) (l : List Int) (w : World) (h : RowV w a c l) (hm : l.length ≤ 10000) :
    Calls Try.prog 43 #[.slice a l.length c] w fun e w' => (∃ a' c', e = .returned (.slice a' (setL ltI l).length c') ∧ RowV w' a' c' (setL ltI l) ∧ ∀ x, a' = some x → w.heap.size ≤ x.block) ∧ Below w.heap.size w w' := by
  obtain ⟨i0, hi, hz0, hz1, hz2⟩ := info_parts Try.infoSetInt
  have HA := hide h
  have hsl := setL_length (lt := ltI) l
  have HNL := hide (fun k => none_left (l := l) (k := k))
  have HNX := hide (fun k b => next_least (l := l) (k := k) (b := b))
  have HW : Hid (∀ x ∈ setL ltI l, (Lit.int .i64 x).wf = true) := fun x hx => h.wf x ((mem_setL totI l x).1 hx)
  obtain ⟨s, hs⟩ : ∃ s, s = setL ltI l := ⟨_, rfl⟩
  rw [← hs] at hsl HNL HNX HW ⊢
  obtain ⟨n, hn⟩ : ∃ n, n = l.length := ⟨_, rfl⟩
  rw [← hn] at hsl hm ⊢
  have HN := hide hn
  clear hs hn h
  go_enter Try.func43, Try.ntmps43
  go_wp2
  go_loopw [3, 4] (fun ov nv wr => OfR w s ov nv wr) (fun _ nv _ => n + 1 - (intOf nv).toNat)
  case atStart => exact ⟨0, by omega, rfl, World.ownsRow_nil _ _ _ _, Below.refl _ _⟩
  case round =>
    obtain ⟨k, hk, rfl, hown, hbel⟩ := hrel
    obtain ⟨W, hW⟩ : ∃ W, W = wr := ⟨_, rfl⟩
    subst hW
    obtain ⟨oa, oc, rfl⟩ := own_form hown.out
    have hkn : (k : Int) ≤ (n : Int) := by omega
    have HO : Hid (RowV W oa oc (s.take k)) := by
      have ho := hown.out
      have e : (s.take k).length = k := by rw [List.length_take]; omega
      exact (rowv_of_own (l := s.take k) (n := k) (by rw [e]; exact ho) (by omega) (fun x hx => HW.out x (List.mem_of_mem_take hx))).2
    have HHAS : Hid (∀ x : Int, Calls Try.prog 64 #[.slice oa k oc, .int .i64 x] W fun e w' => e = .returned (.bool (decide (x ∈ s.take k))) ∧ w' = W) := fun x => by
      have := rhas_any oa oc (s.take k) x W HO.out
      rw [show (s.take k).length = k by rw [List.length_take]; omega] at this
      exact this
    have I0 : Hid (InR l (s.take k) n (.int .i64 0) (.bool false) (.int .i64 0)) := ⟨0, by omega, rfl, .inl ⟨rfl, rfl, fun i hi => by omega⟩⟩
    go_wp2
    go_loopw [5, 6, 7] (fun bv fv kv wr => InR l (s.take k) n bv fv kv ∧ wr = W) (fun _ _ kv _ => n - (intOf kv).toNat)
    case atStart => exact ⟨I0.out, rfl⟩
    case round =>
      obtain ⟨⟨j, hj, rfl, hin⟩, hwr⟩ := hrel
      replace hwr := hwr.symm
      subst hwr
      by_cases hlt : j < n
      · have hj2 : j < l.length := by rw [← HN.out]; exact hlt
        obtain ⟨b1, o1, rfl, hc1⟩ := (HA.out.keep (hbel.out.mono (Nat.le_refl _))).at hj2
        have hxl : l.getD j 0 ∈ l := by rw [List.getD_eq_getElem?_getD, List.getElem?_eq_getElem hj2]; exact List.getElem_mem hj2
        obtain ⟨x, hx⟩ : ∃ x, x = l.getD j 0 := ⟨_, rfl⟩
        rw [← hx] at hc1 hxl
        have HX := hide hx
        have HXL := hide hxl
        clear hx hxl hj2
        have step : ∀ (p : Int → Prop), (∀ i, i < j → p (l.getD i 0)) → p x → ∀ i, i < j + 1 → p (l.getD i 0) := fun p h1 h2 i hi => by
          by_cases e : i = j
          · rw [e, ← HX.out]; exact h2
          · exact h1 i (by omega)
        have STEP := hide step
        clear step
        obtain ⟨q, hq⟩ : ∃ q, Hid (decide (x ∈ s.take k) = q) := ⟨_, rfl⟩
        cases q with
        | true =>
          have HQ : Hid (x ∈ s.take k) := hide (of_decide_eq_true hq.out)
          rcases hin with ⟨rfl, rfl, hall⟩ | ⟨b, rfl, rfl, hb⟩
          · have R : Hid (InR l (s.take k) n (.int .i64 0) (.bool false) (.int .i64 ((j : Int) + 1))) := ⟨j + 1, by omega, by simp, .inl ⟨rfl, rfl, STEP.out (fun y => y ∈ s.take k) hall.out HQ.out⟩⟩
            go_wp2_with (go_at_call 64; go_must ((with_reducible refine (HHAS.out x).mono ?_); rw [hq.out]; rintro e w8 ⟨rfl, hw8⟩; replace hw8 := hw8.symm; subst hw8))
            go_roundw
            case rel => exact ⟨R.out, trivial⟩
            case measure => simp [intOf]; omega
          · have R : Hid (InR l (s.take k) n (.int .i64 b) (.bool true) (.int .i64 ((j : Int) + 1))) := ⟨j + 1, by omega, by simp, .inr ⟨b, rfl, rfl, hb.out.1, hb.out.2.1, STEP.out (fun y => y ∉ s.take k → b ≤ y) hb.out.2.2 (fun h => absurd HQ.out h)⟩⟩
            go_wp2_with (go_at_call 64; go_must ((with_reducible refine (HHAS.out x).mono ?_); rw [hq.out]; rintro e w8 ⟨rfl, hw8⟩; replace hw8 := hw8.symm; subst hw8))
            go_roundw
            case rel => exact ⟨R.out, trivial⟩
            case measure => simp [intOf]; omega
        | false =>
          have HQ : Hid (x ∉ s.take k) := hide (of_decide_eq_false hq.out)
          rcases hin with ⟨rfl, rfl, hall⟩ | ⟨b, rfl, rfl, hb⟩
          · have R : Hid (InR l (s.take k) n (.int .i64 x) (.bool true) (.int .i64 ((j : Int) + 1))) := ⟨j + 1, by omega, by simp, .inr ⟨x, rfl, rfl, HXL.out, HQ.out, STEP.out (fun y => y ∉ s.take k → x ≤ y) (fun i hi h => absurd (hall.out i hi) h) (fun _ => Int.le_refl _)⟩⟩
            go_wp2_with (go_at_call 64; go_must ((with_reducible refine (HHAS.out x).mono ?_); rw [hq.out]; rintro e w8 ⟨rfl, hw8⟩; replace hw8 := hw8.symm; subst hw8))
            go_roundw
            case rel => exact ⟨R.out, trivial⟩
            case measure => simp [intOf]; omega
          · by_cases hxb : x < b
            · have R : Hid (InR l (s.take k) n (.int .i64 x) (.bool true) (.int .i64 ((j : Int) + 1))) := ⟨j + 1, by omega, by simp, .inr ⟨x, rfl, rfl, HXL.out, HQ.out, STEP.out (fun y => y ∉ s.take k → x ≤ y) (fun i hi h => by have := hb.out.2.2 i hi h; omega) (fun _ => Int.le_refl _)⟩⟩
              go_wp2_with (go_at_call 64; go_must ((with_reducible refine (HHAS.out x).mono ?_); rw [hq.out]; rintro e w8 ⟨rfl, hw8⟩; replace hw8 := hw8.symm; subst hw8))
              go_roundw
              case rel => exact ⟨R.out, trivial⟩
              case measure => simp [intOf]; omega
            · have R : Hid (InR l (s.take k) n (.int .i64 b) (.bool true) (.int .i64 ((j : Int) + 1))) := ⟨j + 1, by omega, by simp, .inr ⟨b, rfl, rfl, hb.out.1, hb.out.2.1, STEP.out (fun y => y ∉ s.take k → b ≤ y) hb.out.2.2 (fun _ => by omega)⟩⟩
              go_wp2_with (go_at_call 64; go_must ((with_reducible refine (HHAS.out x).mono ?_); rw [hq.out]; rintro e w8 ⟨rfl, hw8⟩; replace hw8 := hw8.symm; subst hw8))
              go_roundw
              case rel => exact ⟨R.out, trivial⟩
              case measure => simp [intOf]; omega
      · obtain rfl : j = n := by omega
        have hmemj : ∀ (p : Int → Prop), (∀ i, i < j → p (l.getD i 0)) → ∀ x ∈ l, p x := fun p h x hx => by
          obtain ⟨i, hi, e⟩ := List.getElem_of_mem hx
          have := h i (by rw [HN.out]; exact hi)
          rw [List.getD_eq_getElem?_getD, List.getElem?_eq_getElem hi] at this
          rw [← e]; exact this
        have HMJ := hide hmemj
        clear hmemj
        rcases hin with ⟨rfl, rfl, hall⟩ | ⟨b, rfl, rfl, hb⟩
        · have hks : k = s.length := HNL.out k (HMJ.out _ hall.out) hk
          have HF : Hid (RowV W oa oc s ∧ k = s.length) := ⟨by have := HO.out; rw [hks, List.take_length] at this; exact this, hks⟩
          go_wp2
          go_ret
          exact ⟨⟨oa, oc, by rw [HF.out.2]; rfl, HF.out.1, fun x e => by subst e; exact (World.ownsRow.lt hown.out x.block rfl).1⟩, hbel.out⟩
        · obtain ⟨hk2, hnx⟩ := HNX.out k b hb.out.1 hb.out.2.1 (HMJ.out (fun y => y ∉ s.take k → b ≤ y) hb.out.2.2)
          have HNXT := hide hnx
          have hrow := hown.out
          have hsz2 := hbel.out.size
          clear hnx
          go_wp2_with (at_builtin; go_loud (refine wpList_append_own _ rfl _ _ 36 rfl w.heap.size 3 i0 (.int .i64 0) 1 8 Try.underlying36 hi hz0 hz1 hz2 rfl (by decide) _ _ _ rfl (hrow.alloc _) ⟨W.heap.size, 0, none⟩ 1 1 [.int .i64 b] rfl rfl (one_new _ _ _) (by simp [Value.oneCell']) (by unfold maxLen; omega) (by omega) (by simp; omega) ?_); intro v1 w1 hown1 hgrow1 _; have HOWN1 := hide hown1; have HB1 := hide ((hbel.out.alloc hsz2 (.cells #[.int .i64 b] 3)).grown hgrow1 (by simp; omega) (fun q e => (World.ownsRow.lt hown.out q e).1)); clear hown1 hgrow1)
          go_roundw
          case rel => exact ⟨k + 1, by omega, by simp, by have := HOWN1.out; rw [← HNXT.out, List.map_append]; exact this, HB1.out⟩
          case measure => simp [intOf]; omega
theorem rof_any (a : Option Addr) (c : Nat) (l : List Int) (w : World) (h : RowV w a c l) (hm : l.length ≤ 10000) :
    Calls Try.prog 43 #[.slice a l.length c] w fun e w' => (∃ a' c', e = .returned (.slice a' (setL ltI l).length c') ∧ RowV w' a' c' (setL ltI l)) ∧ Below w.heap.size w w' := by
  refine (rof_fresh a c l w h hm).mono ?_
  rintro e w' ⟨⟨a', c', rfl, h1, _⟩, h2⟩
  exact ⟨⟨a', c', rfl, h1⟩, h2⟩
end Go.Proofs.Ytkinmllflodhaaa.Sets

/- The document's numbers of committed transactions. -/
namespace Go.Proofs.Ytkinmllflodhaaa.Tab
open Go.RowKit Go.Proofs.Ytkinmllflodhaaa.Dig Go.Proofs.Ytkinmllflodhaaa.Mem Go.Proofs.Ytkinmllflodhaaa.Hist Go.Proofs.Ytkinmllflodhaaa.Own Go.Proofs.Ytkinmllflodhaaa.Thing Go.Proofs.Ytkinmllflodhaaa.Sets Go.Shelf Go.Proofs.Ytkinmllflodhaaa.Keys
set_option linter.unusedVariables false
set_option linter.unusedSimpArgs false

def idsR (w : World) (ts : List TxnM) (ov kv : Value) (wr : World) : Prop :=
  ∃ (k : Nat), k ≤ ts.length ∧ kv = .int .i64 (k : Int) ∧ Hid (wr.ownsRow w.heap.size 3 1 ov (idsOf (ts.take k)).length ((idsOf (ts.take k)).map (Value.int .i64))) ∧ Hid (Below w.heap.size w wr)
theorem ids_hit {ts : List TxnM} {k : Nat} (h : k < ts.length) (hp : ts[k].ab = false) : idsOf (ts.take (k + 1)) = idsOf (ts.take k) ++ [ts[k].id] := by
  unfold idsOf
  rw [List.take_succ_eq_append_getElem h, List.filter_append, List.map_append]
  simp [hp]
theorem ids_miss {ts : List TxnM} {k : Nat} (h : k < ts.length) (hp : ts[k].ab = true) : idsOf (ts.take (k + 1)) = idsOf (ts.take k) := by
  unfold idsOf
  rw [List.take_succ_eq_append_getElem h, List.filter_append, List.map_append]
  simp [hp]
theorem idsOf_le (ts : List TxnM) : (idsOf ts).length ≤ ts.length := by
  unfold idsOf
  rw [List.length_map]
  exact List.length_filter_le _ _
set_option maxRecDepth 20000 in
set_option maxHeartbeats 4000000 in
theorem rids_any (F : Nat → Prop) (v : Value) (ts : List TxnM) (w : World) (h : TxnsAt F w v ts) (hF : ∀ b, F b → b < w.heap.size) (hm : ts.length ≤ 1000) :
    Calls Try.prog 15 #[.agg #[v]] w fun e w' => (∃ a' c', e = .returned (.slice a' (docIds ts).length c') ∧ RowV w' a' c' (docIds ts)) ∧ Below w.heap.size w w' := by
  obtain ⟨i0, hi, hz0, hz1, hz2⟩ := info_parts Try.infoSetInt
  obtain ⟨a, c, rfl, hc1, hc2⟩ := h.shape
  unfold maxLen at hc2
  have H : Hid (TxnsAt F w (.slice a ts.length c) ts) := h
  clear h
  have HWFA : Hid (∀ x ∈ idsOf ts, (Lit.int .i64 x).wf = true) := hide (by
    intro x hx
    obtain ⟨t, ht, rfl⟩ := List.mem_map.1 hx
    obtain ⟨i, hi, e⟩ := List.getElem_of_mem (List.mem_filter.1 ht).1
    obtain ⟨_, _, _, _, _, _, _, _, _, _, _, hw⟩ := H.out.at hi
    rw [e] at hw
    exact hw)
  go_enter Try.func15, Try.ntmps15
  go_upto_region 1 with fail
  obtain ⟨w1, hw1⟩ : ∃ w1, w1 = w.alloc (.cells #[.slice a ts.length c] 24) := ⟨_, rfl⟩
  rw [← hw1]
  have HB1 : Hid (Below w.heap.size w w1) := hide (by rw [hw1]; exact (Below.refl _ _).alloc (Nat.le_refl _) _)
  have HX1 : Hid (Is w1 w.heap.size #[.slice a ts.length c]) := hide (by rw [hw1]; exact Is.made w _ _ rfl)
  have HH1 := hide (H.out.keep HB1.out)
  clear hw1 H
  go_wp2
  go_loopw [3, 4] (fun ov kv wr => idsR w1 ts ov kv wr) (fun _ kv _ => ts.length - (intOf kv).toNat)
  case atStart => exact ⟨0, by omega, rfl, World.ownsRow_nil _ _ _ _, Below.refl _ _⟩
  case round =>
    obtain ⟨k, hk, rfl, hown, hbel⟩ := hrel
    obtain ⟨W, hW⟩ : ∃ W, W = wr := ⟨_, rfl⟩
    subst hW
    obtain ⟨oa, oc, rfl⟩ := Own.own_form hown.out
    have HXW := hide (HX1.out.below hbel.out)
    have x0 : W.cell? ⟨w.heap.size, 0, none⟩ = some (.slice a ts.length c) := HXW.out.cell 0 rfl
    by_cases hlt : k < ts.length
    · obtain ⟨b1, o1, l1, q1, rfl, _, hb1, c0, c1, c2, hi1, hwf⟩ := (HH1.out.keep hbel.out).at hlt
      have hle := idsOf_le (ts.take k)
      rw [List.length_take] at hle
      have HO := hown.out
      have HHIT := hide (ids_hit hlt)
      have HMISS := hide (ids_miss hlt)
      obtain ⟨q, hq⟩ : ∃ q, q = ts[k].ab := ⟨_, rfl⟩
      rw [← hq] at c1
      have HQ := hide hq
      have HWF := hide hwf
      have hsz := hbel.out.size
      have HK := hide hk
      clear hi1 hq hwf hk
      cases q with
      | true =>
        have HR : Hid (idsR w1 ts (.slice oa (idsOf (ts.take k)).length oc) (.int .i64 ((k : Int) + 1)) W) := ⟨k + 1, by omega, by simp, by rw [HMISS.out HQ.out.symm]; exact hown, hbel⟩
        obtain ⟨m, hm⟩ : ∃ m, m = (idsOf (ts.take k)).length := ⟨_, rfl⟩
        rw [← hm] at HR ⊢
        clear HO hown hm HHIT HMISS
        go_wp2
        go_roundw
        case rel => exact HR.out
        case measure => simp [intOf]; omega
      | false =>
        have hrow := hown.out
        have HE := hide (HHIT.out HQ.out.symm)
        obtain ⟨m, hm⟩ : ∃ m, m = (idsOf (ts.take k)).length := ⟨_, rfl⟩
        rw [← hm] at hrow hle ⊢
        have HM := hide hm
        clear HO hown hm HHIT HMISS
        go_wp2_with (at_builtin; go_loud (refine wpList_append_own _ rfl _ _ 36 rfl w1.heap.size 3 i0 (.int .i64 0) 1 8 Try.underlying36 hi hz0 hz1 hz2 rfl (by decide) _ _ _ rfl (hrow.alloc _) ⟨W.heap.size, 0, none⟩ 1 1 [.int .i64 ts[k].id] rfl rfl (one_new _ _ _) (by simp [Value.oneCell']) (by unfold maxLen; omega) (by omega) (by simp; omega) ?_); intro v2 w2 hown2 hgrow2 _; have HOWN2 := hide hown2; have HB2 := hide ((hbel.out.alloc hsz (.cells #[.int .i64 ts[k].id] 3)).grown hgrow2 (by simp; omega) (fun q e => (World.ownsRow.lt hrow q e).1)); clear hown2 hgrow2)
        go_roundw
        case rel => exact ⟨k + 1, by omega, by simp, by have := HOWN2.out; rw [HE.out, List.map_append, List.length_append, ← HM.out]; exact this, HB2⟩
        case measure => simp [intOf]; omega
    · obtain rfl : k = ts.length := by omega
      have hrow := hown.out
      rw [List.take_length] at hrow ⊢
      have hle := idsOf_le ts
      have HV := hide (rowv_of_own hrow (by omega) HWFA.out).2
      obtain ⟨m, hm⟩ : ∃ m, m = (idsOf ts).length := ⟨_, rfl⟩
      rw [← hm] at hle ⊢
      have HM := hide hm
      clear hown hrow hm
      have CO : Hid (Calls Try.prog 43 #[.slice oa m oc] W fun e w' => (∃ a' c', e = .returned (.slice a' (docIds ts).length c') ∧ RowV w' a' c' (docIds ts)) ∧ Below W.heap.size W w') := hide (by rw [HM.out]; exact rof_any _ _ _ _ HV.out (by rw [← HM.out]; omega))
      go_wp2_with (go_at_call 43; go_must ((with_reducible refine (Hid.out CO).mono ?_); rintro e w3 ⟨⟨a3, c3, rfl, hv3⟩, hb3⟩))
      go_ret
      exact ⟨⟨a3, c3, rfl, hv3⟩, HB1.out.trans ((hbel.out.mono HB1.out.size).trans (hb3.mono (by have := HB1.out.size; have := hbel.out.size; omega)))⟩
end Go.Proofs.Ytkinmllflodhaaa.Tab
