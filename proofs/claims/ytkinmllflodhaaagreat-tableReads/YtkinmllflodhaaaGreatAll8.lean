/- Joined out of the texts TabNote, ShelfI, in that order. -/
import Derived.Test.YtkinmllflodhaaaGreatAll7
import Derived.Laws.EntriesVeiled
import Derived.Deep.Cut
import Derived.Deep.RegionWith
import Derived.Deep.QuietTactic
import Derived.BigQuiet
import Derived.Outline
import Derived.Shelf.Small.Wraps
import Derived.Shelf.Sort.Plain
import Derived.Shelf.Slices.Clone
import Derived.Shelf.Slices.CompactI
import Derived.Shelf.Slices.CompactS
import Derived.Shelf.Slices.SearchI
import Derived.Shelf.Slices.In.SortNone
import Derived.Shelf.Slices.Empties
import Derived.Test.YtkinmllflodhaaaGreatProg
/- An operation is noted: an append. -/
namespace Go.Proofs.YtkinmllflodhaaaGreat.Tab
open Go.RowKit Go.Proofs.YtkinmllflodhaaaGreat.Dig Go.Proofs.YtkinmllflodhaaaGreat.Mem Go.Proofs.YtkinmllflodhaaaGreat.Keys Go.Proofs.YtkinmllflodhaaaGreat.Own Go.Proofs.YtkinmllflodhaaaGreat.Thing Go.Maps Go.MapKept Go.ChangeMaps
set_option linter.unusedVariables false
set_option linter.unusedSimpArgs false

theorem Tryz.infoTI : (Tryz.prog.info? 3).map (fun i => (i.zero, i.size, i.bytes)) = some (some (.int .i64 0), 1, 8) := by kernel_rfl
theorem Tryz.infoTW : (Tryz.prog.info? 64).map (fun i => (i.zero, i.size, i.bytes)) = some (some (.agg #[.int .i64 0, .int .i64 0, .int .i64 0, .int .i64 0, .bool false]), 5, 40) := by kernel_rfl
theorem Tryz.infoTR : (Tryz.prog.info? 38).map (fun i => (i.zero, i.size, i.bytes)) = some (some (.agg #[.int .i64 0, .int .i64 0, .int .i64 0, .slice none 0 0, .slice none 0 0]), 5, 72) := by kernel_rfl
def Tb.write (s : Tb) (m : WrM) : Tb := { s with wr := upd s.wr (m.key, m.value) (some m), ap := upd s.ap (m.txn, m.key) (s.ap (m.txn, m.key) ++ [m.value]), ws := if m.ab = true then s.ws else upd s.ws m.key (s.ws m.key ++ [m]) }
/-- A table's box. -/
def tabBox (i0 i1 : Value) (d : TD) : Array Value := #[i0, i1, .map (some d.b0), .map (some d.b1), .map (some d.b2), .map (some d.b3)]
/-- The map of writers, written. -/
theorem TabAt.put0 {base n : Nat} {d : TD} {s : Tb} {w : World} {m : WrM} (h : TabAt base d s n w) (hk : (Lit.int .i64 m.key).wf = true) (hv : (Lit.int .i64 m.value).wf = true) (hn : n ≤ 100000) :
    ∃ w', (Instr.mapUpdate 75 (.map (some d.b0)) (.agg #[.int .i64 m.key, .int .i64 m.value]) (wrV m)).run Tryz.prog w = .ok () w' ∧ TabAt base d { s with wr := upd s.wr (m.key, m.value) (some m) } (n + 1) w' ∧ Only (fun k => k = d.b0) w w' := by
  obtain ⟨w', h1, h2, h3⟩ := map_put h.m0 (T := 75) tappIs Tryz.underlying75 (x := (m.key, m.value)) ⟨hk, hv⟩ (by unfold maxLen; omega) (wrV m)
  refine ⟨w', h1, h.setWr h3 (h2.congr fun x _ => ?_) (Nat.le_succ _), h3⟩
  by_cases e : x = (m.key, m.value)
  · subst e; rw [upd_same, upd_same]; rfl
  · rw [upd_other e, upd_other e]
/-- What a transaction appends to a key: the entry, the append, the store. -/
theorem TabAt.put1 {base n : Nat} {d : TD} {s : Tb} {w : World} {p : Int × Int} {x : Int} (h : TabAt base d s n w) (hp : appOk p) (hx : (Lit.int .i64 x).wf = true) (hn : n ≤ 100000) :
    ∃ (st : Nat) (w1 : World), (Instr.mapEntry 76 (.map (some d.b1)) (.agg #[.int .i64 p.1, .int .i64 p.2])).run Tryz.prog w = .ok (.tuple #[d.vA p, .int .i64 (st : Int)]) w1 ∧ Only (fun k => k = d.b1) w w1 ∧ w1.ownsRow base 3 1 (d.vA p) (s.ap p).length ((s.ap p).map (Value.int .i64)) ∧
      ∀ (w2 : World) (v : Value), w2.ownsRow base 3 1 v ((s.ap p).length + 1) ((s.ap p).map (Value.int .i64) ++ [.int .i64 x]) → w1.grownBy w2 (d.vA p).ownBlock → (v.ownBlock = (d.vA p).ownBlock ∨ v.ownBlock = some w1.heap.size) →
        (∀ k i, (d.vA p).ownBlock = some k → i < (s.ap p).length * 1 → w2.cell? ⟨k, i, none⟩ = w1.cell? ⟨k, i, none⟩) →
        ∃ w3, (Instr.entryStore 76 (.map (some d.b1)) (.int .i64 (st : Int)) v).run Tryz.prog w2 = .ok () w3 ∧ TabAt base { d with fA := upd d.fA p (some v) } { s with ap := upd s.ap p (s.ap p ++ [x]) } (n + 1) w3 ∧ Only (fun k => k = d.b1 ∨ (d.vA p).ownBlock = some k) w w3 ∧
          ∀ k, ({ d with fA := upd d.fA p (some v) } : TD).F k → d.F k ∨ w.heap.size ≤ k := by
  obtain ⟨st, w1, h1, h2, h3⟩ := map_entry h.m1 (T := 76) (E := 36) tpartIs klTPart Tryz.underlying76 zeroI (x := p) hp (by unfold maxLen; omega)
  have hne : ∀ g, (d.vA p).ownBlock = some g → ¬ g = d.b1 := fun g hg e => own_ne_map (h.ra p) h.m1 (by rw [hg, e])
  refine ⟨st, w1, h1, h2, own_keep (h.ra p) h2 hne, fun w2 v hv hg hat hpre => ?_⟩
  have hb1 : w2.heap[d.b1]? = w1.heap[d.b1]? := hg.block _ (Nat.lt_of_lt_of_le h.m1.lt h2.size) (fun e => hne _ e.symm rfl)
  obtain ⟨w3, k1, k2, k3⟩ := h3 w2 v hb1
  have hat2 : v.ownBlock = (d.vA p).ownBlock ∨ ∃ g, v.ownBlock = some g ∧ w.heap.size ≤ g := by
    rcases hat with q | q
    · exact .inl q
    · exact .inr ⟨_, q, h2.size⟩
  have ho12 : Only (fun k => k = d.b1 ∨ (d.vA p).ownBlock = some k) w w2 := (h2.mono fun _ e => .inl e).trans ⟨hg.os, hg.tape, hg.output, hg.size, fun k hk hn => hg.block k hk (fun e => hn (.inr e.symm))⟩
  have ho : Only (fun k => k = d.b1 ∨ (d.vA p).ownBlock = some k) w w3 := ho12.trans (k3.mono fun _ e => .inl e)
  refine ⟨w3, k1, h.push1 ho k2 (Nat.lt_succ_self _) (own_keep hv k3 fun g hg e => ?_) hx (fun g i hg hi => ?_) hat2, ho, F_push1 hat2⟩
  · rcases hat2 with q | ⟨g', q, hg'⟩
    · exact hne g (by rw [← q]; exact hg) e
    · rw [hg] at q
      have := Option.some.inj q
      have := h.m1.lt
      omega
  · obtain ⟨g2, c2, q1, q2, _⟩ := own_at (j := i) (show (ownN base 3 1 (d.vA p) (s.ap p).length ((s.ap p).map (Value.int .i64))).P w from h.ra p) (List.getElem?_eq_getElem (by simpa using hi))
    have hg2 : (d.vA p).ownBlock = some g2 := by rw [q1]; rfl
    obtain rfl : g = g2 := by rw [hg] at hg2; exact Option.some.inj hg2
    have e1 := h2.cell q2 (hne _ hg)
    have e2 := (hpre g i hg (by omega)).trans e1
    rw [q2]
    exact k3.cell e2 (hne _ hg)
/-- The writes to a key. -/
theorem TabAt.put3 {base n : Nat} {d : TD} {s : Tb} {w w2 : World} {m : WrM} {v : Value} (h : TabAt base d s n w) (hk : (Lit.int .i64 m.key).wf = true) (hn : n ≤ 100000)
    (hv : w2.ownsRow base 64 5 v ((s.ws m.key).length + 1) ((s.ws m.key).flatMap wrC ++ wrC m)) (hg : w.grownBy w2 (d.vW m.key).ownBlock) (hat : v.ownBlock = (d.vW m.key).ownBlock ∨ v.ownBlock = some w.heap.size) :
    ∃ w3, (Instr.mapUpdate 78 (.map (some d.b3)) (.int .i64 m.key) v).run Tryz.prog w2 = .ok () w3 ∧ TabAt base { d with fW := upd d.fW m.key (some v) } { s with ws := upd s.ws m.key (s.ws m.key ++ [m]) } (n + 1) w3 ∧ Only (fun k => k = d.b3 ∨ (d.vW m.key).ownBlock = some k) w w3 ∧
      ∀ k, ({ d with fW := upd d.fW m.key (some v) } : TD).F k → d.F k ∨ w.heap.size ≤ k := by
  have hne : ∀ g, (d.vW m.key).ownBlock = some g → ¬ g = d.b3 := fun g hg e => own_ne_map (h.rw m.key) h.m3 (by rw [hg, e])
  have m3 : MapAt 3 idV idL nameOk w2 d.b3 n d.fW := h.m3.block (hg.block _ h.m3.lt (fun e => hne _ e.symm rfl))
  obtain ⟨w3, k1, k2, k3⟩ := map_put m3 (T := 78) idIs Tryz.underlying78 (x := m.key) hk (by unfold maxLen; omega) v
  have hat2 : v.ownBlock = (d.vW m.key).ownBlock ∨ ∃ g, v.ownBlock = some g ∧ w.heap.size ≤ g := by
    rcases hat with q | q
    · exact .inl q
    · exact .inr ⟨_, q, Nat.le_refl _⟩
  have ho12 : Only (fun k => k = d.b3 ∨ (d.vW m.key).ownBlock = some k) w w2 := ⟨hg.os, hg.tape, hg.output, hg.size, fun k hk hn => hg.block k hk (fun e => hn (.inr e.symm))⟩
  have ho : Only (fun k => k = d.b3 ∨ (d.vW m.key).ownBlock = some k) w w3 := ho12.trans (k3.mono fun _ e => .inl e)
  refine ⟨w3, k1, h.push3 ho k2 (Nat.lt_succ_self _) (own_keep hv k3 fun g hg e => ?_) hat2, ho, F_push3 hat2⟩
  rcases hat2 with q | ⟨g', q, hg'⟩
  · exact hne g (by rw [← q]; exact hg) e
  · rw [hg] at q
    have := Option.some.inj q
    have := h.m3.lt
    omega
set_option maxRecDepth 100000 in
set_option maxHeartbeats 4000000 in
theorem notew_any {base n bT : Nat} {d : TD} {s : Tb} (i0 i1 : Value) (m : WrM) (w : World) (h : TabAt base d s n w) (hT : Is w bT (tabBox i0 i1 d)) (hf : ¬ d.F bT) (hbase : base ≤ w.heap.size) (hn : n ≤ 10000)
    (ht : (Lit.int .i64 m.txn).wf = true) (hk : (Lit.int .i64 m.key).wf = true) (hv : (Lit.int .i64 m.value).wf = true) :
    Calls Tryz.prog 68 #[.pointer (some ⟨bT, 0, none⟩), wrV m] w fun e w' => e = .returned (.tuple #[]) ∧ ∃ d', TabAt base d' (s.write m) (n + 3) w' ∧ Only d.T w w' ∧ (∀ k, d'.F k → d.F k ∨ w.heap.size ≤ k) ∧ tabBox i0 i1 d' = tabBox i0 i1 d := by
  have HT := hide hT
  have HF := hide hf
  have HH := hide h
  have HB := hide hbase
  have W1 := hide ht
  have W2 := hide hk
  have W3 := hide hv
  have hbl : bT < w.heap.size := hT.lt
  have hne : ¬ bT = w.heap.size := by omega
  clear h hT hf hbase ht hk hv
  unfold wrV
  go_enter Tryz.func68, Tryz.ntmps68
  go_upto_region 1 with fail
  obtain ⟨w1, hw1⟩ : ∃ w1, w1 = (w.alloc (.cells #[.int .i64 m.txn, .int .i64 (m.op : Int), .int .i64 m.key, .int .i64 m.value, .bool m.ab] 64)).drew := ⟨_, rfl⟩
  have B1 : Below w.heap.size w w1 := by rw [hw1]; exact ((Below.refl _ _).alloc (Nat.le_refl _) _).drew
  have X1 : Is w1 w.heap.size #[.int .i64 m.txn, .int .i64 (m.op : Int), .int .i64 m.key, .int .i64 m.value, .bool m.ab] := by rw [hw1]; exact (Is.made w _ 64 rfl).below ((Below.refl _ _).drew)
  have T1 : Is w1 bT (tabBox i0 i1 d) := HT.out.below B1
  have R1 : TabAt base d s n w1 := HH.out.keep (Only.of_below (S := fun _ => False) B1) (fun _ _ q => q)
  have S1 : w1.cell? ⟨bT, 2, none⟩ = some (.map (some d.b0)) ∧ w1.cell? ⟨w.heap.size, 0, none⟩ = some (.int .i64 m.txn) ∧ w1.cell? ⟨w.heap.size, 1, none⟩ = some (.int .i64 (m.op : Int)) ∧ w1.cell? ⟨w.heap.size, 2, none⟩ = some (.int .i64 m.key) ∧ w1.cell? ⟨w.heap.size, 3, none⟩ = some (.int .i64 m.value) ∧ w1.cell? ⟨w.heap.size, 4, none⟩ = some (.bool m.ab) := ⟨T1.cell 2 rfl, X1.cell 0 rfl, X1.cell 1 rfl, X1.cell 2 rfl, X1.cell 3 rfl, X1.cell 4 rfl⟩
  obtain ⟨w2, hput, R2, O2⟩ := R1.put0 (m := m) W2.out W3.out (by omega)
  unfold wrV at hput
  have HR2 := hide R2
  have HO2 := hide O2
  have HB1 := hide B1
  have HX1 := hide X1
  have HT1 := hide T1
  have HR1 := hide (HH.out.m0.lt)
  clear R1 R2 O2 B1 X1 T1
  refine Last.region_last (k := 10) (S := fun w' : World => w'.cell? ⟨bT, 2, none⟩ = some (.map (some d.b0)) ∧ w'.cell? ⟨w.heap.size, 0, none⟩ = some (.int .i64 m.txn) ∧ w'.cell? ⟨w.heap.size, 1, none⟩ = some (.int .i64 (m.op : Int)) ∧ w'.cell? ⟨w.heap.size, 2, none⟩ = some (.int .i64 m.key) ∧ w'.cell? ⟨w.heap.size, 3, none⟩ = some (.int .i64 m.value) ∧ w'.cell? ⟨w.heap.size, 4, none⟩ = some (.bool m.ab)) (by kernel_rfl) rfl rfl (by kernel_rfl) (by kernel_rfl) ?_
  rw [← hw1]
  clear hw1
  refine wpAnyH_take (i := 0) (v := ?_) rfl (by kernel_rfl) (by kernel_rfl) (by kernel_rfl) (fun _ _ _ h => h) (Or.inl ⟨by rfl, ?_⟩) (by assumption) ?_
  rotate_left
  · (intro w hSw; (try dsimp only at hSw); go_simp; try with_reducible rfl)
  try simp only [List.getElem_toArray, List.getElem_cons_succ, List.getElem_cons_zero, Act.put, List.setIfInBounds_toArray, List.set_cons_zero, List.set_cons_succ]
  refine wpAnyH_take (i := 1) (v := ?_) rfl (by kernel_rfl) (by kernel_rfl) (by kernel_rfl) (fun _ _ _ h => h) (Or.inl ⟨by rfl, ?_⟩) (by assumption) ?_
  rotate_left
  · (intro w hSw; (try dsimp only at hSw); go_simp; try with_reducible rfl)
  try simp only [List.getElem_toArray, List.getElem_cons_succ, List.getElem_cons_zero, Act.put, List.setIfInBounds_toArray, List.set_cons_zero, List.set_cons_succ]
  refine wpAnyH_take (i := 2) (v := ?_) rfl (by kernel_rfl) (by kernel_rfl) (by kernel_rfl) (fun _ _ _ h => h) (Or.inl ⟨by rfl, ?_⟩) (by assumption) ?_
  rotate_left
  · (intro w hSw; (try dsimp only at hSw); go_simp; try with_reducible rfl)
  try simp only [List.getElem_toArray, List.getElem_cons_succ, List.getElem_cons_zero, Act.put, List.setIfInBounds_toArray, List.set_cons_zero, List.set_cons_succ]
  refine wpAnyH_take (i := 3) (v := ?_) rfl (by kernel_rfl) (by kernel_rfl) (by kernel_rfl) (fun _ _ _ h => h) (Or.inl ⟨by rfl, ?_⟩) (by assumption) ?_
  rotate_left
  · (intro w hSw; (try dsimp only at hSw); go_simp; try with_reducible rfl)
  try simp only [List.getElem_toArray, List.getElem_cons_succ, List.getElem_cons_zero, Act.put, List.setIfInBounds_toArray, List.set_cons_zero, List.set_cons_succ]
  refine wpAnyH_take (i := 4) (v := ?_) rfl (by kernel_rfl) (by kernel_rfl) (by kernel_rfl) (fun _ _ _ h => h) (Or.inl ⟨by rfl, ?_⟩) (by assumption) ?_
  rotate_left
  · (intro w hSw; (try dsimp only at hSw); go_simp; try with_reducible rfl)
  try simp only [List.getElem_toArray, List.getElem_cons_succ, List.getElem_cons_zero, Act.put, List.setIfInBounds_toArray, List.set_cons_zero, List.set_cons_succ]
  refine wpAnyH_take (i := 5) (v := ?_) rfl (by kernel_rfl) (by kernel_rfl) (by kernel_rfl) (fun _ _ _ h => h) (Or.inl ⟨by rfl, ?_⟩) (by assumption) ?_
  rotate_left
  · (intro w hSw; (try dsimp only at hSw); go_simp; try with_reducible rfl)
  try simp only [List.getElem_toArray, List.getElem_cons_succ, List.getElem_cons_zero, Act.put, List.setIfInBounds_toArray, List.set_cons_zero, List.set_cons_succ]
  refine wpAnyH_take (i := 6) (v := ?_) rfl (by kernel_rfl) (by kernel_rfl) (by kernel_rfl) (fun _ _ _ h => h) (Or.inl ⟨by rfl, ?_⟩) (by assumption) ?_
  rotate_left
  · (intro w hSw; (try dsimp only at hSw); go_simp; try with_reducible rfl)
  try simp only [List.getElem_toArray, List.getElem_cons_succ, List.getElem_cons_zero, Act.put, List.setIfInBounds_toArray, List.set_cons_zero, List.set_cons_succ]
  refine wpAnyH_take (i := 7) (v := ?_) rfl (by kernel_rfl) (by kernel_rfl) (by kernel_rfl) (fun _ _ _ h => h) (Or.inl ⟨by rfl, ?_⟩) (by assumption) ?_
  rotate_left
  · (intro w hSw; (try dsimp only at hSw); go_simp; try with_reducible rfl)
  try simp only [List.getElem_toArray, List.getElem_cons_succ, List.getElem_cons_zero, Act.put, List.setIfInBounds_toArray, List.set_cons_zero, List.set_cons_succ]
  refine wpAnyH_take (i := 8) (v := ?_) rfl (by kernel_rfl) (by kernel_rfl) (by kernel_rfl) (fun _ _ _ h => h) (Or.inl ⟨by rfl, ?_⟩) (by assumption) ?_
  rotate_left
  · (intro w hSw; (try dsimp only at hSw); go_simp; try with_reducible rfl)
  try simp only [List.getElem_toArray, List.getElem_cons_succ, List.getElem_cons_zero, Act.put, List.setIfInBounds_toArray, List.set_cons_zero, List.set_cons_succ]
  refine wpAnyH_take (i := 9) (v := ?_) rfl (by kernel_rfl) (by kernel_rfl) (by kernel_rfl) (fun _ _ _ h => h) (Or.inl ⟨by rfl, ?_⟩) (by assumption) ?_
  rotate_left
  · (intro w hSw; (try dsimp only at hSw); go_simp; try with_reducible rfl)
  try simp only [List.getElem_toArray, List.getElem_cons_succ, List.getElem_cons_zero, Act.put, List.setIfInBounds_toArray, List.set_cons_zero, List.set_cons_succ]
  obtain ⟨z2, z3, z4, z5, z6, z7⟩ := S1
  refine wpAnyH_done (by kernel_rfl) ?_ _
  refine Last.done_last ?_
  refine wpOp_step rfl (fun KK hKK => ?_)
  simp only [List.getElem_toArray, List.getElem_cons_succ, List.getElem_cons_zero]
  go_simp
  refine hKK _ _ ?_
  clear hKK
  go_simp
  go_upto_region 2 with fail
  have T2 : Is w2 bT (tabBox i0 i1 d) := HT1.out.keep HO2.out (fun e => HF.out (.inl e))
  have hb0 := HR2.out.m0.lt
  have X2 : Is w2 w.heap.size #[.int .i64 m.txn, .int .i64 (m.op : Int), .int .i64 m.key, .int .i64 m.value, .bool m.ab] := HX1.out.keep HO2.out (fun e => by have := HR1.out; omega)
  obtain ⟨x0, x2, x3⟩ : w2.cell? ⟨w.heap.size, 0, none⟩ = some (.int .i64 m.txn) ∧ w2.cell? ⟨w.heap.size, 2, none⟩ = some (.int .i64 m.key) ∧ w2.cell? ⟨w.heap.size, 3, none⟩ = some (.int .i64 m.value) := ⟨X2.cell 0 rfl, X2.cell 2 rfl, X2.cell 3 rfl⟩
  have HX2 := hide X2
  have HT2 := hide T2
  clear X2 T2 z2 z3 z4 z5 z6 z7
  go_upto_region 3 with fail
  obtain ⟨p, hp⟩ : ∃ p : Int × Int, p = (m.txn, m.key) := ⟨_, rfl⟩
  obtain ⟨s2, hs2⟩ : ∃ s2 : Tb, s2 = { s with wr := upd s.wr (m.key, m.value) (some m) } := ⟨_, rfl⟩
  rw [← hs2] at HR2
  refine Last.region_last (k := 12) (S := fun w' : World => w'.cell? ⟨bT, 3, none⟩ = some (.map (some d.b1)) ∧ w'.cell? ⟨w2.heap.size, 0, none⟩ = some (.int .i64 m.txn) ∧ w'.cell? ⟨w2.heap.size, 1, none⟩ = some (.int .i64 m.key) ∧ w'.cell? ⟨w.heap.size, 3, none⟩ = some (.int .i64 m.value)) (by kernel_rfl) rfl rfl (by kernel_rfl) (by kernel_rfl) ?_
  obtain ⟨WD, hWD⟩ : ∃ WD, WD = (w2.alloc (.cells #[.int .i64 m.txn, .int .i64 m.key] 118)).drew := ⟨_, rfl⟩
  rw [← hWD]
  have BD : Below w2.heap.size w2 WD := by rw [hWD]; exact ((Below.refl _ _).alloc (Nat.le_refl _) _).drew
  have PD : Is WD w2.heap.size #[.int .i64 m.txn, .int .i64 m.key] := by rw [hWD]; exact (Is.made w2 _ 118 rfl).below ((Below.refl _ _).drew)
  clear hWD
  have hz2 := BD.size
  have hz3 := HO2.out.size
  have hz4 := HB1.out.size
  have SD : WD.cell? ⟨bT, 3, none⟩ = some (.map (some d.b1)) ∧ WD.cell? ⟨w2.heap.size, 0, none⟩ = some (.int .i64 m.txn) ∧ WD.cell? ⟨w2.heap.size, 1, none⟩ = some (.int .i64 m.key) ∧ WD.cell? ⟨w.heap.size, 3, none⟩ = some (.int .i64 m.value) := ⟨(HT2.out.below BD).cell 3 rfl, PD.cell 0 rfl, PD.cell 1 rfl, (HX2.out.below BD).cell 3 rfl⟩
  obtain ⟨WB, hWB⟩ : ∃ WB, WB = WD.alloc (.cells #[.int .i64 m.value] 3) := ⟨_, rfl⟩
  have BB : Below w2.heap.size w2 WB := by rw [hWB]; exact BD.alloc (by omega) _
  have BDB : Below WD.heap.size WD WB := by rw [hWB]; exact (Below.refl _ _).alloc (Nat.le_refl _) _
  have VB : WB.cell? ⟨WD.heap.size, 0, none⟩ = some (.int .i64 m.value) := by rw [hWB]; exact (Is.made WD _ 3 rfl).cell 0 rfl
  have RB : TabAt base d s2 (n + 1) WB := HR2.out.keep (Only.of_below (S := fun _ => False) BB) (fun _ _ q => q)
  obtain ⟨st, wE, hent, OE, ownE, hnext⟩ := RB.put1 (p := (m.txn, m.key)) (x := m.value) ⟨W1.out, W2.out⟩ W3.out (by omega)
  rw [← hp] at ownE
  replace hent : (Instr.mapEntry 76 (.map (some d.b1)) (.agg #[.int .i64 m.txn, .int .i64 m.key])).run Tryz.prog WB = .ok (.tuple #[d.vA p, .int .i64 (st : Int)]) wE := by rw [hp]; exact hent
  have hTF : ¬ bT = d.b1 := fun e => HF.out (.inr (.inl e))
  have hb1w : d.b1 < w.heap.size := HH.out.m1.lt
  have keepE : ∀ {g i : Nat} {u : Value}, WB.cell? ⟨g, i, none⟩ = some u → ¬ g = d.b1 → wE.cell? ⟨g, i, none⟩ = some u := fun hc hg => OE.cell hc hg
  have SB : WB.cell? ⟨bT, 3, none⟩ = some (.map (some d.b1)) ∧ WB.cell? ⟨w2.heap.size, 0, none⟩ = some (.int .i64 m.txn) ∧ WB.cell? ⟨w2.heap.size, 1, none⟩ = some (.int .i64 m.key) ∧ WB.cell? ⟨w.heap.size, 3, none⟩ = some (.int .i64 m.value) := ⟨(HT2.out.below BB).cell 3 rfl, (PD.below BDB).cell 0 rfl, (PD.below BDB).cell 1 rfl, (HX2.out.below BB).cell 3 rfl⟩
  have SE : wE.cell? ⟨bT, 3, none⟩ = some (.map (some d.b1)) ∧ wE.cell? ⟨w2.heap.size, 0, none⟩ = some (.int .i64 m.txn) ∧ wE.cell? ⟨w2.heap.size, 1, none⟩ = some (.int .i64 m.key) ∧ wE.cell? ⟨w.heap.size, 3, none⟩ = some (.int .i64 m.value) := ⟨keepE SB.1 hTF, keepE SB.2.1 (by omega), keepE SB.2.2.1 (by omega), keepE SB.2.2.2 (by omega)⟩
  have VE : wE.cell? ⟨WD.heap.size, 0, none⟩ = some (.int .i64 m.value) := keepE VB (by omega)
  have HBB := hide BB
  have HOE := hide OE
  have HRB := hide RB
  have HOW := hide ownE
  have HNX := hide hnext
  have HP := hide hp
  have HS2 := hide hs2
  clear BB OE RB ownE hnext hp hs2 keepE PD BDB VB BD HX1 HT1 x0 x2 x3
  refine wpAnyH_take (i := 0) (v := ?_) rfl (by kernel_rfl) (by kernel_rfl) (by kernel_rfl) (fun _ _ _ h => h) (Or.inl ⟨by rfl, ?_⟩) (by assumption) ?_
  rotate_left
  · (intro w hSw; (try dsimp only at hSw); go_simp; try with_reducible rfl)
  try simp only [List.getElem_toArray, List.getElem_cons_succ, List.getElem_cons_zero, Act.put, List.setIfInBounds_toArray, List.set_cons_zero, List.set_cons_succ]
  refine wpAnyH_take (i := 1) (v := ?_) rfl (by kernel_rfl) (by kernel_rfl) (by kernel_rfl) (fun _ _ _ h => h) (Or.inl ⟨by rfl, ?_⟩) (by assumption) ?_
  rotate_left
  · (intro w hSw; (try dsimp only at hSw); go_simp; try with_reducible rfl)
  try simp only [List.getElem_toArray, List.getElem_cons_succ, List.getElem_cons_zero, Act.put, List.setIfInBounds_toArray, List.set_cons_zero, List.set_cons_succ]
  refine wpAnyH_take (i := 2) (v := ?_) rfl (by kernel_rfl) (by kernel_rfl) (by kernel_rfl) (fun _ _ _ h => h) (Or.inl ⟨by rfl, ?_⟩) (by assumption) ?_
  rotate_left
  · (intro w hSw; (try dsimp only at hSw); go_simp; try with_reducible rfl)
  try simp only [List.getElem_toArray, List.getElem_cons_succ, List.getElem_cons_zero, Act.put, List.setIfInBounds_toArray, List.set_cons_zero, List.set_cons_succ]
  refine wpAnyH_take (i := 3) (v := ?_) rfl (by kernel_rfl) (by kernel_rfl) (by kernel_rfl) (fun _ _ _ h => h) (Or.inl ⟨by rfl, ?_⟩) (by assumption) ?_
  rotate_left
  · (intro w hSw; (try dsimp only at hSw); go_simp; try with_reducible rfl)
  try simp only [List.getElem_toArray, List.getElem_cons_succ, List.getElem_cons_zero, Act.put, List.setIfInBounds_toArray, List.set_cons_zero, List.set_cons_succ]
  refine wpAnyH_take (i := 4) (v := ?_) rfl (by kernel_rfl) (by kernel_rfl) (by kernel_rfl) (fun _ _ _ h => h) (Or.inl ⟨by rfl, ?_⟩) (by assumption) ?_
  rotate_left
  · (intro w hSw; (try dsimp only at hSw); go_simp; try with_reducible rfl)
  try simp only [List.getElem_toArray, List.getElem_cons_succ, List.getElem_cons_zero, Act.put, List.setIfInBounds_toArray, List.set_cons_zero, List.set_cons_succ]
  refine wpAnyH_take (i := 5) (v := ?_) rfl (by kernel_rfl) (by kernel_rfl) (by kernel_rfl) (fun _ _ _ h => h) (Or.inl ⟨by rfl, ?_⟩) (by assumption) ?_
  rotate_left
  · (intro w hSw; (try dsimp only at hSw); go_simp; try with_reducible rfl)
  try simp only [List.getElem_toArray, List.getElem_cons_succ, List.getElem_cons_zero, Act.put, List.setIfInBounds_toArray, List.set_cons_zero, List.set_cons_succ]
  refine wpAnyH_take (i := 6) (v := ?_) rfl (by kernel_rfl) (by kernel_rfl) (by kernel_rfl) (fun _ _ _ h => h) (Or.inl ⟨by rfl, ?_⟩) (by assumption) ?_
  rotate_left
  · (intro w hSw; (try dsimp only at hSw); go_simp; try with_reducible rfl)
  try simp only [List.getElem_toArray, List.getElem_cons_succ, List.getElem_cons_zero, Act.put, List.setIfInBounds_toArray, List.set_cons_zero, List.set_cons_succ]
  refine wpAnyH_ready (rs := [7]) (by kernel_rfl) (by simp) ?_
  refine AllReadyH.cons (by rfl) (fun KK hKK => ?_) AllReadyH.nil
  simp only [List.getElem_toArray, List.getElem_cons_succ, List.getElem_cons_zero]
  go_simp
  rw [← hWB]
  clear hWB SD
  refine hKK.out _ _ SB (fun hH1 => ?_)
  clear hKK KK
  try simp only [List.getElem_toArray, List.getElem_cons_succ, List.getElem_cons_zero, Act.put, List.setIfInBounds_toArray, List.set_cons_zero, List.set_cons_succ]
  clear SB
  refine wpAnyH_ready (rs := [8]) (by kernel_rfl) (by simp) ?_
  refine AllReadyH.cons (by rfl) (fun KK hKK => ?_) AllReadyH.nil
  simp only [List.getElem_toArray, List.getElem_cons_succ, List.getElem_cons_zero]
  go_simp
  refine hKK.out _ _ SE (fun hH2 => ?_)
  clear hKK KK
  try simp only [List.getElem_toArray, List.getElem_cons_succ, List.getElem_cons_zero, Act.put, List.setIfInBounds_toArray, List.set_cons_zero, List.set_cons_succ]
  clear SE hent
  refine wpAnyH_take (i := 9) (v := ?_) rfl (by kernel_rfl) (by kernel_rfl) (by kernel_rfl) (fun _ _ _ h => h) (Or.inl ⟨by rfl, ?_⟩) (by assumption) ?_
  rotate_left
  · (intro w hSw; (try dsimp only at hSw); go_simp; try with_reducible rfl)
  try simp only [List.getElem_toArray, List.getElem_cons_succ, List.getElem_cons_zero, Act.put, List.setIfInBounds_toArray, List.set_cons_zero, List.set_cons_succ]
  refine wpAnyH_take (i := 11) (v := ?_) rfl (by kernel_rfl) (by kernel_rfl) (by kernel_rfl) (fun _ _ _ h => h) (Or.inl ⟨by rfl, ?_⟩) (by assumption) ?_
  rotate_left
  · (intro w hSw; (try dsimp only at hSw); go_simp; try with_reducible rfl)
  try simp only [List.getElem_toArray, List.getElem_cons_succ, List.getElem_cons_zero, Act.put, List.setIfInBounds_toArray, List.set_cons_zero, List.set_cons_succ]
  refine wpAnyH_ready (rs := [10]) (by kernel_rfl) (by simp) ?_
  refine AllReadyH.cons (by rfl) (fun KK hKK => ?_) AllReadyH.nil
  refine step_app Tryz.underlying36 Tryz.infoTI rfl (by decide) (by decide) (by rfl) (.tmp 25) (.tmp 28) (by rfl) base (d.vA p) (s2.ap p).length ((s2.ap p).map (Value.int .i64)) (by rfl) HOW.out WD.heap.size [.int .i64 m.value] (by rfl) rfl (fun j u hu => by
    cases j with
    | zero => simp at hu; subst hu; exact VE
    | succ j => simp at hu) (fun u hu => by simp at hu; subst hu; rfl) (by have := HRB.out.la p; omega) (by have := HB.out; have := HBB.out.size; have := HOE.out.size; omega) ?_
  intro v4 w4 hown4 hg4 hat4 hpre4
  rw [HP.out] at hown4 hg4 hat4 hpre4
  obtain ⟨w5, hes, R5, O5, F5⟩ := HNX.out w4 v4 hown4 hg4 hat4 hpre4
  obtain ⟨a4, c4, rfl⟩ := Own.own_form (z := 1) hown4
  have hvA : ∀ g, (d.vA (m.txn, m.key)).ownBlock = some g → g < w.heap.size ∧ ¬ g = bT := fun g hg => ⟨own_lt (HH.out.ra _) hg, fun e => HF.out (.inr (.inr (.inr (.inr (.inl ⟨_, by rw [hg, e]⟩)))))⟩
  have keep4 : ∀ {g i : Nat} {u : Value}, wE.cell? ⟨g, i, none⟩ = some u → (g = bT ∨ w.heap.size ≤ g) → w4.cell? ⟨g, i, none⟩ = some u := fun {g i u} hc hgg => by
    refine (Only.cell (S := fun k => (d.vA (m.txn, m.key)).ownBlock = some k) ⟨hg4.os, hg4.tape, hg4.output, hg4.size, fun k hk hn => hg4.block k hk (fun e => hn e.symm)⟩ hc fun e => ?_)
    obtain ⟨h1, h2⟩ := hvA g e
    omega
  have S4 : w4.cell? ⟨bT, 3, none⟩ = some (.map (some d.b1)) ∧ w4.cell? ⟨w2.heap.size, 0, none⟩ = some (.int .i64 m.txn) ∧ w4.cell? ⟨w2.heap.size, 1, none⟩ = some (.int .i64 m.key) ∧ w4.cell? ⟨w.heap.size, 3, none⟩ = some (.int .i64 m.value) := ⟨keep4 hH2.1 (.inl rfl), keep4 hH2.2.1 (.inr (by omega)), keep4 hH2.2.2.1 (.inr (by omega)), keep4 hH2.2.2.2 (.inr (Nat.le_refl _))⟩
  have HVA := hide hvA
  have HR5 := hide R5
  have HO5 := hide O5
  have HF5 := hide F5
  clear hown4 hg4 hat4 hpre4 keep4 hvA R5 O5 F5 HNX HOW VE
  refine hKK.out _ _ S4 (fun hH3 => ?_)
  clear hKK KK
  try simp only [List.getElem_toArray, List.getElem_cons_succ, List.getElem_cons_zero, Act.put, List.setIfInBounds_toArray, List.set_cons_zero, List.set_cons_succ]
  clear S4
  refine wpAnyH_done (by kernel_rfl) ?_ _
  refine Last.done_last ?_
  refine wpOp_step rfl (fun KK hKK => ?_)
  simp only [List.getElem_toArray, List.getElem_cons_succ, List.getElem_cons_zero]
  go_simp
  refine hKK _ _ ?_
  clear hKK
  go_simp
  go_upto_region 4 with fail
  clear hes hH1 hH2 hH3
  have hbX : ∀ k, (k = d.b1 ∨ (d.vA (m.txn, m.key)).ownBlock = some k) → ¬ k = bT ∧ ¬ k = w.heap.size := fun k hk => by
    rcases hk with rfl | hk
    · exact ⟨fun e => hTF e.symm, by omega⟩
    · obtain ⟨h1, h2⟩ := HVA.out k hk
      exact ⟨h2, by omega⟩
  have T5 : Is w5 bT (tabBox i0 i1 d) := (HT2.out.below HBB.out).keep HO5.out (fun e => (hbX _ e).1 rfl)
  have X5 : Is w5 w.heap.size #[.int .i64 m.txn, .int .i64 (m.op : Int), .int .i64 m.key, .int .i64 m.value, .bool m.ab] := (HX2.out.below HBB.out).keep HO5.out (fun e => (hbX _ e).2 rfl)
  have x4 := X5.cell 4 rfl
  obtain ⟨d5, hd5⟩ : ∃ d5 : TD, d5 = { d with fA := upd d.fA (m.txn, m.key) (some (.slice a4 ((s2.ap (m.txn, m.key)).length + 1) c4)) } := ⟨_, rfl⟩
  obtain ⟨s5, hs5⟩ : ∃ s5 : Tb, s5 = { s2 with ap := upd s2.ap (m.txn, m.key) (s2.ap (m.txn, m.key) ++ [m.value]) } := ⟨_, rfl⟩
  rw [← hd5] at HR5 HF5
  rw [← hs5] at HR5
  have hz5 := HO5.out.size
  have hzB := HBB.out.size
  have F5 : ∀ k, d5.F k → d.F k ∨ w.heap.size ≤ k := fun k hk => by
    rcases HF5.out k hk with q | q
    · exact .inl q
    · exact .inr (by omega)
  have O5w : Only d.T w w5 := by
    have h1 : Only d.T w w2 := (Only.of_below (S := d.T) HB1.out).trans (HO2.out.mono fun k e => .inl e)
    have h2 : Only d.T w WB := h1.trans (Only.of_below HBB.out)
    exact h2.trans (HO5.out.mono fun k e => by
      rcases e with e | e
      · exact .inr (.inl e)
      · exact .inr (.inr (.inr (.inr (.inl ⟨_, e⟩)))))
  have hbox : tabBox i0 i1 d5 = tabBox i0 i1 d := by rw [hd5]; rfl
  have hvW : ∀ k, d5.vW k = d.vW k := fun k => by rw [hd5]; rfl
  have hb35 : d5.b3 = d.b3 := by rw [hd5]
  have hws : s5.ws = s.ws := by rw [hs5, HS2.out]
  have hfin : ∀ ws', (if m.ab = true then s.ws else upd s.ws m.key (s.ws m.key ++ [m])) = ws' → ({ s5 with ws := ws' } : Tb) = s.write m := fun ws' e => by
    rw [← e, hs5, HS2.out]; rfl
  have HF5w := hide F5
  have HO5w := hide O5w
  have HBX := hide hbox
  have HVW := hide hvW
  have HWS := hide hws
  have HFN := hide hfin
  have HT5 := hide T5
  have HX5 := hide X5
  have HB3 := hide hb35
  clear HT2 HX2 HBB HO5 HF5 F5 O5w hbox hvW hws hfin T5 X5 hb35 hbX HB1 HO2 HR2 HOE HRB HP HS2 hd5 hs5
  by_cases hab : m.ab = true
  · rw [hab] at x4
    go_wp2
    go_end0
    refine ⟨rfl, d5, ?_, HO5w.out, HF5w.out, HBX.out⟩
    rw [← HFN.out s5.ws (by rw [if_pos hab, HWS.out])]
    exact HR5.out.mono (by omega)
  · have hab2 : m.ab = false := by simpa using hab
    rw [hab2] at x4
    go_upto_region 5 with fail
    obtain ⟨WD5, hWD⟩ : ∃ WD5, WD5 = w5.drew := ⟨_, rfl⟩
    have BD : Below w5.heap.size w5 WD5 := by rw [hWD]; exact (Below.refl _ _).drew
    have RD := HR5.out.keep (Only.of_below (S := fun _ => False) BD) (fun _ _ q => q)
    have TD5 := HT5.out.below BD
    have XD5 := HX5.out.below BD
    have hzD := BD.size
    obtain ⟨cv, hcv⟩ : ∃ cv, cv = d.vW m.key := ⟨_, rfl⟩
    have look : ∀ W, W.heap[d.b3]? = WD5.heap[d.b3]? → (Instr.lookup 78 (.map (some d.b3)) (.int .i64 m.key) false).run Tryz.prog W = .ok cv W := fun W hW => by
      have hm := (RD.m3.block (by rw [HB3.out]; exact hW)).look (T := 78) (E := 120) idIs Tryz.underlying78 (zeroWs W) (x := m.key) W2.out
      rw [HB3.out] at hm
      rw [hcv, ← HVW.out]
      exact hm
    have hb3w : d.b3 < w.heap.size := HH.out.m3.lt
    have hTb3 : ¬ bT = d.b3 := fun e => HF.out (.inr (.inr (.inr (.inl e))))
    obtain ⟨WB5, hWB⟩ : ∃ WB5, WB5 = WD5.alloc (.cells #[.int .i64 m.txn, .int .i64 (m.op : Int), .int .i64 m.key, .int .i64 m.value, .bool false] 64) := ⟨_, rfl⟩
    have BB : Below WD5.heap.size WD5 WB5 := by rw [hWB]; exact (Below.refl _ _).alloc (Nat.le_refl _) _
    have EB : Is WB5 WD5.heap.size #[.int .i64 m.txn, .int .i64 (m.op : Int), .int .i64 m.key, .int .i64 m.value, .bool false] := by rw [hWB]; exact Is.made WD5 _ 64 rfl
    have RB := RD.keep (Only.of_below (S := fun _ => False) BB) (fun _ _ q => q)
    have hb3D : d.b3 < WD5.heap.size := by have := RD.m3.lt; rw [HB3.out] at this; exact this
    refine Last.region_last (k := 16) (S := fun w' : World => w'.cell? ⟨bT, 5, none⟩ = some (.map (some d.b3)) ∧ w'.cell? ⟨w.heap.size, 0, none⟩ = some (.int .i64 m.txn) ∧ w'.cell? ⟨w.heap.size, 1, none⟩ = some (.int .i64 (m.op : Int)) ∧ w'.cell? ⟨w.heap.size, 2, none⟩ = some (.int .i64 m.key) ∧ w'.cell? ⟨w.heap.size, 3, none⟩ = some (.int .i64 m.value) ∧ w'.cell? ⟨w.heap.size, 4, none⟩ = some (.bool false) ∧ (Instr.lookup 78 (.map (some d.b3)) (.int .i64 m.key) false).run Tryz.prog w' = .ok cv w') (by kernel_rfl) rfl rfl (by kernel_rfl) (by kernel_rfl) ?_
    rw [← hWD]
    clear hWD
    have SD : WD5.cell? ⟨bT, 5, none⟩ = some (.map (some d.b3)) ∧ WD5.cell? ⟨w.heap.size, 0, none⟩ = some (.int .i64 m.txn) ∧ WD5.cell? ⟨w.heap.size, 1, none⟩ = some (.int .i64 (m.op : Int)) ∧ WD5.cell? ⟨w.heap.size, 2, none⟩ = some (.int .i64 m.key) ∧ WD5.cell? ⟨w.heap.size, 3, none⟩ = some (.int .i64 m.value) ∧ WD5.cell? ⟨w.heap.size, 4, none⟩ = some (.bool false) ∧ (Instr.lookup 78 (.map (some d.b3)) (.int .i64 m.key) false).run Tryz.prog WD5 = .ok cv WD5 := ⟨TD5.cell 5 rfl, XD5.cell 0 rfl, XD5.cell 1 rfl, XD5.cell 2 rfl, XD5.cell 3 rfl, by rw [← hab2]; exact XD5.cell 4 rfl, look _ rfl⟩
    have SB : WB5.cell? ⟨bT, 5, none⟩ = some (.map (some d.b3)) ∧ WB5.cell? ⟨w.heap.size, 0, none⟩ = some (.int .i64 m.txn) ∧ WB5.cell? ⟨w.heap.size, 1, none⟩ = some (.int .i64 (m.op : Int)) ∧ WB5.cell? ⟨w.heap.size, 2, none⟩ = some (.int .i64 m.key) ∧ WB5.cell? ⟨w.heap.size, 3, none⟩ = some (.int .i64 m.value) ∧ WB5.cell? ⟨w.heap.size, 4, none⟩ = some (.bool false) ∧ (Instr.lookup 78 (.map (some d.b3)) (.int .i64 m.key) false).run Tryz.prog WB5 = .ok cv WB5 := ⟨(TD5.below BB).cell 5 rfl, (XD5.below BB).cell 0 rfl, (XD5.below BB).cell 1 rfl, (XD5.below BB).cell 2 rfl, (XD5.below BB).cell 3 rfl, by rw [← hab2]; exact (XD5.below BB).cell 4 rfl, look _ (BB.block _ hb3D)⟩
    have HRB := hide RB
    have HEB := hide EB
    have HLK := hide look
    have HCV := hide hcv
    have HBB5 := hide BB
    have HBD5 := hide BD
    have HD3 := hide hb3D
    clear RD TD5 XD5 look RB EB hcv BB BD x4 hb3D
    refine wpAnyH_take (i := 0) (v := ?_) rfl (by kernel_rfl) (by kernel_rfl) (by kernel_rfl) (fun _ _ _ h => h) (Or.inl ⟨by rfl, ?_⟩) (by assumption) ?_
    rotate_left
    · (intro w hSw; (try dsimp only at hSw); go_simp; try with_reducible rfl)
    try simp only [List.getElem_toArray, List.getElem_cons_succ, List.getElem_cons_zero, Act.put, List.setIfInBounds_toArray, List.set_cons_zero, List.set_cons_succ]
    refine wpAnyH_take (i := 1) (v := ?_) rfl (by kernel_rfl) (by kernel_rfl) (by kernel_rfl) (fun _ _ _ h => h) (Or.inl ⟨by rfl, ?_⟩) (by assumption) ?_
    rotate_left
    · (intro w hSw; (try dsimp only at hSw); go_simp; try with_reducible rfl)
    try simp only [List.getElem_toArray, List.getElem_cons_succ, List.getElem_cons_zero, Act.put, List.setIfInBounds_toArray, List.set_cons_zero, List.set_cons_succ]
    refine wpAnyH_take (i := 2) (v := ?_) rfl (by kernel_rfl) (by kernel_rfl) (by kernel_rfl) (fun _ _ _ h => h) (Or.inl ⟨by rfl, ?_⟩) (by assumption) ?_
    rotate_left
    · (intro w hSw; (try dsimp only at hSw); go_simp; try with_reducible rfl)
    try simp only [List.getElem_toArray, List.getElem_cons_succ, List.getElem_cons_zero, Act.put, List.setIfInBounds_toArray, List.set_cons_zero, List.set_cons_succ]
    refine wpAnyH_take (i := 3) (v := ?_) rfl (by kernel_rfl) (by kernel_rfl) (by kernel_rfl) (fun _ _ _ h => h) (Or.inl ⟨by rfl, ?_⟩) (by assumption) ?_
    rotate_left
    · (intro w hSw; (try dsimp only at hSw); go_simp; try with_reducible rfl)
    try simp only [List.getElem_toArray, List.getElem_cons_succ, List.getElem_cons_zero, Act.put, List.setIfInBounds_toArray, List.set_cons_zero, List.set_cons_succ]
    refine wpAnyH_take (i := 4) (v := ?_) rfl (by kernel_rfl) (by kernel_rfl) (by kernel_rfl) (fun _ _ _ h => h) (Or.inl ⟨by rfl, ?_⟩) (by assumption) ?_
    rotate_left
    · (intro w hSw; (try dsimp only at hSw); go_simp; try with_reducible rfl)
    try simp only [List.getElem_toArray, List.getElem_cons_succ, List.getElem_cons_zero, Act.put, List.setIfInBounds_toArray, List.set_cons_zero, List.set_cons_succ]
    refine wpAnyH_take (i := 5) (v := ?_) rfl (by kernel_rfl) (by kernel_rfl) (by kernel_rfl) (fun _ _ _ h => h) (Or.inl ⟨by rfl, ?_⟩) (by assumption) ?_
    rotate_left
    · (intro w hSw; (try dsimp only at hSw); go_simp; try with_reducible rfl)
    try simp only [List.getElem_toArray, List.getElem_cons_succ, List.getElem_cons_zero, Act.put, List.setIfInBounds_toArray, List.set_cons_zero, List.set_cons_succ]
    refine wpAnyH_take (i := 6) (v := ?_) rfl (by kernel_rfl) (by kernel_rfl) (by kernel_rfl) (fun _ _ _ h => h) (Or.inl ⟨by rfl, ?_⟩) (by assumption) ?_
    rotate_left
    · (intro w hSw; (try dsimp only at hSw); go_simp; try with_reducible rfl)
    try simp only [List.getElem_toArray, List.getElem_cons_succ, List.getElem_cons_zero, Act.put, List.setIfInBounds_toArray, List.set_cons_zero, List.set_cons_succ]
    refine wpAnyH_take (i := 7) (v := ?_) rfl (by kernel_rfl) (by kernel_rfl) (by kernel_rfl) (fun _ _ _ h => h) (Or.inl ⟨by rfl, ?_⟩) (by assumption) ?_
    rotate_left
    · (intro w hSw; (try dsimp only at hSw); go_simp; try with_reducible rfl)
    try simp only [List.getElem_toArray, List.getElem_cons_succ, List.getElem_cons_zero, Act.put, List.setIfInBounds_toArray, List.set_cons_zero, List.set_cons_succ]
    refine wpAnyH_take (i := 8) (v := ?_) rfl (by kernel_rfl) (by kernel_rfl) (by kernel_rfl) (fun _ _ _ h => h) (Or.inl ⟨by rfl, ?_⟩) (by assumption) ?_
    rotate_left
    · (intro w hSw; (try dsimp only at hSw); go_simp; try with_reducible rfl)
    try simp only [List.getElem_toArray, List.getElem_cons_succ, List.getElem_cons_zero, Act.put, List.setIfInBounds_toArray, List.set_cons_zero, List.set_cons_succ]
    refine wpAnyH_take (i := 9) (v := ?_) rfl (by kernel_rfl) (by kernel_rfl) (by kernel_rfl) (fun _ _ _ h => h) (Or.inl ⟨by rfl, ?_⟩) (by assumption) ?_
    rotate_left
    · (intro w hSw; (try dsimp only at hSw); go_simp; try with_reducible rfl)
    try simp only [List.getElem_toArray, List.getElem_cons_succ, List.getElem_cons_zero, Act.put, List.setIfInBounds_toArray, List.set_cons_zero, List.set_cons_succ]
    refine wpAnyH_take (i := 10) (v := ?_) rfl (by kernel_rfl) (by kernel_rfl) (by kernel_rfl) (fun _ _ _ h => h) (Or.inl ⟨by rfl, ?_⟩) (by assumption) ?_
    rotate_left
    · (intro w hSw; (try dsimp only at hSw); go_simp; try with_reducible rfl)
    try simp only [List.getElem_toArray, List.getElem_cons_succ, List.getElem_cons_zero, Act.put, List.setIfInBounds_toArray, List.set_cons_zero, List.set_cons_succ]
    refine wpAnyH_take (i := 11) (v := ?_) rfl (by kernel_rfl) (by kernel_rfl) (by kernel_rfl) (fun _ _ _ h => h) (Or.inl ⟨by rfl, ?_⟩) (by assumption) ?_
    rotate_left
    · (intro w hSw; (try dsimp only at hSw); go_simp; try with_reducible rfl)
    try simp only [List.getElem_toArray, List.getElem_cons_succ, List.getElem_cons_zero, Act.put, List.setIfInBounds_toArray, List.set_cons_zero, List.set_cons_succ]
    refine wpAnyH_take (i := 12) (v := ?_) rfl (by kernel_rfl) (by kernel_rfl) (by kernel_rfl) (fun _ _ _ h => h) (Or.inl ⟨by rfl, ?_⟩) (by assumption) ?_
    rotate_left
    · (intro w hSw; (try dsimp only at hSw); go_simp; try with_reducible rfl)
    try simp only [List.getElem_toArray, List.getElem_cons_succ, List.getElem_cons_zero, Act.put, List.setIfInBounds_toArray, List.set_cons_zero, List.set_cons_succ]
    refine wpAnyH_take (i := 13) (v := ?_) rfl (by kernel_rfl) (by kernel_rfl) (by kernel_rfl) (fun _ _ _ h => h) (Or.inl ⟨by rfl, ?_⟩) (by assumption) ?_
    rotate_left
    · (intro w hSw; (try dsimp only at hSw); go_simp; try with_reducible rfl)
    try simp only [List.getElem_toArray, List.getElem_cons_succ, List.getElem_cons_zero, Act.put, List.setIfInBounds_toArray, List.set_cons_zero, List.set_cons_succ]
    refine wpAnyH_ready (rs := [14]) (by kernel_rfl) (by simp) ?_
    refine AllReadyH.cons (by rfl) (fun KK hKK => ?_) AllReadyH.nil
    simp only [List.getElem_toArray, List.getElem_cons_succ, List.getElem_cons_zero]
    go_simp
    rw [← hWB]
    clear hWB SD
    refine hKK.out _ _ SB (fun hH1 => ?_)
    clear hKK KK
    try simp only [List.getElem_toArray, List.getElem_cons_succ, List.getElem_cons_zero, Act.put, List.setIfInBounds_toArray, List.set_cons_zero, List.set_cons_succ]
    clear SB
    have hwc : wrC m = [.int .i64 m.txn, .int .i64 (m.op : Int), .int .i64 m.key, .int .i64 m.value, .bool false] := by rw [← hab2]; rfl
    have hown : WB5.ownsRow base 64 5 cv (s5.ws m.key).length ((s5.ws m.key).flatMap wrC) := by rw [HCV.out, ← HVW.out]; exact HRB.out.rw m.key
    have hsz : base ≤ WB5.heap.size := by have := HB.out; have := HBB5.out.size; have := HBD5.out.size; omega
    have hnews : ∀ j u, [Value.int .i64 m.txn, .int .i64 (m.op : Int), .int .i64 m.key, .int .i64 m.value, .bool false][j]? = some u → WB5.cell? ⟨WD5.heap.size, j, none⟩ = some u := fun j u hu => HEB.out.cell j (by simpa using hu)
    refine wpAnyH_ready (rs := [15]) (by kernel_rfl) (by simp) ?_
    refine AllReadyH.cons (by rfl) (fun KK hKK => ?_) AllReadyH.nil
    refine step_app Tryz.underlying120 Tryz.infoTW rfl (by decide) (by decide) (by rfl) (.tmp 47) (.tmp 49) (by rfl) base cv (s5.ws m.key).length ((s5.ws m.key).flatMap wrC) (by rfl) hown WD5.heap.size [.int .i64 m.txn, .int .i64 (m.op : Int), .int .i64 m.key, .int .i64 m.value, .bool false] (by rfl) rfl hnews (fun u hu => by simp at hu; rcases hu with rfl | rfl | rfl | rfl | rfl <;> rfl) (by have := HRB.out.lw m.key; omega) hsz ?_
    intro v6 w6 hown6 hg6 hat6 hpre6
    rw [← hwc] at hown6
    rw [HCV.out, ← HVW.out] at hg6 hat6
    obtain ⟨w7, hput7, R7a, O7, F7a⟩ := HRB.out.put3 (m := m) W2.out (by omega) hown6 hg6 hat6
    rw [HB3.out] at hput7
    obtain ⟨d7, hd7, R7, F7⟩ : ∃ d7 : TD, tabBox i0 i1 d7 = tabBox i0 i1 d5 ∧ TabAt base d7 { s5 with ws := upd s5.ws m.key (s5.ws m.key ++ [m]) } (n + 1 + 1 + 1) w7 ∧ ∀ k, d7.F k → d5.F k ∨ WB5.heap.size ≤ k := ⟨{ d5 with fW := upd d5.fW m.key (some v6) }, rfl, R7a, F7a⟩
    clear R7a F7a
    have hvWb : ∀ g, (d5.vW m.key).ownBlock = some g → g < w.heap.size ∧ ¬ g = bT := fun g hg => by
      rw [HVW.out] at hg
      exact ⟨own_lt (HH.out.rw _) hg, fun e => HF.out (.inr (.inr (.inr (.inr (.inr (.inr (.inl ⟨m.key, by rw [hg, e]⟩)))))))⟩
    have ne3 : ∀ g, (d5.vW m.key).ownBlock = some g → ¬ g = d.b3 := fun g hg e => by
      have := own_ne_map (HRB.out.rw m.key) HRB.out.m3
      rw [HB3.out] at this
      exact this (by rw [hg, e])
    have keep6 : ∀ {g i : Nat} {u : Value}, WB5.cell? ⟨g, i, none⟩ = some u → (g = bT ∨ w.heap.size ≤ g) → w6.cell? ⟨g, i, none⟩ = some u := fun {g i u} hc hgg => by
      refine (Only.cell (S := fun k => (d5.vW m.key).ownBlock = some k) ⟨hg6.os, hg6.tape, hg6.output, hg6.size, fun k hk hn => hg6.block k hk (fun e => hn e.symm)⟩ hc fun e => ?_)
      obtain ⟨h1, h2⟩ := hvWb g e
      omega
    have look6 : (Instr.lookup 78 (.map (some d.b3)) (.int .i64 m.key) false).run Tryz.prog w6 = .ok cv w6 := HLK.out w6 ((hg6.block _ (by have := HBB5.out.size; have := HD3.out; omega) (fun e => ne3 _ e.symm rfl)).trans (HBB5.out.block _ HD3.out))
    have S6 : w6.cell? ⟨bT, 5, none⟩ = some (.map (some d.b3)) ∧ w6.cell? ⟨w.heap.size, 0, none⟩ = some (.int .i64 m.txn) ∧ w6.cell? ⟨w.heap.size, 1, none⟩ = some (.int .i64 (m.op : Int)) ∧ w6.cell? ⟨w.heap.size, 2, none⟩ = some (.int .i64 m.key) ∧ w6.cell? ⟨w.heap.size, 3, none⟩ = some (.int .i64 m.value) ∧ w6.cell? ⟨w.heap.size, 4, none⟩ = some (.bool false) ∧ (Instr.lookup 78 (.map (some d.b3)) (.int .i64 m.key) false).run Tryz.prog w6 = .ok cv w6 := ⟨keep6 hH1.1 (.inl rfl), keep6 hH1.2.1 (.inr (Nat.le_refl _)), keep6 hH1.2.2.1 (.inr (Nat.le_refl _)), keep6 hH1.2.2.2.1 (.inr (Nat.le_refl _)), keep6 hH1.2.2.2.2.1 (.inr (Nat.le_refl _)), keep6 hH1.2.2.2.2.2.1 (.inr (Nat.le_refl _)), look6⟩
    obtain ⟨a6, c6, rfl⟩ := Own.own_form (z := 5) hown6
    have HVB := hide hvWb
    have HR7 := hide R7
    have HO7 := hide O7
    have HF7 := hide F7
    clear hown6 hg6 hat6 hpre6 keep6 hvWb ne3 R7 O7 F7 hown hnews look6
    refine hKK.out _ _ S6 (fun hH3 => ?_)
    clear hKK KK
    try simp only [List.getElem_toArray, List.getElem_cons_succ, List.getElem_cons_zero, Act.put, List.setIfInBounds_toArray, List.set_cons_zero, List.set_cons_succ]
    clear S6
    refine wpAnyH_done (by kernel_rfl) ?_ _
    refine Last.done_last ?_
    refine wpOp_step rfl (fun KK hKK => ?_)
    simp only [List.getElem_toArray, List.getElem_cons_succ, List.getElem_cons_zero]
    go_simp
    refine hKK _ _ ?_
    clear hKK
    go_simp
    go_wp2
    go_end0
    have hzBD := HBD5.out.size
    have hzBB := HBB5.out.size
    refine ⟨rfl, d7, ?_, ?_, ?_, hd7.trans HBX.out⟩
    · rw [← HFN.out (upd s.ws m.key (s.ws m.key ++ [m])) (by rw [if_neg hab])]
      have := HR7.out
      rw [HWS.out] at this
      exact this
    · have h1 : Only d.T w WB5 := (HO5w.out.trans (Only.of_below HBD5.out)).trans (Only.of_below HBB5.out)
      exact h1.trans (HO7.out.mono fun k e => by
        rcases e with e | e
        · rw [HB3.out] at e; exact .inr (.inr (.inr (.inl e)))
        · rw [HVW.out] at e; exact .inr (.inr (.inr (.inr (.inr (.inr (.inl ⟨_, e⟩)))))))
    · intro k hk
      rcases HF7.out k hk with q | q
      · exact HF5w.out k q
      · exact .inr (by omega)
end Go.Proofs.YtkinmllflodhaaaGreat.Tab

/- The library's contracts, by the shelf, over this program's numbers. -/
namespace Go.Proofs
open Go.Shelf
def Tryz.lays122_ren : Go.Shelf.Ren := ⟨fun | 122 => 66 | 215 => 87 | n => n, fun | 3 => 3 | 4 => 4 | n => n, fun | n => n⟩
theorem Tryz.lays122 : Go.Proofs.Lays.n122 Tryz.prog Tryz.lays122_ren := {
  mixed := by kernel_rfl
  f122 := Tryz.func66.trans (congrArg some (by kernel_rfl))
  f215 := Tryz.func87.trans (congrArg some (by kernel_rfl))
  t3 := Tryz.underlying3
  a3 := Tryz.isAgg3
  z3 := Tryz.sizeOf3
  v3 := Tryz.zeroValue3
  t4 := Tryz.underlying4
  a4 := Tryz.isAgg4
  z4 := Tryz.sizeOf4
  v4 := Tryz.zeroValue4 }
open Go.RowKit in
theorem Tryz.cmp_Compare_int (x y : Int) (w : World) :
    Calls Tryz.prog 66 #[.int .i64 x, .int .i64 y] w fun e w' => e = .returned (.int .i64 (Lib.compareInt x y)) ∧ w' = w := Any.cmp_Compare_int Tryz.lays122 x y w
def Tryz.lays189_ren : Go.Shelf.Ren := ⟨fun | 189 => 70 | 125 => 89 | 257 => 88 | 128 => 103 | 129 => 104 | 294 => 95 | 295 => 96 | 296 => 97 | 297 => 98 | 298 => 99 | 299 => 100 | 216 => 77 | 300 => 101 | 301 => 102 | 328 => 113 | 329 => 114 | 330 => 115 | 331 => 116 | 332 => 117 | 215 => 87 | 343 => 121 | n => n, fun | 28 => 36 | 3 => 3 | 46 => 142 | 0 => 0 | 51 => 168 | 53 => 170 | 4 => 4 | 183 => 162 | 182 => 161 | 131 => 67 | 5 => 5 | 9 => 9 | 218 => 176 | 222 => 180 | 228 => 184 | 229 => 45 | n => n, fun | n => n⟩
theorem Tryz.lays189 : Go.Proofs.Lays.n189 Tryz.prog Tryz.lays189_ren := {
  mixed := by kernel_rfl
  f125 := Tryz.func89.trans (congrArg some (by kernel_rfl))
  f128 := Tryz.func103.trans (congrArg some (by kernel_rfl))
  f129 := Tryz.func104.trans (congrArg some (by kernel_rfl))
  f189 := Tryz.func70.trans (congrArg some (by kernel_rfl))
  f215 := Tryz.func87.trans (congrArg some (by kernel_rfl))
  f216 := Tryz.func77.trans (congrArg some (by kernel_rfl))
  f257 := Tryz.func88.trans (congrArg some (by kernel_rfl))
  f294 := Tryz.func95.trans (congrArg some (by kernel_rfl))
  f295 := Tryz.func96.trans (congrArg some (by kernel_rfl))
  f296 := Tryz.func97.trans (congrArg some (by kernel_rfl))
  f297 := Tryz.func98.trans (congrArg some (by kernel_rfl))
  f298 := Tryz.func99.trans (congrArg some (by kernel_rfl))
  f299 := Tryz.func100.trans (congrArg some (by kernel_rfl))
  f300 := Tryz.func101.trans (congrArg some (by kernel_rfl))
  f301 := Tryz.func102.trans (congrArg some (by kernel_rfl))
  f328 := Tryz.func113.trans (congrArg some (by kernel_rfl))
  f329 := Tryz.func114.trans (congrArg some (by kernel_rfl))
  f330 := Tryz.func115.trans (congrArg some (by kernel_rfl))
  f331 := Tryz.func116.trans (congrArg some (by kernel_rfl))
  f332 := Tryz.func117.trans (congrArg some (by kernel_rfl))
  f343 := Tryz.func121.trans (congrArg some (by kernel_rfl))
  t0 := Tryz.underlying0
  a0 := Tryz.isAgg0
  z0 := Tryz.sizeOf0
  v0 := Tryz.zeroValue0
  t3 := Tryz.underlying3
  a3 := Tryz.isAgg3
  z3 := Tryz.sizeOf3
  v3 := Tryz.zeroValue3
  t4 := Tryz.underlying4
  a4 := Tryz.isAgg4
  z4 := Tryz.sizeOf4
  v4 := Tryz.zeroValue4
  t5 := Tryz.underlying5
  a5 := Tryz.isAgg5
  z5 := Tryz.sizeOf5
  v5 := Tryz.zeroValue5
  t9 := Tryz.underlying9
  a9 := Tryz.isAgg9
  z9 := Tryz.sizeOf9
  v9 := Tryz.zeroValue9
  t28 := Tryz.underlying36
  a28 := Tryz.isAgg36
  z28 := Tryz.sizeOf36
  v28 := Tryz.zeroValue36
  t46 := Tryz.underlying142
  a46 := Tryz.isAgg142
  z46 := Tryz.sizeOf142
  v46 := Tryz.zeroValue142
  t51 := Tryz.underlying168
  a51 := Tryz.isAgg168
  z51 := Tryz.sizeOf168
  v51 := Tryz.zeroValue168
  t53 := Tryz.underlying170
  a53 := Tryz.isAgg170
  z53 := Tryz.sizeOf170
  v53 := Tryz.zeroValue170
  t131 := Tryz.underlying67
  a131 := Tryz.isAgg67
  z131 := Tryz.sizeOf67
  v131 := Tryz.zeroValue67
  t182 := Tryz.underlying161
  a182 := Tryz.isAgg161
  z182 := Tryz.sizeOf161
  v182 := Tryz.zeroValue161
  t183 := Tryz.underlying162
  a183 := Tryz.isAgg162
  z183 := Tryz.sizeOf162
  v183 := Tryz.zeroValue162
  t218 := Tryz.underlying176
  a218 := Tryz.isAgg176
  z218 := Tryz.sizeOf176
  v218 := Tryz.zeroValue176
  t222 := Tryz.underlying180
  a222 := Tryz.isAgg180
  z222 := Tryz.sizeOf180
  v222 := Tryz.zeroValue180
  t228 := Tryz.underlying184
  a228 := Tryz.isAgg184
  z228 := Tryz.sizeOf184
  v228 := Tryz.zeroValue184
  t229 := Tryz.underlying45
  a229 := Tryz.isAgg45
  z229 := Tryz.sizeOf45
  v229 := Tryz.zeroValue45 }
open Go.Sort Go.RowKit in
theorem Tryz.slices_Sort_int (blk off cap : Nat) (zs : List Int) (w : World) (hH : Holds (Value.int .i64) w blk off zs.toArray) (hblk : blk < w.heap.size) (hsz : zs.length < 4611686018427387904) :
    Calls Tryz.prog 70 #[.slice (some ⟨blk, off, none⟩) zs.length cap] w fun e w' =>
      e = .returned (.tuple #[]) ∧ ∃ n os, w' = grow (putRow (Value.int .i64) (Sort.ahead w n) blk off (zs.mergeSort fun x y => decide (x ≤ y)).toArray) os := Any.slices_Sort_int Tryz.lays189 blk off cap zs w hH hblk hsz
def Tryz.laysNm215_ren : Go.Shelf.Ren := ⟨fun | 15 => 44 | n => n, fun | 22 => 36 | 3 => 3 | 4 => 4 | n => n, fun | n => n⟩
theorem Tryz.laysNm215 : Go.Proofs.Lays2.n15 Tryz.prog Tryz.laysNm215_ren := {
  mixed := by kernel_rfl
  f15 := Tryz.func44.trans (congrArg some (by kernel_rfl))
  t3 := Tryz.underlying3
  a3 := Tryz.isAgg3
  z3 := Tryz.sizeOf3
  v3 := Tryz.zeroValue3
  t4 := Tryz.underlying4
  a4 := Tryz.isAgg4
  z4 := Tryz.sizeOf4
  v4 := Tryz.zeroValue4
  t22 := Tryz.underlying36
  a22 := Tryz.isAgg36
  z22 := Tryz.sizeOf36
  v22 := Tryz.zeroValue36
  i3 := by kernel_rfl }
open Go.RowKit Go.Lib in
theorem Tryz.slices_Clone_int (b off n c : Nat) (zs : List Int) (w : World) (hz : n ≤ zs.length) (hbig : n * 8 ≤ 140737488355328) (hc : ∀ j, j < zs.length → w.cell? ⟨b, off + j, none⟩ = some (.int .i64 (zs.getD j 0))) :
    Calls Tryz.prog 44 #[.slice (some ⟨b, off, none⟩) n c] w fun e w' => ∃ v', e = .returned v' ∧ w'.ownsRow w.heap.size 3 1 v' n ((zs.take n).map (Value.int .i64)) ∧ v' ≠ .slice none 0 0 ∧ Below w.heap.size w w' := Any.slices_Clone_int Tryz.laysNm215 b off n c zs w hz hbig hc
open Go.RowKit Go.Lib in
theorem Tryz.slices_Clone_int_nil (n c : Nat) (w : World) :
    Calls Tryz.prog 44 #[.slice none n c] w fun e w' => e = .returned (.slice none 0 0) ∧ w' = w := Any.slices_Clone_int_nil Tryz.laysNm215 n c w
open Go.RowKit Go.Lib in
theorem Tryz.slices_Clone_int_zero (a : Addr) (c : Nat) (w : World) :
    Calls Tryz.prog 44 #[.slice (some a) 0 c] w fun e w' => ∃ v', e = .returned v' ∧ w'.ownsRow w.heap.size 3 1 v' 0 [] ∧ v' ≠ .slice none 0 0 ∧ Below w.heap.size w w' := Any.slices_Clone_int_zero Tryz.laysNm215 a c w
def Tryz.laysNm220_ren : Go.Shelf.Ren := ⟨fun | 20 => 71 | n => n, fun | 22 => 36 | 3 => 3 | 4 => 4 | 0 => 0 | n => n, fun | n => n⟩
theorem Tryz.laysNm220 : Go.Proofs.Lays2.n20 Tryz.prog Tryz.laysNm220_ren := {
  mixed := by kernel_rfl
  f20 := Tryz.func71.trans (congrArg some (by kernel_rfl))
  t0 := Tryz.underlying0
  a0 := Tryz.isAgg0
  z0 := Tryz.sizeOf0
  v0 := Tryz.zeroValue0
  t3 := Tryz.underlying3
  a3 := Tryz.isAgg3
  z3 := Tryz.sizeOf3
  v3 := Tryz.zeroValue3
  t4 := Tryz.underlying4
  a4 := Tryz.isAgg4
  z4 := Tryz.sizeOf4
  v4 := Tryz.zeroValue4
  t22 := Tryz.underlying36
  a22 := Tryz.isAgg36
  z22 := Tryz.sizeOf36
  v22 := Tryz.zeroValue36
  i3 := by kernel_rfl }
open Go.RowKit Go.Lib Go.Sort in
theorem Tryz.slices_Compact_int_arr (blk off cap : Nat) (d : Array Int) (w : World) (hH : Holds encI w blk off d) (hsz : d.size ≤ 9223372036854775807) (hcap : d.size ≤ cap) :
    Calls Tryz.prog 71 #[.slice (some ⟨blk, off, none⟩) d.size cap] w fun e w' => e = .returned (.slice (some ⟨blk, off, none⟩) (compactUpTo d d.size).length cap) ∧ ∃ q, w' = putRow encI (Sort.ahead w q) blk off (compactUpTo d d.size ++ List.replicate (d.size - (compactUpTo d d.size).length) 0).toArray := Any.slices_Compact_int_arr Tryz.laysNm220 blk off cap d w hH hsz hcap
open Go.RowKit Go.Lib Go.Sort in
theorem Tryz.slices_Compact_int (blk off cap : Nat) (zs : List Int) (w : World) (hH : Holds (Value.int .i64) w blk off zs.toArray) (hsz : zs.length ≤ 9223372036854775807) (hcap : zs.length ≤ cap) :
    Calls Tryz.prog 71 #[.slice (some ⟨blk, off, none⟩) zs.length cap] w fun e w' => e = .returned (.slice (some ⟨blk, off, none⟩) (Lib.compact zs).length cap) ∧ ∃ q, w' = putRow (Value.int .i64) (Sort.ahead w q) blk off (Lib.compact zs ++ List.replicate (zs.length - (Lib.compact zs).length) 0).toArray := Any.slices_Compact_int Tryz.laysNm220 blk off cap zs w hH hsz hcap
open Go.RowKit Go.Lib Go.Sort in
theorem Tryz.slices_Compact_int_empty (a : Option Addr) (cap : Nat) (w : World) :
    Calls Tryz.prog 71 #[.slice a 0 cap] w fun e w' => e = .returned (.slice a 0 cap) ∧ w' = w := Any.slices_Compact_int_empty Tryz.laysNm220 a cap w
def Tryz.laysNm237_ren : Go.Shelf.Ren := ⟨fun | 37 => 87 | n => n, fun | 3 => 3 | 4 => 4 | n => n, fun | n => n⟩
theorem Tryz.laysNm237 : Go.Proofs.Lays2.n37 Tryz.prog Tryz.laysNm237_ren := {
  mixed := by kernel_rfl
  f37 := Tryz.func87.trans (congrArg some (by kernel_rfl))
  t3 := Tryz.underlying3
  a3 := Tryz.isAgg3
  z3 := Tryz.sizeOf3
  v3 := Tryz.zeroValue3
  t4 := Tryz.underlying4
  a4 := Tryz.isAgg4
  z4 := Tryz.sizeOf4
  v4 := Tryz.zeroValue4 }
open Go.RowKit Go.Lib in
theorem Tryz.cmp_isNaN_int2 (x : Int) (w : World) :
    Calls Tryz.prog 87 #[.int .i64 x] w fun e w' => e = .returned (.bool false) ∧ w' = w := Any.cmp_isNaN_int2 Tryz.laysNm237 x w
def Tryz.laysNm232_ren : Go.Shelf.Ren := ⟨fun | 32 => 78 | n => n, fun | 3 => 3 | 4 => 4 | n => n, fun | n => n⟩
theorem Tryz.laysNm232 : Go.Proofs.Lays2.n32 Tryz.prog Tryz.laysNm232_ren := {
  mixed := by kernel_rfl
  f32 := Tryz.func78.trans (congrArg some (by kernel_rfl))
  t3 := Tryz.underlying3
  a3 := Tryz.isAgg3
  z3 := Tryz.sizeOf3
  v3 := Tryz.zeroValue3
  t4 := Tryz.underlying4
  a4 := Tryz.isAgg4
  z4 := Tryz.sizeOf4
  v4 := Tryz.zeroValue4 }
open Go.RowKit Go.Lib in
theorem Tryz.slices_isNaN_int2 (x : Int) (w : World) :
    Calls Tryz.prog 78 #[.int .i64 x] w fun e w' => e = .returned (.bool false) ∧ w' = w := Any.slices_isNaN_int2 Tryz.laysNm232 x w
def Tryz.laysNm231_ren : Go.Shelf.Ren := ⟨fun | 31 => 77 | 37 => 87 | n => n, fun | 3 => 3 | 4 => 4 | n => n, fun | n => n⟩
theorem Tryz.laysNm231 : Go.Proofs.Lays2.n31 Tryz.prog Tryz.laysNm231_ren := {
  mixed := by kernel_rfl
  f31 := Tryz.func77.trans (congrArg some (by kernel_rfl))
  f37 := Tryz.func87.trans (congrArg some (by kernel_rfl))
  t3 := Tryz.underlying3
  a3 := Tryz.isAgg3
  z3 := Tryz.sizeOf3
  v3 := Tryz.zeroValue3
  t4 := Tryz.underlying4
  a4 := Tryz.isAgg4
  z4 := Tryz.sizeOf4
  v4 := Tryz.zeroValue4 }
open Go.RowKit Go.Lib in
theorem Tryz.cmp_Less_int2 (x y : Int) (w : World) :
    Calls Tryz.prog 77 #[.int .i64 x, .int .i64 y] w fun e w' => e = .returned (.bool (decide (x < y))) ∧ w' = w := Any.cmp_Less_int2 Tryz.laysNm231 x y w
def Tryz.laysNm225_ren : Go.Shelf.Ren := ⟨fun | 25 => 58 | 31 => 77 | 32 => 78 | 37 => 87 | n => n, fun | 22 => 36 | 3 => 3 | 4 => 4 | 40 => 142 | 0 => 0 | n => n, fun | n => n⟩
theorem Tryz.laysNm225 : Go.Proofs.Lays2.n25 Tryz.prog Tryz.laysNm225_ren := {
  mixed := by kernel_rfl
  f25 := Tryz.func58.trans (congrArg some (by kernel_rfl))
  f31 := Tryz.func77.trans (congrArg some (by kernel_rfl))
  f32 := Tryz.func78.trans (congrArg some (by kernel_rfl))
  f37 := Tryz.func87.trans (congrArg some (by kernel_rfl))
  t0 := Tryz.underlying0
  a0 := Tryz.isAgg0
  z0 := Tryz.sizeOf0
  v0 := Tryz.zeroValue0
  t3 := Tryz.underlying3
  a3 := Tryz.isAgg3
  z3 := Tryz.sizeOf3
  v3 := Tryz.zeroValue3
  t4 := Tryz.underlying4
  a4 := Tryz.isAgg4
  z4 := Tryz.sizeOf4
  v4 := Tryz.zeroValue4
  t22 := Tryz.underlying36
  a22 := Tryz.isAgg36
  z22 := Tryz.sizeOf36
  v22 := Tryz.zeroValue36
  t40 := Tryz.underlying142
  a40 := Tryz.isAgg142
  z40 := Tryz.sizeOf142
  v40 := Tryz.zeroValue142 }
open Go.RowKit Go.Lib in
theorem Tryz.slices_BinarySearch_int (b off n c : Nat) (zs : List Int) (x : Int) (w : World) (hz : n ≤ zs.length) (hbig : n < 4611686018427387904) (hc : ∀ j, j < zs.length → w.cell? ⟨b, off + j, none⟩ = some (.int .i64 (zs.getD j 0))) (hs : (zs.take n).Pairwise (· ≤ ·)) :
    Calls Tryz.prog 58 #[.slice (some ⟨b, off, none⟩) n c, .int .i64 x] w fun e w' => e = .returned (.tuple #[.int .i64 ((zs.take n).countP (· < x) : Nat), .bool ((zs.take n).contains x)]) ∧ ∃ q, w' = w.drewN q := Any.slices_BinarySearch_int Tryz.laysNm225 b off n c zs x w hz hbig hc hs
open Go.RowKit Go.Sort in
theorem Tryz.slices_Sort_int_none (p : Option Addr) (cap : Nat) (w : World) :
    Calls Tryz.prog 70 #[.slice p 0 cap] w fun e w' => e = .returned (.tuple #[]) ∧ w' = w := Any.slices_Sort_int_none Tryz.lays189 p cap w
open Go.RowKit Go.Lib in
theorem Tryz.slices_BinarySearch_int_empty (a : Option Addr) (c : Nat) (x : Int) (w : World) :
    Calls Tryz.prog 58 #[.slice a 0 c, .int .i64 x] w fun e w' => e = .returned (.tuple #[.int .i64 0, .bool false]) ∧ w' = w := Any.slices_BinarySearch_int_empty Tryz.laysNm225 a c x w
end Go.Proofs
