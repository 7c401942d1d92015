/- Joined out of the texts TabReadsC, TabAhead, TabTxn, TabApps, TabRdOk, in that order. -/
import Derived.Test.YtkinmllflodhaaaGreatAll17
import Derived.Test.YtkinmllflodhaaaGreatAll15
import Derived.Test.YtkinmllflodhaaaGreatAll14
import Derived.Test.YtkinmllflodhaaaGreatAll10
/- The closure of Reads: it goes through a row of reads, and hands each on with lists of its own. -/
namespace Go.Proofs.YtkinmllflodhaaaGreat.Tab
open Go.RowKit Go.Proofs.YtkinmllflodhaaaGreat.Dig Go.Proofs.YtkinmllflodhaaaGreat.Mem Go.Proofs.YtkinmllflodhaaaGreat.Hist Go.Proofs.YtkinmllflodhaaaGreat.Own Go.Proofs.YtkinmllflodhaaaGreat.Thing Go.Proofs.YtkinmllflodhaaaGreat.Sets Go.Shelf Go.Proofs.YtkinmllflodhaaaGreat.Keys Go.Proofs.YtkinmllflodhaaaGreat.Ro
set_option linter.unusedVariables false
set_option linter.unusedSimpArgs false
attribute [local go_sem] Oper.semAt_some

theorem valr_is (a : Option Addr) (len cap : Nat) (w : World) :
    Calls Tryz.prog 42 #[.slice a len cap] w fun e w' => e = .returned (.func (.func 72) #[] #[.pointer (some ⟨w.heap.size, 0, none⟩)]) ∧ w' = w.alloc (.cells #[.slice a len cap] 94) := by
  go_enter Tryz.func42, Tryz.ntmps42
  go_wp2
  go_ret
  exact ⟨rfl, rfl⟩
/-- What is handed on: the next read, its lists made anew. -/
theorem cell_not {W : World} {b i l : Nat} {u : Value} (hc : W.cell? ⟨b, i, none⟩ = some u) (hl : ∃ o : Obj, W.heap[l]? = some o ∧ o.isCells = false) : ¬ b = l := fun e => by
  obtain ⟨o, ho, hn⟩ := hl
  subst e
  simp only [World.cell?, ho] at hc
  cases o <;> simp_all [Obj.isCells]
theorem rowv_blk {S : Nat → Prop} {w w' : World} {a : Option Addr} {c : Nat} {l : List Int} (h : RowV w a c l) (ho : Only S w w') (hs : ∀ q, a = some q → ¬ S q.block) : RowV w' a c l :=
  ⟨h.cap, h.rd.only ho hs, h.nil⟩
theorem NxtR.map {α β : Type} {l pre : List α} {x : α} (f : α → β) (h : NxtR l pre x) : NxtR (l.map f) (pre.map f) (f x) := by
  obtain ⟨h, e, rfl⟩ := h
  refine ⟨by simpa using h, ?_, by simp⟩
  rw [List.length_map, ← List.map_take, ← e]
def RdN (rs : List RdM) (pre : List RdE) (x : RdE) (W0 W1 : World) : Prop := NxtR rs (pre.map (·.r)) x.r ∧ x.ok W1 ∧ (∀ q, x.la = some q → W0.heap.size ≤ q.block) ∧ (∀ q, x.oa = some q → W0.heap.size ≤ q.block)
set_option maxRecDepth 100000 in
set_option maxHeartbeats 4000000 in
theorem readsc_seq (n : Nat) (hn : 2 ≤ n) (bT : Nat) (k : Int) (hk : nameOk k) (B0 B1 : Nat) (rs : Int → List RdM) (w0 : World) (hv : Rv w0 bT rs) (hB0 : w0.cell? ⟨B0, 0, none⟩ = some (.pointer (some ⟨bT, 0, none⟩))) (hB1 : w0.cell? ⟨B1, 0, none⟩ = some (.int .i64 k))
    (hlen : (rs k).length ≤ 100000) (hll : ∀ r ∈ rs k, r.list.length ≤ 1000000 ∧ r.own.length ≤ 1000000) :
    SeqG Fence.wide n Tryz.prog 41 #[.pointer (some ⟨B0, 0, none⟩), .pointer (some ⟨B1, 0, none⟩)] rdA (fun b => b < w0.heap.size) (RdN (rs k)) (fun xs => xs.map (·.r) = rs k) w0 := by
  intro l J Jx W hW hJ hJx hY h0
  show CallsIn Fence.wide n Tryz.prog 41 #[.func (.yield l) #[] #[], .pointer (some ⟨B0, 0, none⟩), .pointer (some ⟨B1, 0, none⟩)] W fun e W' => (∃ v, e = .returned v) ∧ ((∃ xs R, xs.map (·.r) = rs k ∧ J xs R W') ∨ (∃ pre, Jx pre W'))
  obtain ⟨m2, hc4, hrow⟩ := hv.ex
  obtain ⟨la, lc, es, hlk, hr5, hes, hok⟩ := hrow k hk
  replace hB0 := (hW.cell (p := ⟨B0, 0, none⟩) (lt_of_cell hB0)).trans hB0
  replace hB1 := (hW.cell (p := ⟨B1, 0, none⟩) (lt_of_cell hB1)).trans hB1
  replace hc4 := (hW.cell (p := ⟨bT, 4, none⟩) (lt_of_cell hc4)).trans hc4
  have HW := hide hW
  have HJ := hide hJ
  have HJX := hide hJx
  have HY := hide hY
  have H0 := hide h0
  have HLK := hide hlk
  have HR5 := hide hr5
  have HES := hide hes
  have HOK := hide hok
  have HLL := hide hll
  obtain ⟨m, hm⟩ : ∃ m, m = (rs k).length := ⟨_, rfl⟩
  rw [← hm] at hlen HLK HR5
  have HM := hide hm
  refine callsIn_of_wp_marks Tryz.func41 rfl trivial ?_ rfl
  simp only [Tryz.ntmps41, List.size_toArray, List.length_cons, List.length_nil, Nat.reduceAdd, Nat.reduceSub, Array.replicate_succ, Array.replicate_zero, List.push_toArray, List.append_toArray, List.nil_append, List.cons_append]
  clear hv hk hrow hlk hr5 hes hok hll hJ hJx hY h0 hm hW
  gi_upto_region 1 with fail
  refine wpIn_wide.2 ?_
  refine wp_region_noPanic ?_
  obtain ⟨WD, hWD⟩ : ∃ WD, WD = (W.alloc (.cells #[.func (.yield l) #[] #[]] 92)).drew := ⟨_, rfl⟩
  have hBD : Below W.heap.size W WD := by rw [hWD]; exact ((Below.refl _ _).alloc (Nat.le_refl _) _).drew
  have hYB : Is WD W.heap.size #[.func (.yield l) #[] #[]] := by rw [hWD]; exact (Is.made W _ _ rfl).drew
  have kp : ∀ {g i : Nat} {u : Value}, W.cell? ⟨g, i, none⟩ = some u → WD.cell? ⟨g, i, none⟩ = some u := fun hc => (hBD.cell (p := ⟨_, _, none⟩) (lt_of_cell hc)).trans hc
  have SD : WD.cell? ⟨B0, 0, none⟩ = some (.pointer (some ⟨bT, 0, none⟩)) ∧ WD.cell? ⟨B1, 0, none⟩ = some (.int .i64 k) := ⟨kp hB0, kp hB1⟩
  have c4 : WD.cell? ⟨bT, 4, none⟩ = some (.map m2) := kp hc4
  have HBD := hide hBD
  have HYB := hide hYB
  have hw0D : Below w0.heap.size w0 WD := HW.out.trans (hBD.mono HW.out.size)
  have hlk2 : (Instr.lookup 77 (.map m2) (.int .i64 k) false).run Tryz.prog WD = .ok (.slice la m lc) WD := HLK.out WD hw0D
  have HWD0 := hide hw0D
  refine Last.region_last (k := 7) (S := fun w' : World => w'.cell? ⟨B0, 0, none⟩ = some (.pointer (some ⟨bT, 0, none⟩)) ∧ w'.cell? ⟨B1, 0, none⟩ = some (.int .i64 k)) (by kernel_rfl) rfl rfl (by kernel_rfl) (by kernel_rfl) ?_
  rw [← hWD]
  clear hWD hBD kp hB0 hB1 hc4 hYB hw0D
  refine wpAnyH_take (i := 0) (v := ?_) rfl (by kernel_rfl) (by kernel_rfl) (by kernel_rfl) (fun _ _ _ h => h) (Or.inl ⟨by rfl, ?_⟩) (by assumption) ?_
  rotate_left
  · (intro w hSw; (try dsimp only at hSw); go_simp; try with_reducible rfl)
  try simp only [List.getElem_toArray, List.getElem_cons_succ, List.getElem_cons_zero, Act.put, List.setIfInBounds_toArray, List.set_cons_zero, List.set_cons_succ]
  refine wpAnyH_take (i := 5) (v := ?_) rfl (by kernel_rfl) (by kernel_rfl) (by kernel_rfl) (fun _ _ _ h => h) (Or.inl ⟨by rfl, ?_⟩) (by assumption) ?_
  rotate_left
  · (intro w hSw; (try dsimp only at hSw); go_simp; try with_reducible rfl)
  try simp only [List.getElem_toArray, List.getElem_cons_succ, List.getElem_cons_zero, Act.put, List.setIfInBounds_toArray, List.set_cons_zero, List.set_cons_succ]
  refine wpAnyH_ready (rs := [1]) (by kernel_rfl) (by simp) ?_
  refine AllReadyH.cons (by rfl) (fun KK hKK => ?_) AllReadyH.nil
  simp only [List.getElem_toArray, List.getElem_cons_succ, List.getElem_cons_zero]
  go_simp
  go_at_call 43
  (with_reducible refine (orn_some _ _).mono ?_)
  rintro e w1 ⟨rfl, rfl⟩
  refine hKK.out _ _ SD (fun hH1 => ?_)
  clear hKK KK
  try simp only [List.getElem_toArray, List.getElem_cons_succ, List.getElem_cons_zero, Act.put, List.setIfInBounds_toArray, List.set_cons_zero, List.set_cons_succ]
  refine wpAnyH_ready (rs := [2]) (by kernel_rfl) (by simp) ?_
  refine AllReadyH.cons (by rfl) (fun KK hKK => ?_) AllReadyH.nil
  simp only [List.getElem_toArray, List.getElem_cons_succ, List.getElem_cons_zero]
  go_simp
  refine hKK.out _ _ SD (fun hH2 => ?_)
  clear hKK KK
  try simp only [List.getElem_toArray, List.getElem_cons_succ, List.getElem_cons_zero, Act.put, List.setIfInBounds_toArray, List.set_cons_zero, List.set_cons_succ]
  refine wpAnyH_ready (rs := [3]) (by kernel_rfl) (by simp) ?_
  refine AllReadyH.cons (by rfl) (fun KK hKK => ?_) AllReadyH.nil
  simp only [List.getElem_toArray, List.getElem_cons_succ, List.getElem_cons_zero]
  go_simp
  refine hKK.out _ _ SD (fun hH3 => ?_)
  clear hKK KK
  try simp only [List.getElem_toArray, List.getElem_cons_succ, List.getElem_cons_zero, Act.put, List.setIfInBounds_toArray, List.set_cons_zero, List.set_cons_succ]
  refine wpAnyH_ready (rs := [4]) (by kernel_rfl) (by simp) ?_
  refine AllReadyH.cons (by rfl) (fun KK hKK => ?_) AllReadyH.nil
  simp only [List.getElem_toArray, List.getElem_cons_succ, List.getElem_cons_zero]
  go_simp
  refine hKK.out _ _ SD (fun hH4 => ?_)
  clear hKK KK
  try simp only [List.getElem_toArray, List.getElem_cons_succ, List.getElem_cons_zero, Act.put, List.setIfInBounds_toArray, List.set_cons_zero, List.set_cons_succ]
  refine wpAnyH_ready (rs := [6]) (by kernel_rfl) (by simp) ?_
  refine AllReadyH.cons (by rfl) (fun KK hKK => ?_) AllReadyH.nil
  simp only [List.getElem_toArray, List.getElem_cons_succ, List.getElem_cons_zero]
  go_simp
  refine hKK.out _ _ SD (fun hH6 => ?_)
  clear hKK KK
  try simp only [List.getElem_toArray, List.getElem_cons_succ, List.getElem_cons_zero, Act.put, List.setIfInBounds_toArray, List.set_cons_zero, List.set_cons_succ]
  refine wpAnyH_done (by kernel_rfl) ?_ _
  refine Last.done_last ?_
  refine wpOp_step rfl (fun KK hKK => ?_)
  simp only [List.getElem_toArray, List.getElem_cons_succ, List.getElem_cons_zero]
  go_simp
  (with_reducible refine (valr_is _ _ _ _).mono ?_)
  rintro e w2' ⟨rfl, rfl⟩
  refine hKK _ _ ?_
  clear hKK
  go_simp
  refine NoPanic.normal ?_
  obtain ⟨w2, hw2⟩ : ∃ w2, w2 = w1.alloc (.cells #[.slice la m lc] 94) := ⟨_, rfl⟩
  rw [← hw2]
  have hb2 : Below w1.heap.size w1 w2 := by rw [hw2]; exact (Below.refl _ _).alloc (Nat.le_refl _) _
  have x2 : w2.cell? ⟨w1.heap.size, 0, none⟩ = some (.slice la m lc) := by rw [hw2]; exact (Is.made w1 _ _ rfl).cell 0 rfl
  have hs2 : w2.heap.size = w1.heap.size + 1 := by rw [hw2]; simp
  have hJ2 : J [] (fun _ => False) w2 := ownG_below (s := ([], fun _ => False)) HJ.out (ownG_below (s := ([], fun _ => False)) HJ.out H0.out HBD.out) hb2
  have hb02 : Below w0.heap.size w0 w2 := HWD0.out.trans (hb2.mono HWD0.out.size)
  have hY2 : Is w2 W.heap.size #[.func (.yield l) #[] #[]] := HYB.out.below hb2
  have hWs : W.heap.size < w1.heap.size := HYB.out.lt
  have hes' : es.length = m := by have := congrArg List.length HES.out; rw [List.length_map] at this; rw [this]; exact HM.out.symm
  have hSQ := valrc_seq Fence.wide (n - 1) trivial rfl (by omega) w1.heap.size la lc es w2 (by rw [hes']; exact row5_keep HR5.out hb02) (by omega) (by rw [hes']; exact x2) (fun b => b < w0.heap.size ∨ (W.heap.size ≤ b ∧ b < w2.heap.size)) (.inr ⟨by omega, by omega⟩) (fun q h0 e => by
    obtain ⟨b, e2, hc⟩ := HR5.out.2 (0 * 5 + 0) _ (flat_getF rdC rdC_len es 0 h0 0 _ rfl)
    rw [e] at e2
    obtain rfl := Option.some.inj e2
    exact .inl (lt_of_cell hc)) (fun b q => by
    rcases q with q | q
    · have := hb02.size; omega
    · exact q.2)
  have HSQ := hide hSQ
  have HJ2 := hide hJ2
  have HB02 := hide hb02
  have HY2 := hide hY2
  have hW2 : W.heap.size < w2.heap.size := by omega
  have hWW : w0.heap.size ≤ W.heap.size := HW.out.size
  obtain ⟨yo, hyo⟩ : ∃ y, y = w2.heap[W.heap.size]? := ⟨_, rfl⟩
  have HYO := hide hyo
  clear hyo
  clear hs2 hSQ hJ2 hw2 hb2 x2 c4 hlk2 SD hH1 hH2 hH3 hH4 hH6 hb02 hY2 hes'
  gi_wp2
  refine rangesG rfl (by omega) (gf := 72) (lb := #[.pointer (some ⟨w1.heap.size, 0, none⟩)]) rfl trivial (enters_of Tryz.func72 (by kernel_rfl) rfl) HSQ.out (Below.refl _ _) (fun b q => by rcases q with q | q <;> omega) (fun _ => rfl)
    (fun pre R V => ∃ ys : List RdE, ys.map (·.r) = pre.map (·.r) ∧ J ys R V ∧ w2.heap.size ≤ V.heap.size ∧ V.heap[W.heap.size]? = yo ∧ Below w0.heap.size w0 V)
    (fun c pre V => c = .ret ∧ ∃ ys, Jx ys V)
    (fun s A B row hs hg hr => by
      obtain ⟨ys, h1, h2, h3, h4, h5⟩ := hs
      exact ⟨ys, h1, HJ.out (ys, s.2) A B row h2 hg (fun r e => ⟨by have := (hr r e).1; omega, (hr r e).2⟩), Nat.le_trans h3 hg.size, (hg.block _ (by omega) (fun e => by have := (hr _ e.symm).1; omega)).trans h4, h5.grown hg h5.size (fun q e => by have := (hr q e).1; omega)⟩)
    (fun c s A B row hs hg hr => by
      obtain ⟨h1, ys, h2⟩ := hs
      exact ⟨h1, ys, HJX.out ys A B row h2 hg (fun r e => ⟨by have := (hr r e).1; omega, (hr r e).2⟩)⟩)
    ⟨[], rfl, HJ2.out, Nat.le_refl _, HYO.out.symm, HB02.out⟩ ?round ?done ?stop
  case done =>
    rintro D xs R V hD rfl ⟨ys, h1, h2, h3, h4, h5⟩ hDf
    have HDF := hide hDf
    have HJV := hide h2
    have HYS := hide h1
    clear h1 h2 h4 h5 hDf
    gi_wp2
    refine ⟨by simp, .inl ⟨_, _, rfl, run_takeDeferred HDF.out, ?_⟩⟩
    exact ⟨_, results_none rfl _ _ _, ⟨_, rfl⟩, .inl ⟨ys, by rw [HYS.out]; exact HES.out, R, HJ.out.putObj (s := (ys, R)) _ HJV.out (by omega) HDF.out rfl⟩⟩
  case stop =>
    rintro D c pre V hD ⟨rfl, ys, hx⟩ hDf
    have HDF := hide hDf
    have HX := hide hx
    clear hx hDf
    gi_wp2
    refine ⟨by simp, .inl ⟨_, _, rfl, run_takeDeferred HDF.out, ?_⟩⟩
    exact ⟨_, results_none rfl _ _ _, ⟨_, rfl⟩, .inr ⟨ys, HJX.out.putObj (s := ys) _ HX.out (by omega) HDF.out rfl⟩⟩
  case round =>
    rintro l' pre R x V0 V rfl hRR ⟨ys, h1, h2, h3, h4, h5⟩ hb0 hx
    have hxo := HOK.out x (by rw [hx.2.2]; exact List.getElem_mem _)
    have hxl := HLL.out x.r (by rw [← HES.out]; exact List.mem_map_of_mem (by rw [hx.2.2]; exact List.getElem_mem _))
    have HNX : Hid (NxtR (rs k) (ys.map (·.r)) x.r) := hide (by rw [← HES.out, h1]; exact hx.map (·.r))
    have HNA : Hid (ys.map (·.r) ++ [x.r] = (pre ++ [x]).map (·.r)) := hide (by rw [List.map_append, h1]; rfl)
    have HV0 : Hid (Below w0.heap.size w0 V) := hide (h5.trans (hb0.mono (by have := h5.size; omega)))
    have HOKV : Hid (x.ok V) := hide (hxo.keep HV0.out)
    have HJV0 := hide h2
    have HB0V := hide hb0
    have HYV : Hid (Is V W.heap.size #[.func (.yield l) #[] #[]]) := hide (by
      obtain ⟨T, q⟩ := HY2.out
      exact ⟨T, (hb0.block _ (by omega)).trans (h4.trans (HYO.out.trans q))⟩)
    have HRR := hide hRR
    have HEQ : Hid (V.heap[W.heap.size]? = yo) := hide ((hb0.block _ (by omega)).trans h4)
    have HZV : Hid (V0.heap.size ≤ V.heap.size ∧ w2.heap.size ≤ V0.heap.size) := hide ⟨hb0.size, h3⟩
    clear h1 h2 h3 h4 h5 hxo hx hb0 hRR
    obtain ⟨r, xla, xlc, xoa, xoc⟩ := x
    dsimp only at hxl HNX HNA
    dsimp only [rdA]
    obtain ⟨m3, hm3⟩ : ∃ m, m = r.list.length := ⟨_, rfl⟩
    obtain ⟨m4, hm4⟩ : ∃ m, m = r.own.length := ⟨_, rfl⟩
    obtain ⟨x0, hx0⟩ : ∃ x, x = r.txn := ⟨_, rfl⟩
    obtain ⟨x1, hx1⟩ : ∃ x, x = (r.op : Int) := ⟨_, rfl⟩
    obtain ⟨x2, hx2⟩ : ∃ x, x = r.key := ⟨_, rfl⟩
    have HM3 := hide hm3
    have HM4 := hide hm4
    have HX0 := hide hx0
    have HX1 := hide hx1
    have HX2' := hide hx2
    rw [← hm3, ← hm4, ← hx0, ← hx1, ← hx2]
    clear hm3 hm4 hx0 hx1 hx2
    gi_wp2
    refine ⟨(Below.refl _ _).alloc (Nat.le_refl _) _, fun W2 hg o ho1 ho2 => ?_⟩
    have hX1 : Is (V.alloc (.cells #[.int .i64 x0, .int .i64 x1, .int .i64 x2, .slice xla m3 xlc, .slice xoa m4 xoc] 38)) V.heap.size #[.int .i64 x0, .int .i64 x1, .int .i64 x2, .slice xla m3 xlc, .slice xoa m4 xoc] := Is.made _ _ _ rfl
    have hl1 : ∃ o : Obj, (V.alloc (.cells #[.int .i64 x0, .int .i64 x1, .int .i64 x2, .slice xla m3 xlc, .slice xoa m4 xoc] 38)).heap[w2.heap.size + 1]? = some o ∧ o.isCells = false := ⟨o, ho1, ho2⟩
    have hbA : Below V.heap.size V (V.alloc (.cells #[.int .i64 x0, .int .i64 x1, .int .i64 x2, .slice xla m3 xlc, .slice xoa m4 xoc] 38)) := (Below.refl _ _).alloc (Nat.le_refl _) _
    have hLV : w2.heap.size + 1 < V.heap.size := by
      have h6 := (Array.getElem?_eq_some_iff.1 ho1).1
      rw [World.size_alloc] at h6
      rcases Nat.lt_or_ge (w2.heap.size + 1) V.heap.size with q | q
      · exact q
      · exact absurd rfl (is_not hX1 ⟨o, by rw [show V.heap.size = w2.heap.size + 1 by omega]; exact ho1, ho2⟩)
    have hX2 := hX1.keep (only_rec hg) (is_not hX1 hl1)
    have hYA := HYV.out.below hbA
    have hY2 := hYA.keep (only_rec hg) (is_not hYA hl1)
    have hO12 : Only (fun q => q = w2.heap.size + 1) V W2 := (Only.of_below hbA).trans (only_rec hg)
    have hlV : ∃ o : Obj, V.heap[w2.heap.size + 1]? = some o ∧ o.isCells = false := ⟨o, by rw [← ho1]; exact (hbA.block _ hLV).symm, ho2⟩
    have hokW : RowV W2 xla xlc r.list ∧ RowV W2 xoa xoc r.own := ⟨rowv_only HOKV.out.1 hO12 (fun b i u hc => cell_not hc hlV), rowv_only HOKV.out.2 hO12 (fun b i u hc => cell_not hc hlV)⟩
    have hszA : V.heap.size < W2.heap.size := hX2.lt
    have HLV2 := hide hLV
    obtain ⟨o2, ho2'⟩ : ∃ o2, W2.heap[w2.heap.size + 1]? = some o2 := ⟨_, Array.getElem?_eq_getElem (by omega)⟩
    have HO2 := hide ho2'
    have HA2 : Hid (∀ q, q < V.heap.size → ¬ q = w2.heap.size + 1 → W2.heap[q]? = V.heap[q]?) := hide (fun q h1 h2 => hO12.block q h1 h2)
    have HA3 : Hid (W2.os = V.os ∧ W2.tape = V.tape ∧ W2.output = V.output) := hide ⟨hO12.os, hO12.tape, hO12.output⟩
    clear ho2'
    have HOKW := hide hokW
    have HX2 := hide hX2
    have HY2' := hide hY2
    have HO12 := hide hO12
    have HLV := hide hlV
    have HG := hide hg
    have c3 : W2.drew.cell? ⟨V.heap.size, 3, none⟩ = some (.slice xla m3 xlc) := hX2.drew.cell 3 rfl
    have c4 : W2.drew.cell? ⟨V.heap.size, 4, none⟩ = some (.slice xoa m4 xoc) := hX2.drew.cell 4 rfl
    clear hX1 hl1 hbA hX2 hYA hY2 hO12 hokW hlV ho1 ho2 hg
    gi_upto_region 3 with fail
    refine Round.wpIn_round_last (k := 9) (S := fun w' => w'.cell? ⟨V.heap.size, 4, none⟩ = some (.slice xoa m4 xoc)) (by kernel_rfl) (by kernel_rfl) ?hno (by rfl) rfl (by kernel_rfl) (by kernel_rfl) ?_
    case hno =>
      rintro ⟨a', w', z⟩
      exact z
    have CL1 : Hid (Calls Tryz.prog 44 #[.slice xla m3 xlc] W2.drew fun e w' => ∃ a c, e = .returned (.slice a m3 c) ∧ Hid (RowV w' a c r.list) ∧ Hid (∀ q, a = some q → W2.heap.size ≤ q.block) ∧ Hid (Below W2.heap.size W2 w')) := hide (by
      rw [HM3.out]
      refine (clone_fresh xla xlc r.list W2.drew (HOKW.out.1.keep (Below.refl _ _).drew) hxl.1).mono ?_
      rintro e w' ⟨⟨a, c, rfl, h1, h2⟩, hb⟩
      exact ⟨a, c, rfl, h1, h2, (Below.refl _ _).drew.trans hb⟩)
    have CL2 : Hid (∀ w4, Below W2.heap.size W2 w4 → Calls Tryz.prog 44 #[.slice xoa m4 xoc] w4 fun e w' => ∃ a c, e = .returned (.slice a m4 c) ∧ Hid (RowV w' a c r.own) ∧ Hid (∀ q, a = some q → w4.heap.size ≤ q.block) ∧ Hid (Below w4.heap.size w4 w')) := hide (fun w4 hb4 => by
      rw [HM4.out]
      refine (clone_fresh xoa xoc r.own w4 (HOKW.out.2.keep hb4) hxl.2).mono ?_
      rintro e w' ⟨⟨a, c, rfl, h1, h2⟩, hb⟩
      exact ⟨a, c, rfl, h1, h2, hb⟩)
    refine wpAnyH_take (i := 0) (v := ?_) rfl (by kernel_rfl) (by kernel_rfl) (by kernel_rfl) (fun _ _ _ h => h) (Or.inl ⟨by rfl, ?_⟩) (by assumption) ?_
    rotate_left
    · (intro w hSw; (try dsimp only at hSw); go_simp; try with_reducible rfl)
    try simp only [List.getElem_toArray, List.getElem_cons_succ, List.getElem_cons_zero, Act.put, List.setIfInBounds_toArray, List.set_cons_zero, List.set_cons_succ]
    refine wpAnyH_take (i := 3) (v := ?_) rfl (by kernel_rfl) (by kernel_rfl) (by kernel_rfl) (fun _ _ _ h => h) (Or.inl ⟨by rfl, ?_⟩) (by assumption) ?_
    rotate_left
    · (intro w hSw; (try dsimp only at hSw); go_simp; try with_reducible rfl)
    try simp only [List.getElem_toArray, List.getElem_cons_succ, List.getElem_cons_zero, Act.put, List.setIfInBounds_toArray, List.set_cons_zero, List.set_cons_succ]
    refine wpAnyH_take (i := 4) (v := ?_) rfl (by kernel_rfl) (by kernel_rfl) (by kernel_rfl) (fun _ _ _ h => h) (Or.inl ⟨by rfl, ?_⟩) (by assumption) ?_
    rotate_left
    · (intro w hSw; (try dsimp only at hSw); go_simp; try with_reducible rfl)
    try simp only [List.getElem_toArray, List.getElem_cons_succ, List.getElem_cons_zero, Act.put, List.setIfInBounds_toArray, List.set_cons_zero, List.set_cons_succ]
    refine wpAnyH_ready (rs := [1]) (by kernel_rfl) (by simp) ?_
    refine AllReadyH.cons (by rfl) (fun KK hKK => ?_) AllReadyH.nil
    simp only [List.getElem_toArray, List.getElem_cons_succ, List.getElem_cons_zero]
    go_simp
    refine hKK.out _ _ c4 (fun hH1 => ?_)
    clear hKK KK
    try simp only [List.getElem_toArray, List.getElem_cons_succ, List.getElem_cons_zero, Act.put, List.setIfInBounds_toArray, List.set_cons_zero, List.set_cons_succ]
    refine wpAnyH_ready (rs := [2]) (by kernel_rfl) (by simp) ?_
    refine AllReadyH.cons (by rfl) (fun KK hKK => ?_) AllReadyH.nil
    simp only [List.getElem_toArray, List.getElem_cons_succ, List.getElem_cons_zero]
    go_simp
    go_at_call 44
    (with_reducible refine (Hid.out CL1).mono ?_)
    rintro e w4 ⟨a1, c1', rfl, hr1, hf1, hb4⟩
    have hX4 := HX2.out.below hb4.out
    have c44 : w4.cell? ⟨V.heap.size, 4, none⟩ = some (.slice xoa m4 xoc) := hX4.cell 4 rfl
    refine hKK.out _ _ c44 (fun hH2 => ?_)
    clear hKK KK
    try simp only [List.getElem_toArray, List.getElem_cons_succ, List.getElem_cons_zero, Act.put, List.setIfInBounds_toArray, List.set_cons_zero, List.set_cons_succ]
    refine wpAnyH_take (i := 6) (v := ?_) rfl (by kernel_rfl) (by kernel_rfl) (by kernel_rfl) (fun _ _ _ h => h) (Or.inl ⟨by rfl, ?_⟩) (by assumption) ?_
    rotate_left
    · (intro w hSw; (try dsimp only at hSw); go_simp; try with_reducible rfl)
    try simp only [List.getElem_toArray, List.getElem_cons_succ, List.getElem_cons_zero, Act.put, List.setIfInBounds_toArray, List.set_cons_zero, List.set_cons_succ]
    refine wpAnyH_ready (rs := [5]) (by kernel_rfl) (by simp) ?_
    refine AllReadyH.cons (by rfl) (fun KK hKK => ?_) AllReadyH.nil
    simp only [List.getElem_toArray, List.getElem_cons_succ, List.getElem_cons_zero]
    go_simp
    go_at_call 44
    (with_reducible refine (CL2.out _ hb4.out).mono ?_)
    rintro e w5 ⟨a2, c2', rfl, hr2, hf2, hb5⟩
    have hX5 := hX4.below hb5.out
    have c54 : w5.cell? ⟨V.heap.size, 4, none⟩ = some (.slice xoa m4 xoc) := hX5.cell 4 rfl
    refine hKK.out _ _ c54 (fun hH3 => ?_)
    clear hKK KK
    try simp only [List.getElem_toArray, List.getElem_cons_succ, List.getElem_cons_zero, Act.put, List.setIfInBounds_toArray, List.set_cons_zero, List.set_cons_succ]
    have c53 : w5.cell? ⟨V.heap.size, 3, none⟩ = some (.slice xla m3 xlc) := hX5.cell 3 rfl
    have f53 := hX5.frozen 3
    refine wpAnyH_ready (rs := [7]) (by kernel_rfl) (by simp) ?_
    refine AllReadyH.cons (by rfl) (fun KK hKK => ?_) AllReadyH.nil
    simp only [List.getElem_toArray, List.getElem_cons_succ, List.getElem_cons_zero]
    go_simp
    have hX6 := (hX5.set 3 (.slice a1 m3 c1')).eq (cs' := #[.int .i64 x0, .int .i64 x1, .int .i64 x2, .slice a1 m3 c1', .slice xoa m4 xoc]) rfl
    have c64 : (w5.setCell ⟨V.heap.size, 3, none⟩ (.slice a1 m3 c1')).cell? ⟨V.heap.size, 4, none⟩ = some (.slice xoa m4 xoc) := hX6.cell 4 rfl
    have f64 := hX6.frozen 4
    refine hKK.out _ _ c64 (fun hH4 => ?_)
    clear hKK KK
    try simp only [List.getElem_toArray, List.getElem_cons_succ, List.getElem_cons_zero, Act.put, List.setIfInBounds_toArray, List.set_cons_zero, List.set_cons_succ]
    refine wpAnyH_take (i := 8) (v := ?_) rfl (by kernel_rfl) (by kernel_rfl) (by kernel_rfl) (fun _ _ _ h => h) (Or.inl ⟨by rfl, ?_⟩) (by assumption) ?_
    rotate_left
    · (intro w hSw; (try dsimp only at hSw); go_simp; try with_reducible rfl)
    try simp only [List.getElem_toArray, List.getElem_cons_succ, List.getElem_cons_zero, Act.put, List.setIfInBounds_toArray, List.set_cons_zero, List.set_cons_succ]
    refine wpAnyH_done (by kernel_rfl) ?_ _
    refine Last.done_last ?_
    refine wpOp_step rfl (fun KK hKK => ?_)
    simp only [List.getElem_toArray, List.getElem_cons_succ, List.getElem_cons_zero]
    go_simp
    refine hKK _ _ ?_
    clear hKK
    go_simp
    have hX7 := (hX6.set 4 (.slice a2 m4 c2')).eq (cs' := #[.int .i64 x0, .int .i64 x1, .int .i64 x2, .slice a1 m3 c1', .slice a2 m4 c2']) rfl
    have hO57 : Only (fun q => q = V.heap.size) w5 ((w5.setCell ⟨V.heap.size, 3, none⟩ (.slice a1 m3 c1')).setCell ⟨V.heap.size, 4, none⟩ (.slice a2 m4 c2')) := ((Only.refl _ _).put 3 _).put 4 _
    have hb25 : Below W2.heap.size W2 w5 := hb4.out.trans (hb5.out.mono hb4.out.size)
    have hr17 : RowV ((w5.setCell ⟨V.heap.size, 3, none⟩ (.slice a1 m3 c1')).setCell ⟨V.heap.size, 4, none⟩ (.slice a2 m4 c2')) a1 c1' r.list := rowv_blk (hr1.out.keep hb5.out) hO57 (fun q e => by have := hf1.out q e; omega)
    have hr27 : RowV ((w5.setCell ⟨V.heap.size, 3, none⟩ (.slice a1 m3 c1')).setCell ⟨V.heap.size, 4, none⟩ (.slice a2 m4 c2')) a2 c2' r.own := rowv_blk hr2.out hO57 (fun q e => by have := hf2.out q e; have := hb4.out.size; omega)
    have hY7 := ((HY2'.out.below hb25).keep hO57 (show ¬ W.heap.size = V.heap.size by have := HZV.out; omega))
    have hfr1 : ∀ q, a1 = some q → V.heap.size ≤ q.block := fun q e => by have := hf1.out q e; omega
    have hfr2 : ∀ q, a2 = some q → V.heap.size ≤ q.block := fun q e => by have := hf2.out q e; have := hb4.out.size; omega
    have hs7 : V.heap.size < ((w5.setCell ⟨V.heap.size, 3, none⟩ (.slice a1 m3 c1')).setCell ⟨V.heap.size, 4, none⟩ (.slice a2 m4 c2')).heap.size := hX7.lt
    have hb27 : Only (fun q => q = V.heap.size) W2 ((w5.setCell ⟨V.heap.size, 3, none⟩ (.slice a1 m3 c1')).setCell ⟨V.heap.size, 4, none⟩ (.slice a2 m4 c2')) := (Only.of_below hb25).trans hO57
    have H7 := hide hX7
    have HB27 := hide hb27
    have HR17 := hide hr17
    have HR27 := hide hr27
    have HY7 := hide hY7
    have HF1 := hide hfr1
    have HF2 := hide hfr2
    clear hX7 hO57 hb25 hr17 hr27 hY7 hfr1 hfr2 hb27 hX6 hX5 hX4 hr1 hf1 hr2 hf2 c64 f64 c53 f53 c54 c44 c3 c4 hH1 hH2 hH3 hH4 CL1 CL2
    generalize ((w5.setCell ⟨V.heap.size, 3, none⟩ (.slice a1 m3 c1')).setCell ⟨V.heap.size, 4, none⟩ (.slice a2 m4 c2')) = W7 at H7 HB27 HR17 HR27 HY7 hs7 ⊢
    have HJ' : Hid (J ys R (V.putObj (w2.heap.size + 1) o2)) := hide (by
      obtain ⟨o, ho, hn⟩ := HLV.out
      exact HJ.out.putObj (s := (ys, R)) o2 (ownG_below (s := (ys, R)) HJ.out HJV0.out HB0V.out) (by omega) ho hn)
    have hB7 : Below (V.putObj (w2.heap.size + 1) o2).heap.size (V.putObj (w2.heap.size + 1) o2) W7 := by
      have hO := HB27.out
      refine ⟨hO.os.trans HA3.out.1, hO.tape.trans HA3.out.2.1, hO.output.trans HA3.out.2.2, by rw [World.putObj_size]; omega, fun q hq => ?_⟩
      rw [World.putObj_size] at hq
      have h1 := hO.block q (by omega) (by omega)
      by_cases e : q = w2.heap.size + 1
      · subst e
        rw [h1, HO2.out, World.putObj_heap_same HLV2.out]
      · rw [h1, HA2.out q hq e, World.putObj_heap_other e]
    obtain ⟨fn, tmps, assign, body, hy, hR⟩ := HY.out ys R ⟨r, a1, c1', a2, c2'⟩ _ W7 HJ'.out hB7 ⟨HNX.out, ⟨HR17.out, HR27.out⟩, fun q e => by rw [World.putObj_size]; exact HF1.out q e, fun q e => by rw [World.putObj_size]; exact HF2.out q e⟩
    dsimp only [rdA] at hy
    rw [← HM3.out, ← HM4.out, ← HX0.out, ← HX1.out, ← HX2'.out] at hy
    have y0 : W7.cell? ⟨W.heap.size, 0, none⟩ = some (.func (.yield l) #[] #[]) := HY7.out.cell 0 rfl
    obtain ⟨⟨g0, g1, g2, g3, g4⟩, _⟩ : (W7.cell? ⟨V.heap.size, 0, none⟩ = some (.int .i64 x0) ∧ W7.cell? ⟨V.heap.size, 1, none⟩ = some (.int .i64 x1) ∧ W7.cell? ⟨V.heap.size, 2, none⟩ = some (.int .i64 x2) ∧ W7.cell? ⟨V.heap.size, 3, none⟩ = some (.slice a1 m3 c1') ∧ W7.cell? ⟨V.heap.size, 4, none⟩ = some (.slice a2 m4 c2')) ∧ True := ⟨⟨H7.out.cell 0 rfl, H7.out.cell 1 rfl, H7.out.cell 2 rfl, H7.out.cell 3 rfl, H7.out.cell 4 rfl⟩, trivial⟩
    have HRD := hide hR
    clear hR hB7
    have HTW : Hid (∀ W8, Only (fun q => (q < W.heap.size ∧ ¬ q < w0.heap.size) ∨ R q) W7 W8 → Only (fun q => (q < w2.heap.size ∧ ¬ (q < w0.heap.size ∨ (W.heap.size ≤ q ∧ q < w2.heap.size))) ∨ R q ∨ V.heap.size ≤ q) W2 W8) := hide (fun W8 ho => (HB27.out.mono (S' := fun q => (q < w2.heap.size ∧ ¬ (q < w0.heap.size ∨ (W.heap.size ≤ q ∧ q < w2.heap.size))) ∨ R q ∨ V.heap.size ≤ q) (fun i e => .inr (.inr (by rw [e]; exact Nat.le_refl _)))).trans (ho.mono (fun i e => by
      rcases e with e | e
      · exact .inl ⟨by omega, fun q => by rcases q with q | q <;> omega⟩
      · exact .inr (.inl e))))
    gi_wp2
    refine ⟨fun e => (by cases e), ?_⟩
    refine (Round.round_wide HRD.out).mono ?_
    rintro e W8 (⟨rfl, R', hJ8, hR8, ho8⟩ | ⟨rfl, hJx8, ho8⟩)
    · have hT := HTW.out W8 ho8
      have hI : ∃ ys' : List RdE, ys'.map (·.r) = (pre ++ [(⟨r, xla, xlc, xoa, xoc⟩ : RdE)]).map (fun x : RdE => x.r) ∧ J ys' R' W8 ∧ w2.heap.size ≤ W8.heap.size ∧ W8.heap[W.heap.size]? = yo ∧ Below w0.heap.size w0 W8 := by
        refine ⟨ys ++ [⟨r, a1, c1', a2, c2'⟩], by rw [← HNA.out, List.map_append]; rfl, hJ8, by have := ho8.size; have := HZV.out; omega, ?_, ?_⟩
        · have e1 := ho8.block W.heap.size (by have := HZV.out; omega) (fun q => by
            rcases q with q | q
            · omega
            · have := HRR.out _ q; omega)
          have e2 := HB27.out.block W.heap.size (by have := HZV.out; omega) (by have := HZV.out; omega)
          have e3 := HA2.out W.heap.size (by have := HZV.out; omega) (by omega)
          exact e1.trans (e2.trans (e3.trans HEQ.out))
        · have b1 : Below w0.heap.size w0 W7 := by
            have hO := HB27.out
            refine ⟨(hO.os.trans HA3.out.1).trans HV0.out.os, (hO.tape.trans HA3.out.2.1).trans HV0.out.tape, (hO.output.trans HA3.out.2.2).trans HV0.out.output, by have := HV0.out.size; omega, fun q hq => ?_⟩
            have hz := HZV.out
            exact (hO.block q (by omega) (by omega)).trans ((HA2.out q (by omega) (by omega)).trans (HV0.out.block q hq))
          exact b1.trans (ho8.below (fun i e => by
            rcases e with e | e
            · omega
            · have := HRR.out i e; omega) (by have := b1.size; omega))
      have HI := hide hI
      have HT := hide hT
      have HR8 := hide hR8
      clear hI hT hR8 hJ8 ho8 hy y0 g0 g1 g2 g3 g4
      gi_wp2
      exact ⟨HT.out, R', HI.out, fun q hq => by
        rcases HR8.out q hq with z | z
        · exact .inl z
        · exact .inr (by omega)⟩
    · have HT := hide (HTW.out W8 ho8)
      have HX8 := hide hJx8
      clear hJx8 ho8 hy y0 g0 g1 g2 g3 g4
      gi_wp2
      exact ⟨HT.out, rfl, _, HX8.out⟩
end Go.Proofs.YtkinmllflodhaaaGreat.Tab

/- The document's values that a transaction appends to a key with its first operations. -/
namespace Go.Proofs.YtkinmllflodhaaaGreat.Tab
open Go.RowKit Go.Proofs.YtkinmllflodhaaaGreat.Dig Go.Proofs.YtkinmllflodhaaaGreat.Mem Go.Proofs.YtkinmllflodhaaaGreat.Hist Go.Proofs.YtkinmllflodhaaaGreat.Own Go.Proofs.YtkinmllflodhaaaGreat.Thing Go.Proofs.YtkinmllflodhaaaGreat.Sets Go.Shelf Go.Proofs.YtkinmllflodhaaaGreat.Keys
set_option linter.unusedVariables false
set_option linter.unusedSimpArgs false

def ahR (w : World) (os : List OpM) (key : Int) (n : Nat) (ov kv : Value) (wr : World) : Prop :=
  ∃ (k : Nat), k ≤ n ∧ kv = .int .i64 (k : Int) ∧ Hid (wr.ownsRow w.heap.size 3 1 ov (aheadL (os.take k) key).length ((aheadL (os.take k) key).map (Value.int .i64))) ∧ Hid (Below w.heap.size w wr)
theorem ahead_hit {os : List OpM} {k : Nat} {key : Int} (h : k < os.length) (h1 : os[k].read = false) (h2 : os[k].key = key) : aheadL (os.take (k + 1)) key = aheadL (os.take k) key ++ [os[k].value] := by
  unfold aheadL
  rw [List.take_succ_eq_append_getElem h, List.filter_append, List.map_append]
  simp [h1, h2]
theorem ahead_miss {os : List OpM} {k : Nat} {key : Int} (h : k < os.length) (h1 : os[k].read = true ∨ os[k].key ≠ key) : aheadL (os.take (k + 1)) key = aheadL (os.take k) key := by
  unfold aheadL
  rw [List.take_succ_eq_append_getElem h, List.filter_append, List.map_append]
  rcases h1 with h1 | h1 <;> simp [h1]
theorem ahead_le (os : List OpM) (key : Int) : (aheadL os key).length ≤ os.length := by
  unfold aheadL
  rw [List.length_map]
  exact List.length_filter_le _ _
set_option maxRecDepth 20000 in
set_option maxHeartbeats 4000000 in
theorem ahead_fresh (F : Nat → Prop) (id : Int) (ab : Bool) (v : Value) (os : List OpM) (key : Int) (n : Nat) (w : World) (h : OpsAt F w v os) (hn : n ≤ os.length) (hm : os.length ≤ 1000) :
    Calls Tryz.prog 47 #[.agg #[.int .i64 id, .bool ab, v], .int .i64 key, .int .i64 (n : Int)] w fun e w' => (∃ a c, e = .returned (.slice a (aheadL (os.take n) key).length c) ∧ RowV w' a c (aheadL (os.take n) key) ∧ ∀ q, a = some q → w.heap.size ≤ q.block) ∧ Below w.heap.size w w' := by
  obtain ⟨i0, hi, hz0, hz1, hz2⟩ := info_parts Tryz.infoSetInt
  obtain ⟨a, c, rfl, hc1, hc2⟩ := h.shape
  unfold maxLen at hc2
  have H : Hid (OpsAt F w (.slice a os.length c) os) := h
  clear h
  have HWFA : Hid (∀ x ∈ aheadL (os.take n) key, (Lit.int .i64 x).wf = true) := hide (by
    intro x hx
    obtain ⟨o, ho, rfl⟩ := List.mem_map.1 hx
    obtain ⟨i, hi, e⟩ := List.getElem_of_mem (List.mem_of_mem_take (List.mem_filter.1 ho).1)
    have hw := H.out.at hi
    obtain ⟨_, _, _, _, _, _, _, _, _, _, _, _, _, hw⟩ := hw
    rw [e] at hw
    exact hw)
  go_enter Tryz.func47, Tryz.ntmps47
  go_upto_region 1 with fail
  obtain ⟨w1, hw1⟩ : ∃ w1, w1 = w.alloc (.cells #[.int .i64 id, .bool ab, .slice a os.length c] 55) := ⟨_, rfl⟩
  rw [← hw1]
  have HB1 : Hid (Below w.heap.size w w1) := hide (by rw [hw1]; exact (Below.refl _ _).alloc (Nat.le_refl _) _)
  have HX1 : Hid (Is w1 w.heap.size #[.int .i64 id, .bool ab, .slice a os.length c]) := hide (by rw [hw1]; exact Is.made w _ _ rfl)
  have HH1 := hide (H.out.keep HB1.out)
  clear hw1 H
  go_wp2
  go_loopw [7, 8] (fun ov kv wr => ahR w1 os key n ov kv wr) (fun _ kv _ => n - (intOf kv).toNat)
  case atStart => exact ⟨0, by omega, rfl, World.ownsRow_nil _ _ _ _, Below.refl _ _⟩
  case round =>
    obtain ⟨k, hk, rfl, hown, hbel⟩ := hrel
    obtain ⟨W, hW⟩ : ∃ W, W = wr := ⟨_, rfl⟩
    subst hW
    obtain ⟨oa, oc, rfl⟩ := Own.own_form hown.out
    have x2 : W.cell? ⟨w.heap.size, 2, none⟩ = some (.slice a os.length c) := (HX1.out.below hbel.out).cell 2 rfl
    by_cases hlt : k < n
    · have hlo : k < os.length := by omega
      obtain ⟨b3, o3, l3, q3, rfl, _, _, e0, e1, e2, e3, _, _, _⟩ := (HH1.out.keep hbel.out).at hlo
      have hle := ahead_le (os.take k) key
      rw [List.length_take] at hle
      have HHIT := hide (fun h1 h2 => ahead_hit (key := key) hlo h1 h2)
      have HMISS := hide (fun h1 => ahead_miss (key := key) hlo h1)
      obtain ⟨q, hq⟩ : ∃ q, q = os[k].read := ⟨_, rfl⟩
      obtain ⟨x, hx⟩ : ∃ x, x = os[k].key := ⟨_, rfl⟩
      obtain ⟨y, hy⟩ : ∃ y, y = os[k].value := ⟨_, rfl⟩
      rw [← hq, ← hx] at HHIT HMISS
      rw [← hy] at HHIT
      rw [← hq] at e0
      rw [← hx] at e1
      rw [← hy] at e2
      have hsz := hbel.out.size
      clear hq hx hy e3
      have HR : Hid (aheadL (os.take (k + 1)) key = aheadL (os.take k) key → ahR w1 os key n (.slice oa (aheadL (os.take k) key).length oc) (.int .i64 ((k : Int) + 1)) W) := hide fun e => ⟨k + 1, by omega, by simp, by rw [e]; exact hown, hbel⟩
      have hrow := hown.out
      obtain ⟨m, hm⟩ : ∃ m, m = (aheadL (os.take k) key).length := ⟨_, rfl⟩
      rw [← hm] at HR hrow hle ⊢
      have HM := hide hm
      clear hm hown
      cases q with
      | true =>
        have R := hide (HR.out (HMISS.out (.inl rfl)))
        clear HHIT HMISS HR hrow
        go_wp2
        go_roundw
        case rel => exact R.out
        case measure => simp [intOf]; omega
      | false =>
        by_cases hxk : x = key
        · have HE := hide (HHIT.out rfl hxk)
          clear HHIT HMISS HR
          go_wp2_with (at_builtin; go_loud (refine wpList_append_own _ rfl _ _ 36 rfl w1.heap.size 3 i0 (.int .i64 0) 1 8 Tryz.underlying36 hi hz0 hz1 hz2 rfl (by decide) _ _ _ rfl (hrow.alloc _) ⟨W.heap.size, 0, none⟩ 1 1 [.int .i64 y] rfl rfl (one_new _ _ _) (by simp [Value.oneCell']) (by unfold maxLen; omega) (by omega) (by simp; omega) ?_); intro v2 w2 hown2 hgrow2 _; have HOWN2 := hide hown2; have HB2 := hide ((hbel.out.alloc hsz (.cells #[.int .i64 y] 3)).grown hgrow2 (by simp; omega) (fun q e => (World.ownsRow.lt hrow q e).1)); clear hown2 hgrow2)
          go_roundw
          case rel => exact ⟨k + 1, by omega, by simp, by have := HOWN2.out; rw [HE.out, List.map_append, List.length_append, ← HM.out]; exact this, HB2⟩
          case measure => simp [intOf]; omega
        · have R := hide (HR.out (HMISS.out (.inr hxk)))
          clear HHIT HMISS HR hrow
          go_wp2
          go_roundw
          case rel => exact R.out
          case measure => simp [intOf]; omega
    · obtain rfl : k = n := by omega
      have hrow := hown.out
      have hle := ahead_le (os.take k) key
      rw [List.length_take] at hle
      have HV := hide (rowv_of_own hrow (by omega) HWFA.out).2
      have HFR : Hid (∀ q, oa = some q → w.heap.size ≤ q.block) := hide (fun q e => by subst e; have := (World.ownsRow.lt hrow q.block rfl).1; have := HB1.out.size; omega)
      go_wp2
      go_ret
      exact ⟨⟨oa, oc, rfl, HV.out, HFR.out⟩, HB1.out.trans (hbel.out.mono HB1.out.size)⟩
theorem ahead_any (F : Nat → Prop) (id : Int) (ab : Bool) (v : Value) (os : List OpM) (key : Int) (n : Nat) (w : World) (h : OpsAt F w v os) (hn : n ≤ os.length) (hm : os.length ≤ 1000) :
    Calls Tryz.prog 47 #[.agg #[.int .i64 id, .bool ab, v], .int .i64 key, .int .i64 (n : Int)] w fun e w' => (∃ a c, e = .returned (.slice a (aheadL (os.take n) key).length c) ∧ RowV w' a c (aheadL (os.take n) key)) ∧ Below w.heap.size w w' := by
  refine (ahead_fresh F id ab v os key n w h hn hm).mono ?_
  rintro e w' ⟨⟨a, c, rfl, h1, _⟩, h2⟩
  exact ⟨⟨a, c, rfl, h1⟩, h2⟩
end Go.Proofs.YtkinmllflodhaaaGreat.Tab

/- The document's transaction of a number. -/
namespace Go.Proofs.YtkinmllflodhaaaGreat.Tab
open Go.RowKit Go.Proofs.YtkinmllflodhaaaGreat.Dig Go.Proofs.YtkinmllflodhaaaGreat.Mem Go.Proofs.YtkinmllflodhaaaGreat.Hist Go.Proofs.YtkinmllflodhaaaGreat.Own Go.Proofs.YtkinmllflodhaaaGreat.Thing Go.Proofs.YtkinmllflodhaaaGreat.Sets Go.Shelf Go.Proofs.YtkinmllflodhaaaGreat.Keys
set_option linter.unusedVariables false
set_option linter.unusedSimpArgs false

theorem docTxn_at {ts : List TxnM} {k : Nat} {id : Int} (h : k < ts.length) (hp : ∀ i, (hi : i < ts.length) → i < k → ts[i].id ≠ id) (he : ts[k].id = id) : docTxn ts id = ts[k] := by
  unfold docTxn
  have : ts.find? (fun t => t.id == id) = some ts[k] := by
    rw [List.find?_eq_some_iff_getElem]
    exact ⟨by simp [he], k, h, rfl, fun j hj => by simp; exact hp j (by omega) hj⟩
  rw [this]
  rfl
theorem docTxn_no {ts : List TxnM} {id : Int} (hp : ∀ i, (hi : i < ts.length) → ts[i].id ≠ id) : docTxn ts id = ⟨id, false, []⟩ := by
  unfold docTxn
  have : ts.find? (fun t => t.id == id) = none := by
    rw [List.find?_eq_none]
    intro t ht
    obtain ⟨i, hi, rfl⟩ := List.getElem_of_mem ht
    simp
    exact hp i hi
  rw [this]
  rfl
def txR (w : World) (hv : Value) (ts : List TxnM) (id : Int) (kv : Value) (wr : World) : Prop :=
  ∃ (k : Nat), k ≤ ts.length ∧ kv = .int .i64 (k : Int) ∧ Hid (∀ i, (hi : i < ts.length) → i < k → ts[i].id ≠ id) ∧ wr = w
set_option maxRecDepth 20000 in
set_option maxHeartbeats 4000000 in
theorem txn_any (F : Nat → Prop) (v : Value) (ts : List TxnM) (id : Int) (w : World) (h : TxnsAt F w v ts) (hid : (Lit.int .i64 id).wf = true) :
    Calls Tryz.prog 46 #[.agg #[v], .int .i64 id] w fun e w' => ∃ (ov : Value), e = .returned (.agg #[.int .i64 (docTxn ts id).id, .bool (docTxn ts id).ab, ov]) ∧ Hid (OpsAt F w' ov (docTxn ts id).ops) ∧ Hid (Below w.heap.size w w') := by
  obtain ⟨a, c, rfl, hc1, hc2⟩ := h.shape
  unfold maxLen at hc2
  have H : Hid (TxnsAt (fun b => F b ∧ b < w.heap.size) w (.slice a ts.length c) ts) := hide h.lt
  clear h
  go_enter Tryz.func46, Tryz.ntmps46
  go_upto_region 1 with fail
  obtain ⟨w1, hw1⟩ : ∃ w1, w1 = w.alloc (.cells #[.slice a ts.length c] 24) := ⟨_, rfl⟩
  rw [← hw1]
  have HB1 : Hid (Below w.heap.size w w1) := hide (by rw [hw1]; exact (Below.refl _ _).alloc (Nat.le_refl _) _)
  have HX1 : Hid (Is w1 w.heap.size #[.slice a ts.length c]) := hide (by rw [hw1]; exact Is.made w _ _ rfl)
  have hsz : w1.heap.size = w.heap.size + 1 := by rw [hw1]; simp
  clear hw1
  obtain ⟨w2, hw2⟩ : ∃ w2, w2 = w1.alloc (.cells #[.int .i64 0, .bool false, .slice none 0 0] 55) := ⟨_, rfl⟩
  have HB2 : Hid (Below w.heap.size w w2) := hide (by rw [hw2]; exact HB1.out.alloc HB1.out.size _)
  have HX2 : Hid (Is w2 w.heap.size #[.slice a ts.length c]) := hide (by rw [hw2]; exact HX1.out.alloc _)
  have HY2 : Hid (Is w2 (w.heap.size + 1) #[.int .i64 0, .bool false, .slice none 0 0]) := hide (by rw [hw2]; exact Is.made w1 _ _ hsz.symm)
  have HH2 := hide (H.out.keep HB2.out)
  have x0 : w2.cell? ⟨w.heap.size, 0, none⟩ = some (.slice a ts.length c) := HX2.out.cell 0 rfl
  have y0 : w2.cell? ⟨w.heap.size + 1, 0, none⟩ = some (.int .i64 0) := HY2.out.cell 0 rfl
  have y1 : w2.cell? ⟨w.heap.size + 1, 1, none⟩ = some (.bool false) := HY2.out.cell 1 rfl
  have y2 : w2.cell? ⟨w.heap.size + 1, 2, none⟩ = some (.slice none 0 0) := HY2.out.cell 2 rfl
  rw [← hw2]
  clear hw2 hsz H
  have z0 := HY2.out.frozen 0
  have z1 := HY2.out.frozen 1
  have z2 := HY2.out.frozen 2
  go_wp2
  go_loopw [5] (fun kv wr => txR w2 (.slice a ts.length c) ts id kv wr) (fun kv _ => ts.length - (intOf kv).toNat)
  case atStart => exact ⟨0, by omega, rfl, hide fun i _ hi => by omega, rfl⟩
  case round =>
    obtain ⟨k, hk, rfl, hne, rfl⟩ := hrel
    by_cases hlt : k < ts.length
    · obtain ⟨b1, o1, l1, q1, rfl, _, hb1, c0, c1, c2, hi1, hwf⟩ := HH2.out.at hlt
      have HO := hide hi1
      have HAT := hide (docTxn_at (id := id) hlt hne.out)
      obtain ⟨x, hx⟩ : ∃ x, x = ts[k].id := ⟨_, rfl⟩
      rw [← hx] at c0
      have HX := hide hx
      clear hi1 hx
      by_cases hxe : x = id
      · have HE := hide (HAT.out (HX.out.symm.trans hxe))
        go_wp2
        have hrow := (((HY2.out.set 0 (.int .i64 id)).set 1 (.bool ts[k].ab)).set 2 (.slice l1 ts[k].ops.length q1)).eq (cs' := #[.int .i64 id, .bool ts[k].ab, .slice l1 ts[k].ops.length q1]) rfl
        have honly := (((Only.refl (fun b => b = w.heap.size + 1) wr).put 0 (.int .i64 id)).put 1 (.bool ts[k].ab)).put 2 (.slice l1 ts[k].ops.length q1)
        have hbel := ((HB2.out.setCell (p := ⟨w.heap.size + 1, 0, none⟩) (by show w.heap.size ≤ w.heap.size + 1; omega) (.int .i64 id)).setCell (p := ⟨w.heap.size + 1, 1, none⟩) (by show w.heap.size ≤ w.heap.size + 1; omega) (.bool ts[k].ab)).setCell (p := ⟨w.heap.size + 1, 2, none⟩) (by show w.heap.size ≤ w.heap.size + 1; omega) (.slice l1 ts[k].ops.length q1)
        obtain ⟨T, hT⟩ := hrow
        refine bodyPost_ret (results_cell_row rfl _ _ (w.heap.size + 1) _ _ _ _ rfl hT Tryz.underlying55 rfl (by kernel_rfl)) rfl ?_
        rw [HE.out]
        exact ⟨_, by rw [← HX.out, hxe], (HO.out.only honly (fun b q e => by have := q.2; omega)).mono (fun b q => q.1), hbel⟩
      · have R : Hid (txR wr (.slice (some ⟨b1, o1, none⟩) ts.length c) ts id (.int .i64 ((k : Int) + 1)) wr) := ⟨k + 1, by omega, by simp, hide fun i hi hik => by
          by_cases e : i = k
          · subst e; rw [← HX.out]; exact hxe
          · exact hne.out i hi (by omega), rfl⟩
        go_wp2
        go_roundw
        case rel => exact R.out
        case measure => simp [intOf]; omega
    · have HE := hide (docTxn_no (id := id) fun i hi => hne.out i hi (by omega))
      go_wp2
      have hrow := (((HY2.out.set 0 (.int .i64 id)).set 1 (.bool false)).set 2 (.slice none 0 0)).eq (cs' := #[.int .i64 id, .bool false, .slice none 0 0]) rfl
      have honly := (((Only.refl (fun b => b = w.heap.size + 1) wr).put 0 (.int .i64 id)).put 1 (.bool false)).put 2 (.slice none 0 0)
      have hbel := ((HB2.out.setCell (p := ⟨w.heap.size + 1, 0, none⟩) (by show w.heap.size ≤ w.heap.size + 1; omega) (.int .i64 id)).setCell (p := ⟨w.heap.size + 1, 1, none⟩) (by show w.heap.size ≤ w.heap.size + 1; omega) (.bool false)).setCell (p := ⟨w.heap.size + 1, 2, none⟩) (by show w.heap.size ≤ w.heap.size + 1; omega) (.slice none 0 0)
      obtain ⟨T, hT⟩ := hrow
      refine bodyPost_ret (results_cell_row rfl _ _ (w.heap.size + 1) _ _ _ _ rfl hT Tryz.underlying55 rfl (by kernel_rfl)) rfl ?_
      rw [HE.out]
      exact ⟨_, rfl, OpsAt.nil, hbel⟩
end Go.Proofs.YtkinmllflodhaaaGreat.Tab

/- The document's Appends. -/
namespace Go.Proofs.YtkinmllflodhaaaGreat.Tab
open Go.RowKit Go.Proofs.YtkinmllflodhaaaGreat.Dig Go.Proofs.YtkinmllflodhaaaGreat.Mem Go.Proofs.YtkinmllflodhaaaGreat.Hist Go.Proofs.YtkinmllflodhaaaGreat.Own Go.Proofs.YtkinmllflodhaaaGreat.Thing Go.Proofs.YtkinmllflodhaaaGreat.Sets Go.Shelf Go.Proofs.YtkinmllflodhaaaGreat.Keys
set_option linter.unusedVariables false
set_option linter.unusedSimpArgs false

theorem docTxn_ops (ts : List TxnM) (id : Int) : (docTxn ts id).ops.length ≤ opsN ts := by
  unfold docTxn
  cases h : ts.find? fun t => t.id == id with
  | none => simp
  | some t =>
    obtain ⟨i, hi, rfl⟩ := List.getElem_of_mem (List.mem_of_find?_eq_some h)
    exact ops_le hi
end Go.Proofs.YtkinmllflodhaaaGreat.Tab

/- Reads in a row of one's own: their lists lie elsewhere. -/
namespace Go.Proofs.YtkinmllflodhaaaGreat.Tab
open Go.RowKit Go.Proofs.YtkinmllflodhaaaGreat.Dig Go.Proofs.YtkinmllflodhaaaGreat.Mem Go.Proofs.YtkinmllflodhaaaGreat.Hist Go.Proofs.YtkinmllflodhaaaGreat.Own Go.Proofs.YtkinmllflodhaaaGreat.Thing Go.Proofs.YtkinmllflodhaaaGreat.Sets Go.Shelf
set_option linter.unusedVariables false
set_option linter.unusedSimpArgs false

theorem rowv_ne {S : Nat → Prop} {w w' : World} {a : Option Addr} {c : Nat} {l : List Int} (h : RowV w a c l) (ho : Only S w w') (hs : ∀ q, l ≠ [] → a = some q → ¬ S q.block) : RowV w' a c l := by
  by_cases e : l = []
  · subst e
    exact ⟨h.cap, ⟨h.rd.1, fun i hi => by simp at hi⟩, h.nil⟩
  · exact ⟨h.cap, h.rd.only ho fun q => hs q e, h.nil⟩
theorem rowv_lt {w : World} {q : Addr} {c : Nat} {l : List Int} (h : RowV w (some q) c l) (hl : l ≠ []) : q.block < w.heap.size := by
  cases l with
  | nil => exact absurd rfl hl
  | cons x l =>
    obtain ⟨b, off, e, hc⟩ := h.at (i := 0) (by simp)
    cases e
    exact lt_of_cell hc
/-- A read whose lists lie in no block that v owns. -/
structure RdOk (v : Value) (w : World) (x : RdE) : Prop where
  ok : x.ok w
  fl : ∀ q, x.r.list ≠ [] → x.la = some q → v.ownBlock ≠ some q.block
  fo : ∀ q, x.r.own ≠ [] → x.oa = some q → v.ownBlock ≠ some q.block
theorem RdOk.keep {v : Value} {w w' : World} {x : RdE} (h : RdOk v w x) (hb : Below w.heap.size w w') : RdOk v w' x := ⟨h.ok.keep hb, h.fl, h.fo⟩
theorem RdOk.only {v : Value} {w w' : World} {x : RdE} {b : Nat} (h : RdOk v w x) (hb : Only (fun k => k = b) w w') (h1 : ∀ q, x.r.list ≠ [] → x.la = some q → ¬ q.block = b) (h2 : ∀ q, x.r.own ≠ [] → x.oa = some q → ¬ q.block = b) : RdOk v w' x :=
  ⟨⟨rowv_ne h.ok.1 hb h1, rowv_ne h.ok.2 hb h2⟩, h.fl, h.fo⟩
theorem RdOk.grow {v v' : Value} {w w' : World} {x : RdE} (h : RdOk v w x) (hg : w.grownBy w' v.ownBlock) (hat : v'.ownBlock = v.ownBlock ∨ v'.ownBlock = some w.heap.size) : RdOk v' w' x := by
  have n1 : ∀ q, x.r.list ≠ [] → x.la = some q → v'.ownBlock ≠ some q.block := fun q hl e => by
    rcases hat with z | z
    · rw [z]; exact h.fl q hl e
    · rw [z]
      have := rowv_lt (by rw [← e]; exact h.ok.1) hl
      intro z2
      have := Option.some.inj z2
      omega
  have n2 : ∀ q, x.r.own ≠ [] → x.oa = some q → v'.ownBlock ≠ some q.block := fun q hl e => by
    rcases hat with z | z
    · rw [z]; exact h.fo q hl e
    · rw [z]
      have := rowv_lt (by rw [← e]; exact h.ok.2) hl
      intro z2
      have := Option.some.inj z2
      omega
  exact ⟨⟨rowv_ne h.ok.1 (only_grown hg) (fun q hl e z => h.fl q hl e z), rowv_ne h.ok.2 (only_grown hg) (fun q hl e z => h.fo q hl e z)⟩, n1, n2⟩
end Go.Proofs.YtkinmllflodhaaaGreat.Tab
