/- TableReads, walked. -/
import Derived.Test.YtkinmllflodhaaaGreatAll18
import Derived.Test.YtkinmllflodhaaaGreatAll19
namespace Go.Proofs.YtkinmllflodhaaaGreat.Walk
open Go.RowKit Go.Proofs.YtkinmllflodhaaaGreat.Dig Go.Proofs.YtkinmllflodhaaaGreat.Mem Go.Proofs.YtkinmllflodhaaaGreat.Hist Go.Proofs.YtkinmllflodhaaaGreat.Own Go.Proofs.YtkinmllflodhaaaGreat.Thing Go.Proofs.YtkinmllflodhaaaGreat.Sets Go.Shelf Go.Proofs.YtkinmllflodhaaaGreat.Keys Go.Proofs.YtkinmllflodhaaaGreat.Tab Go.Proofs.YtkinmllflodhaaaGreat.Ro
set_option linter.unusedVariables false
set_option linter.unusedSimpArgs false
attribute [local go_sem] Oper.semAt_some

theorem reads_is (p : Option Addr) (k : Int) (w : World) : Calls Tryz.prog 9 #[.pointer p, .int .i64 k] w fun e w' => e = .returned (.func (.func 41) #[] #[.pointer (some ⟨w.heap.size, 0, none⟩), .pointer (some ⟨w.heap.size + 1, 0, none⟩)]) ∧ w' = (w.alloc (.cells #[.pointer p] 28)).alloc (.cells #[.int .i64 k] 3) := by
  go_enter Tryz.func9, Tryz.ntmps9
  go_wp2
  go_ret
  exact ⟨rfl, rfl⟩
/-- of: a copy. -/
theorem of_any (v0 v1 v2 : Int) (l0 l1 : Option Addr) (n0 n1 c0 c1 : Nat) (w : World) :
    Calls Tryz.prog 10 #[.agg #[.int .i64 v0, .int .i64 v1, .int .i64 v2, .slice l0 n0 c0, .slice l1 n1 c1]] w fun e w' => e = .returned (.agg #[.int .i64 v0, .int .i64 v1, .int .i64 v2, .slice l0 n0 c0, .slice l1 n1 c1]) ∧ Hid (Below w.heap.size w w') := by
  go_enter Tryz.func10, Tryz.ntmps10
  go_upto_region 1 with fail
  obtain ⟨w1, hw1⟩ : ∃ w1, w1 = (w.alloc (.cells #[.int .i64 v0, .int .i64 v1, .int .i64 v2, .slice l0 n0 c0, .slice l1 n1 c1] 38)).alloc (.cells #[.int .i64 0, .int .i64 0, .int .i64 0, .slice none 0 0, .slice none 0 0] 39) := ⟨_, rfl⟩
  rw [← hw1]
  have hb1 : Below w.heap.size w w1 := by rw [hw1]; exact ((Below.refl _ _).alloc (Nat.le_refl _) _).alloc (by simp) _
  have X1 : Is w1 w.heap.size #[.int .i64 v0, .int .i64 v1, .int .i64 v2, .slice l0 n0 c0, .slice l1 n1 c1] := by rw [hw1]; exact (Is.made w _ _ rfl).alloc _
  have Y1 : Is w1 (w.heap.size + 1) #[.int .i64 0, .int .i64 0, .int .i64 0, .slice none 0 0, .slice none 0 0] := by rw [hw1]; exact Is.made _ _ _ (by simp)
  have a0 : w1.cell? ⟨w.heap.size, 0, none⟩ = some (.int .i64 v0) := X1.cell 0 rfl
  have a1 : w1.cell? ⟨w.heap.size, 1, none⟩ = some (.int .i64 v1) := X1.cell 1 rfl
  have a2 : w1.cell? ⟨w.heap.size, 2, none⟩ = some (.int .i64 v2) := X1.cell 2 rfl
  have a3 : w1.cell? ⟨w.heap.size, 3, none⟩ = some (.slice l0 n0 c0) := X1.cell 3 rfl
  have a4 : w1.cell? ⟨w.heap.size, 4, none⟩ = some (.slice l1 n1 c1) := X1.cell 4 rfl
  have b0 : w1.cell? ⟨w.heap.size + 1, 0, none⟩ = some (.int .i64 0) := Y1.cell 0 rfl
  have b1 : w1.cell? ⟨w.heap.size + 1, 1, none⟩ = some (.int .i64 0) := Y1.cell 1 rfl
  have b2 : w1.cell? ⟨w.heap.size + 1, 2, none⟩ = some (.int .i64 0) := Y1.cell 2 rfl
  have b3 : w1.cell? ⟨w.heap.size + 1, 3, none⟩ = some (.slice none 0 0) := Y1.cell 3 rfl
  have b4 : w1.cell? ⟨w.heap.size + 1, 4, none⟩ = some (.slice none 0 0) := Y1.cell 4 rfl
  have z0 := Y1.frozen 0
  have z1 := Y1.frozen 1
  have z2 := Y1.frozen 2
  have z3 := Y1.frozen 3
  have z4 := Y1.frozen 4
  have HY := hide Y1
  have HB := hide hb1
  clear hw1 X1 Y1 hb1
  go_wp2
  have hrow := (((((HY.out.set 0 (.int .i64 v0)).set 1 (.int .i64 v1)).set 2 (.int .i64 v2)).set 3 (.slice l0 n0 c0)).set 4 (.slice l1 n1 c1)).eq (cs' := #[.int .i64 v0, .int .i64 v1, .int .i64 v2, .slice l0 n0 c0, .slice l1 n1 c1]) rfl
  have hbel := ((((HB.out.setCell (p := ⟨w.heap.size + 1, 0, none⟩) (by show w.heap.size ≤ w.heap.size + 1; omega) (.int .i64 v0)).setCell (p := ⟨w.heap.size + 1, 1, none⟩) (by show w.heap.size ≤ w.heap.size + 1; omega) (.int .i64 v1)).setCell (p := ⟨w.heap.size + 1, 2, none⟩) (by show w.heap.size ≤ w.heap.size + 1; omega) (.int .i64 v2)).setCell (p := ⟨w.heap.size + 1, 3, none⟩) (by show w.heap.size ≤ w.heap.size + 1; omega) (.slice l0 n0 c0)).setCell (p := ⟨w.heap.size + 1, 4, none⟩) (by show w.heap.size ≤ w.heap.size + 1; omega) (.slice l1 n1 c1)
  obtain ⟨T, hT⟩ := hrow
  exact bodyPost_ret (results_cell_row rfl _ _ (w.heap.size + 1) _ _ _ _ rfl hT Tryz.underlying39 rfl (by kernel_rfl)) rfl ⟨rfl, hbel⟩
/-- The boxes of the law's own. -/
theorem exit_r {Q : Exit → Act → World → Prop} {a : Act} {w : World} (h : Exit.inBlock 0 Q .normal a w) : Exit.inBlock 0 Q (.exit 0) a w := by
  simp only [Exit.inBlock, if_true] at h ⊢
  exact h
theorem few_reads {ts : List TxnM} (h : FewH ts) (key : Int) : (docReads ts key).length ≤ 1200 := by
  have h1 := rsP_le ts key (docIds ts).length (Nat.le_refl _)
  rw [rsP_all] at h1
  have h2 : (docIds ts).length * opsN ts ≤ 20 * 60 := Nat.mul_le_mul h.ids h.2.1
  omega
theorem few_lists {ts : List TxnM} (h : FewH ts) (key : Int) : ∀ r ∈ docReads ts key, r.list.length ≤ 1000000 ∧ r.own.length ≤ 1000000 := fun r hr => by
  obtain ⟨id, _, hr⟩ := List.mem_flatMap.1 hr
  obtain ⟨p, hp, rfl⟩ := List.mem_map.1 hr
  have hp' := (List.mem_filter.1 hp).1
  have ho : p.1 ∈ (docTxn ts id).ops := by
    have := List.mem_map_of_mem (f := Prod.fst) hp'
    rwa [List.zipIdx_map_fst] at this
  refine ⟨by have := docTxn_lists h.2.2 id p.1 ho; show p.1.list.length ≤ _; omega, ?_⟩
  have h1 := ahead_le ((docTxn ts id).ops.take p.2) key
  rw [List.length_take] at h1
  have h2 := docTxn_ops ts id
  have := h.2.1
  show (aheadL ((docTxn ts id).ops.take p.2) key).length ≤ _
  omega
theorem rdok_turn {v : Value} {w w' : World} {x : RdE} {row : Option Nat} (h : RdOk v w x) (hg : w.grownBy w' row) (hr : ∀ r, row = some r → ∃ o : Obj, w.heap[r]? = some o ∧ o.isCells = false) : RdOk v w' x := by
  have hn : ∀ b i u, w.cell? ⟨b, i, none⟩ = some (.int .i64 u) → ¬ row = some b := fun b i u hc e => cell_not hc (hr b e) rfl
  exact ⟨⟨rowv_only h.ok.1 (only_grown hg) hn, rowv_only h.ok.2 (only_grown hg) hn⟩, h.fl, h.fo⟩
/-- What lies where, while reads are collected. -/
structure GI (w5 : World) (BG : Nat) (rs : List RdM) (v : Value) (fs : List RdE) (W : World) : Prop where
  kn : Kn w5 [boxT BG #[v], ownN w5.heap.size 39 5 v fs.length (fs.flatMap rdC)] W
  ok : ∀ e ∈ fs, RdOk v W e
  far : ∀ e ∈ fs, (∀ q, e.la = some q → BG < q.block) ∧ ∀ q, e.oa = some q → BG < q.block
  map : fs.map (·.r) = rs.take fs.length
theorem GI.keep {w5 W W' : World} {BG : Nat} {rs : List RdM} {v : Value} {fs : List RdE} (h : GI w5 BG rs v fs W) (hb : Below W.heap.size W W') : GI w5 BG rs v fs W' :=
  ⟨h.kn.keep hb, fun e he => (h.ok e he).keep hb, h.far, h.map⟩
theorem GI.turn {w5 W W' : World} {BG B : Nat} {rs : List RdM} {v : Value} {fs : List RdE} {row : Option Nat} (h : GI w5 BG rs v fs W) (hB : w5.heap.size ≤ B) (hg : W.grownBy W' row) (hr : ∀ r, row = some r → B ≤ r ∧ ∃ o : Obj, W.heap[r]? = some o ∧ o.isCells = false) : GI w5 BG rs v fs W' :=
  ⟨Kn_fixed h.kn (fun t ht => by
    simp only [List.mem_cons, List.not_mem_nil, or_false] at ht
    rcases ht with rfl | rfl
    · exact fixed_box _ _ _
    · exact fixed_own _ _ _ _ _ _ _) hB hg hr, fun e he => rdok_turn (h.ok e he) hg (fun r e => (hr r e).2), h.far, h.map⟩
set_option maxRecDepth 100000 in
set_option maxHeartbeats 4000000 in
theorem walk_tableReads (w : World) (ta : Option Addr) (tcap : Nat) (ts : List TxnM) (ht : TxnsAt (fun b => b < w.heap.size) w (.slice ta ts.length tcap) ts) (key : Int) (hkey : (Lit.int .i64 key).wf = true) (n : Int) (hnb : (Lit.int .u8 n).wf = true) :
    Calls Tryz.prog 3 #[.agg #[.slice ta ts.length tcap], .int .i64 key, .int .u8 n] w fun e w' => e = .returned (.bool true) ∧ Below w.heap.size w w' := by
  have hbt := bounds_u8 hnb
  obtain ⟨nn, rfl⟩ : ∃ nn : Nat, n = nn := ⟨n.toNat, by omega⟩
  obtain ⟨N, hN⟩ : ∃ N, N = ts.length := ⟨_, rfl⟩
  rw [← hN] at ht ⊢
  have hseq : ∀ (p q : Option Addr) (W : World), (binOp .eql 33 (.func (.func 41) #[] #[.pointer p, .pointer q]) Value.nilFunc).run Tryz.prog W = .ok (.bool false) W := fun p q W => by kernel_rfl
  obtain ⟨w0, hw0⟩ : ∃ w0, w0 = (w.alloc (.cells #[.slice ta N tcap] 24)).alloc (.cells #[.int .u8 (nn : Int)] 5) := ⟨_, rfl⟩
  have H0 : Hid (LH w ta N tcap ts w0) := hide (by rw [hw0]; exact (LH.start ht).keep ((Below.refl _ _).alloc (Nat.le_refl _) _))
  have B0 : Hid (Is w0 (w.heap.size + 1) #[.int .u8 (nn : Int)]) := hide (by rw [hw0]; exact Is.made _ _ _ (by simp))
  have c1 := H0.out.c
  obtain ⟨ec, hec⟩ : ∃ ec, ec = checkS ts := ⟨_, rfl⟩
  have EC := hide hec
  have HKEY := hide hkey
  have hnn : nn ≤ 255 := by omega
  clear ht hec hN hkey hnb hbt
  refine (callsIn_wide (n := 3)).1 ?_
  refine callsIn_of_wp_marks Tryz.func3 rfl trivial ?_ rfl
  simp only [Tryz.ntmps3, List.size_toArray, List.length_cons, List.length_nil, Nat.reduceAdd, Nat.reduceSub, Array.replicate_succ, Array.replicate_zero, List.push_toArray, List.append_toArray, List.nil_append, List.cons_append]
  have f8 : Fence.wide.fn 7 := trivial
  have f10 : Fence.wide.fn 6 := trivial
  gi_upto_region 1 with fail
  rw [← hw0]
  clear hw0
  gi_wp2_with fail
  refine ⟨trivial, ?_⟩
  gi_at_call 5
  (with_reducible refine (callsIn_wide.2 (fewLB H0)).mono ?_)
  rintro e w1 ⟨r, rfl, hf, hb1⟩
  have H1 := hide (H0.out.keep hb1.out)
  have B1 := hide (B0.out.below hb1.out)
  cases r with
  | false =>
    gi_wp2_with (gi_at_call 7; go_must ((with_reducible refine (callsIn_wide.2 (worksLT _)).mono ?_); rintro e w2 ⟨rfl, hb2⟩))
    exact ⟨.bool true, by simp [results, Tryz.f3, go_sem], rfl, (H1.out.keep hb2.out).below⟩
  | true =>
    have HF : Hid (FewH ts) := hide (hf.out rfl)
    have c2 := H1.out.c
    clear hf c1 H0 B0
    by_cases h0 : ec = 0
    rotate_left
    · gi_wp2_with (first
        | (gi_at_call 6; go_must ((with_reducible refine (callsIn_wide.2 (rcheckLH H1 HF EC)).mono ?_); rintro e w3 ⟨rfl, hb3⟩))
        | (gi_at_call 7; go_must ((with_reducible refine (callsIn_wide.2 (worksLT _)).mono ?_); rintro e w4 ⟨rfl, hb4⟩)))
      exact ⟨.bool true, by simp [results, Tryz.f3, go_sem], rfl, ((H1.out.keep hb3.out).keep hb4.out).below⟩
    subst h0
    gi_upto_region 3 with (first
        | (gi_at_call 6; go_must ((with_reducible refine (callsIn_wide.2 (rcheckLH H1 HF EC)).mono ?_); rintro e w2 ⟨rfl, hb2⟩))
        | (gi_at_call 7; go_must ((with_reducible refine (callsIn_wide.2 (worksLT _)).mono ?_); rintro e w3 ⟨rfl, hb3⟩)))
    have H3 := hide ((H1.out.keep hb2.out).keep hb3.out)
    have B3 := hide ((B1.out.below hb2.out).below hb3.out)
    have c3 := H3.out.c
    have CN := hide (newLR H3 HF EC)
    clear c2 H1 B1
    gi_upto_region 4 with (refine ⟨trivial, ?_⟩; gi_at_call 8; go_must ((with_reducible refine (callsIn_wide.2 (Hid.out CN)).mono ?_); rintro e w4 ⟨bT, us, rfl, hb4, htab, hrv, hou⟩))
    have H4 := hide (H3.out.keep hb4.out)
    have B4 := hide (B3.out.below hb4.out)
    clear c3 CN H3 B3
    gi_upto_region 7 with (refine ⟨trivial, ?_⟩; gi_at_call 9; go_must ((with_reducible refine (callsIn_wide.2 (reads_is _ _ _)).mono ?_); rintro e w5' ⟨rfl, rfl⟩))
    obtain ⟨w5, hw5⟩ : ∃ w5, w5 = (w4.alloc (.cells #[.pointer (some ⟨bT, 0, none⟩)] 28)).alloc (.cells #[.int .i64 key] 3) := ⟨_, rfl⟩
    rw [← hw5]
    have hb45 : Below w4.heap.size w4 w5 := by rw [hw5]; exact ((Below.refl _ _).alloc (Nat.le_refl _) _).alloc (by simp) _
    have hp0 : Is w5 w4.heap.size #[.pointer (some ⟨bT, 0, none⟩)] := by rw [hw5]; exact (Is.made w4 _ _ rfl).alloc _
    have hp1 : Is w5 (w4.heap.size + 1) #[.int .i64 key] := by rw [hw5]; exact Is.made _ _ _ (by simp)
    have H5 := hide (H4.out.keep hb45)
    have B5 := hide (B4.out.below hb45)
    have HSQ := hide (readsc_seq 2 (by omega) bT key HKEY.out w4.heap.size (w4.heap.size + 1) (docReads ts) w5 (hrv.out.keep hb45) (hp0.cell 0 rfl) (hp1.cell 0 rfl) (by have := few_reads HF.out key; omega) (few_lists HF.out key))
    clear hw5 hb45 hp0 hp1 H4 B4
    gi_upto_region 8 with fail
    obtain ⟨w6, hw6⟩ : ∃ w6, w6 = w5.alloc (.cells #[.slice none 0 0] 35) := ⟨_, rfl⟩
    rw [← hw6]
    have hb6 : Below w5.heap.size w5 w6 := by rw [hw6]; exact (Below.refl _ _).alloc (Nat.le_refl _) _
    have hs6 : w6.heap.size = w5.heap.size + 1 := by rw [hw6]; simp
    have HG6 : Hid (GI w5 w5.heap.size (docReads ts key) (.slice none 0 0) [] w6) := hide (by
      rw [hw6]
      exact ⟨box0 (ownNil (Kn.start w5) w5.heap.size 39 5) #[.slice none 0 0] 35 rfl, by simp, by simp, by simp⟩)
    have H6 := hide (H5.out.keep hb6)
    have B6 := hide (B5.out.below hb6)
    have HB6 := hide hb6
    obtain ⟨BG, hBG⟩ : ∃ BG, BG = w5.heap.size := ⟨_, rfl⟩
    have HBG := hide hBG
    rw [← hBG] at HG6 ⊢
    have hw65 : w6.heap.size = BG + 1 := by omega
    obtain ⟨RS, hRS⟩ : ∃ RS, RS = docReads ts key := ⟨_, rfl⟩
    have hlen := few_reads HF.out key
    rw [← hRS] at HG6 hlen
    have HRS := hide hRS
    obtain ⟨m, hm⟩ : ∃ m, m = RS.length := ⟨_, rfl⟩
    have hm12 : m ≤ 1200 := by omega
    have HM := hide hm
    have HW65 := hide hw65
    have hwB : w.heap.size + 1 < BG := by have := B5.out.lt; omega
    clear hw6 hb6 hBG hRS hlen hm hs6 hw65
    gi_wp2
    apply mergeR
    intro key'
    refine rangesG rfl (by omega) (gf := 41) (lb := #[.pointer (some ⟨w4.heap.size, 0, none⟩), .pointer (some ⟨w4.heap.size + 1, 0, none⟩)]) rfl trivial (enters_of Tryz.func41 (by kernel_rfl) rfl) HSQ.out HB6.out (fun k q => Nat.lt_of_lt_of_le q HB6.out.size) (fun _ => rfl)
      (fun pre R W => pre.length ≤ nn ∧ ∃ v, GI w5 BG RS v pre W ∧ ∀ k, R k ↔ v.ownBlock = some k)
      (fun c pre W => c = .exit 0 ∧ pre.length = nn + 1 ∧ pre.length ≤ m ∧ ∃ v, GI w5 BG RS v (pre.take nn) W)
      (fun s A B row hs hg hr => by
        obtain ⟨h1, v, h2, h3⟩ := hs
        exact ⟨h1, v, h2.turn HB6.out.size hg hr, h3⟩)
      (fun c s A B row hs hg hr => by
        obtain ⟨h1, h2, h3, v, h4⟩ := hs
        exact ⟨h1, h2, h3, v, h4.turn HB6.out.size hg hr⟩)
      ⟨Nat.zero_le _, _, HG6.out, fun k => ⟨fun q => q.elim, fun q => by cases q⟩⟩ ?round ?done ?stop
    case done =>
      rintro D xs R W hD hxs ⟨hp, v, hgi, hiff⟩ hDf
      have hxl : xs.length = m := by rw [HM.out, HRS.out, ← hxs, List.length_map]
      have HGI : Hid (∃ v fs, fs.length = min m nn ∧ GI w5 BG RS v fs W) := hide ⟨v, xs, by omega, hgi⟩
      have HD := hide hD
      have HDF := hide hDf
      clear hp hgi hD hDf hxs hxl hiff
      clear xs v
      clear R
      revert HDF; revert HGI; revert HD; revert W; revert D
      exact key'.out
    case stop =>
      rintro D c pre W hD ⟨rfl, hp, hpm, v, hgi⟩ hDf
      have HGI : Hid (∃ v fs, fs.length = min m nn ∧ GI w5 BG RS v fs W) := hide ⟨v, pre.take nn, by rw [List.length_take]; omega, hgi⟩
      have HD := hide hD
      have HDF := hide hDf
      clear hp hpm hgi hD hDf
      clear pre v
      refine wpIn_exit (exit_r ?_)
      exact key'.out D W HD HGI HDF
    case round =>
      rintro l pre R x W0 V rfl hRR ⟨hp, v, hgi, hR⟩ hb0 ⟨hnx, hxok, hxf1, hxf2⟩
      have hs0 : BG < W0.heap.size := (show Is W0 BG #[v] from hgi.kn.hd).lt
      have hol : ∀ k, v.ownBlock = some k → k < W0.heap.size := fun k e => (World.ownsRow.lt (Knget (pre := [_]) hgi.kn) k e).2
      have hnew : RdOk v V x := ⟨hxok, fun q hl e z => by have := hxf1 q e; have := hol _ z; omega, fun q hl e z => by have := hxf2 q e; have := hol _ z; omega⟩
      have hfar : (∀ q, x.la = some q → BG < q.block) ∧ ∀ q, x.oa = some q → BG < q.block := ⟨fun q e => by have := hxf1 q e; omega, fun q e => by have := hxf2 q e; omega⟩
      have hgV := hgi.keep hb0
      have happ := hnx.app
      have hltm := hnx.1
      rw [List.length_map] at happ hltm
      rw [← HRS.out] at happ hltm
      rw [← HM.out] at hltm
      obtain ⟨j, hj⟩ : ∃ j, j = pre.length := ⟨_, rfl⟩
      rw [← hj] at hp hltm happ
      have HJ := hide hj
      have HNEW := hide hnew
      have HFAR := hide hfar
      have HGV := hide hgV
      have HAPP := hide happ
      have HRR := hide hRR
      have HRI := hide hR
      have HOL : Hid (∀ k, v.ownBlock = some k → k < V.heap.size) := hide (fun k e => by have := hol k e; have := hb0.size; omega)
      have hVB : BG < V.heap.size := by have := hb0.size; omega
      clear hgi hb0 hnx hxok hxf1 hxf2 hol hnew hfar hgV happ hj hRR hR hs0
      obtain ⟨ga, gc, hv⟩ := Own.own_form (Knget (pre := [_]) HGV.out.kn)
      rw [← HJ.out] at hv
      subst hv
      obtain ⟨r, la, lc, oa, oc⟩ := x
      dsimp only [rdA]
      obtain ⟨m3, hm3⟩ : ∃ m, m = r.list.length := ⟨_, rfl⟩
      obtain ⟨m4, hm4⟩ : ∃ m, m = r.own.length := ⟨_, rfl⟩
      obtain ⟨x0, hx0⟩ : ∃ x, x = r.txn := ⟨_, rfl⟩
      obtain ⟨x1, hx1⟩ : ∃ x, x = (r.op : Int) := ⟨_, rfl⟩
      obtain ⟨x2, hx2⟩ : ∃ x, x = r.key := ⟨_, rfl⟩
      have HC : Hid (rdC ⟨r, la, lc, oa, oc⟩ = [.int .i64 x0, .int .i64 x1, .int .i64 x2, .slice la m3 lc, .slice oa m4 oc]) := hide (by rw [hm3, hm4, hx0, hx1, hx2]; rfl)
      rw [← hm3, ← hm4, ← hx0, ← hx1, ← hx2]
      clear hm3 hm4 hx0 hx1 hx2
      gi_wp2
      refine ⟨(Below.refl _ _).alloc (Nat.le_refl _) _, fun W2 hg o ho1 ho2 => ?_⟩
      have hbA : Below V.heap.size V (V.alloc (.cells #[.int .i64 x0, .int .i64 x1, .int .i64 x2, .slice la m3 lc, .slice oa m4 oc] 38)) := (Below.refl _ _).alloc (Nat.le_refl _) _
      have hX1 : Is (V.alloc (.cells #[.int .i64 x0, .int .i64 x1, .int .i64 x2, .slice la m3 lc, .slice oa m4 oc] 38)) V.heap.size #[.int .i64 x0, .int .i64 x1, .int .i64 x2, .slice la m3 lc, .slice oa m4 oc] := Is.made _ _ _ rfl
      have hrow : ∀ r, some (w6.heap.size + 1) = some r → w6.heap.size ≤ r ∧ ∃ o : Obj, (V.alloc (.cells #[.int .i64 x0, .int .i64 x1, .int .i64 x2, .slice la m3 lc, .slice oa m4 oc] 38)).heap[r]? = some o ∧ o.isCells = false := fun r e => by
        cases e
        exact ⟨Nat.le_succ _, o, ho1, ho2⟩
      have hG2 := (HGV.out.keep hbA).turn HB6.out.size hg hrow
      have hN2 := rdok_turn (HNEW.out.keep hbA) hg (fun r e => (hrow r e).2)
      have hX2 := hX1.keep (only_rec hg) (is_not hX1 ⟨o, ho1, ho2⟩)
      have hO12 : Only (fun q => q = w6.heap.size + 1) V W2 := (Only.of_below hbA).trans (only_rec hg)
      have hz2 : V.heap.size < W2.heap.size := hX2.lt
      have c10 : W2.cell? ⟨BG, 0, none⟩ = some (.slice ga j gc) := (show Is W2 BG #[.slice ga j gc] from hG2.kn.hd).cell 0 rfl
      have c5 : W2.cell? ⟨w.heap.size + 1, 0, none⟩ = some (.int .u8 (nn : Int)) := (B5.out.below hG2.kn.below).cell 0 rfl
      have q7 : IntKind.i64.wrap (nn : Int) = nn := by rw [IntKind.wrap_i64]; omega
      have HG2 := hide hG2
      have HN2 := hide hN2
      have HX2 := hide hX2
      clear hbA hX1 hrow hG2 hN2 hX2 hO12 hg ho1 ho2
      by_cases hjn : j = nn
      · subst hjn
        gi_wp2
        refine ⟨Only.refl _ _, rfl, by rw [List.length_append, ← HJ.out]; rfl, by rw [List.length_append, ← HJ.out]; exact hltm, .slice ga j gc, ?_⟩
        rw [List.take_left' HJ.out.symm]
        exact HG2.out
      · have hjn' : ¬ (j : Int) = nn := by omega
        gi_upto_region 11 with fail
        obtain ⟨VD, hVD⟩ : ∃ VD, VD = W2.drew := ⟨_, rfl⟩
        have hbD : Below W2.heap.size W2 VD := by rw [hVD]; exact (Below.refl _ _).drew
        have hXD := HX2.out.below hbD
        have hGD := HG2.out.keep hbD
        have SD : VD.cell? ⟨V.heap.size, 0, none⟩ = some (.int .i64 x0) ∧ VD.cell? ⟨V.heap.size, 1, none⟩ = some (.int .i64 x1) ∧ VD.cell? ⟨V.heap.size, 2, none⟩ = some (.int .i64 x2) ∧ VD.cell? ⟨V.heap.size, 3, none⟩ = some (.slice la m3 lc) ∧ VD.cell? ⟨V.heap.size, 4, none⟩ = some (.slice oa m4 oc) ∧ VD.cell? ⟨BG, 0, none⟩ = some (.slice ga j gc) := ⟨hXD.cell 0 rfl, hXD.cell 1 rfl, hXD.cell 2 rfl, hXD.cell 3 rfl, hXD.cell 4 rfl, (show Is VD BG #[.slice ga j gc] from hGD.kn.hd).cell 0 rfl⟩
        refine Round.wpIn_round_last (k := 5) (S := fun w' : World => w'.cell? ⟨V.heap.size, 0, none⟩ = some (.int .i64 x0) ∧ w'.cell? ⟨V.heap.size, 1, none⟩ = some (.int .i64 x1) ∧ w'.cell? ⟨V.heap.size, 2, none⟩ = some (.int .i64 x2) ∧ w'.cell? ⟨V.heap.size, 3, none⟩ = some (.slice la m3 lc) ∧ w'.cell? ⟨V.heap.size, 4, none⟩ = some (.slice oa m4 oc) ∧ w'.cell? ⟨BG, 0, none⟩ = some (.slice ga j gc)) (by kernel_rfl) (by kernel_rfl) ?hno (by rfl) rfl (by kernel_rfl) (by kernel_rfl) ?_
        case hno =>
          rintro ⟨a', w', z⟩
          exact z
        rw [← hVD]
        have HBD := hide hbD
        clear hVD hbD hGD c10 c5
        refine wpAnyH_take (i := 0) (v := ?_) rfl (by kernel_rfl) (by kernel_rfl) (by kernel_rfl) (fun _ _ _ h => h) (Or.inl ⟨by rfl, ?_⟩) (by assumption) ?_
        rotate_left
        · (intro w hSw; (try dsimp only at hSw); go_simp; try with_reducible rfl)
        try simp only [List.getElem_toArray, List.getElem_cons_succ, List.getElem_cons_zero, Act.put, List.setIfInBounds_toArray, List.set_cons_zero, List.set_cons_succ]
        refine wpAnyH_take (i := 1) (v := ?_) rfl (by kernel_rfl) (by kernel_rfl) (by kernel_rfl) (fun _ _ _ h => h) (Or.inl ⟨by rfl, ?_⟩) (by assumption) ?_
        rotate_left
        · (intro w hSw; (try dsimp only at hSw); go_simp; try with_reducible rfl)
        try simp only [List.getElem_toArray, List.getElem_cons_succ, List.getElem_cons_zero, Act.put, List.setIfInBounds_toArray, List.set_cons_zero, List.set_cons_succ]
        refine wpAnyH_ready (rs := [2]) (by kernel_rfl) (by simp) ?_
        refine AllReadyH.cons (by rfl) (fun KK hKK => ?_) AllReadyH.nil
        simp only [List.getElem_toArray, List.getElem_cons_succ, List.getElem_cons_zero]
        go_simp
        go_at_call 10
        (with_reducible refine (of_any _ _ _ _ _ _ _ _ _ _).mono ?_)
        rintro e V4 ⟨rfl, hb4⟩
        have hX4 := hXD.below hb4.out
        have hbW4 : Below W2.heap.size W2 V4 := HBD.out.trans (hb4.out.mono HBD.out.size)
        have hG4 := HG2.out.keep hbW4
        have S4 : V4.cell? ⟨V.heap.size, 0, none⟩ = some (.int .i64 x0) ∧ V4.cell? ⟨V.heap.size, 1, none⟩ = some (.int .i64 x1) ∧ V4.cell? ⟨V.heap.size, 2, none⟩ = some (.int .i64 x2) ∧ V4.cell? ⟨V.heap.size, 3, none⟩ = some (.slice la m3 lc) ∧ V4.cell? ⟨V.heap.size, 4, none⟩ = some (.slice oa m4 oc) ∧ V4.cell? ⟨BG, 0, none⟩ = some (.slice ga j gc) := ⟨hX4.cell 0 rfl, hX4.cell 1 rfl, hX4.cell 2 rfl, hX4.cell 3 rfl, hX4.cell 4 rfl, (show Is V4 BG #[.slice ga j gc] from hG4.kn.hd).cell 0 rfl⟩
        refine hKK.out _ _ S4 (fun hH0 => ?_)
        clear hKK KK
        try simp only [List.getElem_toArray, List.getElem_cons_succ, List.getElem_cons_zero, Act.put, List.setIfInBounds_toArray, List.set_cons_zero, List.set_cons_succ]
        refine wpAnyH_ready (rs := [3]) (by kernel_rfl) (by simp) ?_
        refine AllReadyH.cons (by rfl) (fun KK hKK => ?_) AllReadyH.nil
        simp only [List.getElem_toArray, List.getElem_cons_succ, List.getElem_cons_zero]
        go_simp
        have hbV : Below V4.heap.size V4 (V4.alloc (.cells #[.int .i64 x0, .int .i64 x1, .int .i64 x2, .slice la m3 lc, .slice oa m4 oc] 39)) := (Below.refl _ _).alloc (Nat.le_refl _) _
        have hnews : ∀ (i : Nat) (v : Value), ([.int .i64 x0, .int .i64 x1, .int .i64 x2, .slice la m3 lc, .slice oa m4 oc] : List Value)[i]? = some v → (V4.alloc (.cells #[.int .i64 x0, .int .i64 x1, .int .i64 x2, .slice la m3 lc, .slice oa m4 oc] 39)).cell? ⟨V4.heap.size, i, none⟩ = some v := fun i v hv =>
          (Is.made V4 #[.int .i64 x0, .int .i64 x1, .int .i64 x2, .slice la m3 lc, .slice oa m4 oc] 39 rfl).cell i (by simpa using hv)
        have hbT : Below W2.heap.size W2 (V4.alloc (.cells #[.int .i64 x0, .int .i64 x1, .int .i64 x2, .slice la m3 lc, .slice oa m4 oc] 39)) := hbW4.trans (hbV.mono hbW4.size)
        have HGB := hide (HG2.out.keep hbT)
        have HNB := hide (HN2.out.keep hbT)
        have HBT := hide hbT
        have hXB := hX4.below hbV
        have SB : (V4.alloc (.cells #[.int .i64 x0, .int .i64 x1, .int .i64 x2, .slice la m3 lc, .slice oa m4 oc] 39)).cell? ⟨V.heap.size, 0, none⟩ = some (.int .i64 x0) ∧ (V4.alloc (.cells #[.int .i64 x0, .int .i64 x1, .int .i64 x2, .slice la m3 lc, .slice oa m4 oc] 39)).cell? ⟨V.heap.size, 1, none⟩ = some (.int .i64 x1) ∧ (V4.alloc (.cells #[.int .i64 x0, .int .i64 x1, .int .i64 x2, .slice la m3 lc, .slice oa m4 oc] 39)).cell? ⟨V.heap.size, 2, none⟩ = some (.int .i64 x2) ∧ (V4.alloc (.cells #[.int .i64 x0, .int .i64 x1, .int .i64 x2, .slice la m3 lc, .slice oa m4 oc] 39)).cell? ⟨V.heap.size, 3, none⟩ = some (.slice la m3 lc) ∧ (V4.alloc (.cells #[.int .i64 x0, .int .i64 x1, .int .i64 x2, .slice la m3 lc, .slice oa m4 oc] 39)).cell? ⟨V.heap.size, 4, none⟩ = some (.slice oa m4 oc) ∧ (V4.alloc (.cells #[.int .i64 x0, .int .i64 x1, .int .i64 x2, .slice la m3 lc, .slice oa m4 oc] 39)).cell? ⟨BG, 0, none⟩ = some (.slice ga j gc) := ⟨hXB.cell 0 rfl, hXB.cell 1 rfl, hXB.cell 2 rfl, hXB.cell 3 rfl, hXB.cell 4 rfl, (show Is (V4.alloc (.cells #[.int .i64 x0, .int .i64 x1, .int .i64 x2, .slice la m3 lc, .slice oa m4 oc] 39)) BG #[.slice ga j gc] from HGB.out.kn.hd).cell 0 rfl⟩
        have hszB : w5.heap.size ≤ (V4.alloc (.cells #[.int .i64 x0, .int .i64 x1, .int .i64 x2, .slice la m3 lc, .slice oa m4 oc] 39)).heap.size := HGB.out.kn.below.size
        clear hbV hbT hX4 hG4 hXD
        generalize (V4.alloc (.cells #[.int .i64 x0, .int .i64 x1, .int .i64 x2, .slice la m3 lc, .slice oa m4 oc] 39)) = VB at hnews HGB HNB HBT hXB SB hszB ⊢
        have hown := Knget (pre := [_]) HGB.out.kn
        refine hKK.out _ _ SB (fun hH1 => ?_)
        clear hKK KK
        try simp only [List.getElem_toArray, List.getElem_cons_succ, List.getElem_cons_zero, Act.put, List.setIfInBounds_toArray, List.set_cons_zero, List.set_cons_succ]
        refine wpAnyH_ready (rs := [4]) (by kernel_rfl) (by simp) ?_
        refine AllReadyH.cons (by rfl) (fun KK hKK => ?_) AllReadyH.nil
        refine step_app Tryz.underlying35 Tryz.infoRR rfl (by decide) (by decide) (by rfl) (.tmp 47) (.tmp 50) (by rfl) w5.heap.size (.slice ga j gc) pre.length (pre.flatMap rdC) (by rfl) hown V4.heap.size [.int .i64 x0, .int .i64 x1, .int .i64 x2, .slice la m3 lc, .slice oa m4 oc] (by rfl) rfl hnews (fun u hu => by simp at hu; rcases hu with rfl | rfl | rfl | rfl | rfl <;> rfl) (by rw [← HJ.out]; omega) hszB ?_
        intro v6 w8 hown6 hg6 hat6 _
        have hK8 := growAt (pre := [_]) HGB.out.kn hown6 hg6 hat6
        have hbx8 : Is w8 BG #[.slice ga j gc] := hK8.hd
        have hX8 := hXB.keep (only_grown hg6) (show ¬ (Value.slice ga j gc).ownBlock = some V.heap.size from fun e => by have := HOL.out _ e; omega)
        have S8 : w8.cell? ⟨V.heap.size, 0, none⟩ = some (.int .i64 x0) ∧ w8.cell? ⟨V.heap.size, 1, none⟩ = some (.int .i64 x1) ∧ w8.cell? ⟨V.heap.size, 2, none⟩ = some (.int .i64 x2) ∧ w8.cell? ⟨V.heap.size, 3, none⟩ = some (.slice la m3 lc) ∧ w8.cell? ⟨V.heap.size, 4, none⟩ = some (.slice oa m4 oc) ∧ w8.cell? ⟨BG, 0, none⟩ = some (.slice ga j gc) := ⟨hX8.cell 0 rfl, hX8.cell 1 rfl, hX8.cell 2 rfl, hX8.cell 3 rfl, hX8.cell 4 rfl, hbx8.cell 0 rfl⟩
        obtain ⟨a6, c6, rfl⟩ := Own.own_form (show (ownN w5.heap.size 39 5 v6 (pre.length + 1) (pre.flatMap rdC ++ [.int .i64 x0, .int .i64 x1, .int .i64 x2, .slice la m3 lc, .slice oa m4 oc])).P w8 from hown6)
        have hfr := hbx8.frozen 0
        have hGI : GI w5 BG RS (.slice a6 (pre.length + 1) c6) (pre ++ [⟨r, la, lc, oa, oc⟩]) (w8.setCell ⟨BG, 0, none⟩ (.slice a6 (pre.length + 1) c6)) := by
          have hpo : Only (fun k => k = BG) w8 (w8.setCell ⟨BG, 0, none⟩ (.slice a6 (pre.length + 1) c6)) := (Only.refl _ _).put 0 _
          refine ⟨?_, fun e he => ?_, fun e he => ?_, ?_⟩
          · have hK9 := putBox (pre := []) hK8 0 (.slice a6 (pre.length + 1) c6) rfl hbx8
            rw [List.length_append, List.flatMap_append]
            have e1 : [(⟨r, la, lc, oa, oc⟩ : RdE)].flatMap rdC = [.int .i64 x0, .int .i64 x1, .int .i64 x2, .slice la m3 lc, .slice oa m4 oc] := by rw [List.flatMap_cons, List.flatMap_nil, List.append_nil]; exact HC.out
            rw [e1]
            exact hK9
          · rcases List.mem_append.1 he with he | he
            · exact ((HGB.out.ok e he).grow hg6 hat6).only hpo (fun q _ z => by have := (HGB.out.far e he).1 q z; omega) (fun q _ z => by have := (HGB.out.far e he).2 q z; omega)
            · obtain rfl := List.mem_singleton.1 he
              exact (HNB.out.grow hg6 hat6).only hpo (fun q _ z => by have := HFAR.out.1 q z; omega) (fun q _ z => by have := HFAR.out.2 q z; omega)
          · rcases List.mem_append.1 he with he | he
            · exact HGB.out.far e he
            · obtain rfl := List.mem_singleton.1 he
              exact HFAR.out
          · rw [List.length_append, List.map_append, ← HJ.out]
            exact HAPP.out
        have hT : Only (fun k => (k < w6.heap.size ∧ ¬ k < w5.heap.size) ∨ R k ∨ V.heap.size ≤ k) W2 (w8.setCell ⟨BG, 0, none⟩ (.slice a6 (pre.length + 1) c6)) :=
          ((Only.of_below HBT.out).trans (Only.mono (S' := fun k => (k < w6.heap.size ∧ ¬ k < w5.heap.size) ∨ R k ∨ V.heap.size ≤ k) (only_grown hg6) (fun k e => Or.inr (Or.inl ((HRI.out k).2 e))))).setCell (p := ⟨BG, 0, none⟩) (.inl (.inl ⟨by have := HW65.out; show BG < _; omega, by have := HBG.out; show ¬ BG < _; omega⟩)) _
        have hR' : ∀ k, (Value.slice a6 (pre.length + 1) c6).ownBlock = some k → R k ∨ V.heap.size ≤ k := fun k e => by
          rcases hat6 with z | z
          · exact .inl ((HRI.out k).2 (z ▸ e))
          · rw [z] at e
            have := Option.some.inj e
            have := HBT.out.size
            exact .inr (by omega)
        have HGI' := hide hGI
        have HT := hide hT
        have HR' := hide hR'
        clear hown6 hg6 hat6 hK8 hbx8 hX8 hGI hT hR' hnews hown hXB
        refine hKK.out _ _ S8 (fun hH3 => ?_)
        clear hKK KK
        try simp only [List.getElem_toArray, List.getElem_cons_succ, List.getElem_cons_zero, Act.put, List.setIfInBounds_toArray, List.set_cons_zero, List.set_cons_succ]
        clear SB S4 SD hH0 hH1 hH3
        refine wpAnyH_done (by kernel_rfl) ?_ _
        refine Last.done_last ?_
        refine wpOp_step rfl (fun KK hKK => ?_)
        simp only [List.getElem_toArray, List.getElem_cons_succ, List.getElem_cons_zero]
        go_simp
        refine hKK _ _ ?_
        clear hKK
        go_simp
        gi_wp2
        exact ⟨HT.out, fun k => (Value.slice a6 (pre.length + 1) c6).ownBlock = some k, ⟨by rw [List.length_append, ← HJ.out]; show j + 1 ≤ nn; omega, _, HGI'.out, fun k => Iff.rfl⟩, HR'.out⟩
    intro D W HD HGI HDF
    obtain ⟨v, fs, hfl, hgi⟩ := HGI.out
    obtain ⟨ga, gc, rfl⟩ := Own.own_form (Knget (pre := [_]) hgi.kn)
    obtain ⟨kk, hkk⟩ : ∃ kk, kk = fs.length := ⟨_, rfl⟩
    rw [← hkk] at hfl
    have HG := hide hgi
    have c10 : W.cell? ⟨BG, 0, none⟩ = some (.slice ga kk gc) := by rw [hkk]; exact (show Is W BG _ from hgi.kn.hd).cell 0 rfl
    have HK := hide hkk
    have HLW := hide (H5.out.keep hgi.kn.below)
    have HNW := hide (B5.out.below hgi.kn.below)
    have c3 := HLW.out.c
    have CR : Hid (Calls Tryz.prog 11 #[.agg #[.slice ta N tcap], .int .i64 key] W fun e w' => ∃ a c, ∃ es : List RdE, e = .returned (.slice a m c) ∧ Hid (m ≤ c) ∧ Hid (Row5 w' a m (es.flatMap rdC) ∧ es.map (·.r) = RS ∧ ∀ e ∈ es, RdE.ok w' e) ∧ Hid (Below W.heap.size W w')) := hide (by
      refine (rreads_any _ _ ts key W HLW.out.hist (fun b q => by have := HLW.out.below.size; omega) (by have := HF.out.1; omega) HF.out).mono ?_
      rintro e w' ⟨⟨a, c, es, rfl, h1, h2, h3, h4⟩, hb⟩
      rw [← HRS.out, ← HM.out] at *
      exact ⟨a, c, es, rfl, h1, ⟨h2, h3, h4⟩, hb⟩)
    clear hgi hkk
    gi_upto_region 13 with (refine ⟨trivial, ?_⟩; gi_at_call 11; go_must ((with_reducible refine (callsIn_wide.2 (Hid.out CR)).mono ?_); rintro e w8 ⟨wa, wc, es, rfl, hwc, hes, hb8⟩))
    obtain ⟨hr5, hesm, hesok⟩ := hes.out
    have hel : es.length = m := by rw [HM.out, ← hesm, List.length_map]
    obtain ⟨ra, rc, er, hrg⟩ := own_row5 (show W.ownsRow _ _ _ _ _ _ from Knget (pre := [_]) HG.out.kn)
    cases er
    have hkm : kk ≤ m := by omega
    have CS : Hid (Calls Tryz.prog 12 #[.slice ga kk gc, .slice wa kk wc] w8.drew fun e w' => e = .returned (.bool true) ∧ Hid (Below w8.drew.heap.size w8.drew w')) := hide (by
      have hbd : Below w8.heap.size w8 w8.drew := (Below.refl _ _).drew
      refine samers_any ga wa gc wc kk fs (es.take kk) w8.drew ?_ (row5_keep (row5_keep hrg hb8.out) hbd) ?_ (fun x hx => (((HG.out.ok x hx).ok.keep hb8.out).keep hbd)) (fun x hx => (hesok x (List.mem_of_mem_take hx)).keep hbd) HK.out (by omega) (fun x hx => ?_)
      · rw [HG.out.map, ← HK.out, List.map_take, hesm]
      · rw [List.length_take, Nat.min_eq_left (by omega)]
        exact row5_keep (row5_take hr5 (by omega)) hbd
      · have h1 : x.r ∈ RS := by
          have := List.mem_map_of_mem (f := fun x : RdE => x.r) hx
          rw [HG.out.map] at this
          exact List.mem_of_mem_take this
        rw [HRS.out] at h1
        exact few_lists HF.out key x.r h1)
    have hwc' : (m : Int) ≤ wc := by have := hwc.out; omega
    have hkw : (kk : Int) ≤ wc := by have := hwc.out; omega
    have hkw2 : kk ≤ wc := by have := hwc.out; omega
    have k11 : w8.cell? ⟨BG, 0, none⟩ = some (.slice ga kk gc) := (hb8.out.cell (p := ⟨_, _, none⟩) (lt_of_cell c10)).trans c10
    have k6 : w8.cell? ⟨w.heap.size + 1, 0, none⟩ = some (.int .u8 (nn : Int)) := (HNW.out.below hb8.out).cell 0 rfl
    have q7 : IntKind.i64.wrap (nn : Int) = nn := by rw [IntKind.wrap_i64]; omega
    have HFIN : Hid (∀ w9, Below w8.drew.heap.size w8.drew w9 → w9.heap[D]? = some (.deferred (some [])) ∧ Below w.heap.size w (w9.putObj D (.deferred none)) ∧ w9.cell? ⟨BG, 0, none⟩ = some (.slice ga kk gc) ∧ w9.cell? ⟨w.heap.size + 1, 0, none⟩ = some (.int .u8 (nn : Int))) := hide (fun w9 hb9 => by
      have hb89 : Below w8.heap.size w8 w9 := (Below.refl _ _).drew.trans hb9
      have hDW : D < W.heap.size := (Array.getElem?_eq_some_iff.1 HDF.out).1
      have h7 : w9.heap[D]? = some (.deferred (some [])) := (hb89.block D (Nat.lt_of_lt_of_le hDW hb8.out.size)).trans ((hb8.out.block D hDW).trans HDF.out)
      have b1 : Below w.heap.size w w9 := ((HLW.out.keep hb8.out).keep hb89).below
      refine ⟨h7, b1.grown (grownBy_putObj' w9 D (.deferred none)) b1.size (fun k e => by cases e; have := HD.out; have := H6.out.below.size; omega), (hb89.cell (p := ⟨_, _, none⟩) (lt_of_cell k11)).trans k11, (hb89.cell (p := ⟨_, _, none⟩) (lt_of_cell k6)).trans k6⟩)
    clear hr5 hesm hesok hel hrg hes c10 c3 CR
    rcases Nat.lt_or_ge nn m with q2 | q2
    · obtain rfl : kk = nn := by omega
      clear hfl
      have q3 : (kk : Int) < m := by omega
      have q4 : min (m : Int) (kk : Int) = kk := by omega
      have q5 : min m kk = kk := by omega
      refine wpIn_wide.2 ?_
      go_region_held3 (fun w' => w'.cell? ⟨BG, 0, none⟩ = some (.slice ga kk gc) ∧ w'.cell? ⟨w.heap.size + 1, 0, none⟩ = some (.int .u8 (kk : Int))) (first | exact ⟨by assumption, by assumption⟩ | go_keep)
        (first | (go_at_call 12; (with_reducible refine (Hid.out CS).mono ?_); rintro e w9 ⟨rfl, HB9⟩; obtain ⟨-, -, k119, k69⟩ := HFIN.out w9 HB9.out))
      gi_wp2
      have hfin := HFIN.out w9 HB9.out
      refine ⟨by simp, .inl ⟨_, _, rfl, run_takeDeferred hfin.1, ?_⟩⟩
      exact ⟨.bool true, by simp [results, Tryz.f3, go_sem], rfl, hfin.2.1⟩
    · obtain rfl : kk = m := by omega
      clear hfl
      have q3 : ¬ (nn : Int) < kk := by omega
      have q4 : min (kk : Int) (nn : Int) = kk := by omega
      have q5 : min kk nn = kk := by omega
      have q6 : ¬ nn < kk := by omega
      refine wpIn_wide.2 ?_
      go_region_held3 (fun w' => w'.cell? ⟨BG, 0, none⟩ = some (.slice ga kk gc) ∧ w'.cell? ⟨w.heap.size + 1, 0, none⟩ = some (.int .u8 (nn : Int))) (first | exact ⟨by assumption, by assumption⟩ | go_keep)
        (first | (go_at_call 12; (with_reducible refine (Hid.out CS).mono ?_); rintro e w9 ⟨rfl, HB9⟩; obtain ⟨-, -, k119, k69⟩ := HFIN.out w9 HB9.out))
      gi_wp2
      have hfin := HFIN.out w9 HB9.out
      refine ⟨by simp, .inl ⟨_, _, rfl, run_takeDeferred hfin.1, ?_⟩⟩
      exact ⟨.bool true, by simp [results, Tryz.f3, go_sem], rfl, hfin.2.1⟩
end Go.Proofs.YtkinmllflodhaaaGreat.Walk
