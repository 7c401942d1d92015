/- Joined out of the texts TabColl, TabOrd, TabNew, TabRun, HistOps, EncMay, Grow, in that order. -/
import Derived.Test.YtkinmllflodhaaaGreatAll10
import Derived.Maps.OwnIn
import Derived.Deep.QuietTactic
import Derived.BigQuiet
import Derived.Deep.RegionWith
import Derived.Outline
import Derived.Test.YtkinmllflodhaaaGreatAll4
import Derived.Test.YtkinmllflodhaaaGreatAll2
import Derived.Deep.DeepMust
import Derived.Test.YtkinmllflodhaaaGreatAll1
import Derived.Laws.OwnMore
import Derived.Deep.AppendLies
/- Transactions in order: collected out of what goes through them, and sorted. -/
namespace Go.Proofs.YtkinmllflodhaaaGreat.Tab
open Go.RowKit Go.Proofs.YtkinmllflodhaaaGreat.Dig Go.Proofs.YtkinmllflodhaaaGreat.Mem Go.Proofs.YtkinmllflodhaaaGreat.Hist Go.Proofs.YtkinmllflodhaaaGreat.Own Go.Proofs.YtkinmllflodhaaaGreat.Thing Go.Shelf
set_option linter.unusedVariables false
set_option linter.unusedSimpArgs false
attribute [local go_sem] Oper.semAt_some

theorem Tryz.infoTT : (Tryz.prog.info? 55).map (fun i => (i.zero, i.size, i.bytes)) = some (some (.agg #[.int .i64 0, .bool false, .slice none 0 0]), 3, 40) := by kernel_rfl
set_option maxRecDepth 100000 in
set_option maxHeartbeats 4000000 in
theorem valtc_in (F : Fence) (n : Nat) (h7 : F.fn 86) (hro : F.round = none) (hn : 1 ≤ n) (l Bs n₀ B N : Nat) (tv : Value) (ts : List TxnM) (w0 : World) (h : TxnsAt (fun b => b < w0.heap.size) w0 tv ts) (hn0 : n₀ = w0.heap.size)
    (hts : ts.length ≤ 100000) (hN : ts.length ≤ N) (J Jx : List (TI w0) → World → Prop) (hJ : AbidesFrom B J)
    (hY : ∀ pre x W, J pre W → pre.length < N → YieldAt F (n - 1) Tryz.prog l #[.agg #[.int .i64 x.t.id, .bool x.t.ab, .slice x.oa x.t.ops.length x.oc]] W fun e W' =>
      (e = .returned (.bool true) ∧ J (pre ++ [x]) W' ∧ Below n₀ W W') ∨ (e = .returned (.bool false) ∧ Jx (pre ++ [x]) W'))
    (W : World) (hW : Below n₀ w0 W) (hBs : W.cell? ⟨Bs, 0, none⟩ = some tv) (h0 : J [] W) :
    CallsIn F n Tryz.prog 86 #[.func (.yield l) #[] #[], .pointer (some ⟨Bs, 0, none⟩)] W fun e W' => (∃ v, e = .returned v) ∧
      ((∃ ys : List (TI w0), ys.map (·.t) = ts ∧ J ys W') ∨ (∃ pre, True ∧ Jx pre W')) := by
  obtain ⟨a, cap, rfl, _, _⟩ := h.shape
  have HH := hide h
  have HN := hide hN
  have HJ := hide hJ
  have HY := hide hY
  have HN0 := hide hn0
  refine callsIn_of_wp Tryz.func86 rfl h7 ?_ hro
  simp only [Tryz.ntmps86, List.size_toArray, List.length_cons, List.length_nil, Nat.reduceAdd, Nat.reduceSub, Array.replicate_succ, Array.replicate_zero, List.push_toArray, List.append_toArray, List.nil_append, List.cons_append]
  clear h hN hJ hY hn0
  gi_wp2
  gi_loopw [7] (fun i wr => ∃ (k : Nat) (pre : List (TI w0)), k ≤ ts.length ∧ i = .int .i64 k ∧ Hid (pre.map (·.t) = ts.take k ∧ J pre wr ∧ Below n₀ w0 wr))
    (fun i _ => ts.length - (intOf i).toNat)
  case atStart => exact ⟨0, [], Nat.zero_le _, rfl, rfl, h0, hW⟩
  case round =>
    obtain ⟨k, pre, hk, rfl, hR⟩ := hrel
    by_cases hlt : k < ts.length
    · obtain ⟨b, off, oa, ocap, rfl, hFb, hbl, c0, c1, c2, hops, wid⟩ := HH.out.at hlt
      have hb0 : b < n₀ := by rw [HN0.out]; exact hbl
      have kp : ∀ {g i : Nat} {u : Value}, g < n₀ → w0.cell? ⟨g, i, none⟩ = some u → wr.cell? ⟨g, i, none⟩ = some u := fun hg hc => (hR.out.2.2.cell (p := ⟨_, _, none⟩) hg).trans hc
      have d0 := kp hb0 c0
      have d1 := kp hb0 c1
      have d2 := kp hb0 c2
      obtain ⟨t, ht⟩ : ∃ t, t = ts[k] := ⟨_, rfl⟩
      rw [← ht] at d0 d1 d2 hops wid
      obtain ⟨x, hx⟩ : ∃ x : TI w0, x = ⟨t, oa, ocap, hops, wid⟩ := ⟨_, rfl⟩
      obtain ⟨m, hm⟩ : ∃ m, m = t.ops.length := ⟨_, rfl⟩
      have hpl : pre.length < N := by
        have := congrArg List.length hR.out.1
        rw [List.length_map, List.length_take] at this
        have := HN.out
        omega
      obtain ⟨fn, tmps, assign, body, hy, hR3⟩ := HY.out pre x (wr.alloc (.cells #[.int .i64 t.id, .bool t.ab, .slice oa m ocap] 55)) (abides_alloc HJ.out _ hR.out.2.1) hpl
      have hnext : Hid ((pre ++ [x]).map (·.t) = ts.take (k + 1)) := by
        rw [List.map_append, hR.out.1, List.take_succ_eq_append_getElem hlt, hx, ← ht]
        exact rfl
      have hwr : n₀ ≤ wr.heap.size := by have := hR.out.2.2.size; have := HN0.out; omega
      have HB2 := hide (show Below n₀ w0 (wr.alloc (.cells #[.int .i64 t.id, .bool t.ab, .slice oa m ocap] 55)) from hR.out.2.2.alloc hwr _)
      rw [show (#[.agg #[.int .i64 x.t.id, .bool x.t.ab, .slice x.oa x.t.ops.length x.oc]] : Array Value) = #[.agg #[.int .i64 t.id, .bool t.ab, .slice oa m ocap]] by rw [hx, hm]] at hy
      rw [← hm] at d2
      clear hx ht c0 c1 c2 hops wid hb0 kp hFb hbl hm hR hpl
      gi_wp2
      refine hR3.mono ?_
      rintro e W3 (⟨rfl, hJ3, hk3⟩ | ⟨rfl, hJx3⟩)
      · gi_wp2
        go_roundw
        case rel => exact ⟨k + 1, pre ++ [x], by omega, by simp, hnext.out, hJ3, HB2.out.trans hk3⟩
        case measure => simp [intOf]; omega
      · gi_wp2
        refine bodyPost_ret (results_none rfl _ _ _) rfl ?_
        exact ⟨⟨_, rfl⟩, .inr ⟨_, trivial, hJx3⟩⟩
    · obtain rfl : k = ts.length := by omega
      gi_wp2
      go_end0
      refine ⟨⟨_, rfl⟩, .inl ⟨pre, ?_, hR.out.2.1⟩⟩
      have := hR.out.1
      rwa [List.take_length] at this
theorem valt_any (a : Option Addr) (len cap : Nat) (w : World) :
    Calls Tryz.prog 64 #[.slice a len cap] w fun e w' => e = .returned (.func (.func 86) #[] #[.pointer (some ⟨w.heap.size, 0, none⟩)]) ∧ w' = w.alloc (.cells #[.slice a len cap] 22) := by
  go_enter Tryz.func64, Tryz.ntmps64
  go_wp2
  go_ret
  exact ⟨rfl, rfl⟩
def itC {w0 : World} (pre : List (TI w0)) : List Value := (pre.map encT).flatten
set_option maxRecDepth 100000 in
set_option maxHeartbeats 4000000 in
/-- AppendSeq, onto nil, of what goes through transactions. -/
theorem aseq_any (Bs : Nat) (tv : Value) (ts : List TxnM) (w0 w : World) (h : TxnsAt (fun b => b < w0.heap.size) w0 tv ts) (hts : ts.length ≤ 100000) (hb : Below w0.heap.size w0 w) (hBs : w.cell? ⟨Bs, 0, none⟩ = some tv) :
    Calls Tryz.prog 93 #[.slice none 0 0, .func (.func 86) #[] #[.pointer (some ⟨Bs, 0, none⟩)]] w fun e w' => ∃ (v : Value) (ys : List (TI w0)), e = .returned v ∧ ys.map (·.t) = ts ∧ w'.ownsRow w.heap.size 55 3 v ys.length (itC ys) ∧ Below w.heap.size w w' := by
  have HH := hide h
  have HB := hide hb
  have HBS := hide hBs
  refine (callsIn_wide (n := 3)).1 ?_
  refine callsIn_of_wp_marks Tryz.func93 rfl trivial ?_ rfl
  simp only [Tryz.ntmps93, List.size_toArray, List.length_cons, List.length_nil, Nat.reduceAdd, Nat.reduceSub, Array.replicate_succ, Array.replicate_zero, List.push_toArray, List.append_toArray, List.nil_append, List.cons_append]
  clear h hb hBs
  gi_wp2
  obtain ⟨w1, hw1⟩ : ∃ w1, w1 = w.alloc (.cells #[.slice none 0 0] 22) := ⟨_, rfl⟩
  rw [← hw1]
  have hsz1 : w1.heap.size = w.heap.size + 1 := by rw [hw1]; simp
  have hb01 : w0.heap.size ≤ w.heap.size := HB.out.size
  have hB1 : Below w.heap.size w w1 := by rw [hw1]; exact (Below.refl _ _).alloc (Nat.le_refl _) _
  have hK1 : Kn w [boxT w.heap.size #[.slice none 0 0], ownN w.heap.size 55 3 (.slice none 0 0) 0 []] w1 := by
    rw [hw1]
    exact box0 (ownNil (Kn.start w) w.heap.size 55 3) #[.slice none 0 0] 22 rfl
  have hBs1 : w1.cell? ⟨Bs, 0, none⟩ = some tv := (hB1.cell (p := ⟨Bs, 0, none⟩) (lt_of_cell HBS.out)).trans HBS.out
  have HK1 := hide hK1
  have HB1 := hide hB1
  have HBS1 := hide hBs1
  clear hw1 hK1 hB1 hBs1
  obtain ⟨i0, hi, hz0, hz1, hz2⟩ := info_parts Tryz.infoTT
  refine wpIn_rangeFunc_ownH (w0 := w1) (N := ts.length) (encs := fun x : TI w0 => #[.agg #[.int .i64 x.t.id, .bool x.t.ab, .slice x.oa x.t.ops.length x.oc]]) (S := fun ys => ys.map (·.t) = ts) (Sp := fun _ => True) (Kp := Below w0.heap.size) rfl (by omega) (gf := 86) (lb := #[.pointer (some ⟨Bs, 0, none⟩)]) rfl trivial (enters_of Tryz.func86 (by kernel_rfl) rfl)
    (fun l J Jx W hW hJ hJx hY h0 => valtc_in Fence.wide (3 - 1) trivial rfl (by omega) l Bs w0.heap.size W.heap.size ts.length tv ts w0 HH.out rfl hts (Nat.le_refl _) J Jx hJ hY W ((HB.out.trans (HB1.out.mono hb01)).trans (hW.mono (by omega))) ((hW.cell (p := ⟨Bs, 0, none⟩) (lt_of_cell HBS1.out)).trans HBS1.out) h0) belowK_t (belowK_b (by omega)) (Below.refl _ _) (fun _ => rfl)
    (fun pre W => ∃ v, Kn w [boxT w.heap.size #[v], ownN w.heap.size 55 3 v pre.length (itC pre)] W)
    (fun _ _ _ => False)
    (fun pre W W' row hs hg hr => by
      obtain ⟨v, hk⟩ := hs
      refine ⟨v, Kn_fixed hk (fun t ht => ?_) (by omega) hg hr⟩
      simp only [List.mem_cons, List.not_mem_nil, or_false] at ht
      rcases ht with rfl | rfl
      · exact fixed_box _ _ _
      · exact fixed_own _ _ _ _ _ _ _)
    (fun _ _ _ _ _ hs _ _ => hs)
    ⟨_, HK1.out⟩
    (fun x a' W => ∃ Bx, w.heap.size < Bx ∧ Is W Bx #[.int .i64 x.t.id, .bool x.t.ab, .slice x.oa x.t.ops.length x.oc] ∧ a' = { tmps := #[.slice none 0 0, .func (.func 86) #[] #[.pointer (some ⟨Bs, 0, none⟩)], .pointer (some ⟨w.heap.size, 0, none⟩), undef, .slice none 0 0, .pointer (some ⟨Bx, 0, none⟩), .func (.func 86) #[] #[.pointer (some ⟨Bs, 0, none⟩)], .agg #[.int .i64 x.t.id, .bool x.t.ab, .slice x.oa x.t.ops.length x.oc], undef, undef, undef, undef, undef], defers := [] })
    (fun x a' _ W W' row hs hg hr => by
      obtain ⟨Bx, h1, h2, h3⟩ := hs
      exact ⟨Bx, h1, fixed_box w1.heap.size Bx _ W W' row h2 hg hr, h3⟩) ?assign ?body ?done ?stop
  case assign =>
    rintro l pre x W K ⟨v, hk⟩ hK
    have hsW := hk.below.size
    gi_wp2
    exact hK _ _ ((KeepsOthers.alloc _ _).from _) ((Below.refl _ W).alloc (by omega) _) ⟨v, hk.keep ((Below.refl _ _).alloc (Nat.le_refl _) _)⟩ ⟨W.heap.size, by have := Knlt (pre := []) hk; have := (show Is W w.heap.size #[v] from hk.hd).lt; omega, Is.made W _ 55 rfl, rfl⟩
  case body =>
    rintro l pre x a' W hl hrec ⟨v, hk⟩ ⟨Bx, hBx, bX, rfl⟩ hlt
    have c0 : W.cell? ⟨w.heap.size, 0, none⟩ = some v := (show Is W w.heap.size #[v] from hk.hd).cell 0 rfl
    have f0 := (show Is W w.heap.size #[v] from hk.hd).frozen 0
    have x0 : W.cell? ⟨Bx, 0, none⟩ = some (.int .i64 x.t.id) := bX.cell 0 rfl
    have x1 : W.cell? ⟨Bx, 1, none⟩ = some (.bool x.t.ab) := bX.cell 1 rfl
    have x2 : W.cell? ⟨Bx, 2, none⟩ = some (.slice x.oa x.t.ops.length x.oc) := bX.cell 2 rfl
    obtain ⟨WB, hWB⟩ : ∃ WB, WB = W.alloc (.cells #[.int .i64 x.t.id, .bool x.t.ab, .slice x.oa x.t.ops.length x.oc] 55) := ⟨_, rfl⟩
    have hBB : Below W.heap.size W WB := by rw [hWB]; exact (Below.refl _ _).alloc (Nat.le_refl _) _
    have hkB := hk.keep hBB
    have hown : WB.ownsRow w.heap.size 55 3 v pre.length (itC pre) := Knget (pre := [_]) hkB
    have hnews : ∀ j u, [Value.int .i64 x.t.id, .bool x.t.ab, .slice x.oa x.t.ops.length x.oc][j]? = some u → WB.cell? ((⟨W.heap.size, 0, none⟩ : Addr).add j) = some u := fun j u hu => by
      rw [Addr.add_lit, Nat.zero_add, hWB]
      exact (Is.made W #[.int .i64 x.t.id, .bool x.t.ab, .slice x.oa x.t.ops.length x.oc] 55 rfl).cell j (by simpa using hu)
    have hszW := hk.below.size
    have hszB := hBB.size
    have HKB := hide hkB
    have HK0 := hide hk
    have HBB := hide hBB
    have HLT := hide hlt
    clear hk hkB hBB hlt
    subst hWB
    gi_wp2_with (gi_at_builtin; go_must ((refine wpListIn_append_own_at _ rfl _ _ 22 rfl w.heap.size 55 i0 (.agg #[.int .i64 0, .bool false, .slice none 0 0]) 3 40 Tryz.underlying22 hi hz0 hz1 hz2 rfl (by decide) v pre.length (itC pre) rfl hown ⟨W.heap.size, 0, none⟩ 1 1 [.int .i64 x.t.id, .bool x.t.ab, .slice x.oa x.t.ops.length x.oc] rfl rfl hnews (fun u hu => by simp at hu; rcases hu with rfl | rfl | rfl <;> rfl) (by have := HLT.out; unfold maxLen; omega) (by have := HLT.out; omega) (by omega) ?_); intro v4 w4 hown4 hg4 _ hat4; have HG4 := hide hg4; have HK4 := hide (growAt (pre := [_]) HKB.out hown4 hg4 hat4); obtain ⟨a4, c4, rfl⟩ := Own.own_form (z := 3) hown4; have c4' : w4.cell? ⟨w.heap.size, 0, none⟩ = some v := (show Is w4 w.heap.size #[v] from HK4.out.hd).cell 0 rfl; have f4 := (show Is w4 w.heap.size #[v] from HK4.out.hd).frozen 0; clear hown4 hg4 hat4))
    have HK5 := putBox (pre := []) HK4.out 0 (.slice a4 (pre.length + 1) c4) rfl HK4.out.hd
    have ho : Only (fun k => k = w.heap.size ∨ v.ownBlock = some k) W (w4.setCell ⟨w.heap.size, 0, none⟩ (.slice a4 (pre.length + 1) c4)) :=
      ((Only.of_below HBB.out).trans ((only_grown HG4.out).mono fun k e => .inr e)).setCell (p := ⟨w.heap.size, 0, none⟩) (.inl (.inl rfl)) _
    have hge : ∀ k, (k = w.heap.size ∨ v.ownBlock = some k) → w.heap.size ≤ k := fun k hk => by
      rcases hk with rfl | hk
      · exact Nat.le_refl _
      · exact Knlt (pre := [_]) HK0.out k hk
    refine ⟨keeps_only ho fun k hk => ?_, (ho.below hge hszW).mono hb01, .slice a4 (pre.length + 1) c4, ?_⟩
    · rcases hk with rfl | hk
      · exact .inr (box_obj (show Is W w.heap.size #[v] from HK0.out.hd))
      · obtain ⟨cur, q⟩ := own_obj (show W.ownsRow w.heap.size 55 3 v pre.length (itC pre) from Knget (pre := [_]) HK0.out) hk
        exact .inr ⟨cur, _, q⟩
    · rw [List.length_append]
      have e : itC (pre ++ [x]) = itC pre ++ [.int .i64 x.t.id, .bool x.t.ab, .slice x.oa x.t.ops.length x.oc] := by simp [itC, encT]
      rw [e]
      exact HK5
  case done =>
    rintro D ys W hD hS ⟨v, hk⟩ hK
    have hc := (show Is W w.heap.size #[v] from hk.hd).cell 0 rfl
    have hcD : W.cell? ⟨w.heap.size, 0, none⟩ = some v := hc
    have HKK := hide hk
    obtain ⟨a4, c4, rfl⟩ := Own.own_form (Knget (pre := [_]) hk)
    clear hk hc
    gi_wp2
    refine ⟨by simp, .inl ⟨_, _, rfl, run_takeDeferred hK, ?_⟩⟩
    have hk2 := Kn_fixed (B := w1.heap.size) HKK.out (fun t ht => by
      simp only [List.mem_cons, List.not_mem_nil, or_false] at ht
      rcases ht with rfl | rfl
      · exact fixed_box _ _ _
      · exact fixed_own _ _ _ _ _ _ _) (by omega) (grownBy_putObj' W D (.deferred none)) (fun r e => by cases e; exact ⟨hD, _, hK, rfl⟩)
    exact ⟨_, results_tmp rfl _ _ _, .slice a4 ys.length c4, ys, rfl, hS, Knget (pre := [_]) hk2, hk2.below⟩
  case stop =>
    rintro D c pre W _ _ h _
    exact h.elim
end Go.Proofs.YtkinmllflodhaaaGreat.Tab

/- Transactions by their numbers: inOrder; and which of them are committed. -/
namespace Go.Proofs.YtkinmllflodhaaaGreat.Tab
open Go.RowKit Go.Proofs.YtkinmllflodhaaaGreat.Dig Go.Proofs.YtkinmllflodhaaaGreat.Mem Go.Proofs.YtkinmllflodhaaaGreat.Hist Go.Proofs.YtkinmllflodhaaaGreat.Own Go.Proofs.YtkinmllflodhaaaGreat.Thing Go.Shelf Go.Sort
set_option linter.unusedVariables false
set_option linter.unusedSimpArgs false

theorem coll_any (Bs : Nat) (tv : Value) (ts : List TxnM) (w0 w : World) (h : TxnsAt (fun b => b < w0.heap.size) w0 tv ts) (hts : ts.length ≤ 100000) (hb : Below w0.heap.size w0 w) (hBs : w.cell? ⟨Bs, 0, none⟩ = some tv) :
    Calls Tryz.prog 84 #[.func (.func 86) #[] #[.pointer (some ⟨Bs, 0, none⟩)]] w fun e w' => ∃ (v : Value) (ys : List (TI w0)), e = .returned v ∧ ys.map (·.t) = ts ∧ w'.ownsRow w.heap.size 55 3 v ys.length (itC ys) ∧ Below w.heap.size w w' := by
  have HA := hide (aseq_any Bs tv ts w0 w h hts hb hBs)
  clear h hb hBs
  go_enter Tryz.func84, Tryz.ntmps84
  go_wp2_with (go_at_call 93; go_must ((with_reducible refine (Hid.out HA).mono ?_); rintro e w9 ⟨v, ys, rfl, h1, h2, h3⟩; have H2 := hide h2; have H3 := hide h3; clear h2 h3))
  go_ret
  exact ⟨v, ys, rfl, h1, H2.out, H3.out⟩
theorem holds_own {w0 w : World} {base g n c : Nat} {ys : List (TI w0)} (h : w.ownsRow base 55 3 (.slice (some ⟨g, 0, none⟩) n c) n (itC ys)) : HoldsK encT 3 w g 0 ys.toArray := by
  intro j hj
  rw [size_flatK] at hj
  have hj' : j < ys.length * 3 := by simpa using hj
  rw [get_flatK _ _ _ _ hj]
  have hlen : (itC ys).length = ys.length * 3 := by
    unfold itC
    rw [flatten_len 3 _ (fun c hc => by obtain ⟨x, _, rfl⟩ := List.mem_map.1 hc; rfl), List.length_map]
  have hq : j / 3 < ys.length := by omega
  have hr : j % 3 < 3 := Nat.mod_lt _ (by omega)
  have e1 : (itC ys)[j]? = (encT ys[j / 3])[j % 3]? := by
    have := flatten_get 3 (ys.map encT) (fun c hc => by obtain ⟨x, _, rfl⟩ := List.mem_map.1 hc; rfl) (j / 3) (encT ys[j / 3]) (by rw [List.getElem?_map, List.getElem?_eq_getElem hq]; rfl) (j % 3) hr
    rw [show j / 3 * 3 + j % 3 = j by omega] at this
    exact this
  have e2 : ys.toArray[j / 3]! = ys[j / 3] := by rw [getElem!_pos ys.toArray (j / 3) (by simpa using hq)]; simp
  rw [e2]
  obtain ⟨g', c', e3, hc, hf⟩ := own_at (j := j) (u := (encT ys[j / 3])[j % 3]!) (show (ownN base 55 3 (.slice (some ⟨g, 0, none⟩) n c) n (itC ys)).P w from h) (by
    rw [e1, List.getElem?_eq_getElem (show j % 3 < (encT ys[j / 3]).length from hr), getElem!_pos (encT ys[j / 3]) (j % 3) hr]
    rfl)
  cases e3
  rw [Nat.zero_add]
  exact ⟨hc, hf⟩
theorem txns_of_holds {w0 w : World} {g c : Nat} {d : Array (TI w0)} (h : HoldsK encT 3 w g 0 d) (hc : d.size ≤ c) (hm : c ≤ maxLen) (hb : Below w0.heap.size w0 w) (hg : g < w.heap.size) : TxnsAt (fun b => b < w0.heap.size ∨ b = g) w (.slice (some ⟨g, 0, none⟩) d.size c) (d.toList.map (·.t)) := by
  have hz := hb.size
  refine ⟨d.toList.map encT, ⟨some ⟨g, 0, none⟩, c, by simp, by simpa using hc, hm, (fun q => by cases q), fun x hx => by obtain ⟨y, _, rfl⟩ := List.mem_map.1 hx; rfl, fun i x hi => ?_⟩, by simp, fun i x t hx ht => ?_⟩
  · rw [List.getElem?_map] at hi
    have hlt : i < d.size := by
      rcases Nat.lt_or_ge i d.toList.length with q | q
      · simpa using q
      · rw [List.getElem?_eq_none q] at hi; cases hi
    rw [List.getElem?_eq_getElem (by simpa using hlt)] at hi
    obtain rfl := Option.some.inj hi
    refine ⟨g, 0, rfl, .inr rfl, fun j u hu => ?_⟩
    have hj : j < 3 := by
      rcases Nat.lt_or_ge j 3 with q | q
      · exact q
      · rw [List.getElem?_eq_none (by simpa [encT] using q)] at hu; cases hu
    have := (h (i * 3 + j) (by rw [size_flatK]; omega)).1
    rw [get_flatK _ _ _ _ (by omega), show (i * 3 + j) / 3 = i by omega, show (i * 3 + j) % 3 = j by omega, getElem!_pos d i hlt] at this
    rw [this]
    have hu2 : (encT d[i])[j]? = some u := by simpa using hu
    rw [List.getElem?_eq_getElem (show j < (encT d[i]).length from hj)] at hu2
    rw [getElem!_pos (encT d[i]) j hj]
    exact congrArg some (Option.some.inj hu2)
  · rw [List.getElem?_map] at hx ht
    cases hd : d.toList[i]? with
    | none => rw [hd] at hx; cases hx
    | some y =>
      rw [hd] at hx ht
      obtain rfl := Option.some.inj hx
      obtain rfl := Option.some.inj ht
      exact ⟨_, rfl, (y.ops.keep hb).mono (fun b q => .inl q), y.wid⟩
set_option maxRecDepth 100000 in
set_option maxHeartbeats 2000000 in
theorem sortedf_any (Bs : Nat) (tv : Value) (ts : List TxnM) (w0 w : World) (h : TxnsAt (fun b => b < w0.heap.size) w0 tv ts) (hts : ts.length ≤ 100000) (hb : Below w0.heap.size w0 w) (hBs : w.cell? ⟨Bs, 0, none⟩ = some tv) :
    Calls Tryz.prog 63 #[.func (.func 86) #[] #[.pointer (some ⟨Bs, 0, none⟩)], .func (.func 65) #[] #[]] w fun e w' => ∃ (v : Value) (us : List TxnM), e = .returned v ∧ us.Perm ts ∧ us.Pairwise (fun a b => a.id ≤ b.id) ∧ TxnsAt (fun b => b < w0.heap.size ∨ w.heap.size ≤ b) w' v us ∧ Below w.heap.size w w' := by
  have HA := hide (coll_any Bs tv ts w0 w h hts hb hBs)
  have HB := hide hb
  clear h hb hBs
  go_enter Tryz.func63, Tryz.ntmps63
  go_upto_region 2 with (go_at_call 84; go_must ((with_reducible refine (Hid.out HA).mono ?_); rintro e w9 ⟨v, ys, rfl, h1, h2, h3⟩; have H1 := hide h1; have H2 := hide h2; have H3 := hide h3; clear h1 h2 h3))
  have hyl : ys.length = ts.length := by rw [← H1.out]; simp
  by_cases h0 : ys = []
  · subst h0
    have ht0 : ts = [] := by simpa using H1.out.symm
    obtain ⟨a4, c4, rfl⟩ := Own.own_form (z := 3) H2.out
    have HS : Hid (Calls Tryz.prog 85 #[.slice a4 0 c4, .func (.func 65) #[] #[]] w9 fun e w' => e = .returned (.tuple #[]) ∧ w' = w9) := AnyF.slices_SortFunc_none Tryz.sortTxns a4 c4 (.func (.func 65) #[] #[]) w9
    have H2' := H2.out
    simp only [List.length_nil] at H2' ⊢
    have HH2 := hide H2'
    clear H2 H2'
    go_wp2_with (go_at_call 85; go_must ((with_reducible refine (Hid.out HS).mono ?_); rintro e w8 ⟨rfl, rfl⟩))
    go_ret
    refine ⟨_, [], rfl, by rw [ht0], List.Pairwise.nil, ⟨[], ⟨a4, c4, rfl, Nat.zero_le _, ?_, ?_, by simp, by simp⟩, AllAt.nil _⟩, H3.out⟩
    · rcases HH2.out.2 with ⟨hv, _⟩ | ⟨g, cap, cur, hv, _, _, _, hcm, _⟩
      · simp only [Value.slice.injEq] at hv; rw [hv.2.2]; exact Nat.zero_le _
      · simp only [Value.slice.injEq] at hv; rw [hv.2.2]; exact hcm
    · rcases HH2.out.2 with ⟨hv, _⟩ | ⟨g, cap, cur, hv, _⟩
      · simp only [Value.slice.injEq] at hv; exact fun _ => hv.2.2
      · simp only [Value.slice.injEq] at hv; rw [hv.1]; exact fun q => by cases q
  · have hpos : 0 < ys.length := by cases ys with
      | nil => exact absurd rfl h0
      | cons y r => simp
    obtain ⟨g, c, rfl, hc0, _⟩ := own_at (j := 0) (u := .int .i64 (ys[0]'hpos).t.id) (show (ownN w.heap.size 55 3 v ys.length (itC ys)).P w9 from H2.out) (by
      cases ys with
      | nil => exact absurd rfl h0
      | cons y r => simp [itC, encT])
    have hcap := Own.own_cap (show (ownN w.heap.size 55 3 (.slice (some ⟨g, 0, none⟩) ys.length c) ys.length (itC ys)).P w9 from H2.out)
    have hgl : g < w9.heap.size := lt_of_cell hc0
    have hgw : w.heap.size ≤ g := (World.ownsRow.lt H2.out g rfl).1
    have hsa := sort_any g c ys.toArray w9 (holds_own H2.out) hgl (by simp; omega)
    simp only [List.size_toArray] at hsa
    have HS := hide hsa
    have HC := hide hc0
    have HCAP := hide hcap
    obtain ⟨n, hn⟩ : ∃ n, n = ys.length := ⟨_, rfl⟩
    rw [← hn] at HS ⊢
    have HN := hide hn
    clear hsa hc0 hcap hn h0
    go_wp2_with (go_at_call 85; go_must ((with_reducible refine (Hid.out HS).mono ?_); rintro e w8 ⟨rfl, d', hp, hs, hh, ho⟩; have HP := hide hp; have HSD := hide hs; have HH := hide hh; have HO := hide ho; clear hp hs hh ho))
    go_ret
    have hsz : d'.size = n := by have := HP.out.length_eq; simp at this; rw [HN.out]; exact this
    have hB8 : Below w0.heap.size w0 w8 := (HB.out.trans (H3.out.mono HB.out.size)).trans (HO.out.below (fun k e => by rw [e]; have := HB.out.size; omega) (by have := HB.out.size; omega))
    have ht := txns_of_holds (c := c) HH.out (by rw [hsz, HN.out]; exact HCAP.out.1) HCAP.out.2 hB8 (by have := HO.out.size; omega)
    rw [hsz] at ht
    refine ⟨.slice (some ⟨g, 0, none⟩) n c, d'.toList.map (·.t), rfl, ?_, ?_, ht.mono (fun b q => by rcases q with q | q; exact .inl q; exact .inr (by rw [q]; exact hgw)), H3.out.trans (HO.out.below (fun k e => by rw [e]; exact hgw) H3.out.size)⟩
    · rw [← H1.out]
      exact HP.out.map _
    · rw [List.pairwise_map]
      exact HSD.out
set_option maxRecDepth 100000 in
theorem inorder_any (tv : Value) (ts : List TxnM) (w0 w : World) (h : TxnsAt (fun b => b < w0.heap.size) w0 tv ts) (hts : ts.length ≤ 100000) (hb0 : Below w0.heap.size w0 w) :
    Calls Tryz.prog 35 #[tv] w fun e w' => ∃ (v : Value) (us : List TxnM), e = .returned v ∧ us.Perm ts ∧ us.Pairwise (fun a b => a.id ≤ b.id) ∧ TxnsAt (fun b => b < w0.heap.size ∨ w.heap.size ≤ b) w' v us ∧ Below w.heap.size w w' := by
  obtain ⟨a, c, rfl, _, _⟩ := h.shape
  have hb : Below w.heap.size w (w.alloc (.cells #[.slice a ts.length c] 22)) := (Below.refl _ _).alloc (Nat.le_refl _) _
  have HA := hide (sortedf_any w.heap.size (.slice a ts.length c) ts w0 (w.alloc (.cells #[.slice a ts.length c] 22)) h hts (hb0.trans (hb.mono hb0.size)) ((Is.made w #[.slice a ts.length c] 22 rfl).cell 0 rfl))
  obtain ⟨n, hn⟩ : ∃ n, n = ts.length := ⟨_, rfl⟩
  rw [← hn] at HA hb ⊢
  have HB := hide hb
  clear h hn hb
  go_enter Tryz.func35, Tryz.ntmps35
  go_wp2_with (first | (go_at_call 64; go_must ((with_reducible refine (valt_any _ _ _ _).mono ?_); rintro e w8 ⟨rfl, rfl⟩)) | (go_at_call 63; go_must ((with_reducible refine (Hid.out HA).mono ?_); rintro e w9 ⟨v, us, rfl, h1, h2, h3, h4⟩; have H1 := hide h1; have H2 := hide h2; have H3 := hide h3; have H4 := hide h4; clear h1 h2 h3 h4)))
  go_ret
  exact ⟨v, us, rfl, H1.out, H2.out, H3.out.mono (fun b q => by rcases q with q | q; exact .inl q; exact .inr (by simp at q; omega)), HB.out.trans (H4.out.mono (by simp))⟩
end Go.Proofs.YtkinmllflodhaaaGreat.Tab

/- A table is made. -/
namespace Go.Proofs.YtkinmllflodhaaaGreat.Tab
open Go.RowKit Go.Proofs.YtkinmllflodhaaaGreat.Dig Go.Proofs.YtkinmllflodhaaaGreat.Mem Go.Proofs.YtkinmllflodhaaaGreat.Hist Go.Proofs.YtkinmllflodhaaaGreat.Own Go.Proofs.YtkinmllflodhaaaGreat.Thing Go.Proofs.YtkinmllflodhaaaGreat.Sets Go.Shelf
set_option linter.unusedVariables false
set_option linter.unusedSimpArgs false

theorem ids_take {us : List TxnM} {k : Nat} (hk : k < us.length) : idsOf (us.take (k + 1)) = idsOf (us.take k) ++ (if us[k].ab = true then [] else [us[k].id]) := by
  rw [List.take_succ_eq_append_getElem hk]
  unfold idsOf
  rw [List.filter_append, List.map_append]
  congr 1
  cases h : us[k].ab <;> simp [List.filter_cons, h]
theorem ids_le (us : List TxnM) : (idsOf us).length ≤ us.length := by
  unfold idsOf
  rw [List.length_map]
  exact List.length_filter_le _ _
theorem cell_one_b {w : World} {x : Value} {T : TypeId} {b : Nat} (hb : b = w.heap.size) : ∀ j u, [x][j]? = some u → (w.alloc (.cells #[x] T)).cell? ((⟨b, 0, none⟩ : Addr).add j) = some u := by
  subst hb
  exact cell_one_new _ _ _
set_option maxRecDepth 100000 in
set_option maxHeartbeats 2000000 in
/-- The numbers of those that are committed. -/
theorem commit_any (tv : Value) (us : List TxnM) (w : World) (h : TxnsAt (fun b => b < w.heap.size) w tv us) (hus : us.length ≤ 100000) :
    Calls Tryz.prog 36 #[tv] w fun e w' => ∃ v, e = .returned v ∧ w'.ownsRow w.heap.size 3 1 v (idsOf us).length ((idsOf us).map (Value.int .i64)) ∧ Below w.heap.size w w' := by
  obtain ⟨a, c, rfl, _, _⟩ := h.shape
  have HH := hide h
  clear h
  obtain ⟨i0, hi, hz0, hz1, hz2⟩ := info_parts Tryz.infoTI
  go_enter Tryz.func36, Tryz.ntmps36
  go_wp2
  go_loopw [3, 8] (fun v i wr => ∃ (k : Nat) (a1 : Option Addr) (n1 c1 : Nat), v = .slice a1 n1 c1 ∧ k ≤ us.length ∧ i = .int .i64 (k : Int) ∧ Hid (n1 = (idsOf (us.take k)).length) ∧ Hid (Kn w [ownN w.heap.size 3 1 (.slice a1 n1 c1) n1 ((idsOf (us.take k)).map (Value.int .i64))] wr)) (fun _ i _ => us.length - (intOf i).toNat)
  case atStart => exact ⟨0, none, 0, 0, rfl, by omega, rfl, rfl, ownNil (Kn.start w) w.heap.size 3 1⟩
  case round =>
    obtain ⟨k, a1, n1, c1, rfl, hk, rfl, hN1, hR⟩ := hrel
    by_cases hlt : k < us.length
    · obtain ⟨b, off, oa, ocap, rfl, hFb, hbl, d0, d1, d2, hops, wid⟩ := (HH.out.only (Only.of_below (S := fun _ => False) hR.out.below) (fun _ _ q => q)).at hlt
      have hid := ids_take hlt
      obtain ⟨t, ht⟩ : ∃ t, t = us[k] := ⟨_, rfl⟩
      obtain ⟨m, hm⟩ : ∃ m, m = t.ops.length := ⟨_, rfl⟩
      rw [← ht] at d0 d1 d2 hid
      rw [← hm] at d2
      have hwr := hR.out.below.size
      have hle := ids_le (us.take k)
      rw [List.length_take] at hle
      obtain ⟨wB, hwB⟩ : ∃ wB, wB = wr.alloc (.cells #[.int .i64 t.id, .bool t.ab, .slice oa m ocap] 55) := ⟨_, rfl⟩
      have hRB := hR.out.keep (w' := wB) (by rw [hwB]; exact (Below.refl _ _).alloc (Nat.le_refl _) _)
      have HRB := hide hRB
      have hn1 : n1 ≤ 100000 := by have := hN1.out; omega
      clear hRB hR hops hm ht hFb wid
      by_cases hab : t.ab = true
      · rw [if_pos hab, List.append_nil] at hid
        rw [hab] at d1 hwB
        have HID := hide hid
        have HWB := hide hwB
        clear hid hwB hab
        go_wp2
        go_roundw
        case rel => exact ⟨k + 1, a1, n1, c1, rfl, by omega, by simp, by rw [HID.out]; exact hN1, by rw [HID.out, ← HWB.out]; exact HRB⟩
        case measure => simp [intOf]; omega
      · have hab2 : t.ab = false := by simpa using hab
        rw [if_neg hab] at hid
        rw [hab2] at d1 hwB
        have HID := hide hid
        have HWB := hide hwB
        subst hwB
        clear hid hab hab2
        go_wp2_with (at_builtin; go_must ((refine wpList_append_own_at _ rfl _ _ 36 rfl w.heap.size 3 i0 (.int .i64 0) 1 8 Tryz.underlying36 hi hz0 hz1 hz2 rfl (by decide) (.slice a1 n1 c1) n1 ((idsOf (us.take k)).map (Value.int .i64)) rfl (World.ownsRow.alloc (Kn.hd HRB.out) _) ⟨wr.heap.size + 1, 0, none⟩ 1 1 [.int .i64 t.id] rfl rfl (cell_one_b (by simp)) (by simp [Value.oneCell']) (by unfold maxLen; omega) (by omega) (by simp; omega) ?_); intro v4 w4 hown4 hg4 _ hat4; have HK4 := hide (growAt (pre := []) (HRB.out.keep ((Below.refl _ _).alloc (Nat.le_refl _) _)) hown4 hg4 hat4); obtain ⟨a4, c4, rfl⟩ := Own.own_form hown4; clear hown4 hg4 hat4))
        go_roundw
        case rel => exact ⟨k + 1, a4, n1 + 1, c4, rfl, by omega, by simp, by rw [HID.out, List.length_append, ← hN1.out]; exact rfl, by rw [HID.out, List.map_append]; exact HK4⟩
        case measure => simp [intOf]; omega
    · obtain rfl : k = us.length := by omega
      go_wp2
      go_ret
      have h1 := hN1.out
      have h2 := Kn.hd hR.out
      rw [List.take_length] at h1 h2
      rw [h1] at h2
      exact ⟨_, rfl, by rw [h1]; exact h2, hR.out.below⟩
theorem opsf_any (a : Option Addr) (len cap : Nat) (w : World) :
    Calls Tryz.prog 37 #[.slice a len cap] w fun e w' => e = .returned (.func (.func 67) #[] #[.pointer (some ⟨w.heap.size, 0, none⟩)]) ∧ w' = w.alloc (.cells #[.slice a len cap] 22) := by
  go_enter Tryz.func37, Tryz.ntmps37
  go_wp2
  go_ret
  exact ⟨rfl, rfl⟩
end Go.Proofs.YtkinmllflodhaaaGreat.Tab

/- What a table holds once operations were noted, one behind the other. -/
namespace Go.Proofs.YtkinmllflodhaaaGreat.Tab
open Go.Proofs.YtkinmllflodhaaaGreat.Mem Go.Proofs.YtkinmllflodhaaaGreat.Hist
set_option linter.unusedVariables false
set_option linter.unusedSimpArgs false

def tb (pre : List Spot) : Tb := ⟨writerP pre, appsP pre, readsP pre, writesP pre⟩
theorem tb_step (pre : List Spot) (x : Spot) : (tb pre).step x = tb (pre ++ [x]) := by
  unfold Tb.step
  by_cases hr : x.o.read = false
  · rw [if_pos hr]
    unfold Tb.write tb
    congr 1
    · funext p
      by_cases e : p = (x.o.key, x.o.value)
      · subst e
        rw [writerP_hit (by simp [isVal, hr])]
        exact upd_same _ _ _
      · rw [writerP_miss (by
          simp only [isVal, hr, Bool.not_false, Bool.true_and, Bool.and_eq_false_iff, beq_eq_false_iff_ne]
          by_cases e1 : x.o.key = p.1
          · exact .inr fun e2 => e (Prod.ext e1.symm e2.symm)
          · exact .inl e1)]
        exact upd_other (b := some (wrOf x)) (a := (x.o.key, x.o.value)) e
    · funext p
      by_cases e : p = (x.id, x.o.key)
      · subst e
        rw [appsP_hit (by simp [isApp, hr])]
        exact upd_same _ _ _
      · rw [appsP_miss (by
          simp only [isApp, hr, Bool.not_false, Bool.true_and, Bool.and_eq_false_iff, beq_eq_false_iff_ne]
          by_cases e1 : x.id = p.1
          · exact .inr fun e2 => e (Prod.ext e1.symm e2.symm)
          · exact .inl e1)]
        exact upd_other (a := (x.id, x.o.key)) e
    · funext k
      rw [readsP_miss (by simp [isRd, hr])]
    · funext k
      show (if x.ab = true then writesP pre else upd (writesP pre) x.o.key (writesP pre x.o.key ++ [wrOf x])) k = _
      by_cases ha : x.ab = true
      · rw [if_pos ha, writesP_miss (by simp [isWr, ha])]
      · rw [if_neg ha]
        by_cases e : k = x.o.key
        · subst e
          rw [upd_same, writesP_hit (by simp [isWr, hr, ha])]
        · rw [upd_other e, writesP_miss (by simp [isWr, hr, ha]; exact fun q => e q.symm)]
  · rw [if_neg hr]
    have hr2 : x.o.read = true := by simpa using hr
    have e1 : writerP (pre ++ [x]) = writerP pre := by funext p; rw [writerP_miss (by simp [isVal, hr2])]
    have e2 : appsP (pre ++ [x]) = appsP pre := by funext p; rw [appsP_miss (by simp [isApp, hr2])]
    have e3 : writesP (pre ++ [x]) = writesP pre := by funext p; rw [writesP_miss (by simp [isWr, hr2])]
    by_cases ha : x.ab = false
    · rw [if_pos ha]
      unfold Tb.read tb
      rw [e1, e2, e3]
      congr 1
      funext k
      by_cases e : k = x.o.key
      · subst e
        rw [readsP_hit (by simp [isRd, hr2, ha])]
        exact upd_same _ _ _
      · rw [readsP_miss (by simp [isRd, hr2, ha]; exact fun q => e q.symm)]
        exact upd_other e
    · rw [if_neg ha]
      unfold tb
      rw [e1, e2, e3]
      congr 1
      funext k
      rw [readsP_miss (by simp [isRd, ha])]
theorem tb_nil : tb [] = ⟨fun _ => none, fun _ => [], fun _ => [], fun _ => []⟩ := rfl
end Go.Proofs.YtkinmllflodhaaaGreat.Tab

/- Contracts of the two Ops, twin, is: each only reads. -/
namespace Go.Proofs.YtkinmllflodhaaaGreat.Hist
open Go.RowKit Go.Proofs.YtkinmllflodhaaaGreat.Dig Go.Proofs.YtkinmllflodhaaaGreat.Mem
set_option linter.unusedVariables false
set_option linter.unusedSimpArgs false

theorem _root_.Go.RowKit.Below.drewN {B : Nat} {a w : World} (h : Below B a w) (n : Nat) : Below B a (w.drewN n) := ⟨h.os, h.tape, h.output, h.size, h.block⟩
theorem ops_any (F : Nat → Prop) (v : Value) (ts : List TxnM) (w : World) (h : TxnsAt F w v ts) (ht : ts.length ≤ 1000000) (hn : opsN ts ≤ 1000000) :
    Calls Tryz.prog 60 #[.agg #[v]] w fun e w' => e = .returned (.int .i64 (opsN ts : Int)) ∧ Below w.heap.size w w' := by
  obtain ⟨a, cap, rfl, hc1, hc2⟩ := h.shape
  have H : Hid (TxnsAt F w (.slice a ts.length cap) ts) := h
  clear h
  go_enter Tryz.func60, Tryz.ntmps60
  go_wp2
  go_loopw [3, 9] (fun n i wr => ∃ k : Nat, k ≤ ts.length ∧ i = .int .i64 (k : Int) ∧ n = .int .i64 (opsN (ts.take k) : Int) ∧ Below w.heap.size w wr) (fun _ i _ => ts.length - (intOf i).toNat)
  case atStart => exact ⟨0, by omega, rfl, rfl, (Below.refl _ _).alloc (Nat.le_refl _) _⟩
  case round =>
    obtain ⟨k, hk, rfl, rfl, hbel⟩ := hrel
    by_cases hlt : k < ts.length
    · obtain ⟨b, off, oa, ocap, rfl, _, hb, c0, c1, c2, _, _⟩ := (H.out.keep hbel).at hlt
      have s1 := opsN_take hlt
      have s2 := opsN_take_le ts k
      have s3 := ops_le hlt
      have S : Hid (opsN (ts.take (k + 1)) = opsN (ts.take k) + ts[k].ops.length) := s1
      have hs := hbel.size
      clear s1
      go_wp2
      go_roundw
      case rel => exact ⟨k + 1, by omega, by go_num, by rw [S.out]; go_num, hbel.alloc hs _⟩
      case measure => simp [intOf]; omega
    · have e : k = ts.length := by omega
      subst e
      go_wp2
      go_ret
      exact ⟨by rw [List.take_length]; rfl, hbel⟩
theorem rops_any (F : Nat → Prop) (v : Value) (ts : List TxnM) (w : World) (h : TxnsAt F w v ts) (ht : ts.length ≤ 1000000) (hn : opsN ts ≤ 1000000) :
    Calls Tryz.prog 21 #[.agg #[v]] w fun e w' => e = .returned (.int .i64 (opsN ts : Int)) ∧ Below w.heap.size w w' := by
  obtain ⟨a, cap, rfl, hc1, hc2⟩ := h.shape
  have H : Hid (TxnsAt F w (.slice a ts.length cap) ts) := h
  clear h
  go_enter Tryz.func21, Tryz.ntmps21
  go_wp2
  go_loop [3, 4] (fun n i => ∃ k : Nat, k ≤ ts.length ∧ i = .int .i64 (k : Int) ∧ n = .int .i64 (opsN (ts.take k) : Int)) (fun _ i => ts.length - (intOf i).toNat)
  case atStart => exact ⟨0, by omega, rfl, rfl⟩
  case round =>
    obtain ⟨k, hk, rfl, rfl⟩ := hrel
    by_cases hlt : k < ts.length
    · obtain ⟨b, off, oa, ocap, rfl, _, hb, c0, c1, c2, _, _⟩ := H.out.at hlt
      have s1 := opsN_take hlt
      have s2 := opsN_take_le ts k
      have s3 := ops_le hlt
      have S : Hid (opsN (ts.take (k + 1)) = opsN (ts.take k) + ts[k].ops.length) := s1
      clear s1
      go_wp2
      go_round
      case rel => exact ⟨k + 1, by omega, by go_num, by rw [S.out]; go_num⟩
      case measure => simp [intOf]; omega
    · have e : k = ts.length := by omega
      subst e
      go_wp2
      go_ret
      exact ⟨rfl, (Below.refl _ _).alloc (Nat.le_refl _) _⟩
theorem any_take {α : Type} {p : α → Bool} {l : List α} {k : Nat} (h : k < l.length) : (l.take (k + 1)).any p = ((l.take k).any p || p l[k]) := by
  rw [List.take_succ_eq_append_getElem h, List.any_append]; simp
theorem any_at {α : Type} {p : α → Bool} {l : List α} {k : Nat} (h : k < l.length) (hp : p l[k] = true) : l.any p = true := List.any_eq_true.2 ⟨_, List.getElem_mem h, hp⟩
end Go.Proofs.YtkinmllflodhaaaGreat.Hist

/- Contracts of mayBe and numbersSize, and of the document's may and number. -/
namespace Go.Proofs.YtkinmllflodhaaaGreat.Hist
open Go.RowKit Go.Proofs.YtkinmllflodhaaaGreat.Dig Go.Proofs.YtkinmllflodhaaaGreat.Mem
set_option linter.unusedVariables false
set_option linter.unusedSimpArgs false

theorem all_take {α : Type} {p : α → Bool} {l : List α} {k : Nat} (h : k < l.length) : (l.take (k + 1)).all p = ((l.take k).all p && p l[k]) := by
  rw [List.take_succ_eq_append_getElem h, List.all_append]; simp
theorem all_not {α : Type} {p : α → Bool} {l : List α} {k : Nat} (h : k < l.length) (hp : p l[k] = false) : l.all p = false := by
  rw [Bool.eq_false_iff]
  intro q
  have := List.all_eq_true.1 q _ (List.getElem_mem h)
  rw [hp] at this; cases this
theorem all_done {α : Type} {p : α → Bool} {l : List α} {k : Nat} (hk : ¬ k < l.length) (h : (l.take k).all p = true) : l.all p = true := by
  rwa [List.take_of_length_le (by omega)] at h
theorem ints_at {F : Nat → Prop} {w : World} {a : Option Addr} {cap : Nat} {l : List Int} (h : IntsAt F w (.slice a l.length cap) l) (hl : l.length ≤ 1000000) {k : Nat} (hk : k < l.length) :
    ∃ b off, a = some ⟨b, off, none⟩ ∧ w.cell? ⟨b, off + k, none⟩ = some (.int .i64 l[k]) ∧ (Lit.int .i64 l[k]).wf = true := by
  obtain ⟨a', cap', e, _, hr⟩ := h.rd (by omega)
  simp at e
  obtain ⟨rfl, rfl⟩ := e
  obtain ⟨b, off, e1, e2, e3⟩ := hr.2 k hk
  have e : l.getD k 0 = l[k] := by simp [List.getD_eq_getElem?_getD, List.getElem?_eq_getElem hk]
  exact ⟨b, off, e1, by rw [← e]; exact e2, by rw [← e]; exact e3⟩
theorem maybe_any (F : Nat → Prop) (v : Value) (l : List Int) (w : World) (h : IntsAt F w v l) (hl : l.length ≤ 1000000) :
    Calls Tryz.prog 80 #[v] w fun e w' => e = .returned (.bool (l.all mayB)) ∧ w' = w := by
  obtain ⟨a, c, rfl, _, _⟩ := h.shape
  have H := hide h
  clear h
  go_enter Tryz.func80, Tryz.ntmps80
  go_wp2
  go_loop [7] (fun i => ∃ k : Nat, k ≤ l.length ∧ i = .int .i64 (k : Int) ∧ Hid ((l.take k).all mayB = true)) (fun i => l.length - (intOf i).toNat)
  case atStart => exact ⟨0, by omega, rfl, hide rfl⟩
  case round =>
    obtain ⟨k, hk, rfl, hj⟩ := hrel
    by_cases hlt : k < l.length
    · obtain ⟨b, off, rfl, hc, hw⟩ := ints_at H.out hl hlt
      by_cases h1 : l[k] < 0
      · have T : Hid (l.all mayB = false) := hide (all_not hlt (mayB_no.2 (by unfold mayN; omega)))
        go_wp2
        go_ret
        exact ⟨by rw [T.out]; rfl, rfl⟩
      by_cases h2 : 2147483647 < l[k]
      · have T : Hid (l.all mayB = false) := hide (all_not hlt (mayB_no.2 (by unfold mayN; omega)))
        go_wp2
        go_ret
        exact ⟨by rw [T.out]; rfl, rfl⟩
      · have T : Hid ((l.take (k + 1)).all mayB = true) := hide (by rw [all_take hlt, hj.out, mayB_iff.2 (by unfold mayN; omega)]; rfl)
        go_wp2
        go_round
        case rel => exact ⟨k + 1, by omega, by go_num, T⟩
        case measure => simp [intOf]; omega
    · have T : Hid (l.all mayB = true) := hide (all_done hlt hj.out)
      go_wp2
      go_ret
      exact ⟨by rw [T.out]; rfl, rfl⟩

/-- What numbers take of a line. -/
def sizeN (l : List Int) : Nat := (l.map fun x => (txt x.toNat).length + 1).sum
theorem sizeN_take {l : List Int} {k : Nat} (h : k < l.length) : sizeN (l.take (k + 1)) = sizeN (l.take k) + ((txt l[k].toNat).length + 1) := by
  unfold sizeN
  rw [List.take_succ_eq_append_getElem h, List.map_append, List.sum_append]; simp
theorem sizeN_le : ∀ l : List Int, sizeN l ≤ 11 * l.length
  | [] => by simp [sizeN]
  | x :: l => by
    have := sizeN_le l
    have := (txt_len x.toNat).2
    simp only [sizeN, List.map_cons, List.sum_cons, List.length_cons] at *
    omega
theorem nsize_any (F : Nat → Prop) (v : Value) (l : List Int) (w : World) (h : IntsAt F w v l) (hl : l.length ≤ 1000000) (hm : ∀ x ∈ l, mayN x) :
    Calls Tryz.prog 82 #[v] w fun e w' => e = .returned (.int .i64 (sizeN l : Int)) ∧ w' = w := by
  obtain ⟨a, c, rfl, _, _⟩ := h.shape
  have H := hide h
  have M := hide hm
  clear h hm
  go_enter Tryz.func82, Tryz.ntmps82
  go_wp2
  go_loop [3, 8] (fun n i => ∃ k : Nat, ∃ s : Nat, k ≤ l.length ∧ i = .int .i64 (k : Int) ∧ n = .int .i64 (s : Int) ∧ Hid (s = sizeN (l.take k)) ∧ s ≤ 11 * k) (fun _ i => l.length - (intOf i).toNat)
  case atStart => exact ⟨0, 0, by omega, rfl, rfl, hide (by simp [sizeN]), by omega⟩
  case round =>
    obtain ⟨k, s, hk, rfl, rfl, hj, hs⟩ := hrel
    by_cases hlt : k < l.length
    · obtain ⟨b, off, rfl, hc, hw⟩ := ints_at H.out hl hlt
      obtain ⟨m, hm⟩ : ∃ m : Nat, (txt l[k].toNat).length = m := ⟨_, rfl⟩
      have hm10 : m ≤ 10 := by have := (txt_len l[k].toNat).2; omega
      have HWD : Hid (widthS l[k] = (m : Int)) := hide (by
        have hx := M.out _ (List.getElem_mem hlt)
        unfold mayN at hx
        unfold widthS
        rw [if_pos hx, hm])
      have HB : Hid (l[k] < 9223372036854775808) := hide (by have hx := M.out _ (List.getElem_mem hlt); unfold mayN at hx; omega)
      have T : Hid (s + m + 1 = sizeN (l.take (k + 1))) := hide (by rw [sizeN_take hlt, hm, ← hj.out]; omega)
      clear hm
      go_wp2_with (go_at_call 92; go_must ((with_reducible refine (width_any _ _ HB.out).mono ?_); rw [HWD.out]; rintro e w' ⟨rfl, hq⟩; replace hq := hq.symm; subst hq))
      go_round
      case rel => exact ⟨k + 1, s + m + 1, by omega, by go_num, by go_num, T, by omega⟩
      case measure => simp [intOf]; omega
    · have e : k = l.length := by omega
      subst e
      have T : Hid (s = sizeN l) := hide (by rw [hj.out, List.take_length])
      go_wp2
      go_ret
      exact ⟨by rw [← T.out]; rfl, rfl⟩

theorem rmay_any (n : Int) (w : World) : Calls Tryz.prog 22 #[.int .i64 n] w fun e w' => e = .returned (.bool (mayB n)) ∧ w' = w := by
  by_cases h1 : 0 ≤ n
  · by_cases h2 : n ≤ 2147483647
    · have T : Hid (mayB n = true) := hide (mayB_iff.2 ⟨h1, h2⟩)
      go_enter Tryz.func22, Tryz.ntmps22
      go_wp2
      go_ret
      exact ⟨by rw [T.out]; rfl, rfl⟩
    · have T : Hid (mayB n = false) := hide (mayB_no.2 (fun q => h2 q.2))
      go_enter Tryz.func22, Tryz.ntmps22
      go_wp2
      go_ret
      exact ⟨by rw [T.out]; rfl, rfl⟩
  · have T : Hid (mayB n = false) := hide (mayB_no.2 (fun q => h1 q.1))
    go_enter Tryz.func22, Tryz.ntmps22
    go_wp2
    go_ret
    exact ⟨by rw [T.out]; rfl, rfl⟩
theorem print_may {n : Int} (h : mayN n) : printS n = txt n.toNat ∧ errS n = 0 := by
  obtain ⟨N, rfl⟩ : ∃ N : Nat, n = N := ⟨n.toNat, by unfold mayN at h; omega⟩
  have := printS_in (N := N) (by unfold mayN at h; omega)
  exact ⟨by rw [this.1]; simp, this.2⟩
theorem rnum_any (n : Int) (w : World) (h : mayN n) : Calls Tryz.prog 57 #[.int .i64 n] w fun e w' => e = .returned (.string ⟨(txt n.toNat).toArray⟩) ∧ w' = w := by
  have HP := hide (print_may h)
  clear h
  go_enter Tryz.func57, Tryz.ntmps57
  go_wp2_with (go_at_call 76; go_must ((with_reducible refine (rprint_any _ _).mono ?_); rw [HP.out.1, HP.out.2]; rintro e w' ⟨rfl, hq⟩; replace hq := hq.symm; subst hq))
  go_ret
  exact ⟨rfl, rfl⟩
end Go.Proofs.YtkinmllflodhaaaGreat.Hist

/- append to a row of the call's own, of another row, whatever its address and its length: at an operation, at a list of operations, at a step of a region that draws. And rows of n-celled elements that are read out of a block. -/
namespace Go.Proofs.YtkinmllflodhaaaGreat.Mem
open Go.RowKit Go.Proofs.YtkinmllflodhaaaGreat.Dig
set_option linter.unusedVariables false
set_option linter.unusedSimpArgs false

theorem run_app_row {P : Program} {w : World} (t ty e : TypeId) (i : TypeInfo) (z : Value) (size bytes : Nat) (ht : P.underlying t = some (.slice e)) (hi : P.info? e = some i) (hz : i.zero = some z) (hsize : i.size = size) (hby : i.bytes = bytes) (hzs : z.cells.size = size) (hsz : 0 < size) (hb8 : bytes ≤ 1000)
    (base : Nat) (v : Value) (cs : List (List Value)) (hown : OwnC e size base w v cs) (F : Nat → Prop) (vx : Value) (ds : List (List Value)) (hrow : RowAt F w size vx ds)
    (h1 : ∀ c ∈ ds, ∀ u ∈ c, u.oneCell' = true) (hb : cs.length + ds.length ≤ 1000000) (hbase : base ≤ w.heap.size) :
    ∃ v' w', (Builtin.append_ #[t, t] ty #[v, vx]).run P w = .ok v' w' ∧ OwnC e size base w' v' (cs ++ ds) ∧ Only (fun k => v.ownBlock = some k) w w' ∧ (v'.ownBlock = v.ownBlock ∨ v'.ownBlock = some w.heap.size) := by
  obtain ⟨ao, cap, rfl, hc1, hc2, hc3, hl, hcell⟩ := hrow
  cases ao with
  | none =>
    have hcap := hc3 rfl
    subst hcap
    have hd : ds = [] := List.eq_nil_of_length_eq_zero (by omega)
    subst hd
    exact ⟨v, w, run_append_owned_none (P := P) (w := w) base t ty e i size ht hi v cs.length cs.flatten hown.1, by simpa using hown, Only.refl _ _, .inl rfl⟩
  | some ad =>
    obtain ⟨v', w', hr, h2, h3, h4, h5⟩ := run_append_own_at (P := P) w base t ty e i z size bytes ht hi hz hsize hby hzs hsz v cs.length cs.flatten hown.1 ad ds.length cap ds.flatten (flatten_len size ds hl) (by
      intro j u hu
      have hj : j < ds.length * size := by
        rw [← flatten_len size ds hl]
        rcases Nat.lt_or_ge j ds.flatten.length with q | q
        · exact q
        · rw [List.getElem?_eq_none q] at hu; cases hu
      have hq : j / size < ds.length := Nat.div_lt_of_lt_mul (by rw [Nat.mul_comm]; exact hj)
      have hm : j % size < size := Nat.mod_lt _ hsz
      have e1 : j = (j / size) * size + j % size := by rw [Nat.mul_comm]; exact (Nat.div_add_mod j size).symm
      obtain ⟨b, off, hab, _, hc⟩ := hcell (j / size) ds[j / size] (List.getElem?_eq_getElem hq)
      obtain rfl := Option.some.inj hab
      rw [e1] at hu ⊢
      rw [flatten_get size ds hl _ _ (List.getElem?_eq_getElem hq) _ hm] at hu
      rw [addr_add]
      exact hc _ u hu) (by
      intro u hu
      obtain ⟨c, hc, huc⟩ := List.mem_flatten.1 hu
      exact h1 c hc u huc) (by unfold maxLen; omega) (by
      have : (cs.length + ds.length) * bytes ≤ 1000000 * 1000 := Nat.mul_le_mul hb hb8
      omega) hbase
    refine ⟨v', w', hr, ⟨?_, ?_⟩, ⟨h3.os, h3.tape, h3.output, h3.size, fun k hk hn => h3.block k hk (fun q => hn q.symm)⟩, h5⟩
    · rw [List.length_append, List.flatten_append]
      exact h2
    · intro c hc
      rcases List.mem_append.1 hc with q | q
      · exact hown.2 c q
      · exact hl c q

section
variable {P : Program} {w : World} {ops : Array Oper} {rest : List Oper} {o : Oper} {a : Act} {Q : Exit → Act → World → Prop} {K : Act → World → Prop} {E : Prop}
theorem wp_app_row (s x : Operand) (t : TypeId) (ho : o.op = .call { callee := .builtin .append, args := #[s, x], argTypes := #[t, t] })
    (e : TypeId) (i : TypeInfo) (z : Value) (size bytes : Nat) (ht : P.underlying t = some (.slice e)) (hi : P.info? e = some i) (hz : i.zero = some z) (hsize : i.size = size) (hby : i.bytes = bytes) (hzs : z.cells.size = size) (hsz : 0 < size) (hb8 : bytes ≤ 1000)
    (base : Nat) (v : Value) (cs : List (List Value)) (hs : a.eval s = v) (hown : OwnC e size base w v cs) (F : Nat → Prop) (vx : Value) (ds : List (List Value)) (hx : a.eval x = vx) (hrow : RowAt F w size vx ds)
    (h1 : ∀ c ∈ ds, ∀ u ∈ c, u.oneCell' = true) (hb : cs.length + ds.length ≤ 1000000) (hbase : base ≤ w.heap.size)
    (h : ∀ v' w', OwnC e size base w' v' (cs ++ ds) → Only (fun k => v.ownBlock = some k) w w' → (v'.ownBlock = v.ownBlock ∨ v'.ownBlock = some w.heap.size) → K (a.put o.dst v') w') : o.wp P a w K Q := by
  obtain ⟨v', w', hr, h2, h3, h4⟩ := run_app_row (P := P) t o.type e i z size bytes ht hi hz hsize hby hzs hsz hb8 base v cs hown F vx ds hrow h1 hb hbase
  unfold Oper.wp execOp
  simp only [ho, resolve, invoke, builtin, Sem.run_bind, Sem.run_pure, Result.andThen_ok, List.map_toArray, List.map_cons, List.map_nil, hs, hx, hr]
  exact h v' w' h2 h3 h4
theorem list_app_row (hgd : o.guard = none) (s x : Operand) (t : TypeId) (ho : o.op = .call { callee := .builtin .append, args := #[s, x], argTypes := #[t, t] })
    (e : TypeId) (i : TypeInfo) (z : Value) (size bytes : Nat) (ht : P.underlying t = some (.slice e)) (hi : P.info? e = some i) (hz : i.zero = some z) (hsize : i.size = size) (hby : i.bytes = bytes) (hzs : z.cells.size = size) (hsz : 0 < size) (hb8 : bytes ≤ 1000)
    (base : Nat) (v : Value) (cs : List (List Value)) (hs : a.eval s = v) (hown : OwnC e size base w v cs) (F : Nat → Prop) (vx : Value) (ds : List (List Value)) (hx : a.eval x = vx) (hrow : RowAt F w size vx ds)
    (h1 : ∀ c ∈ ds, ∀ u ∈ c, u.oneCell' = true) (hb : cs.length + ds.length ≤ 1000000) (hbase : base ≤ w.heap.size)
    (h : ∀ v' w', OwnC e size base w' v' (cs ++ ds) → Only (fun k => v.ownBlock = some k) w w' → (v'.ownBlock = v.ownBlock ∨ v'.ownBlock = some w.heap.size) → wpList P ops Q rest (a.put o.dst v') w') : wpList P ops Q (o :: rest) a w :=
  wpList_plain hgd fun _ hK => wp_app_row s x t ho e i z size bytes ht hi hz hsize hby hzs hsz hb8 base v cs hs hown F vx ds hx hrow h1 hb hbase fun v' w' h2 h3 h4 => hK _ _ (h v' w' h2 h3 h4)
theorem step_app_row (hgd : o.guard = none) (s x : Operand) (t : TypeId) (ho : o.op = .call { callee := .builtin .append, args := #[s, x], argTypes := #[t, t] })
    (e : TypeId) (i : TypeInfo) (z : Value) (size bytes : Nat) (ht : P.underlying t = some (.slice e)) (hi : P.info? e = some i) (hz : i.zero = some z) (hsize : i.size = size) (hby : i.bytes = bytes) (hzs : z.cells.size = size) (hsz : 0 < size) (hb8 : bytes ≤ 1000)
    (base : Nat) (v : Value) (cs : List (List Value)) (hs : a.eval s = v) (hown : OwnC e size base w v cs) (F : Nat → Prop) (vx : Value) (ds : List (List Value)) (hx : a.eval x = vx) (hrow : RowAt F w size vx ds)
    (h1 : ∀ c ∈ ds, ∀ u ∈ c, u.oneCell' = true) (hb : cs.length + ds.length ≤ 1000000) (hbase : base ≤ w.heap.size)
    (h : ∀ v' w', OwnC e size base w' v' (cs ++ ds) → Only (fun k => v.ownBlock = some k) w w' → (v'.ownBlock = v.ownBlock ∨ v'.ownBlock = some w.heap.size) → K (a.put o.dst v') w') :
    if Region.wanted o (yielded ops a.tmps) = true then Oper.wp P o a w K Q else E := by
  have hw : Region.wanted o (yielded ops a.tmps) = true := by simp [Region.wanted, hgd]
  rw [if_pos hw]
  exact wp_app_row s x t ho e i z size bytes ht hi hz hsize hby hzs hsz hb8 base v cs hs hown F vx ds hx hrow h1 hb hbase h
end
/-- A row that fills a block of its own. -/
theorem RowAt.block {w : World} {n b cap : Nat} {cs : List (List Value)} (hn : ∀ c ∈ cs, c.length = n) (h : Is w b cs.flatten.toArray) (hc : cs.length ≤ cap) (hm : cap ≤ maxLen) : RowAt (fun k => k = b) w n (.slice (some ⟨b, 0, none⟩) cs.length cap) cs := by
  refine ⟨some ⟨b, 0, none⟩, cap, rfl, hc, hm, by simp, hn, fun i d hd => ⟨b, 0, rfl, rfl, fun j u hu => ?_⟩⟩
  have hj : j < n := by
    have := hn d (List.mem_of_getElem? hd)
    rcases Nat.lt_or_ge j d.length with q | q
    · omega
    · rw [List.getElem?_eq_none q] at hu; cases hu
  rw [Nat.zero_add]
  exact h.cell _ (by rw [List.getElem?_toArray, flatten_get n cs hn i d hd j hj]; exact hu)
theorem own_some {e : TypeId} {n base : Nat} {w : World} {v : Value} {cs : List (List Value)} (h : OwnC e n base w v cs) (hl : 0 < cs.length) : ∃ g cap, v = .slice (some ⟨g, 0, none⟩) cs.length cap ∧ cs.length ≤ cap ∧ cap ≤ maxLen := by
  rcases h.1.2 with ⟨_, h0⟩ | ⟨g, cap, cur, hv, _, _, hc1, hc2, _⟩
  · omega
  · exact ⟨g, cap, hv, hc1, hc2⟩
theorem own_len {e : TypeId} {n base m : Nat} {w : World} {v : Value} {cs : List (List Value)} (h : OwnC e n base w v cs) (hl : cs.length = m + 1) : ∃ g cap, v = .slice (some ⟨g, 0, none⟩) (m + 1) cap ∧ m + 1 ≤ cap ∧ cap ≤ maxLen := by
  obtain ⟨g, cap, h1, h2, h3⟩ := own_some h (by omega)
  rw [hl] at h1 h2
  exact ⟨g, cap, h1, h2, h3⟩
theorem own_snoc_some {e : TypeId} {n base m : Nat} {w : World} {v : Value} {cs : List (List Value)} {c : List Value} (h : OwnC e n base w v (cs ++ [c])) (hl : cs.length = m) : ∃ g cap, v = .slice (some ⟨g, 0, none⟩) (m + 1) cap ∧ m + 1 ≤ cap ∧ cap ≤ maxLen := by
  obtain ⟨g, cap, h1, h2, h3⟩ := own_some h (by simp)
  rw [List.length_append, hl] at h1 h2
  exact ⟨g, cap, h1, h2, h3⟩
theorem own_frozen {e : TypeId} {n base : Nat} {w : World} {g len cap : Nat} {cs : List (List Value)} (h : OwnC e n base w (.slice (some ⟨g, 0, none⟩) len cap) cs) (i : Nat) : w.frozen? ⟨g, i, none⟩ = false := by
  rcases h.1.2 with ⟨e, _⟩ | ⟨g', cap', cur, e, _, hh, _⟩
  · simp at e
  · simp at e
    obtain ⟨rfl, _⟩ := e
    exact Is.frozen ⟨_, hh⟩ i
/-- A row of one element, in a block of its own. -/
theorem RowAt.one {w : World} {n b cap : Nat} {c : List Value} (hn : c.length = n) (h : Is w b c.toArray) (hc : 1 ≤ cap) (hm : cap ≤ maxLen) : RowAt (fun k => k = b) w n (.slice (some ⟨b, 0, none⟩) 1 cap) [c] := by
  refine ⟨some ⟨b, 0, none⟩, cap, rfl, hc, hm, by simp, by simp [hn], fun i d hd => ?_⟩
  cases i with
  | zero =>
    simp at hd
    subst hd
    refine ⟨b, 0, rfl, rfl, fun j u hu => ?_⟩
    have : (0 : Nat) + (0 * n + j) = j := by omega
    rw [this]
    exact h.cell j (by simpa using hu)
  | succ i => simp at hd
end Go.Proofs.YtkinmllflodhaaaGreat.Mem
