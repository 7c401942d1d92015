/- DequeGoes, walked. -/
import Derived.Test.YtfoggnfemcnolaaDqGo
import Derived.Test.YtfoggnfemcnolaaFrame
namespace Go.Proofs.Ytfoggnfemcnolaa.Walk
open Go.RowKit Go.Proofs.Ytfoggnfemcnolaa.Dig Go.Proofs.Ytfoggnfemcnolaa.Mem Go.Proofs.Ytfoggnfemcnolaa.Dq Go.Proofs.Ytfoggnfemcnolaa.DqI Go.Proofs.Ytfoggnfemcnolaa.Bit Go.Shelf
set_option linter.unusedVariables false
set_option linter.unusedSimpArgs false
attribute [local go_sem] Oper.semAt_some

theorem goes_boxes (w : World) (t : Int) (w1 : World) (hb : Below ((w.alloc (.cells #[.int .u8 t] 5)).alloc (.cells #[.bool false] 4)).heap.size ((w.alloc (.cells #[.int .u8 t] 5)).alloc (.cells #[.bool false] 4)) w1) :
    Is w1 w.heap.size #[.int .u8 t] ∧ Is w1 (w.heap.size + 1) #[.bool false] ∧ Below w.heap.size w w1 ∧ w.heap.size + 1 < w1.heap.size := two_boxes hb
theorem goes_no (w : World) (a : Option Addr) (n0 c : Nat) (s t : Int) (h : 200 < n0) (m0 : n0 ≤ 9223372036854775807) : Calls Try.prog 5 #[.slice a n0 c, .int .u8 s, .int .u8 t] w fun e w' => e = .returned (.bool true) ∧ Below w.heap.size w w' := by
  have g0 : (200 : Int) < n0 := by omega
  go_enter Try.func5, Try.ntmps5
  go_wp2_with (first | (go_at_call 7; go_must ((with_reducible refine (works7_any _).mono ?_); rintro e w1 ⟨rfl, hb1⟩; obtain ⟨i0, i1, hb, hlt⟩ := goes_boxes w t w1 hb1; have c1 : w1.cell? ⟨w.heap.size + 1, 0, none⟩ = some (.bool false) := i1.cell 0 rfl; have f1 := i1.frozen 0)))
  have hc : (w1.setCell ⟨w.heap.size + 1, 0, none⟩ (.bool true)).cell? ⟨w.heap.size + 1, 0, none⟩ = some (.bool true) := (i1.set 0 (.bool true)).cell 0 rfl
  exact bodyPost_ret (v := .bool true) (by simp [results, Try.results5, go_sem, hc]) rfl ⟨rfl, hb.setCell (p := ⟨w.heap.size + 1, 0, none⟩) (by simp) _⟩
/-- While the numbers are pushed; while some are stolen. -/
def GoR1 (w : World) (bd nn : Nat) (a : Option Addr) (c : Nat) (l : List Int) (n0 : Nat) (iv : Value) (wr : World) : Prop := ∃ k : Nat, k ≤ n0 ∧ iv = .int .i64 (k : Int) ∧ Hid (Env w bd (l.take k) [(a, c, l)] [(bd + 1, #[.pointer (some ⟨bd, 0, none⟩)]), (w.heap.size + 1, #[.bool false]), (w.heap.size, #[.int .u8 (nn : Int)])] wr)
def GoR2 (w : World) (bd nn : Nat) (a : Option Addr) (c : Nat) (l : List Int) (st : Nat) (iv : Value) (wr : World) : Prop := ∃ k : Nat, k ≤ st ∧ iv = .int .i64 (k : Int) ∧ Hid (Env w bd (l.drop k) [(a, c, l)] [(bd + 1, #[.pointer (some ⟨bd, 0, none⟩)]), (w.heap.size + 1, #[.bool false]), (w.heap.size, #[.int .u8 (nn : Int)])] wr)
/-- While all are gone through: so many have come, and the deque is whatever it is. -/
def goBoxes (w : World) (bd nn : Nat) (a2 a9 : Option Addr) (c2 c9 sn pw B : Nat) : List (Nat × Array Value) := [(B, #[.slice a9 sn c9]), (pw, #[.slice a2 sn c2]), (bd + 1, #[.pointer (some ⟨bd, 0, none⟩)]), (w.heap.size + 1, #[.bool false]), (w.heap.size, #[.int .u8 (nn : Int)])]
def GoI (w : World) (bd nn : Nat) (S : List Int) (a2 a9 : Option Addr) (c2 c9 sn pw B pg g : Nat) (W : World) : Prop := ∃ D : List Int, D.length ≤ 1000 ∧ Env w bd D [(a9, c9, S), (a2, c2, S)] ((pg, #[.int .i64 (g : Int)]) :: goBoxes w bd nn a2 a9 c2 c9 sn pw B) W
theorem exit_four {Q : Exit → Act → World → Prop} {a : Act} {w : World} (h : Exit.inBlock 4 Q .normal a w) : Exit.inBlock 4 Q (.exit 4) a w := by
  simp only [Exit.inBlock, if_true] at h ⊢
  exact h
set_option maxRecDepth 100000 in
set_option maxHeartbeats 8000000 in
theorem goes_yes (w : World) (a : Option Addr) (n0 c : Nat) (l : List Int) (st nn : Nat) (hr : RowI w a c l) (hn : n0 = l.length) (hm : n0 ≤ 200) (hst : st ≤ 255) (hnn : nn ≤ 255) :
    Calls Try.prog 5 #[.slice a n0 c, .int .u8 (st : Int), .int .u8 (nn : Int)] w fun e w' => e = .returned (.bool true) ∧ Below w.heap.size w w' := by
  have g0 : ¬ (200 : Int) < n0 := by omega
  have HR := hide hr
  have HN := hide hn
  clear hr hn
  refine (callsIn_wide (n := 3)).1 ?_
  refine callsIn_of_wp_marks Try.func5 rfl trivial ?_ rfl
  simp only [Try.ntmps5, List.size_toArray, List.length_cons, List.length_nil, Nat.reduceAdd, Nat.reduceSub, Array.replicate_succ, Array.replicate_zero, List.push_toArray, List.append_toArray, List.nil_append, List.cons_append]
  gi_wp2_with (first
    | (refine ⟨trivial, ?_⟩; gi_at_call 7; go_must ((with_reducible refine (callsIn_wide.2 (works7_any _)).mono ?_); rintro e w1 ⟨rfl, hb1⟩; obtain ⟨i0, i1, hb, hlt⟩ := goes_boxes w (nn : Int) w1 hb1; have I0 := hide i0; have I1 := hide i1; have HB := hide hb; clear i0 i1 hb hb1)))
  have E0 : Hid (Env w w1.heap.size [] [(a, c, l)] [(w1.heap.size + 1, #[.pointer (some ⟨w1.heap.size, 0, none⟩)]), (w.heap.size + 1, #[.bool false]), (w.heap.size, #[.int .u8 (nn : Int)])] ((w1.alloc (.cells #[.slice none 0 0, .int .i64 0, .int .i64 0] 27)).alloc (.cells #[.pointer (some ⟨w1.heap.size, 0, none⟩)] 24))) :=
    hide ((Env.start 27 (rows := [(a, c, l)]) (cs := [(w.heap.size + 1, #[.bool false]), (w.heap.size, #[.int .u8 (nn : Int)])]) w1 HB.out rfl (fun r hr => by
      simp only [List.mem_cons, List.not_mem_nil, or_false] at hr
      rcases hr with rfl | rfl
      · exact I1.out
      · exact I0.out) (fun r hr => by obtain rfl := List.mem_singleton.1 hr; exact HR.out)).box _ _ (by simp))
  obtain ⟨bd, hbd⟩ : ∃ bd, bd = w1.heap.size := ⟨_, rfl⟩
  have HBD : Hid (w.heap.size + 1 < bd) := hide (by omega)
  rw [← hbd] at E0 ⊢
  generalize (w1.alloc (.cells #[.slice none 0 0, .int .i64 0, .int .i64 0] 27)).alloc (.cells #[.pointer (some ⟨bd, 0, none⟩)] 24) = W0 at *
  clear I0 I1 HB hbd hlt
  clear w1
  have R0 : Hid (GoR1 w bd nn a c l n0 (.int .i64 0) W0) := hide ⟨0, Nat.zero_le _, rfl, E0⟩
  clear E0
  gi_loopw [8] (fun i wr => GoR1 w bd nn a c l n0 i wr) (fun i _ => n0 - (intOf i).toNat)
  case atStart => exact R0.out
  case round =>
    obtain ⟨k, hk, rfl, HE⟩ := hrel
    clear R0
    by_cases hlt : k < n0
    · have hll : k < l.length := by rw [← HN.out]; exact hlt
      obtain ⟨b1, o1, rfl, hc⟩ := (HE.out.row (a := a) (c := c) (m := l) (by simp)).at hll
      have hpd := (HE.out.one (p := bd + 1) (v := .pointer (some ⟨bd, 0, none⟩)) (by simp)).1
      have HT : Hid (l.take k ++ [l.getD k 0] = l.take (k + 1)) := hide (by
        rw [List.take_add_one, List.getElem?_eq_getElem hll, List.getD_eq_getElem?_getD, List.getElem?_eq_getElem hll]
        rfl)
      have P : Hid (∀ q : Nat, _) := hide (fun q : Nat => pushE (l.getD k 0) (hide (HE.out.keep (below_of_drewN q))) (by rw [List.length_take]; omega))
      rw [HT.out] at P
      obtain ⟨x, hx⟩ : ∃ x, x = l.getD k 0 := ⟨_, rfl⟩
      rw [← hx] at P hc
      have hli : (k : Int) < n0 := by omega
      clear hx HT hll HE
      gi_wp2
      refine Round.wpIn_region_tail (F := Fence.wide) (Round.Grants.refl _ _ _) (by kernel_rfl) 5 rfl rfl (by kernel_rfl) (by kernel_rfl) (by kernel_rfl) (by kernel_rfl) (by kernel_rfl) (by kernel_rfl) ?_
      simp only [List.take, List.drop]
      repeat (first | (gi_big_quiet_step (fail)) | (refine BigFrame.wpQuietIn_want (fun _ _ _ _ => trivial) rfl ?_; intro K hK; gi_big_quiet_op; gi_big_quiet_call ((fail))))
      refine wpQuietIn_nil ?_
      rintro _ ⟨nq, rfl⟩
      gi_wp2_with (refine ⟨trivial, ?_⟩; gi_at_call 12; go_must ((with_reducible refine (callsIn_wide.2 ((Hid.out P) nq)).mono ?_); rintro e w1 ⟨rfl, H1⟩))
      go_roundw
      case rel => exact ⟨k + 1, by omega, by simp, H1⟩
      case measure => simp [intOf]; omega
    · obtain rfl : k = n0 := by omega
      have hge : ¬ (k : Int) < k := by omega
      have R1 : Hid (GoR2 w bd nn a c l st (.int .i64 0) wr) := hide ⟨0, Nat.zero_le _, rfl, by rw [HN.out, List.take_length] at HE; exact HE⟩
      have hstw : IntKind.i64.wrap (st : Int) = st := by rw [IntKind.wrap_i64]; omega
      clear HE
      gi_wp2
      gi_loopw [9] (fun i wr => GoR2 w bd nn a c l st i wr) (fun i _ => st - (intOf i).toNat)
      case atStart => exact R1.out
      case round =>
        obtain ⟨j, hj, rfl, HE⟩ := hrel
        clear R1
        by_cases hjt : j < st
        · have hpd := (HE.out.one (p := bd + 1) (v := .pointer (some ⟨bd, 0, none⟩)) (by simp)).1
          have P := hide (stealG (x := 0) HE)
          rw [List.drop_drop] at P
          have hji : (j : Int) < st := by omega
          gi_wp2_with (refine ⟨trivial, ?_⟩; gi_at_call 10; go_must ((with_reducible refine (callsIn_wide.2 (Hid.out P)).mono ?_); rintro e w1 ⟨x, ok, rfl, H1, _⟩))
          go_roundw
          case rel => exact ⟨j + 1, by omega, by simp, H1⟩
          case measure => simp [intOf]; omega
        · obtain rfl : j = st := by omega
          have hge2 : ¬ (j : Int) < j := by omega
          obtain ⟨mm, hmm⟩ : ∃ mm, mm = min k j := ⟨_, rfl⟩
          have hmin1 : (if (j : Int) < (k : Int) then (j : Int) else (k : Int)) = (mm : Int) := by rw [hmm]; split <;> omega
          have hmin2 : (if (k : Int) < (j : Int) then (k : Int) else (j : Int)) = (mm : Int) := by rw [hmm]; split <;> omega
          have hmin3 : (if j < k then (j : Int) else (k : Int)) = (mm : Int) := by rw [hmm]; split <;> omega
          have hmin4 : (if k < j then (k : Int) else (j : Int)) = (mm : Int) := by rw [hmm]; split <;> omega
          have hml : mm ≤ l.length := by rw [← HN.out, hmm]; omega
          have HS : Hid (l.drop j = l.drop mm) := hide (by
            rcases Nat.le_total j k with q | q
            · rw [hmm, Nat.min_eq_right q]
            · rw [hmm, Nat.min_eq_left q, List.drop_eq_nil_of_le (by rw [← HN.out]; exact q), List.drop_eq_nil_of_le (by rw [← HN.out]; exact Nat.le_refl _)])
          obtain ⟨a2, c2, hsl, hrow⟩ := slice_from HR.out mm hml
          rw [← HN.out] at hsl
          have HR2 := hide (hrow w HR.out)
          rw [HS.out] at HE
          obtain ⟨S, hS⟩ : ∃ S, S = l.drop mm := ⟨_, rfl⟩
          rw [← hS] at HE HR2 hsl
          have HWS : Hid (WfL S) := hide (fun z hz => HR2.out.wf z hz)
          obtain ⟨sn, hsn⟩ : ∃ sn, sn = S.length := ⟨_, rfl⟩
          have HSN := hide hsn
          rw [← hsn] at hsl
          have hsl2 : sn ≤ 200 := by rw [hsn, hS, List.length_drop, ← HN.out]; omega
          have HE2 := hide ((HE.out.arg HR2.out).sub (rows' := [(a2, c2, S)]) (by simp) (fun r hr => hr))
          have hpd := (HE.out.one (p := bd + 1) (v := .pointer (some ⟨bd, 0, none⟩)) (by simp)).1
          have hpl : bd + 1 < wr.heap.size := lt_of_cell hpd
          have heq := eql_nilFunc 33
          have hsl' : ∀ W : World, (Instr.slice 25 (.slice a k c) (some (.int .i64 (mm : Int))) none none).run Try.prog W = .ok (.slice a2 sn c2) W := hsl
          clear HE hmm hml hrow hS hsn HS hsl
          gi_wp2_with (first
            | (refine ⟨trivial, ?_⟩; gi_at_call 20; go_must (have E3 := hide (HE2.out.box (#[.slice a2 sn c2]) 25 (p := wr.heap.size) rfl); (refine (callsIn_wide.2 (allG (n := sn) E3 HWS.out HSN.out)).mono ?_); rintro e w1 ⟨B, a9, c9, rfl, HB, H1⟩)))
          obtain ⟨pw, hpw⟩ : ∃ pw, pw = wr.heap.size := ⟨_, rfl⟩
          obtain ⟨pg, hpg⟩ : ∃ pg, pg = w1.heap.size := ⟨_, rfl⟩
          rw [← hpw] at H1 E3 ⊢
          rw [← hpg]
          have HPB : Hid (∀ r ∈ goBoxes w bd nn a2 a9 c2 c9 sn pw B, r.1 < pg) := hide (fun r hr => by rw [hpg]; obtain ⟨s, h⟩ := H1.out; exact (h.boxes r hr).1.lt)
          have HPR : Hid (∀ r ∈ [(a9, c9, S), (a2, c2, S)], 0 < r.2.2.length → ∀ x, r.1 = some x → x.block ≠ pg) := hide (fun r hr hl x ex => by have := Rd.lt (H1.out.row (a := r.1) (c := r.2.1) (m := r.2.2) hr).rd hl x ex; omega)
          have E0 : Hid (GoI w bd nn S a2 a9 c2 c9 sn pw B pg 0 (w1.alloc (.cells #[.int .i64 0] 3))) := hide ⟨S, by rw [← HSN.out]; omega, H1.out.box _ _ hpg⟩
          have HPW : Hid (w.heap.size ≤ pg) := hide (by rw [hpg]; exact H1.out.below.size)
          obtain ⟨W1, hW1⟩ : ∃ W1, W1 = w1.alloc (.cells #[.int .i64 0] 3) := ⟨_, rfl⟩
          have hsz1 : W1.heap.size = pg + 1 := by rw [hW1, hpg]; simp
          rw [← hW1] at E0 ⊢
          clear H1 E3 HE2 hpw hpg hW1 hpd hpl heq hsl' hmin1 hmin2 hmin3 hmin4 HB HR HR2
          have hnw : IntKind.i64.wrap (nn : Int) = nn := by rw [IntKind.wrap_i64]; omega
          have hst := sallc_led B a9 c9 S (by rw [← HSN.out]; omega) (fun pre W => pre.length ≤ nn ∧ GoI w bd nn S a2 a9 c2 c9 sn pw B pg pre.length W) (fun pre W ⟨_, D, _, hE⟩ => by
            rw [← HSN.out]
            exact ⟨(hE.one (p := B) (v := .slice a9 sn c9) (by simp [goBoxes])).1, hE.row (by simp)⟩)
          refine range_led (n := 3) rfl (by omega) rfl trivial (enters_of Try.func33 (by kernel_rfl) rfl) _ (fun cc pre W => cc = .exit 4 ∧ nn + 1 ≤ sn ∧ GoI w bd nn S a2 a9 c2 c9 sn pw B pg (nn + 1) W) hst (fun _ => rfl) ?hI ?hIx ⟨Nat.zero_le _, E0.out⟩
            (fun x => { tmps := #[Value.slice a k c, .int .u8 (j : Int), .int .u8 (nn : Int), undef, undef, .pointer (some ⟨w.heap.size, 0, none⟩), .pointer (some ⟨w.heap.size + 1, 0, none⟩), .pointer (some ⟨bd + 1, 0, none⟩), .int .i64 (k : Int), .int .i64 (j : Int), .pointer (some ⟨pw, 0, none⟩), .func (.func 33) #[] #[.pointer (some ⟨B, 0, none⟩)], .pointer (some ⟨pg, 0, none⟩), .int .i64 x, .int .i64 (S.getD x.toNat 0), .slice a k c, .int .i64 (k : Int), .bool false, .bool false, .bool true, .bool false, .bool false, undef, .agg #[.slice none 0 0, .int .i64 0, .int .i64 0], .pointer (some ⟨bd, 0, none⟩), .int .i64 (k : Int), .slice a k c, .int .i64 (k : Int), .bool false, u29, u30, u31, u32, u33, u34, u35, u36, .int .i64 (j : Int), .int .u8 (j : Int), .int .i64 (j : Int), .bool false, u41, u42, u43, u44, .slice a k c, .slice a k c, .int .i64 (k : Int), .int .u8 (j : Int), .int .i64 (j : Int), .int .i64 (mm : Int), .slice a2 sn c2, .pointer (some ⟨bd, 0, none⟩), .func (.func 33) #[] #[.pointer (some ⟨B, 0, none⟩)], .func (.func 33) #[] #[.pointer (some ⟨B, 0, none⟩)], .bool false, .func (.func 33) #[] #[.pointer (some ⟨B, 0, none⟩)], .int .i64 x, .int .i64 (S.getD x.toNat 0), undef, undef, undef, undef, undef, undef, undef, undef, undef, undef, undef, undef, undef, undef, undef, undef, undef, undef, undef, undef, undef, undef, undef, undef, undef, undef, undef, undef, undef, undef, undef, undef, undef, undef, undef, undef, undef, undef, undef, undef, undef, undef, undef, undef, undef, undef, undef], defers := [] }) ?assign ?body ?done ?stop
          case hI =>
            rintro pre A V row ⟨hk, D, hD, hE⟩ hg hr
            exact ⟨hk, D, hD, hE.off hg (fun r e => ⟨by have := (hr r e).1; have := HPW.out; omega, (hr r e).2⟩)⟩
          case hIx =>
            rintro cc pre A V row ⟨hk, hk2, D, hD, hE⟩ hg hr
            exact ⟨hk, hk2, D, hD, hE.off hg (fun r e => ⟨by have := (hr r e).1; have := HPW.out; omega, (hr r e).2⟩)⟩
          case assign =>
            intro f x W K hK
            simp only [encE]
            gi_wp2
            exact hK
          case body =>
            rintro f pre x W ⟨hle, D, hD, hE⟩ ⟨i, rfl, hlti, rfl⟩
            rw [upTo_length] at hle hE
            simp only [Int.toNat_natCast]
            have HLN : Hid ((upTo i ++ [(i : Int)]).length = i + 1) := hide (by rw [List.length_append, upTo_length]; rfl)
            obtain ⟨b2, o2, rfl, hc2⟩ := (hE.row (a := a2) (c := c2) (m := S) (by simp)).at hlti
            rw [← HSN.out] at hlti
            obtain ⟨v, hv⟩ : ∃ v, v = S.getD i 0 := ⟨_, rfl⟩
            rw [← hv] at hc2 ⊢
            have k1 := (hE.one (p := pg) (v := .int .i64 (i : Int)) (by simp)).1
            have k2 := (hE.one (p := pw) (v := .slice (some ⟨b2, o2, none⟩) sn c2) (by simp [goBoxes])).1
            have k3 := (hE.one (p := bd + 1) (v := .pointer (some ⟨bd, 0, none⟩)) (by simp [goBoxes])).1
            have k4 := (hE.one (p := w.heap.size) (v := .int .u8 (nn : Int)) (by simp [goBoxes])).1
            have P := hide (popG (hide hE))
            have hlti2 : (i : Int) < sn := by omega
            have hle2 : (i : Int) ≤ nn := by omega
            have HD := hide hD
            have hd : 1 ≤ 3 - 1 - 1 := by omega
            clear hv hE hD
            by_cases hin : i = nn
            · subst hin
              gi_wp2_with (first
                | (refine ⟨trivial, ?_⟩; gi_at_call 8; go_must ((refine (CallsIn.inRound f (callsIn_wide.2 (Hid.out P))).mono ?_); rintro e V1 ⟨x1, ok1, l1, rfl, H1, KO1, HL1⟩; have k5 := (Env.one H1.out (p := bd + 1) (v := .pointer (some ⟨bd, 0, none⟩)) (by simp [goBoxes])).1))
                | (refine ⟨trivial, ?_⟩; gi_at_call 12; go_must ((refine (CallsIn.inRound f (callsIn_wide.2 (pushG _ H1 (by have := HL1.out.1; have := HD.out; omega)))).mono ?_); rintro e V2 ⟨rfl, H2, KO2⟩; have k6 := (Env.one H2.out (p := bd + 1) (v := .pointer (some ⟨bd, 0, none⟩)) (by simp [goBoxes])).1))
                | (refine ⟨trivial, ?_⟩; gi_at_call 10; go_must ((refine (CallsIn.inRound f (callsIn_wide.2 (stealG (x := 0) H2))).mono ?_); rintro e V3 ⟨x3, ok3, rfl, H3, KO3⟩; obtain ⟨k7, k8⟩ := Env.one H3.out (p := pg) (v := .int .i64 (i : Int)) (by simp); have k9 := (Env.one H3.out (p := w.heap.size) (v := .int .u8 (i : Int)) (by simp [goBoxes])).1)))
              have HKO := hide (((KO1.out.trans KO2.out).trans KO3.out).trans (KeepsOthers.setCell V3 ⟨pg, 0, none⟩ (.int .i64 ((i : Int) + 1))))
              have HE4 := hide (Env.set (p := pg) (i := 0) H3.out HPW.out (fun r hr e => by have := HPB.out r hr; omega) (fun r hr hl x ex => HPR.out r hr hl x ex) (.int .i64 ((i : Int) + 1)))
              have HDL : Hid (∀ z : Int, (List.drop 1 (l1 ++ [z])).length ≤ 1000) := hide (fun z => by have := HL1.out.1; have := HD.out; simp; omega)
              have e1 : ((i : Int) + 1) = ((i + 1 : Nat) : Int) := by omega
              exact ⟨HKO.out.from _, rfl, by omega, _, HDL.out _, HE4.out⟩
            · have hin2 : ¬ (i : Int) = nn := by omega
              gi_wp2_with (first
                | (refine ⟨trivial, ?_⟩; gi_at_call 8; go_must ((refine (CallsIn.inRound f (callsIn_wide.2 (Hid.out P))).mono ?_); rintro e V1 ⟨x1, ok1, l1, rfl, H1, KO1, HL1⟩; have k5 := (Env.one H1.out (p := bd + 1) (v := .pointer (some ⟨bd, 0, none⟩)) (by simp [goBoxes])).1))
                | (refine ⟨trivial, ?_⟩; gi_at_call 12; go_must ((refine (CallsIn.inRound f (callsIn_wide.2 (pushG _ H1 (by have := HL1.out.1; have := HD.out; omega)))).mono ?_); rintro e V2 ⟨rfl, H2, KO2⟩; have k6 := (Env.one H2.out (p := bd + 1) (v := .pointer (some ⟨bd, 0, none⟩)) (by simp [goBoxes])).1))
                | (refine ⟨trivial, ?_⟩; gi_at_call 10; go_must ((refine (CallsIn.inRound f (callsIn_wide.2 (stealG (x := 0) H2))).mono ?_); rintro e V3 ⟨x3, ok3, rfl, H3, KO3⟩; obtain ⟨k7, k8⟩ := Env.one H3.out (p := pg) (v := .int .i64 (i : Int)) (by simp); have k9 := (Env.one H3.out (p := w.heap.size) (v := .int .u8 (nn : Int)) (by simp [goBoxes])).1)))
              have HKO := hide (((KO1.out.trans KO2.out).trans KO3.out).trans (KeepsOthers.setCell V3 ⟨pg, 0, none⟩ (.int .i64 ((i : Int) + 1))))
              have HE4 := hide (Env.set (p := pg) (i := 0) H3.out HPW.out (fun r hr e => by have := HPB.out r hr; omega) (fun r hr hl x ex => HPR.out r hr hl x ex) (.int .i64 ((i : Int) + 1)))
              have HDL : Hid (∀ z : Int, (List.drop 1 (l1 ++ [z])).length ≤ 1000) := hide (fun z => by have := HL1.out.1; have := HD.out; simp; omega)
              have e1 : ((i : Int) + 1) = ((i + 1 : Nat) : Int) := by omega
              refine ⟨HKO.out.from _, by rw [HLN.out]; omega, ?_⟩
              rw [HLN.out]
              exact ⟨_, HDL.out _, HE4.out⟩
          case done =>
            rintro Dd xs W hDd rfl ⟨hle, D, hD, hE⟩ hK
            rw [upTo_length, ← HSN.out] at hle hE
            have hle2 : (sn : Int) ≤ nn := by omega
            have k1 := (hE.one (p := pg) (v := .int .i64 (sn : Int)) (by simp)).1
            have k2 := (hE.one (p := pw) (v := .slice a2 sn c2) (by simp [goBoxes])).1
            have k4 := (hE.one (p := w.heap.size) (v := .int .u8 (nn : Int)) (by simp [goBoxes])).1
            obtain ⟨k5, k6⟩ := hE.one (p := w.heap.size + 1) (v := .bool false) (by simp [goBoxes])
            have HI : Hid (Is W (w.heap.size + 1) #[.bool false]) := hide (by obtain ⟨s, h⟩ := hE; exact (h.boxes (w.heap.size + 1, #[.bool false]) (by simp [goBoxes])).1)
            have HBW := hide hE.below
            have hp1 : w.heap.size + 1 < pg := HPB.out (w.heap.size + 1, #[.bool false]) (by simp [goBoxes])
            have HK := hide hK
            clear hE hK
            gi_wp2
            have O2 : Only (fun j => j = w.heap.size + 1) W (W.setCell ⟨w.heap.size + 1, 0, none⟩ (.bool true)) := (Only.refl _ _).put 0 _
            have hK2 := (O2.block Dd (Array.getElem?_eq_some_iff.1 HK.out).1 (by omega)).trans HK.out
            have hI2 := HI.out.set 0 (.bool true)
            have hB2 := HBW.out.setCell (p := ⟨w.heap.size + 1, 0, none⟩) (by simp) (.bool true)
            generalize W.setCell ⟨w.heap.size + 1, 0, none⟩ (.bool true) = W2 at *
            have hg := grownBy_putObj' W2 Dd (.deferred none)
            have hI3 := is_off hI2 hg (fun r e => by cases e; exact ⟨_, hK2, rfl⟩)
            have hc : (W2.putObj Dd (.deferred none)).cell? ⟨w.heap.size + 1, 0, none⟩ = some (.bool true) := hI3.cell 0 rfl
            have hbk := belowK_b (w := w) (Nat.le_refl _) W2 Dd (.deferred (some [])) (.deferred none) (by have := HPW.out; omega) hK2 rfl rfl
            refine ⟨by simp, .inl ⟨_, _, rfl, run_takeDeferred hK2, ?_⟩⟩
            exact ⟨.bool true, by simp [results, Try.f5, go_sem, hc], rfl, hB2.trans hbk⟩
          case stop =>
            rintro Dd cc pre W hDd _ ⟨rfl, hk2, D, hD, hE⟩ hK
            refine wpIn_exit (exit_four ?_)
            have hk3 : (nn : Int) + 1 ≤ sn := by omega
            rcases Nat.lt_or_eq_of_le hk2 with hk4 | hk4
            · have hk5 : (nn : Int) + 1 < sn := by omega
              have k1 := (hE.one (p := pg) (v := .int .i64 ((nn + 1 : Nat) : Int)) (by simp)).1
              have k2 := (hE.one (p := pw) (v := .slice a2 sn c2) (by simp [goBoxes])).1
              have k4 := (hE.one (p := w.heap.size) (v := .int .u8 (nn : Int)) (by simp [goBoxes])).1
              obtain ⟨k5, k6⟩ := hE.one (p := w.heap.size + 1) (v := .bool false) (by simp [goBoxes])
              have HI : Hid (Is W (w.heap.size + 1) #[.bool false]) := hide (by obtain ⟨s, h⟩ := hE; exact (h.boxes (w.heap.size + 1, #[.bool false]) (by simp [goBoxes])).1)
              have HBW := hide hE.below
              have hp1 : w.heap.size + 1 < pg := HPB.out (w.heap.size + 1, #[.bool false]) (by simp [goBoxes])
              have HK := hide hK
              clear hE hK
              gi_wp2
              have O2 : Only (fun j => j = w.heap.size + 1) W (W.setCell ⟨w.heap.size + 1, 0, none⟩ (.bool true)) := (Only.refl _ _).put 0 _
              have hK2 := (O2.block Dd (Array.getElem?_eq_some_iff.1 HK.out).1 (by omega)).trans HK.out
              have hI2 := HI.out.set 0 (.bool true)
              have hB2 := HBW.out.setCell (p := ⟨w.heap.size + 1, 0, none⟩) (by simp) (.bool true)
              generalize W.setCell ⟨w.heap.size + 1, 0, none⟩ (.bool true) = W2 at *
              have hg := grownBy_putObj' W2 Dd (.deferred none)
              have hI3 := is_off hI2 hg (fun r e => by cases e; exact ⟨_, hK2, rfl⟩)
              have hc : (W2.putObj Dd (.deferred none)).cell? ⟨w.heap.size + 1, 0, none⟩ = some (.bool true) := hI3.cell 0 rfl
              have hbk := belowK_b (w := w) (Nat.le_refl _) W2 Dd (.deferred (some [])) (.deferred none) (by have := HPW.out; omega) hK2 rfl rfl
              refine ⟨by simp, .inl ⟨_, _, rfl, run_takeDeferred hK2, ?_⟩⟩
              exact ⟨.bool true, by simp [results, Try.f5, go_sem, hc], rfl, hB2.trans hbk⟩
            · subst hk4
              have k1 := (hE.one (p := pg) (v := .int .i64 ((nn + 1 : Nat) : Int)) (by simp)).1
              have k2 := (hE.one (p := pw) (v := .slice a2 (nn + 1) c2) (by simp [goBoxes])).1
              have k4 := (hE.one (p := w.heap.size) (v := .int .u8 (nn : Int)) (by simp [goBoxes])).1
              obtain ⟨k5, k6⟩ := hE.one (p := w.heap.size + 1) (v := .bool false) (by simp [goBoxes])
              have HI : Hid (Is W (w.heap.size + 1) #[.bool false]) := hide (by obtain ⟨s, h⟩ := hE; exact (h.boxes (w.heap.size + 1, #[.bool false]) (by simp [goBoxes])).1)
              have HBW := hide hE.below
              have hp1 : w.heap.size + 1 < pg := HPB.out (w.heap.size + 1, #[.bool false]) (by simp [goBoxes])
              have HK := hide hK
              clear hE hK
              gi_wp2
              have O2 : Only (fun j => j = w.heap.size + 1) W (W.setCell ⟨w.heap.size + 1, 0, none⟩ (.bool true)) := (Only.refl _ _).put 0 _
              have hK2 := (O2.block Dd (Array.getElem?_eq_some_iff.1 HK.out).1 (by omega)).trans HK.out
              have hI2 := HI.out.set 0 (.bool true)
              have hB2 := HBW.out.setCell (p := ⟨w.heap.size + 1, 0, none⟩) (by simp) (.bool true)
              generalize W.setCell ⟨w.heap.size + 1, 0, none⟩ (.bool true) = W2 at *
              have hg := grownBy_putObj' W2 Dd (.deferred none)
              have hI3 := is_off hI2 hg (fun r e => by cases e; exact ⟨_, hK2, rfl⟩)
              have hc : (W2.putObj Dd (.deferred none)).cell? ⟨w.heap.size + 1, 0, none⟩ = some (.bool true) := hI3.cell 0 rfl
              have hbk := belowK_b (w := w) (Nat.le_refl _) W2 Dd (.deferred (some [])) (.deferred none) (by have := HPW.out; omega) hK2 rfl rfl
              refine ⟨by simp, .inl ⟨_, _, rfl, run_takeDeferred hK2, ?_⟩⟩
              exact ⟨.bool true, by simp [results, Try.f5, go_sem, hc], rfl, hB2.trans hbk⟩
/-- The walk. -/
theorem walk_dequeGoes (w : World) (a : Option Addr) (n0 c : Nat) (l : List Int) (ha : Frame.IsRow .i64 w a n0 c l) (s : Int) (hs : (Lit.int .u8 s).wf = true) (t : Int) (ht : (Lit.int .u8 t).wf = true) :
    Calls Try.prog 5 #[.slice a n0 c, .int .u8 s, .int .u8 t] w fun e w' => e = .returned (.bool true) ∧ Below w.heap.size w w' := by
  have m0 := ha.cap
  by_cases hb : 200 < n0
  · exact goes_no w a n0 c s t hb (by omega)
  obtain ⟨s1, s2⟩ := bounds_u8 hs
  obtain ⟨t1, t2⟩ := bounds_u8 ht
  obtain ⟨st, rfl⟩ : ∃ st : Nat, s = (st : Int) := ⟨s.toNat, by omega⟩
  obtain ⟨nn, rfl⟩ : ∃ nn : Nat, t = (nn : Int) := ⟨t.toNat, by omega⟩
  have hc := ha.cap.1
  obtain ⟨l', rfl, hr, hw, hn⟩ := ha.list (by omega)
  exact goes_yes w a _ c l' st nn ⟨hc, hr, fun e => (hn e).2⟩ rfl (by omega) (by omega) (by omega)
end Go.Proofs.Ytfoggnfemcnolaa.Walk
