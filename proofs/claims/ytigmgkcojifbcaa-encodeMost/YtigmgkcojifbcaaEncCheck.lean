/- The contract of the program's Check. -/
import Derived.Test.YtigmgkcojifbcaaEncSizeH
namespace Go.Proofs.Ytigmgkcojifbcaa.Hist
open Go.RowKit Go.Proofs.Ytigmgkcojifbcaa.Dig Go.Proofs.Ytigmgkcojifbcaa.Mem Go.Proofs.Ytigmgkcojifbcaa.Keys
set_option linter.unusedVariables false
set_option linter.unusedSimpArgs false

/-- Behind k transactions without an error. -/
structure ChkS (w : World) (bi : Nat) (ts : List TxnM) (hv : Value) (k : Nat) (wr : World) : Prop where
  below : Below w.heap.size w wr
  lt : w.heap.size < bi
  hist : Is wr w.heap.size #[hv]
  box : Is wr (bi + 1 + 1) #[.map (some bi), .map (some (bi + 1))]
  ids : Ids wr bi k (fun y => twinB (ts.take k) y)
  vals : EVals wr (bi + 1) (opsN (ts.take k)) (fun p => appB (ts.take k) p.1 p.2)
theorem ChkS.start {w w1 : World} (ts : List TxnM) (hv : Value) (U : TypeId) (hb : Below w.heap.size w w1) (hh : Is w1 w.heap.size #[hv]) :
    ChkS w w1.heap.size ts hv 0 (((w1.alloc (.map #[] 0)).alloc (.map #[] 0)).alloc (.cells #[.map (some w1.heap.size), .map (some (w1.heap.size + 1))] U)) := by
  have k1 : Ids (w1.alloc (.map #[] 0)) w1.heap.size 0 (fun _ => false) := SetAt.made w1 rfl
  have k2 : EVals ((w1.alloc (.map #[] 0)).alloc (.map #[] 0)) (w1.heap.size + 1) 0 (fun _ => false) := SetAt.made (w1.alloc (.map #[] 0)) (by simp)
  refine ⟨((hb.alloc hb.size _).alloc (by simp; have := hb.size; omega) _).alloc (by simp; have := hb.size; omega) _, hh.lt, ((hh.alloc _).alloc _).alloc _, Is.made _ _ U (by simp), ?_, ?_⟩
  · exact ((k1.keep (S := fun _ => False) ((Only.refl _ _).alloc _) (fun q => q)).keep (S := fun _ => False) ((Only.refl _ _).alloc _) (fun q => q))
  · exact k2.keep (S := fun _ => False) ((Only.refl _ _).alloc _) (fun q => q)
theorem ChkS.next {w wr w7 : World} {bi : Nat} {ts : List TxnM} {hv : Value} {k : Nat} {C : Array Value} {T : TypeId} (h : ChkS w bi ts hv k wr) (hk : k < ts.length) (ho : Only (fun b => b = bi ∨ b = bi + 1) (wr.alloc (.cells C T)) w7)
    (hi : Ids w7 bi (k + 1) (fun y => twinB (ts.take k ++ [ts[k]]) y)) (hv' : EVals w7 (bi + 1) (opsN (ts.take k) + ts[k].ops.length) (fun p => appB (ts.take k ++ [ts[k]]) p.1 p.2)) : ChkS w bi ts hv (k + 1) w7 := by
  have hO : Only (fun b => b = bi ∨ b = bi + 1) wr w7 := ((Only.refl (fun b => b = bi ∨ b = bi + 1) wr).alloc (.cells C T)).trans ho
  have hl := h.lt
  refine ⟨h.below.only hO (fun i q => by omega) h.below.size, h.lt, h.hist.keep hO (by omega), h.box.keep hO (by omega), ?_, ?_⟩
  · rw [List.take_succ_eq_append_getElem hk]; exact hi
  · rw [List.take_succ_eq_append_getElem hk, opsN_app]
    have : opsN [ts[k]] = ts[k].ops.length := by simp [opsN]
    rw [this]
    exact hv'
theorem ChkS.step {w wr w7 : World} {bi : Nat} {ts : List TxnM} {hv : Value} {k : Nat} {C : Array Value} {T : TypeId} (h : ChkS w bi ts hv k wr) (ho : Only (fun b => b = bi ∨ b = bi + 1) (wr.alloc (.cells C T)) w7) : Below w.heap.size w w7 := by
  have hO : Only (fun b => b = bi ∨ b = bi + 1) wr w7 := ((Only.refl (fun b => b = bi ∨ b = bi + 1) wr).alloc (.cells C T)).trans ho
  have hl := h.lt
  exact h.below.only hO (fun i q => by omega) h.below.size
def ChkRel (w : World) (bi : Nat) (ts : List TxnM) (hv : Value) (i : Value) (wr : World) : Prop :=
  ∃ k : Nat, k ≤ ts.length ∧ i = .int .i64 (k : Int) ∧ Hid (chkTs [] (ts.take k) = 0) ∧ Hid (ChkS w bi ts hv k wr)
set_option maxRecDepth 20000 in
set_option maxHeartbeats 1000000 in
theorem check_any (F : Nat → Prop) (v : Value) (ts : List TxnM) (w : World) (h : TxnsAt F w v ts) (hF : ∀ b, F b → b < w.heap.size) (hf : Few4 ts) :
    Calls Try.prog 11 #[.agg #[v]] w fun e w' => e = .returned (.int .i64 (checkS ts)) ∧ Below w.heap.size w w' := by
  obtain ⟨a, c, rfl, _, _⟩ := h.shape
  have H := hide h
  have FF := hide hF
  have FW := hide hf
  have hlen := hf.1
  have hops := hf.2.1
  clear h hf hF
  by_cases h1 : 1024 < ts.length
  · have h1' : (1024 : Int) < (ts.length : Int) := by omega
    have T : Hid (checkS ts = 3) := hide (by unfold checkS; rw [if_pos (.inl h1)])
    clear h1
    go_enter Try.func11, Try.ntmps11
    go_wp2
    go_ret
    exact ⟨by rw [T.out]; rfl, (Below.refl _ _).alloc (Nat.le_refl _) _⟩
  have h1' : ¬ (1024 : Int) < (ts.length : Int) := by omega
  obtain ⟨no, hno⟩ : ∃ no, (opsN ts : Int) = no := ⟨_, rfl⟩
  have EO := hide hno
  by_cases h2 : 4096 < opsN ts
  · have h2' : (4096 : Int) < no := by omega
    have T : Hid (checkS ts = 3) := hide (by unfold checkS; rw [if_pos (.inr h2)])
    clear h1 h2 hno
    go_enter Try.func11, Try.ntmps11
    go_wp2_with (first | (go_at_call 23; go_must ((with_reducible refine (ops_any F _ ts _ (H.out.keep ((Below.refl _ _).alloc (Nat.le_refl _) _)) (by omega) (by omega)).mono ?_); rw [EO.out]; rintro e w1 ⟨rfl, hb1⟩; have HB1 := hide (((Below.refl _ _).alloc (Nat.le_refl _) _).trans (hb1.mono (by simp))); have s1 := (Is.made w #[.slice a ts.length c] 24 rfl).below hb1; have S1 := hide s1; have x1 : w1.cell? ⟨w.heap.size, 0, none⟩ = some (.slice a ts.length c) := s1.cell 0 rfl; have z1 := s1.lt; have x3 : ∀ o1 o2 o3, (((w1.alloc o1).alloc o2).alloc o3).cell? ⟨w.heap.size, 0, none⟩ = some (.slice a ts.length c) := fun o1 o2 o3 => (((S1.out.alloc o1).alloc o2).alloc o3).cell 0 rfl; clear s1 hb1)))
    go_ret
    exact ⟨by rw [T.out]; rfl, HB1.out⟩
  have h2' : ¬ (4096 : Int) < no := by omega
  have T0 : Hid (checkS ts = if chkTs [] ts ≠ 0 then chkTs [] ts else if 262144 < (textH ts).length then 3 else 0) := hide (by unfold checkS; rw [if_neg (by omega)])
  have LEN : Hid (ts.length ≤ 1024 ∧ opsN ts ≤ 4096) := hide ⟨by omega, by omega⟩
  clear h1 h2 hno
  have hmm := @run_makeMap Try.prog
  go_enter Try.func11, Try.ntmps11
  go_wp2_with (first | (go_at_call 23; go_must ((with_reducible refine (ops_any F _ ts _ (H.out.keep ((Below.refl _ _).alloc (Nat.le_refl _) _)) (by omega) (by omega)).mono ?_); rw [EO.out]; rintro e w1 ⟨rfl, hb1⟩; have HB1 := hide (((Below.refl _ _).alloc (Nat.le_refl _) _).trans (hb1.mono (by simp))); have s1 := (Is.made w #[.slice a ts.length c] 24 rfl).below hb1; have S1 := hide s1; have x1 : w1.cell? ⟨w.heap.size, 0, none⟩ = some (.slice a ts.length c) := s1.cell 0 rfl; have z1 := s1.lt; have x3 : ∀ o1 o2 o3, (((w1.alloc o1).alloc o2).alloc o3).cell? ⟨w.heap.size, 0, none⟩ = some (.slice a ts.length c) := fun o1 o2 o3 => (((S1.out.alloc o1).alloc o2).alloc o3).cell 0 rfl; clear s1 hb1)))
  have C0 := hide (ChkS.start ts (.slice a ts.length c) 59 HB1.out S1.out)
  clear hmm x3
  go_loopw [22] (fun i wr => ChkRel w w1.heap.size ts (.slice a ts.length c) i wr) (fun i _ => ts.length - (intOf i).toNat)
  case atStart => exact ⟨0, by omega, rfl, hide rfl, C0⟩
  case round =>
    obtain ⟨k, hk, rfl, hc0, hC⟩ := hrel
    by_cases hlt : k < ts.length
    · have HR := hide (H.out.only (S := fun b => w.heap.size ≤ b) (⟨hC.out.below.os, hC.out.below.tape, hC.out.below.output, hC.out.below.size, fun b hb hn => hC.out.below.block b (by omega)⟩) (fun b q => by have := FF.out b q; omega))
      obtain ⟨b1, o1, l1, q1, rfl, _, hb1, d0, d1, d2, hi1, wi⟩ := HR.out.at hlt
      have hal : Below wr.heap.size wr (wr.alloc (.cells #[.int .i64 ts[k].id, .bool ts[k].ab, .slice l1 ts[k].ops.length q1] 48)) := (Below.refl _ _).alloc (Nat.le_refl _) _
      have HO := hide (hi1.keep hal)
      have HI := hide (hC.out.ids.keep (Only.of_below (S := fun _ => False) hal) (fun q => q))
      have HV := hide (hC.out.vals.keep (Only.of_below (S := fun _ => False) hal) (fun q => q))
      have WI := hide wi
      have FO := hide (FW.out.2.2 _ (List.getElem_mem hlt))
      have HNV : Hid (opsN (ts.take k) + ts[k].ops.length < 1000000) := hide (by have q1 := opsN_take hlt; have q2 := opsN_take_le ts (k + 1); omega)
      have FB : Hid (∀ b, F b → b ≠ w1.heap.size ∧ b ≠ w1.heap.size + 1) := hide (fun b q => by have := FF.out b q; omega)
      have m0 : wr.cell? ⟨w1.heap.size + 1 + 1, 0, none⟩ = some (.map (some w1.heap.size)) := hC.out.box.cell 0 rfl
      have m1 : wr.cell? ⟨w1.heap.size + 1 + 1, 1, none⟩ = some (.map (some (w1.heap.size + 1))) := hC.out.box.cell 1 rfl
      have hz : w1.heap.size + 1 + 1 < wr.heap.size := hC.out.box.lt
      have hk5 : k < 100000 := by omega
      have HT := hide (chkTs_next hlt hc0.out)
      obtain ⟨e, he⟩ : ∃ e, chkT (ts.take k) ts[k] = e := ⟨_, rfl⟩
      have HE := hide he
      clear hal hi1 wi
      by_cases e0 : e = 0
      · subst e0
        clear he
        go_wp2_with (first | (go_at_call 24; go_must ((with_reducible refine (mettxn_any F ts[k] _ w1.heap.size (w1.heap.size + 1) k (opsN (ts.take k)) (ts.take k) _ HI.out HV.out (by omega) HO.out FB.out FO.out WI.out hk5 HNV.out).mono ?_); rw [HE.out]; rintro e' w7 ⟨rfl, ho7, hv7⟩; replace ho7 := hide ho7; replace hv7 := hide hv7)))
        have C7 := hide (ChkS.next hC.out hlt ho7.out (hv7.out (by trivial)).1 (hv7.out (by trivial)).2)
        go_roundw
        case rel => exact ⟨k + 1, by omega, by go_num, hide (HT.out.trans HE.out), C7⟩
        case measure => simp [intOf]; omega
      · have e1 : (e != 0) = true := by simpa using e0
        have TE : Hid (checkS ts = e) := hide (by have q := chkTs_stop (HT.out.trans he) e0; rw [T0.out, q, if_pos e0])
        clear he e0
        go_wp2_with (first | (go_at_call 24; go_must ((with_reducible refine (mettxn_any F ts[k] _ w1.heap.size (w1.heap.size + 1) k (opsN (ts.take k)) (ts.take k) _ HI.out HV.out (by omega) HO.out FB.out FO.out WI.out hk5 HNV.out).mono ?_); rw [HE.out]; rintro e' w7 ⟨rfl, ho7, hv7⟩; replace ho7 := hide ho7; replace hv7 := hide hv7)))
        go_ret
        exact ⟨by rw [TE.out]; rfl, ChkS.step hC.out ho7.out⟩
    · have e : k = ts.length := by omega
      subst e
      have q0 := hc0.out
      rw [List.take_length] at q0
      have hM : MayAll ts := valid_may (by have := chkTs_valid ts [] Valid.nil (by simp; exact LEN.out.1) q0; simpa using this)
      have MM := hide hM
      have HR := hide (H.out.only (S := fun b => w.heap.size ≤ b) (⟨hC.out.below.os, hC.out.below.tape, hC.out.below.output, hC.out.below.size, fun b hb hn => hC.out.below.block b (by omega)⟩) (fun b q => by have := FF.out b q; omega))
      have x1 : wr.cell? ⟨w.heap.size, 0, none⟩ = some (.slice a ts.length c) := hC.out.hist.cell 0 rfl
      obtain ⟨sz, hsz⟩ : ∃ sz, (sizeH ts : Int) = sz := ⟨_, rfl⟩
      have ES := hide hsz
      have HB := hide hC.out.below
      by_cases h3 : 262144 < sz
      · have T : Hid (checkS ts = 3) := hide (by rw [T0.out, q0, if_neg (by simp), if_pos (by have := sizeH_len ts; have := textH8_len ts; omega)])
        clear q0 hM hsz
        go_wp2_with (first | (go_at_call 18; go_must ((with_reducible refine (size_any F _ ts _ HR.out FW.out MM.out).mono ?_); rw [ES.out]; rintro e' w9 ⟨rfl, hb9⟩; have HB9 := hide (HB.out.trans (hb9.mono HB.out.size)); clear hb9)))
        go_ret
        exact ⟨by rw [T.out]; rfl, HB9.out⟩
      · have T : Hid (checkS ts = 0) := hide (by rw [T0.out, q0, if_neg (by simp), if_neg (by have := sizeH_len ts; have := textH8_len ts; omega)])
        clear q0 hM hsz
        go_wp2_with (first | (go_at_call 18; go_must ((with_reducible refine (size_any F _ ts _ HR.out FW.out MM.out).mono ?_); rw [ES.out]; rintro e' w9 ⟨rfl, hb9⟩; have HB9 := hide (HB.out.trans (hb9.mono HB.out.size)); clear hb9)))
        go_ret
        exact ⟨by rw [T.out]; rfl, HB9.out⟩
end Go.Proofs.Ytigmgkcojifbcaa.Hist
