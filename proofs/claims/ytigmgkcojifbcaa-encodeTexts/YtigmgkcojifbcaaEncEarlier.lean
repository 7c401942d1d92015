/- The contract of the document's earlier: the transactions ahead of one, and that one with its operations ahead of one. -/
import Derived.Test.YtigmgkcojifbcaaHistRef
import Derived.Deep.DeepMust
namespace Go.Proofs.Ytigmgkcojifbcaa.Hist
open Go.RowKit Go.Proofs.Ytigmgkcojifbcaa.Dig Go.Proofs.Ytigmgkcojifbcaa.Mem
set_option linter.unusedVariables false
set_option linter.unusedSimpArgs false

theorem row_take {F : Nat → Prop} {w : World} {n : Nat} {a : Option Addr} {len cap : Nat} {cs : List (List Value)} (h : RowAt F w n (.slice a len cap) cs) {k : Nat} (hk : k ≤ len) : RowAt F w n (.slice a k cap) (cs.take k) := by
  obtain ⟨a', cap', e, h2, h3, h4, h5, h6⟩ := h
  simp at e
  obtain ⟨rfl, rfl, rfl⟩ := e
  have hl : (cs.take k).length = k := by rw [List.length_take]; omega
  refine ⟨a, cap, by rw [hl], by rw [hl]; omega, h3, h4, fun c hc => h5 c (List.mem_of_mem_take hc), fun i c hc => h6 i c ?_⟩
  rw [List.getElem?_take] at hc
  split at hc
  · exact hc
  · cases hc
theorem all_take' {α : Type} {R : List Value → α → Prop} {cs : List (List Value)} {xs : List α} (h : AllAt R cs xs) (k : Nat) : AllAt R (cs.take k) (xs.take k) := by
  refine ⟨by rw [List.length_take, List.length_take, h.1], fun i c x h1 h2 => ?_⟩
  rw [List.getElem?_take] at h1 h2
  split at h1
  · rw [if_pos (by assumption)] at h2
    exact h.2 i c x h1 h2
  · cases h1
theorem ops_take' {F : Nat → Prop} {w : World} {a : Option Addr} {len cap : Nat} {os : List OpM} (h : OpsAt F w (.slice a len cap) os) {j : Nat} (hj : j ≤ len) : OpsAt F w (.slice a j cap) (os.take j) := by
  obtain ⟨cs, h1, h2⟩ := h
  exact ⟨cs.take j, row_take h1 hj, all_take' h2 j⟩
theorem Try.infoTxne : (Try.prog.info? 48).map (fun i => (i.zero, i.size, i.bytes)) = some (some (.agg #[.int .i64 0, .bool false, .slice none 0 0]), 3, 40) := by kernel_rfl
/-- Behind the copy. -/
theorem earlier_mid {w w5 : World} {b1 o1 k : Nat} {hv : Value} {T U V : TypeId} {v0 v1 v2 : Value} (ho : Only (fun b => (Value.slice (some ⟨w.heap.size + 1 + 1, 0, none⟩) 0 0).ownBlock = some b) (((w.alloc (.cells #[hv] T)).alloc (.cells #[.slice none 0 0] U)).alloc (.cells #[] V)) w5) :
    Is w5 w.heap.size #[hv] ∧ Is w5 (w.heap.size + 1) #[.slice none 0 0] ∧ Below w.heap.size w w5 ∧ w.heap.size + 1 + 1 < w5.heap.size := by
  have h1 : Below w.heap.size w (((w.alloc (.cells #[hv] T)).alloc (.cells #[.slice none 0 0] U)).alloc (.cells #[] V)) := (((Below.refl _ _).alloc (Nat.le_refl _) _).alloc (by simp) _).alloc (by simp; omega) _
  have hs := ho.size
  simp at hs
  refine ⟨(((Is.made w #[hv] T rfl).alloc _).alloc _).keep ho (fun q => by simp [Value.ownBlock] at q <;> omega), ((Is.made (w.alloc (.cells #[hv] T)) #[.slice none 0 0] U (by simp)).alloc _).keep ho (fun q => by simp [Value.ownBlock] at q <;> omega), h1.only ho (fun i q => by simp [Value.ownBlock] at q; omega) (by simp; omega), by omega⟩
/-- The answer laid. -/
theorem earlier_end {w w5 w6 : World} {F : Nat → Prop} {k j g6 c6 q1 b2 o2 : Nat} {ts : List TxnM} {t : TxnM} {cs : List (List Value)} {C : Array Value} {T : TypeId} {hv : Value}
    (S2 : Is w5 (w.heap.size + 1) #[.slice none 0 0]) (hb5 : Below w.heap.size w w5) (hb56 : Below w5.heap.size w5 w6 ∨ True) (hb6 : Below (w.heap.size + 2) w5 w6) (hz5 : w.heap.size + 1 + 1 < w5.heap.size)
    (hall : AllAt (TxnAt F w) (cs.take k) (ts.take k)) (hF : ∀ b, F b → b < w.heap.size) (hi : OpsAt F w (.slice (some ⟨b2, o2, none⟩) t.ops.length q1) t.ops) (hj : j ≤ t.ops.length) (wi : (Lit.int .i64 t.id).wf = true)
    (hown : OwnC 48 3 (w.heap.size + 2) w6 (.slice (some ⟨g6, 0, none⟩) (k + 1) c6) (cs.take k ++ [[.int .i64 t.id, .bool t.ab, .slice (some ⟨b2, o2, none⟩) j q1]])) :
    TxnsAt (fun b => F b ∨ w.heap.size ≤ b) (w6.setCell ⟨w.heap.size + 1, 0, none⟩ (.slice (some ⟨g6, 0, none⟩) (k + 1) c6)) (.slice (some ⟨g6, 0, none⟩) (k + 1) c6) (ts.take k ++ [⟨t.id, t.ab, t.ops.take j⟩]) ∧
    Below w.heap.size w (w6.setCell ⟨w.heap.size + 1, 0, none⟩ (.slice (some ⟨g6, 0, none⟩) (k + 1) c6)) ∧
    (w6.setCell ⟨w.heap.size + 1, 0, none⟩ (.slice (some ⟨g6, 0, none⟩) (k + 1) c6)).cell? ⟨w.heap.size + 1, 0, none⟩ = some (.slice (some ⟨g6, 0, none⟩) (k + 1) c6) := by
  have hw6 : Below w.heap.size w w6 := hb5.trans (hb6.mono (by omega))
  have hO : Only (fun b => b = w.heap.size + 1) w6 (w6.setCell ⟨w.heap.size + 1, 0, none⟩ (.slice (some ⟨g6, 0, none⟩) (k + 1) c6)) := (Only.refl _ _).put 0 _
  have hI : Is w6 (w.heap.size + 1) #[.slice none 0 0] := S2.keep (S := fun b => w.heap.size + 2 ≤ b) ⟨hb6.os, hb6.tape, hb6.output, hb6.size, fun b hb hn => hb6.block b (by omega)⟩ (by omega)
  refine ⟨⟨_, (hown.row.only hO (fun b q => by have := q.1; omega)).mono (fun b q => .inr (by have := q.1; omega)), AllAt.append (hall.mono fun c x q => ((q.only (Only.of_below (S := fun _ => False) hw6) (fun _ _ r => r)).only hO (fun b q => by have := hF b q; omega)).mono fun b q => .inl q) (AllAt.one ⟨_, rfl, ?_, wi⟩)⟩, hw6.only hO (fun i q => by omega) hw6.size, Is.cell (hI.set 0 _) 0 rfl⟩
  exact (((ops_take' hi hj).keep hw6).only hO (fun b q => by have := hF b q; omega)).mono fun b q => .inl q
set_option maxRecDepth 20000 in
set_option maxHeartbeats 1000000 in
theorem earlier_any (F : Nat → Prop) (v : Value) (ts : List TxnM) (k j : Nat) (w : World) (h : TxnsAt F w v ts) (hF : ∀ b, F b → b < w.heap.size) (hk : k < ts.length) (hj : j < ts[k].ops.length) (hlen : ts.length ≤ 5000) (hlo : ts[k].ops.length ≤ 100000) :
    Calls Try.prog 29 #[.agg #[v], .int .i64 (k : Int), .int .i64 (j : Int)] w fun e w' => ∃ tv, e = .returned (.agg #[tv]) ∧ TxnsAt (fun b => F b ∨ w.heap.size ≤ b) w' tv (ts.take k ++ [⟨ts[k].id, ts[k].ab, ts[k].ops.take j⟩]) ∧ Below w.heap.size w w' := by
  obtain ⟨a, c, rfl, hc1, hc2⟩ := h.shape
  have H := hide h
  have FF := hide hF
  obtain ⟨b1, o1, l1, q1, rfl, hf1, hb1, c0, c1, c2, hi1, wi⟩ := h.at hk
  obtain ⟨b2, o2, _, _, e2, _⟩ := hi1.at hj
  subst e2
  obtain ⟨_, _, e3, hq1, _⟩ := hi1.shape
  simp at e3
  obtain ⟨-, rfl⟩ := e3
  obtain ⟨cs, hrow, hall⟩ := h
  have ROW := hide (row_take hrow (Nat.le_of_lt hk))
  have ALL := hide (all_take' hall k)
  have ONE := hide (txn_one ALL.out)
  have HRL : Hid ((cs.take k).length = k) := hide (by rw [ALL.out.1, List.length_take]; omega)
  have HI := hide hi1
  have WI := hide wi
  obtain ⟨i0, hi0, hz0, hz1, hz2⟩ := info_parts Try.infoTxne
  have HI0 : Hid (Try.prog.info? 48 = some i0 ∧ i0.zero = some (.agg #[.int .i64 0, .bool false, .slice none 0 0]) ∧ i0.size = 3 ∧ i0.bytes = 40) := ⟨hi0, hz0, hz1, hz2⟩
  have hkc : k ≤ c := by omega
  have hjc : j ≤ q1 := by omega
  have hk' : (k : Int) < (ts.length : Int) := by omega
  clear hF hrow hall hi1 wi hi0 hz0 hz1 hz2
  go_enter Try.func29, Try.ntmps29
  go_wp2_with (first | (at_builtin; (refine list_app_row rfl (.tmp 9) (.tmp 13) 22 rfl 48 i0 _ 3 40 Try.underlying22 HI0.out.1 HI0.out.2.1 HI0.out.2.2.1 HI0.out.2.2.2 rfl (by omega) (by omega) (w.heap.size + 2) (.slice (some ⟨w.heap.size + 1 + 1, 0, none⟩) 0 0) [] rfl (OwnC.empty 48 3 (w.heap.size + 2) ((w.alloc (.cells #[.slice (some ⟨b1, o1, none⟩) ts.length c] 24)).alloc (.cells #[.slice none 0 0] 24)) (w.heap.size + 1 + 1) (by simp) (by simp)) F (.slice (some ⟨b1, o1, none⟩) k c) (cs.take k) rfl (ROW.out.keep ((((Below.refl _ _).alloc (Nat.le_refl _) _).alloc (by simp) _).alloc (by first | omega | (simp; done) | (simp; omega)) _)) ONE.out (by rw [HRL.out]; simp; omega) (by first | omega | (simp; done) | (simp; omega)) ?_); intro v5 w5 hown5 ho5 hat5; (obtain ⟨s1, s2, hb5, hz5⟩ := earlier_mid (b1 := b1) (o1 := o1) (k := k) (v0 := .slice none 0 0) (v1 := .slice none 0 0) (v2 := .slice none 0 0) ho5; have HO5 := hide hown5; have S1 := hide s1; have S2 := hide s2; have HB5 := hide hb5; have x1 := s1.cell 0 rfl; have e0 := (hb5.cell (p := ⟨b1, o1 + k * 3, none⟩) hb1).trans c0; have e1 := (hb5.cell (p := ⟨b1, o1 + k * 3 + 1, none⟩) hb1).trans c1; have e2 := (hb5.cell (p := ⟨b1, o1 + k * 3 + 2, none⟩) hb1).trans c2; clear s1 s2 hb5 hown5 ho5 hat5)) | (at_builtin; go_must ((refine list_app_row rfl (.tmp 25) (.tmp 27) 22 rfl 48 i0 _ 3 40 Try.underlying22 HI0.out.1 HI0.out.2.1 HI0.out.2.2.1 HI0.out.2.2.2 rfl (by omega) (by omega) (w.heap.size + 2) v5 (cs.take k) rfl ((HO5.out.alloc _).alloc _) _ _ [[.int .i64 ts[k].id, .bool ts[k].ab, .slice (some ⟨b2, o2, none⟩) j q1]] rfl (RowAt.one rfl (Is.made (w5.alloc (.cells #[.int .i64 ts[k].id, .bool ts[k].ab, .slice (some ⟨b2, o2, none⟩) j q1] 48)) #[.int .i64 ts[k].id, .bool ts[k].ab, .slice (some ⟨b2, o2, none⟩) j q1] 48 (by simp)) (by omega) (by unfold maxLen; omega)) (by simp [Value.oneCell']) (by rw [HRL.out]; simp; omega) (by simp; omega) ?_); intro v6 w6 hown6 ho6 hat6; obtain ⟨g6, c6, rfl, -, -⟩ := own_snoc_some hown6 HRL.out; have BB6 : Hid (Below (w.heap.size + 2) w5 w6) := hide (Below.only (((Below.refl _ _).alloc (by omega) _).alloc (by simp; omega) _) ho6 (fun k q => (HO5.out.lt k q).1) (by simp; omega)); have M := hide (earlier_end (hv := .slice none 0 0) (C := #[]) (T := 0) (t := ts[k]) S2.out HB5.out (.inr trivial) BB6.out hz5 ALL.out FF.out HI.out (Nat.le_of_lt hj) WI.out hown6); have hI6 : Is w6 (w.heap.size + 1) #[.slice none 0 0] := S2.out.keep (S := fun b => w.heap.size + 2 ≤ b) ⟨BB6.out.os, BB6.out.tape, BB6.out.output, BB6.out.size, fun b hb hn => BB6.out.block b (by omega)⟩ (by omega); obtain ⟨hd6, hf6⟩ := Is.one hI6; clear hown6 ho6 hat6)))
  obtain ⟨k1, k2, k3⟩ := M.out
  refine bodyPost_ret (v := .agg #[.slice (some ⟨g6, 0, none⟩) (k + 1) c6]) (by simp [results, Try.results29, go_sem, k3]) rfl ⟨_, rfl, k1, k2⟩
end Go.Proofs.Ytigmgkcojifbcaa.Hist
