/- Joined out of the texts HistRef, EncEarlier, HistApp, EncRefCheck, TabLaw, in that order. -/
import Derived.Test.YtkinmllflodhaaaGreatAll11
import Derived.Test.YtkinmllflodhaaaGreatAll7
import Derived.Test.YtkinmllflodhaaaGreatAll1
import Derived.Deep.RegionLaw
import Derived.Deep.RegionHeld3
import Derived.Deep.DrawnRows
import Derived.Deep.DeepMust
import Derived.Test.YtkinmllflodhaaaGreatAll15
/- The document's txn: a transaction's line. -/
namespace Go.Proofs.YtkinmllflodhaaaGreat.Hist
open Go.RowKit Go.Proofs.YtkinmllflodhaaaGreat.Dig Go.Proofs.YtkinmllflodhaaaGreat.Mem
set_option linter.unusedVariables false
set_option linter.unusedSimpArgs false

theorem Tryz.infoTxn : (Tryz.prog.info? 55).map (fun i => (i.zero, i.size, i.bytes)) = some (some (.agg #[.int .i64 0, .bool false, .slice none 0 0]), 3, 40) := by kernel_rfl
theorem Is.one {w : World} {b : Nat} {v0 : Value} (h : Is w b #[v0]) : w.cell? ⟨b, 0, none⟩ = some v0 ∧ w.frozen? ⟨b, 0, none⟩ = false := ⟨h.cell 0 rfl, h.frozen 0⟩
/-- The history, and where the answer is laid, ahead of a call. -/
theorem two_mid {w w3 : World} {F : Nat → Prop} {tv : Value} {ts : List TxnM} {a : Option Addr} {len : Nat} {z : Nat → Int} {T U : TypeId} (ht : TxnsAt F w tv ts) (hr : Rd .u8 w a len z)
    (hb : Below ((w.alloc (.cells #[tv] T)).alloc (.cells #[.slice none 0 0] U)).heap.size ((w.alloc (.cells #[tv] T)).alloc (.cells #[.slice none 0 0] U)) w3) :
    Is w3 w.heap.size #[tv] ∧ Is w3 (w.heap.size + 1) #[.slice none 0 0] ∧ Below w.heap.size w w3 ∧ TxnsAt F w3 tv ts ∧ Rd .u8 w3 a len z := by
  obtain ⟨h1, h2, h3, h4⟩ := two_boxes hb
  exact ⟨h1, h2, h3, ht.keep h3, hr.only (Only.of_below (S := fun _ => False) h3) (fun _ _ q => q)⟩
theorem two_below (w : World) (c d : Array Value) (T U : TypeId) : Below w.heap.size w ((w.alloc (.cells c T)).alloc (.cells d U)) := ((Below.refl _ _).alloc (Nat.le_refl _) _).alloc (by simp) _
/-- An answer laid. -/
theorem ref_leaf {w w3 : World} {F : Nat → Prop} {tv : Value} {ts : List TxnM} (hb : Below w.heap.size w w3) (hi : Is w3 (w.heap.size + 1) #[.slice none 0 0]) (ht : TxnsAt F w3 tv ts) (hF : ∀ b, F b → b < w.heap.size ∨ (w.heap.size + 1 < b)) :
    TxnsAt F (w3.setCell ⟨w.heap.size + 1, 0, none⟩ tv) tv ts ∧ Below w.heap.size w (w3.setCell ⟨w.heap.size + 1, 0, none⟩ tv) ∧ (w3.setCell ⟨w.heap.size + 1, 0, none⟩ tv).cell? ⟨w.heap.size + 1, 0, none⟩ = some tv := by
  have hO : Only (fun k => k = w.heap.size + 1) w3 (w3.setCell ⟨w.heap.size + 1, 0, none⟩ tv) := (Only.refl _ _).put 0 _
  exact ⟨ht.only hO (fun b q => by have := hF b q; omega), hb.only hO (fun i q => by omega) (by have := hi.lt; omega), (hi.set 0 tv).cell 0 rfl⟩
theorem own_empty {w : World} {b base : Nat} {e : TypeId} (n : Nat) (h : w.heap[b]? = some (.cells #[] e)) (hb : base ≤ b) : OwnC e n base w (.slice (some ⟨b, 0, none⟩) 0 0) [] :=
  ⟨⟨by simp, .inr ⟨b, 0, #[], rfl, hb, h, by simp, by unfold maxLen; omega, by simp, by simp⟩⟩, by simp⟩
theorem at_new (w : World) (o : Obj) {b : Nat} (hb : b = w.heap.size) : (w.alloc o).heap[b]? = some o := by subst hb; exact heap_alloc_new w o
theorem at_old (w : World) (o p : Obj) {b : Nat} (hb : b = w.heap.size) : ((w.alloc o).alloc p).heap[b]? = some o := by subst hb; rw [Below.heap_alloc _ _ _ (by simp)]; exact heap_alloc_new w o
theorem bel_cell {w w' : World} {p : Addr} {v : Value} (h : Below w.heap.size w w') (hc : w.cell? p = some v) : w'.cell? p = some v := (Only.of_below (S := fun _ => False) h).cell hc (fun q => q)
theorem txn_one {F : Nat → Prop} {w : World} {rows : List (List Value)} {ts : List TxnM} (h : AllAt (TxnAt F w) rows ts) : ∀ c ∈ rows, ∀ u ∈ c, u.oneCell' = true := by
  intro c hc u hu
  obtain ⟨i, hi, rfl⟩ := List.mem_iff_getElem.1 hc
  obtain ⟨_, v, e, hv, _⟩ := h.get (i := i) (by rw [← h.1]; exact hi)
  obtain ⟨a, cap, rfl, _⟩ := hv.shape
  rw [e] at hu
  simp at hu
  rcases hu with rfl | rfl | rfl <;> rfl
end Go.Proofs.YtkinmllflodhaaaGreat.Hist

/- The contract of the document's earlier: the transactions ahead of one, and that one with its operations ahead of one. -/
namespace Go.Proofs.YtkinmllflodhaaaGreat.Hist
open Go.RowKit Go.Proofs.YtkinmllflodhaaaGreat.Dig Go.Proofs.YtkinmllflodhaaaGreat.Mem
set_option linter.unusedVariables false
set_option linter.unusedSimpArgs false

theorem row_take {F : Nat → Prop} {w : World} {n : Nat} {a : Option Addr} {len cap : Nat} {cs : List (List Value)} (h : RowAt F w n (.slice a len cap) cs) {k : Nat} (hk : k ≤ len) : RowAt F w n (.slice a k cap) (cs.take k) := by
  obtain ⟨a', cap', e, h2, h3, h4, h5, h6⟩ := h
  simp at e
  obtain ⟨rfl, rfl, rfl⟩ := e
  have hl : (cs.take k).length = k := by rw [List.length_take]; omega
  refine ⟨a, cap, by rw [hl], by rw [hl]; omega, h3, h4, fun c hc => h5 c (List.mem_of_mem_take hc), fun i c hc => h6 i c ?_⟩
  rw [List.getElem?_take] at hc
  split at hc
  · exact hc
  · cases hc
theorem all_take' {α : Type} {R : List Value → α → Prop} {cs : List (List Value)} {xs : List α} (h : AllAt R cs xs) (k : Nat) : AllAt R (cs.take k) (xs.take k) := by
  refine ⟨by rw [List.length_take, List.length_take, h.1], fun i c x h1 h2 => ?_⟩
  rw [List.getElem?_take] at h1 h2
  split at h1
  · rw [if_pos (by assumption)] at h2
    exact h.2 i c x h1 h2
  · cases h1
theorem ops_take' {F : Nat → Prop} {w : World} {a : Option Addr} {len cap : Nat} {os : List OpM} (h : OpsAt F w (.slice a len cap) os) {j : Nat} (hj : j ≤ len) : OpsAt F w (.slice a j cap) (os.take j) := by
  obtain ⟨cs, h1, h2⟩ := h
  exact ⟨cs.take j, row_take h1 hj, all_take' h2 j⟩
theorem Tryz.infoTxne : (Tryz.prog.info? 55).map (fun i => (i.zero, i.size, i.bytes)) = some (some (.agg #[.int .i64 0, .bool false, .slice none 0 0]), 3, 40) := by kernel_rfl
/-- Behind the copy. -/
theorem earlier_mid {w w5 : World} {b1 o1 k : Nat} {hv : Value} {T U V : TypeId} {v0 v1 v2 : Value} (ho : Only (fun b => (Value.slice (some ⟨w.heap.size + 1 + 1, 0, none⟩) 0 0).ownBlock = some b) (((w.alloc (.cells #[hv] T)).alloc (.cells #[.slice none 0 0] U)).alloc (.cells #[] V)) w5) :
    Is w5 w.heap.size #[hv] ∧ Is w5 (w.heap.size + 1) #[.slice none 0 0] ∧ Below w.heap.size w w5 ∧ w.heap.size + 1 + 1 < w5.heap.size := by
  have h1 : Below w.heap.size w (((w.alloc (.cells #[hv] T)).alloc (.cells #[.slice none 0 0] U)).alloc (.cells #[] V)) := (((Below.refl _ _).alloc (Nat.le_refl _) _).alloc (by simp) _).alloc (by simp; omega) _
  have hs := ho.size
  simp at hs
  refine ⟨(((Is.made w #[hv] T rfl).alloc _).alloc _).keep ho (fun q => by simp [Value.ownBlock] at q <;> omega), ((Is.made (w.alloc (.cells #[hv] T)) #[.slice none 0 0] U (by simp)).alloc _).keep ho (fun q => by simp [Value.ownBlock] at q <;> omega), h1.only ho (fun i q => by simp [Value.ownBlock] at q; omega) (by simp; omega), by omega⟩
/-- The answer laid. -/
theorem earlier_end {w w5 w6 : World} {F : Nat → Prop} {k j g6 c6 q1 b2 o2 : Nat} {ts : List TxnM} {t : TxnM} {cs : List (List Value)} {C : Array Value} {T : TypeId} {hv : Value}
    (S2 : Is w5 (w.heap.size + 1) #[.slice none 0 0]) (hb5 : Below w.heap.size w w5) (hb56 : Below w5.heap.size w5 w6 ∨ True) (hb6 : Below (w.heap.size + 2) w5 w6) (hz5 : w.heap.size + 1 + 1 < w5.heap.size)
    (hall : AllAt (TxnAt F w) (cs.take k) (ts.take k)) (hF : ∀ b, F b → b < w.heap.size) (hi : OpsAt F w (.slice (some ⟨b2, o2, none⟩) t.ops.length q1) t.ops) (hj : j ≤ t.ops.length) (wi : (Lit.int .i64 t.id).wf = true)
    (hown : OwnC 55 3 (w.heap.size + 2) w6 (.slice (some ⟨g6, 0, none⟩) (k + 1) c6) (cs.take k ++ [[.int .i64 t.id, .bool t.ab, .slice (some ⟨b2, o2, none⟩) j q1]])) :
    TxnsAt (fun b => F b ∨ w.heap.size ≤ b) (w6.setCell ⟨w.heap.size + 1, 0, none⟩ (.slice (some ⟨g6, 0, none⟩) (k + 1) c6)) (.slice (some ⟨g6, 0, none⟩) (k + 1) c6) (ts.take k ++ [⟨t.id, t.ab, t.ops.take j⟩]) ∧
    Below w.heap.size w (w6.setCell ⟨w.heap.size + 1, 0, none⟩ (.slice (some ⟨g6, 0, none⟩) (k + 1) c6)) ∧
    (w6.setCell ⟨w.heap.size + 1, 0, none⟩ (.slice (some ⟨g6, 0, none⟩) (k + 1) c6)).cell? ⟨w.heap.size + 1, 0, none⟩ = some (.slice (some ⟨g6, 0, none⟩) (k + 1) c6) := by
  have hw6 : Below w.heap.size w w6 := hb5.trans (hb6.mono (by omega))
  have hO : Only (fun b => b = w.heap.size + 1) w6 (w6.setCell ⟨w.heap.size + 1, 0, none⟩ (.slice (some ⟨g6, 0, none⟩) (k + 1) c6)) := (Only.refl _ _).put 0 _
  have hI : Is w6 (w.heap.size + 1) #[.slice none 0 0] := S2.keep (S := fun b => w.heap.size + 2 ≤ b) ⟨hb6.os, hb6.tape, hb6.output, hb6.size, fun b hb hn => hb6.block b (by omega)⟩ (by omega)
  refine ⟨⟨_, (hown.row.only hO (fun b q => by have := q.1; omega)).mono (fun b q => .inr (by have := q.1; omega)), AllAt.append (hall.mono fun c x q => ((q.only (Only.of_below (S := fun _ => False) hw6) (fun _ _ r => r)).only hO (fun b q => by have := hF b q; omega)).mono fun b q => .inl q) (AllAt.one ⟨_, rfl, ?_, wi⟩)⟩, hw6.only hO (fun i q => by omega) hw6.size, Is.cell (hI.set 0 _) 0 rfl⟩
  exact (((ops_take' hi hj).keep hw6).only hO (fun b q => by have := hF b q; omega)).mono fun b q => .inl q
set_option maxRecDepth 20000 in
set_option maxHeartbeats 1000000 in
theorem earlier_any (F : Nat → Prop) (v : Value) (ts : List TxnM) (k j : Nat) (w : World) (h : TxnsAt F w v ts) (hF : ∀ b, F b → b < w.heap.size) (hk : k < ts.length) (hj : j < ts[k].ops.length) (hlen : ts.length ≤ 5000) (hlo : ts[k].ops.length ≤ 100000) :
    Calls Tryz.prog 25 #[.agg #[v], .int .i64 (k : Int), .int .i64 (j : Int)] w fun e w' => ∃ tv, e = .returned (.agg #[tv]) ∧ TxnsAt (fun b => F b ∨ w.heap.size ≤ b) w' tv (ts.take k ++ [⟨ts[k].id, ts[k].ab, ts[k].ops.take j⟩]) ∧ Below w.heap.size w w' := by
  obtain ⟨a, c, rfl, hc1, hc2⟩ := h.shape
  have H := hide h
  have FF := hide hF
  obtain ⟨b1, o1, l1, q1, rfl, hf1, hb1, c0, c1, c2, hi1, wi⟩ := h.at hk
  obtain ⟨b2, o2, _, _, e2, _⟩ := hi1.at hj
  subst e2
  obtain ⟨_, _, e3, hq1, _⟩ := hi1.shape
  simp at e3
  obtain ⟨-, rfl⟩ := e3
  obtain ⟨cs, hrow, hall⟩ := h
  have ROW := hide (row_take hrow (Nat.le_of_lt hk))
  have ALL := hide (all_take' hall k)
  have ONE := hide (txn_one ALL.out)
  have HRL : Hid ((cs.take k).length = k) := hide (by rw [ALL.out.1, List.length_take]; omega)
  have HI := hide hi1
  have WI := hide wi
  obtain ⟨i0, hi0, hz0, hz1, hz2⟩ := info_parts Tryz.infoTxne
  have HI0 : Hid (Tryz.prog.info? 55 = some i0 ∧ i0.zero = some (.agg #[.int .i64 0, .bool false, .slice none 0 0]) ∧ i0.size = 3 ∧ i0.bytes = 40) := ⟨hi0, hz0, hz1, hz2⟩
  have hkc : k ≤ c := by omega
  have hjc : j ≤ q1 := by omega
  have hk' : (k : Int) < (ts.length : Int) := by omega
  clear hF hrow hall hi1 wi hi0 hz0 hz1 hz2
  go_enter Tryz.func25, Tryz.ntmps25
  go_wp2_with (first | (at_builtin; (refine list_app_row rfl (.tmp 9) (.tmp 13) 22 rfl 55 i0 _ 3 40 Tryz.underlying22 HI0.out.1 HI0.out.2.1 HI0.out.2.2.1 HI0.out.2.2.2 rfl (by omega) (by omega) (w.heap.size + 2) (.slice (some ⟨w.heap.size + 1 + 1, 0, none⟩) 0 0) [] rfl (OwnC.empty 55 3 (w.heap.size + 2) ((w.alloc (.cells #[.slice (some ⟨b1, o1, none⟩) ts.length c] 24)).alloc (.cells #[.slice none 0 0] 24)) (w.heap.size + 1 + 1) (by simp) (by simp)) F (.slice (some ⟨b1, o1, none⟩) k c) (cs.take k) rfl (ROW.out.keep ((((Below.refl _ _).alloc (Nat.le_refl _) _).alloc (by simp) _).alloc (by first | omega | (simp; done) | (simp; omega)) _)) ONE.out (by rw [HRL.out]; simp; omega) (by first | omega | (simp; done) | (simp; omega)) ?_); intro v5 w5 hown5 ho5 hat5; (obtain ⟨s1, s2, hb5, hz5⟩ := earlier_mid (b1 := b1) (o1 := o1) (k := k) (v0 := .slice none 0 0) (v1 := .slice none 0 0) (v2 := .slice none 0 0) ho5; have HO5 := hide hown5; have S1 := hide s1; have S2 := hide s2; have HB5 := hide hb5; have x1 := s1.cell 0 rfl; have e0 := (hb5.cell (p := ⟨b1, o1 + k * 3, none⟩) hb1).trans c0; have e1 := (hb5.cell (p := ⟨b1, o1 + k * 3 + 1, none⟩) hb1).trans c1; have e2 := (hb5.cell (p := ⟨b1, o1 + k * 3 + 2, none⟩) hb1).trans c2; clear s1 s2 hb5 hown5 ho5 hat5)) | (at_builtin; go_must ((refine list_app_row rfl (.tmp 25) (.tmp 27) 22 rfl 55 i0 _ 3 40 Tryz.underlying22 HI0.out.1 HI0.out.2.1 HI0.out.2.2.1 HI0.out.2.2.2 rfl (by omega) (by omega) (w.heap.size + 2) v5 (cs.take k) rfl ((HO5.out.alloc _).alloc _) _ _ [[.int .i64 ts[k].id, .bool ts[k].ab, .slice (some ⟨b2, o2, none⟩) j q1]] rfl (RowAt.one rfl (Is.made (w5.alloc (.cells #[.int .i64 ts[k].id, .bool ts[k].ab, .slice (some ⟨b2, o2, none⟩) j q1] 55)) #[.int .i64 ts[k].id, .bool ts[k].ab, .slice (some ⟨b2, o2, none⟩) j q1] 55 (by simp)) (by omega) (by unfold maxLen; omega)) (by simp [Value.oneCell']) (by rw [HRL.out]; simp; omega) (by simp; omega) ?_); intro v6 w6 hown6 ho6 hat6; obtain ⟨g6, c6, rfl, -, -⟩ := own_snoc_some hown6 HRL.out; have BB6 : Hid (Below (w.heap.size + 2) w5 w6) := hide (Below.only (((Below.refl _ _).alloc (by omega) _).alloc (by simp; omega) _) ho6 (fun k q => (HO5.out.lt k q).1) (by simp; omega)); have M := hide (earlier_end (hv := .slice none 0 0) (C := #[]) (T := 0) (t := ts[k]) S2.out HB5.out (.inr trivial) BB6.out hz5 ALL.out FF.out HI.out (Nat.le_of_lt hj) WI.out hown6); have hI6 : Is w6 (w.heap.size + 1) #[.slice none 0 0] := S2.out.keep (S := fun b => w.heap.size + 2 ≤ b) ⟨BB6.out.os, BB6.out.tape, BB6.out.output, BB6.out.size, fun b hb hn => BB6.out.block b (by omega)⟩ (by omega); obtain ⟨hd6, hf6⟩ := Is.one hI6; clear hown6 ho6 hat6)))
  obtain ⟨k1, k2, k3⟩ := M.out
  refine bodyPost_ret (v := .agg #[.slice (some ⟨g6, 0, none⟩) (k + 1) c6]) (by simp [results, Tryz.results25, go_sem, k3]) rfl ⟨_, rfl, k1, k2⟩
end Go.Proofs.YtkinmllflodhaaaGreat.Hist

/- The document's Appended. -/
namespace Go.Proofs.YtkinmllflodhaaaGreat.Hist
open Go.RowKit Go.Proofs.YtkinmllflodhaaaGreat.Dig Go.Proofs.YtkinmllflodhaaaGreat.Mem
set_option linter.unusedVariables false
set_option linter.unusedSimpArgs false

def isApp (k v : Int) (o : OpM) : Bool := !o.read && o.key == k && o.value == v
def hasApp (k v : Int) (t : TxnM) : Bool := t.ops.any (isApp k v)
theorem appB_eq (ts : List TxnM) (k v : Int) : appB ts k v = ts.any (hasApp k v) := rfl
def AnyRel {α : Type} (p : α → Bool) (w : World) (xs : List α) (i : Value) (wr : World) : Prop :=
  ∃ k : Nat, k ≤ xs.length ∧ i = .int .i64 (k : Int) ∧ Hid ((xs.take k).any p = false) ∧ Below w.heap.size w wr
theorem AnyRel.next {α : Type} {p : α → Bool} {w w' : World} {xs : List α} {k : Nat} {i : Value} (hx : k < xs.length) (he : p xs[k] = false) (h : Hid ((xs.take k).any p = false)) (hi : i = .int .i64 ((k + 1 : Nat) : Int)) (hb : Below w.heap.size w w') : AnyRel p w xs i w' :=
  ⟨k + 1, by omega, hi, hide (by rw [any_take hx, h.out, he]; rfl), hb⟩
theorem any_none {α : Type} {p : α → Bool} {xs : List α} {k : Nat} (hk : ¬ k < xs.length) (h : (xs.take k).any p = false) : xs.any p = false := by
  rwa [List.take_of_length_le (by omega)] at h
set_option maxHeartbeats 2000000 in
theorem rapp_any (F : Nat → Prop) (tv : Value) (ts : List TxnM) (k v : Int) (w : World) (h : TxnsAt F w tv ts) (ht : ts.length ≤ 1000000) (ho : ∀ t ∈ ts, t.ops.length ≤ 1000000) :
    Calls Tryz.prog 24 #[.agg #[tv], .int .i64 k, .int .i64 v] w fun e w' => e = .returned (.bool (appB ts k v)) ∧ Below w.heap.size w w' := by
  obtain ⟨a, c, rfl, _, _⟩ := h.shape
  have H : Hid (TxnsAt F w (.slice a ts.length c) ts) := h
  have L : Hid (∀ t ∈ ts, t.ops.length ≤ 1000000) := ho
  clear h ho
  go_enter Tryz.func24, Tryz.ntmps24
  go_wp2
  go_loopw [7] (fun i wr => AnyRel (hasApp k v) (w.alloc (.cells #[.slice a ts.length c] 24)) ts i wr) (fun i _ => ts.length - (intOf i).toNat)
  case atStart => exact ⟨0, by omega, rfl, hide rfl, Below.refl _ _⟩
  case round =>
    obtain ⟨i, hi, rfl, hj, hbel⟩ := hrel
    have HB : Hid (Below w.heap.size w wr) := ((Below.refl _ _).alloc (Nat.le_refl _) _).trans (hbel.mono (by simp))
    have hz : w.heap.size < wr.heap.size := by have := hbel.size; simp at this; omega
    have X : Is wr w.heap.size #[.slice a ts.length c] := (Is.made w _ 24 rfl).below hbel
    have X0 := X.cell 0 rfl
    by_cases hlt : i < ts.length
    · have hol := L.out _ (List.getElem_mem hlt)
      obtain ⟨b1, o1, l1, q1, rfl, _, hb1, c0, c1, c2, hi1, _⟩ := (H.out.keep HB.out).at hlt
      have HO : Hid (OpsAt F wr (.slice l1 ts[i].ops.length q1) ts[i].ops) := hi1
      have HX : Hid (Is wr w.heap.size #[.slice (some ⟨b1, o1, none⟩) ts.length c]) := X
      clear X hi1
      go_wp2
      go_loopw [8] (fun i' wr' => AnyRel (isApp k v) wr ts[i].ops i' wr') (fun i' _ => ts[i].ops.length - (intOf i').toNat)
      case atStart => exact ⟨0, by omega, rfl, hide rfl, Below.refl _ _⟩
      case round =>
        obtain ⟨j, hk2, rfl, hj2, hbel2⟩ := hrel
        have hs2 := hbel2.size
        have Y0 := (HX.out.below hbel2).cell 0 rfl
        have d2 := (hbel2.cell (p := ⟨b1, o1 + i * 3 + 2, none⟩) hb1).trans c2
        by_cases hlt2 : j < ts[i].ops.length
        · obtain ⟨b3, o3, l3, q3, rfl, _, hb3, e0, e1, e2, e3, _⟩ := (HO.out.keep hbel2).at hlt2
          by_cases h1 : ts[i].ops[j].read = true
          · have HE : Hid (isApp k v ts[i].ops[j] = false) := by show _ = _; unfold isApp; rw [h1]; rfl
            clear c0 c1 c2 X0
            go_wp2
            go_roundw
            case rel => exact AnyRel.next hlt2 HE.out hj2 (by go_num) (hbel2.alloc hs2 _)
            case measure => simp [intOf]; omega
          have h1' : ts[i].ops[j].read = false := by simpa using h1
          clear h1
          by_cases h2 : (ts[i].ops[j].key == k) = true
          rotate_left
          · have h2' : (ts[i].ops[j].key == k) = false := by simpa using h2
            have HE : Hid (isApp k v ts[i].ops[j] = false) := by show _ = _; unfold isApp; rw [h2']; simp
            clear c0 c1 c2 X0 h2
            go_wp2
            go_roundw
            case rel => exact AnyRel.next hlt2 HE.out hj2 (by go_num) (hbel2.alloc hs2 _)
            case measure => simp [intOf]; omega
          by_cases h3 : (ts[i].ops[j].value == v) = true
          rotate_left
          · have h3' : (ts[i].ops[j].value == v) = false := by simpa using h3
            have HE : Hid (isApp k v ts[i].ops[j] = false) := by show _ = _; unfold isApp; rw [h3']; simp
            clear c0 c1 c2 X0 h3
            go_wp2
            go_roundw
            case rel => exact AnyRel.next hlt2 HE.out hj2 (by go_num) (hbel2.alloc hs2 _)
            case measure => simp [intOf]; omega
          · have HE : Hid (appB ts k v = true) := by
              show _ = _
              rw [appB_eq]
              exact any_at hlt (any_at hlt2 (by unfold isApp; rw [h1', h2, h3]; rfl))
            clear c0 c1 c2 X0
            go_wp2
            go_ret
            exact ⟨by rw [HE.out]; rfl, HB.out.trans ((hbel2.alloc hs2 _).mono HB.out.size)⟩
        · have HE : Hid (hasApp k v ts[i] = false) := any_none hlt2 hj2.out
          clear c0 c1 c2 X0
          go_wp2
          go_roundw
          case rel => exact AnyRel.next hlt HE.out hj (by go_num) (hbel.trans (hbel2.mono hbel.size))
          case measure => simp [intOf]; omega
    · have HE : Hid (appB ts k v = false) := any_none hlt hj.out
      go_wp2
      go_ret
      exact ⟨by rw [HE.out]; rfl, HB.out⟩
end Go.Proofs.YtkinmllflodhaaaGreat.Hist

/- The contract of the document's Check. -/
namespace Go.Proofs.YtkinmllflodhaaaGreat.Hist
open Go.RowKit Go.Proofs.YtkinmllflodhaaaGreat.Dig Go.Proofs.YtkinmllflodhaaaGreat.Mem
set_option linter.unusedVariables false
set_option linter.unusedSimpArgs false

/-- The history's box, and the transaction's. -/
structure CB (w : World) (hv : Value) (tb : Nat) (cs : Array Value) (wx : World) : Prop where
  below : Below w.heap.size w wx
  hist : Is wx w.heap.size #[hv]
  box : Is wx tb cs
section
variable {w wx wy : World} {hv : Value} {tb : Nat} {cs : Array Value}
theorem CB.keep (h : CB w hv tb cs wx) (hb : Below wx.heap.size wx wy) : CB w hv tb cs wy := ⟨h.below.trans (hb.mono h.below.size), h.hist.below hb, h.box.below hb⟩
theorem earlierC {F : Nat → Prop} {ts : List TxnM} {k j : Nat} (h : Hid (CB w hv tb cs wx)) (ht : Hid (TxnsAt F w hv ts)) (hF : Hid (∀ b, F b → b < w.heap.size)) (hk : k < ts.length) (hj : j < ts[k].ops.length) (hlen : ts.length ≤ 5000) (hlo : ts[k].ops.length ≤ 100000) :
    Calls Tryz.prog 25 #[.agg #[hv], .int .i64 (k : Int), .int .i64 (j : Int)] wx fun e w' => ∃ tv, e = .returned (.agg #[tv]) ∧ Hid (CB w hv tb cs w') ∧ Hid (TxnsAt (fun b => F b ∨ wx.heap.size ≤ b) w' tv (ts.take k ++ [⟨ts[k].id, ts[k].ab, ts[k].ops.take j⟩])) := by
  refine (earlier_any F hv ts k j wx (ht.out.keep h.out.below) (fun b q => Nat.lt_of_lt_of_le (hF.out b q) h.out.below.size) hk hj hlen hlo).mono ?_
  rintro e w' ⟨tv, rfl, h1, h2⟩
  exact ⟨tv, rfl, h.out.keep h2, h1⟩
theorem appC {G : Nat → Prop} {us : List TxnM} {key value : Int} {tv : Value} {r : Bool} (h : Hid (CB w hv tb cs wx)) (ht : Hid (TxnsAt G wx tv us)) (hl : us.length ≤ 1000000) (ho : Hid (∀ t ∈ us, t.ops.length ≤ 1000000)) (hr : Hid (appB us key value = r)) :
    Calls Tryz.prog 24 #[.agg #[tv], .int .i64 key, .int .i64 value] wx fun e w' => e = .returned (.bool r) ∧ Hid (CB w hv tb cs w') := by
  rw [← hr.out]
  refine (rapp_any G tv us key value wx ht.out hl ho.out).mono ?_
  rintro e w' ⟨rfl, hb⟩
  exact ⟨rfl, h.out.keep hb⟩
theorem mayopC {F : Nat → Prop} {o : OpM} {rd b : Bool} {lv : Value} (h : Hid (CB w hv tb cs wx)) (hrd : Hid (o.read = rd)) (hi : Hid (IntsAt F wx lv o.list)) (hl : o.list.length ≤ 1000000) (hb : Hid (mayOpB o = b)) :
    Calls Tryz.prog 23 #[.agg #[.bool rd, .int .i64 o.key, .int .i64 o.value, lv]] wx fun e w' => e = .returned (.bool b) ∧ Hid (CB w hv tb cs w') := by
  rw [← hb.out]
  refine (rmayop_any F o rd lv wx hrd.out hi.out hl).mono ?_
  rintro e w' ⟨rfl, h2⟩
  exact ⟨rfl, h.out.keep h2⟩
end
/-- Behind k transactions without an error. -/
def RcRel (w : World) (hv : Value) (ts : List TxnM) (i : Value) (wr : World) : Prop :=
  ∃ k : Nat, k ≤ ts.length ∧ i = .int .i64 (k : Int) ∧ Hid (chkTs [] (ts.take k) = 0) ∧ Hid (Below w.heap.size w wr) ∧ Hid (Is wr w.heap.size #[hv])
def TwRel (w : World) (hv : Value) (tb : Nat) (cs : Array Value) (ts : List TxnM) (k : Nat) (id : Int) (i : Value) (wr : World) : Prop :=
  ∃ j : Nat, j ≤ k ∧ i = .int .i64 (j : Int) ∧ Hid (twinB (ts.take j) id = false) ∧ Hid (CB w hv tb cs wr)
def OcRel (w : World) (hv : Value) (tb : Nat) (cs : Array Value) (pre : List TxnM) (t : TxnM) (i : Value) (wr : World) : Prop :=
  ∃ j : Nat, j ≤ t.ops.length ∧ i = .int .i64 (j : Int) ∧ Hid (chkOs (pre ++ [⟨t.id, t.ab, []⟩]) (t.ops.take j) = 0) ∧ Hid (CB w hv tb cs wr)
theorem twinB_take {ts : List TxnM} {j : Nat} {id : Int} (h : j < ts.length) : twinB (ts.take (j + 1)) id = (twinB (ts.take j) id || ts[j].id == id) := any_take h
set_option maxRecDepth 20000 in
set_option maxHeartbeats 2000000 in
theorem rcheck_any (F : Nat → Prop) (v : Value) (ts : List TxnM) (w : World) (h : TxnsAt F w v ts) (hF : ∀ b, F b → b < w.heap.size) (hf : Few4 ts) :
    Calls Tryz.prog 6 #[.agg #[v]] w fun e w' => e = .returned (.int .i64 (checkS ts)) ∧ Below w.heap.size w w' := by
  obtain ⟨a, c, rfl, _, _⟩ := h.shape
  have H := hide h
  have FF := hide hF
  have FW := hide hf
  have hlen := hf.1
  have hops := hf.2.1
  clear h hf hF
  by_cases h1 : 1024 < ts.length
  · have h1' : (1024 : Int) < (ts.length : Int) := by omega
    have T : Hid (checkS ts = 3) := hide (by unfold checkS; rw [if_pos (.inl h1)])
    clear h1
    go_enter Tryz.func6, Tryz.ntmps6
    go_wp2
    go_ret
    exact ⟨by rw [T.out]; rfl, (Below.refl _ _).alloc (Nat.le_refl _) _⟩
  have h1' : ¬ (1024 : Int) < (ts.length : Int) := by omega
  obtain ⟨no, hno⟩ : ∃ no, (opsN ts : Int) = no := ⟨_, rfl⟩
  have EO := hide hno
  by_cases h2 : 4096 < opsN ts
  · have h2' : (4096 : Int) < no := by omega
    have T : Hid (checkS ts = 3) := hide (by unfold checkS; rw [if_pos (.inr h2)])
    clear h1 h2 hno
    go_enter Tryz.func6, Tryz.ntmps6
    go_wp2_with (first | (go_at_call 21; go_must ((with_reducible refine (rops_any F _ ts _ (H.out.keep ((Below.refl _ _).alloc (Nat.le_refl _) _)) (by omega) (by omega)).mono ?_); rw [EO.out]; rintro e w1 ⟨rfl, hb1⟩; have HB1 := hide (((Below.refl _ _).alloc (Nat.le_refl _) _).trans (hb1.mono (by simp))); have s1 := (Is.made w #[.slice a ts.length c] 24 rfl).below hb1; have S1 := hide s1; have x1 : w1.cell? ⟨w.heap.size, 0, none⟩ = some (.slice a ts.length c) := s1.cell 0 rfl; have z1 := s1.lt; clear s1 hb1)))
    go_ret
    exact ⟨by rw [T.out]; rfl, HB1.out⟩
  have h2' : ¬ (4096 : Int) < no := by omega
  have T0 : Hid (checkS ts = if chkTs [] ts ≠ 0 then chkTs [] ts else if 262144 < (textH ts).length then 3 else 0) := hide (by unfold checkS; rw [if_neg (by omega)])
  have LEN : Hid (ts.length ≤ 1024 ∧ opsN ts ≤ 4096) := hide ⟨by omega, by omega⟩
  clear h1 h2 hno
  go_enter Tryz.func6, Tryz.ntmps6
  go_wp2_with (first | (go_at_call 21; go_must ((with_reducible refine (rops_any F _ ts _ (H.out.keep ((Below.refl _ _).alloc (Nat.le_refl _) _)) (by omega) (by omega)).mono ?_); rw [EO.out]; rintro e w1 ⟨rfl, hb1⟩; have HB1 := hide (((Below.refl _ _).alloc (Nat.le_refl _) _).trans (hb1.mono (by simp))); have s1 := (Is.made w #[.slice a ts.length c] 24 rfl).below hb1; have S1 := hide s1; have x1 : w1.cell? ⟨w.heap.size, 0, none⟩ = some (.slice a ts.length c) := s1.cell 0 rfl; have z1 := s1.lt; clear s1 hb1)))
  go_loopw [3] (fun i wr => RcRel w (.slice a ts.length c) ts i wr) (fun i _ => ts.length - (intOf i).toNat)
  case atStart => exact ⟨0, by omega, rfl, hide rfl, HB1, S1⟩
  case round =>
    obtain ⟨k, hk, rfl, hc0, hB, hS⟩ := hrel
    obtain ⟨W, hW⟩ : ∃ W, W = wr := ⟨_, rfl⟩
    subst hW
    have hx : W.cell? ⟨w.heap.size, 0, none⟩ = some (.slice a ts.length c) := hS.out.cell 0 rfl
    have hz := hB.out.size
    have hzl := hS.out.lt
    by_cases hlt : k < ts.length
    · obtain ⟨b1, o1, l1, q1, rfl, _, hb1, c0', c1', c2', hi1, _⟩ := H.out.at hlt
      have c0 := (hB.out.cell (p := ⟨b1, o1 + k * 3, none⟩) hb1).trans c0'
      have c1 := (hB.out.cell (p := ⟨b1, o1 + k * 3 + 1, none⟩) hb1).trans c1'
      have c2 := (hB.out.cell (p := ⟨b1, o1 + k * 3 + 2, none⟩) hb1).trans c2'
      have HO : Hid (OpsAt F w (.slice l1 ts[k].ops.length q1) ts[k].ops) := hi1
      have FO := hide (FW.out.2.2 _ (List.getElem_mem hlt))
      have hol0 := (FW.out.2.2 _ (List.getElem_mem hlt)).1
      have HT := hide (chkTs_next hlt hc0.out)
      have HC0 : Hid (CB w (.slice (some ⟨b1, o1, none⟩) ts.length c) W.heap.size #[.int .i64 ts[k].id, .bool ts[k].ab, .slice l1 ts[k].ops.length q1] (W.alloc (.cells #[.int .i64 ts[k].id, .bool ts[k].ab, .slice l1 ts[k].ops.length q1] 55))) :=
        hide ⟨hB.out.alloc hB.out.size _, hS.out.alloc _, Is.made W _ _ rfl⟩
      have HSTOP : Hid (∀ e : Int, chkT (ts.take k) ts[k] = e → e ≠ 0 → checkS ts = e) := hide (fun e he e0 => by have q := chkTs_stop (HT.out.trans he) e0; rw [T0.out, q, if_pos e0])
      clear c0' c1' c2' hi1
      obtain ⟨bm, hbm⟩ : ∃ b, mayB ts[k].id = b := ⟨_, rfl⟩
      have BM := hide hbm
      cases bm with
      | false =>
        have T : Hid (checkS ts = 2) := hide (HSTOP.out 2 (by unfold chkT; rw [if_pos hbm]) (by decide))
        clear hbm
        go_wp2_with (first | (go_at_call 22; (with_reducible refine (rmay_any ts[k].id _).mono ?_); rw [BM.out]; rintro e w2 ⟨rfl, hq⟩; replace hq := hq.symm; subst hq))
        go_ret
        exact ⟨by rw [T.out]; rfl, HC0.out.below⟩
      | true =>
      have HT1 : Hid (chkT (ts.take k) ts[k] = if twinB (ts.take k) ts[k].id = true then 5 else chkOs (ts.take k ++ [⟨ts[k].id, ts[k].ab, []⟩]) ts[k].ops) := hide (by unfold chkT; rw [if_neg (by simp [hbm])])
      clear hbm
      go_wp2_with (first | (go_at_call 22; (with_reducible refine (rmay_any ts[k].id _).mono ?_); rw [BM.out]; rintro e w2 ⟨rfl, hq⟩; replace hq := hq.symm; subst hq))
      go_loopw [5] (fun i wr' => TwRel w (.slice (some ⟨b1, o1, none⟩) ts.length c) W.heap.size #[.int .i64 ts[k].id, .bool ts[k].ab, .slice l1 ts[k].ops.length q1] ts k ts[k].id i wr') (fun i _ => k - (intOf i).toNat)
      case atStart => exact ⟨0, by omega, rfl, hide rfl, HC0⟩
      case round =>
        obtain ⟨j, hj, rfl, ht0, hC⟩ := hrel
        have y0 : wr.cell? ⟨w.heap.size, 0, none⟩ = some (.slice (some ⟨b1, o1, none⟩) ts.length c) := hC.out.hist.cell 0 rfl
        have t0 : wr.cell? ⟨_, 0, none⟩ = some (.int .i64 ts[k].id) := hC.out.box.cell 0 rfl
        by_cases hltj : j < k
        · have hjl : j < ts.length := by omega
          obtain ⟨b1', o1', _, _, e, _, _, g0', _, _, _, _⟩ := H.out.at hjl
          simp at e
          obtain ⟨rfl, rfl⟩ := e
          have g0 := (hC.out.below.cell (p := ⟨b1, o1 + j * 3, none⟩) hb1).trans g0'
          clear g0'
          by_cases he : (ts[j].id == ts[k].id) = true
          · have T : Hid (checkS ts = 5) := hide (HSTOP.out 5 (by rw [HT1.out, if_pos (show twinB (ts.take k) ts[k].id = true from any_at (l := ts.take k) (k := j) (p := fun t : TxnM => t.id == ts[k].id) (by rw [List.length_take]; omega) (by rw [List.getElem_take]; exact he))]) (by decide))
            go_wp2
            go_quiet (fail)
            go_wp2
            go_ret
            exact ⟨by rw [T.out]; rfl, hC.out.below.drewN _⟩
          · have he' : (ts[j].id == ts[k].id) = false := by simpa using he
            have T : Hid (twinB (ts.take (j + 1)) ts[k].id = false) := hide (by rw [twinB_take hjl, ht0.out, he']; rfl)
            clear he
            go_wp2
            go_quiet (fail)
            go_wp2
            go_roundw
            case rel => exact ⟨j + 1, by omega, by go_num, T, hide (hC.out.keep ((Below.refl _ _).drewN _))⟩
            case measure => simp [intOf]; omega
        · have e : j = k := by omega
          subst e
          have HT2 : Hid (chkT (ts.take j) ts[j] = chkOs (ts.take j ++ [⟨ts[j].id, ts[j].ab, []⟩]) ts[j].ops) := hide (by rw [HT1.out, if_neg (by rw [ht0.out]; simp)])
          go_wp2
          go_loopw [6] (fun i wr' => OcRel w (.slice (some ⟨b1, o1, none⟩) ts.length c) W.heap.size #[.int .i64 ts[j].id, .bool ts[j].ab, .slice l1 ts[j].ops.length q1] (ts.take j) ts[j] i wr') (fun i _ => ts[j].ops.length - (intOf i).toNat)
          case atStart => exact ⟨0, by omega, rfl, hide rfl, hC⟩
          case round =>
            obtain ⟨i, hi, rfl, hco, hD⟩ := hrel
            have t2 : wr.cell? ⟨_, 2, none⟩ = some (.slice l1 ts[j].ops.length q1) := hD.out.box.cell 2 rfl
            by_cases hlt2 : i < ts[j].ops.length
            · obtain ⟨b3, o3, l3, q3, rfl, _, hb3, e0', e1', e2', e3', hi3, _⟩ := HO.out.at hlt2
              have e0 := (hD.out.below.cell (p := ⟨b3, o3 + i * 4, none⟩) hb3).trans e0'
              have e1 := (hD.out.below.cell (p := ⟨b3, o3 + i * 4 + 1, none⟩) hb3).trans e1'
              have e2 := (hD.out.below.cell (p := ⟨b3, o3 + i * 4 + 2, none⟩) hb3).trans e2'
              have e3 := (hD.out.below.cell (p := ⟨b3, o3 + i * 4 + 3, none⟩) hb3).trans e3'
              have HI := hide (hi3.keep hD.out.below)
              have hol := FO.out.at hlt2
              have HTO := hide (chkOs_next hlt2 hco.out)
              have HST2 : Hid (∀ e : Int, chkO (ts.take j ++ [⟨ts[j].id, ts[j].ab, ts[j].ops.take i⟩]) ts[j].ops[i] = e → e ≠ 0 → checkS ts = e) := hide (fun e he e0 => HSTOP.out e (by rw [HT2.out]; exact chkOs_stop (HTO.out.trans he) e0) e0)
              clear e0' e1' e2' e3' hi3
              obtain ⟨rd, hrd⟩ : ∃ b, ts[j].ops[i].read = b := ⟨_, rfl⟩
              rw [hrd] at e0
              have HRD := hide hrd
              obtain ⟨bo, hbo⟩ : ∃ b, mayOpB ts[j].ops[i] = b := ⟨_, rfl⟩
              have BO := hide hbo
              cases bo with
              | false =>
                have T : Hid (checkS ts = 2) := hide (HST2.out 2 (by unfold chkO; rw [if_pos hbo]) (by decide))
                clear hbo hrd
                go_wp2_with (first | (go_at_call 23; go_must ((with_reducible refine (mayopC hD HRD HI hol BO).mono ?_); rintro e' w3 ⟨rfl, HE⟩; have y3 : w3.cell? ⟨w.heap.size, 0, none⟩ = some (.slice (some ⟨b1, o1, none⟩) ts.length c) := HE.out.hist.cell 0 rfl; have t3 : w3.cell? ⟨_, 2, none⟩ = some (.slice (some ⟨b3, o3, none⟩) ts[j].ops.length q1) := HE.out.box.cell 2 rfl; have f0 := (HE.out.below.cell (p := ⟨b3, o3 + i * 4, none⟩) hb3).trans ((hD.out.below.cell (p := ⟨b3, o3 + i * 4, none⟩) hb3).symm.trans e0); have f1 := (HE.out.below.cell (p := ⟨b3, o3 + i * 4 + 1, none⟩) hb3).trans ((hD.out.below.cell (p := ⟨b3, o3 + i * 4 + 1, none⟩) hb3).symm.trans e1); have f2 := (HE.out.below.cell (p := ⟨b3, o3 + i * 4 + 2, none⟩) hb3).trans ((hD.out.below.cell (p := ⟨b3, o3 + i * 4 + 2, none⟩) hb3).symm.trans e2); have HED := hide (HE.out.keep (Below.refl _ _).drew))))
                go_ret
                exact ⟨by rw [T.out]; rfl, HE.out.below⟩
              | true =>
              cases rd with
              | true =>
                have T : Hid (chkOs (ts.take j ++ [⟨ts[j].id, ts[j].ab, []⟩]) (ts[j].ops.take (i + 1)) = 0) := hide (by rw [HTO.out]; unfold chkO; rw [if_neg (by simp [hbo]), if_neg (by simp [hrd])])
                clear hbo hrd
                go_wp2_with (first | (go_at_call 23; go_must ((with_reducible refine (mayopC hD HRD HI hol BO).mono ?_); rintro e' w3 ⟨rfl, HE⟩; have y3 : w3.cell? ⟨w.heap.size, 0, none⟩ = some (.slice (some ⟨b1, o1, none⟩) ts.length c) := HE.out.hist.cell 0 rfl; have t3 : w3.cell? ⟨_, 2, none⟩ = some (.slice (some ⟨b3, o3, none⟩) ts[j].ops.length q1) := HE.out.box.cell 2 rfl; have f0 := (HE.out.below.cell (p := ⟨b3, o3 + i * 4, none⟩) hb3).trans ((hD.out.below.cell (p := ⟨b3, o3 + i * 4, none⟩) hb3).symm.trans e0); have f1 := (HE.out.below.cell (p := ⟨b3, o3 + i * 4 + 1, none⟩) hb3).trans ((hD.out.below.cell (p := ⟨b3, o3 + i * 4 + 1, none⟩) hb3).symm.trans e1); have f2 := (HE.out.below.cell (p := ⟨b3, o3 + i * 4 + 2, none⟩) hb3).trans ((hD.out.below.cell (p := ⟨b3, o3 + i * 4 + 2, none⟩) hb3).symm.trans e2); have HED := hide (HE.out.keep (Below.refl _ _).drew))))
                go_quiet (fail)
                go_wp2
                go_roundw
                case rel => exact ⟨i + 1, by omega, by go_num, T, hide (HE.out.keep ((Below.refl _ _).drewN _))⟩
                case measure => simp [intOf]; omega
              | false =>
                obtain ⟨ba, hba⟩ : ∃ b, appB (ts.take j ++ [⟨ts[j].id, ts[j].ab, ts[j].ops.take i⟩]) ts[j].ops[i].key ts[j].ops[i].value = b := ⟨_, rfl⟩
                have BA := hide hba
                have hTL : (ts.take j ++ [(⟨ts[j].id, ts[j].ab, ts[j].ops.take i⟩ : TxnM)]).length ≤ 1000000 := by simp; omega
                have HTO2 : Hid (∀ t ∈ ts.take j ++ [(⟨ts[j].id, ts[j].ab, ts[j].ops.take i⟩ : TxnM)], t.ops.length ≤ 1000000) := hide (fun t ht => by
                  rcases List.mem_append.1 ht with q | q
                  · have := (FW.out.2.2 t (List.mem_of_mem_take q)).1; omega
                  · obtain rfl := List.mem_singleton.1 q
                    simp; omega)
                cases ba with
                | true =>
                  have T : Hid (checkS ts = 6) := hide (HST2.out 6 (by unfold chkO; rw [if_neg (by simp [hbo]), if_pos ⟨hrd, hba⟩]) (by decide))
                  clear hbo hrd hba
                  go_wp2_with (first | (go_at_call 23; go_must ((with_reducible refine (mayopC hD HRD HI hol BO).mono ?_); rintro e' w3 ⟨rfl, HE⟩; have y3 : w3.cell? ⟨w.heap.size, 0, none⟩ = some (.slice (some ⟨b1, o1, none⟩) ts.length c) := HE.out.hist.cell 0 rfl; have t3 : w3.cell? ⟨_, 2, none⟩ = some (.slice (some ⟨b3, o3, none⟩) ts[j].ops.length q1) := HE.out.box.cell 2 rfl; have f0 := (HE.out.below.cell (p := ⟨b3, o3 + i * 4, none⟩) hb3).trans ((hD.out.below.cell (p := ⟨b3, o3 + i * 4, none⟩) hb3).symm.trans e0); have f1 := (HE.out.below.cell (p := ⟨b3, o3 + i * 4 + 1, none⟩) hb3).trans ((hD.out.below.cell (p := ⟨b3, o3 + i * 4 + 1, none⟩) hb3).symm.trans e1); have f2 := (HE.out.below.cell (p := ⟨b3, o3 + i * 4 + 2, none⟩) hb3).trans ((hD.out.below.cell (p := ⟨b3, o3 + i * 4 + 2, none⟩) hb3).symm.trans e2); have HED := hide (HE.out.keep (Below.refl _ _).drew))))
                  go_region_held3 (fun w' => w'.cell? ⟨w.heap.size, 0, none⟩ = some (.slice (some ⟨b1, o1, none⟩) ts.length c) ∧ w'.cell? ⟨W.heap.size, 2, none⟩ = some (.slice (some ⟨b3, o3, none⟩) ts[j].ops.length q1) ∧ w'.cell? ⟨b3, o3 + i * 4, none⟩ = some (.bool false) ∧ w'.cell? ⟨b3, o3 + i * 4 + 1, none⟩ = some (.int .i64 ts[j].ops[i].key) ∧ w'.cell? ⟨b3, o3 + i * 4 + 2, none⟩ = some (.int .i64 ts[j].ops[i].value)) (first | assumption | go_keep)
                    (first
                      | (go_at_call 25; (with_reducible refine (earlierC (by assumption) H FF hlt hlt2 hlen hol0).mono ?_); rintro e' wx ⟨tv, rfl, HX, HTV⟩; have f0 := (HX.out.below.cell (p := ⟨b3, o3 + i * 4, none⟩) hb3).trans ((hD.out.below.cell (p := ⟨b3, o3 + i * 4, none⟩) hb3).symm.trans e0); have f1 := (HX.out.below.cell (p := ⟨b3, o3 + i * 4 + 1, none⟩) hb3).trans ((hD.out.below.cell (p := ⟨b3, o3 + i * 4 + 1, none⟩) hb3).symm.trans e1); have f2 := (HX.out.below.cell (p := ⟨b3, o3 + i * 4 + 2, none⟩) hb3).trans ((hD.out.below.cell (p := ⟨b3, o3 + i * 4 + 2, none⟩) hb3).symm.trans e2); have y3 := Is.cell HX.out.hist 0 rfl; have t3 := Is.cell HX.out.box 2 rfl)
                      | (go_at_call 24; (with_reducible refine (appC (by assumption) HTV hTL HTO2 BA).mono ?_); rintro e' wx ⟨rfl, HX⟩; have f0 := (HX.out.below.cell (p := ⟨b3, o3 + i * 4, none⟩) hb3).trans ((hD.out.below.cell (p := ⟨b3, o3 + i * 4, none⟩) hb3).symm.trans e0); have f1 := (HX.out.below.cell (p := ⟨b3, o3 + i * 4 + 1, none⟩) hb3).trans ((hD.out.below.cell (p := ⟨b3, o3 + i * 4 + 1, none⟩) hb3).symm.trans e1); have f2 := (HX.out.below.cell (p := ⟨b3, o3 + i * 4 + 2, none⟩) hb3).trans ((hD.out.below.cell (p := ⟨b3, o3 + i * 4 + 2, none⟩) hb3).symm.trans e2); have y3 := Is.cell HX.out.hist 0 rfl; have t3 := Is.cell HX.out.box 2 rfl))
                  go_wp2
                  go_ret
                  exact ⟨by rw [T.out]; rfl, HX.out.below⟩
                | false =>
                  have T : Hid (chkOs (ts.take j ++ [⟨ts[j].id, ts[j].ab, []⟩]) (ts[j].ops.take (i + 1)) = 0) := hide (by rw [HTO.out]; unfold chkO; rw [if_neg (by simp [hbo]), if_neg (by simp [hba])])
                  clear hbo hrd hba
                  go_wp2_with (first | (go_at_call 23; go_must ((with_reducible refine (mayopC hD HRD HI hol BO).mono ?_); rintro e' w3 ⟨rfl, HE⟩; have y3 : w3.cell? ⟨w.heap.size, 0, none⟩ = some (.slice (some ⟨b1, o1, none⟩) ts.length c) := HE.out.hist.cell 0 rfl; have t3 : w3.cell? ⟨_, 2, none⟩ = some (.slice (some ⟨b3, o3, none⟩) ts[j].ops.length q1) := HE.out.box.cell 2 rfl; have f0 := (HE.out.below.cell (p := ⟨b3, o3 + i * 4, none⟩) hb3).trans ((hD.out.below.cell (p := ⟨b3, o3 + i * 4, none⟩) hb3).symm.trans e0); have f1 := (HE.out.below.cell (p := ⟨b3, o3 + i * 4 + 1, none⟩) hb3).trans ((hD.out.below.cell (p := ⟨b3, o3 + i * 4 + 1, none⟩) hb3).symm.trans e1); have f2 := (HE.out.below.cell (p := ⟨b3, o3 + i * 4 + 2, none⟩) hb3).trans ((hD.out.below.cell (p := ⟨b3, o3 + i * 4 + 2, none⟩) hb3).symm.trans e2); have HED := hide (HE.out.keep (Below.refl _ _).drew))))
                  go_region_held3 (fun w' => w'.cell? ⟨w.heap.size, 0, none⟩ = some (.slice (some ⟨b1, o1, none⟩) ts.length c) ∧ w'.cell? ⟨W.heap.size, 2, none⟩ = some (.slice (some ⟨b3, o3, none⟩) ts[j].ops.length q1) ∧ w'.cell? ⟨b3, o3 + i * 4, none⟩ = some (.bool false) ∧ w'.cell? ⟨b3, o3 + i * 4 + 1, none⟩ = some (.int .i64 ts[j].ops[i].key) ∧ w'.cell? ⟨b3, o3 + i * 4 + 2, none⟩ = some (.int .i64 ts[j].ops[i].value)) (first | assumption | go_keep)
                    (first
                      | (go_at_call 25; (with_reducible refine (earlierC (by assumption) H FF hlt hlt2 hlen hol0).mono ?_); rintro e' wx ⟨tv, rfl, HX, HTV⟩; have f0 := (HX.out.below.cell (p := ⟨b3, o3 + i * 4, none⟩) hb3).trans ((hD.out.below.cell (p := ⟨b3, o3 + i * 4, none⟩) hb3).symm.trans e0); have f1 := (HX.out.below.cell (p := ⟨b3, o3 + i * 4 + 1, none⟩) hb3).trans ((hD.out.below.cell (p := ⟨b3, o3 + i * 4 + 1, none⟩) hb3).symm.trans e1); have f2 := (HX.out.below.cell (p := ⟨b3, o3 + i * 4 + 2, none⟩) hb3).trans ((hD.out.below.cell (p := ⟨b3, o3 + i * 4 + 2, none⟩) hb3).symm.trans e2); have y3 := Is.cell HX.out.hist 0 rfl; have t3 := Is.cell HX.out.box 2 rfl)
                      | (go_at_call 24; (with_reducible refine (appC (by assumption) HTV hTL HTO2 BA).mono ?_); rintro e' wx ⟨rfl, HX⟩; have f0 := (HX.out.below.cell (p := ⟨b3, o3 + i * 4, none⟩) hb3).trans ((hD.out.below.cell (p := ⟨b3, o3 + i * 4, none⟩) hb3).symm.trans e0); have f1 := (HX.out.below.cell (p := ⟨b3, o3 + i * 4 + 1, none⟩) hb3).trans ((hD.out.below.cell (p := ⟨b3, o3 + i * 4 + 1, none⟩) hb3).symm.trans e1); have f2 := (HX.out.below.cell (p := ⟨b3, o3 + i * 4 + 2, none⟩) hb3).trans ((hD.out.below.cell (p := ⟨b3, o3 + i * 4 + 2, none⟩) hb3).symm.trans e2); have y3 := Is.cell HX.out.hist 0 rfl; have t3 := Is.cell HX.out.box 2 rfl))
                  go_wp2
                  go_roundw
                  case rel => exact ⟨i + 1, by omega, by go_num, T, HX⟩
                  case measure => simp [intOf]; omega
            · have e : i = ts[j].ops.length := by omega
              subst e
              have T : Hid (chkTs [] (ts.take (j + 1)) = 0) := hide (by have q := hco.out; rw [List.take_length] at q; rw [HT.out, HT2.out, q])
              have BB := hide hD.out.below
              have SS := hide hD.out.hist
              go_wp2
              go_roundw
              case rel => exact ⟨j + 1, by omega, by go_num, T, BB, SS⟩
              case measure => simp [intOf]; omega
    · have e : k = ts.length := by omega
      subst e
      have q0 := hc0.out
      rw [List.take_length] at q0
      have hM : MayAll ts := valid_may (by have := chkTs_valid ts [] Valid.nil (by simp; exact LEN.out.1) q0; simpa using this)
      have MM := hide hM
      obtain ⟨L, hL⟩ : ∃ L, textH8 ts = L := ⟨_, rfl⟩
      have EL := hide hL
      have HLN : Hid ((textH ts).length = L.length) := hide (by rw [← textH8_len, hL])
      by_cases h3 : 262144 < (L.length : Int)
      · have T : Hid (checkS ts = 3) := hide (by rw [T0.out, q0, if_neg (by simp), if_pos (by have := HLN.out; omega)])
        clear q0 hM hL
        go_wp2_with (first | (go_at_call 26; go_must ((with_reducible refine (rtext_any F _ ts _ (H.out.keep hB.out) FW.out MM.out).mono ?_); rw [EL.out]; rintro e' w9 ⟨rfl, hb9⟩; have HB9 := hide (hB.out.trans (hb9.mono hB.out.size)); clear hb9)))
        go_ret
        exact ⟨by rw [T.out]; rfl, HB9.out⟩
      · have T : Hid (checkS ts = 0) := hide (by rw [T0.out, q0, if_neg (by simp), if_neg (by have := HLN.out; omega)])
        clear q0 hM hL
        go_wp2_with (first | (go_at_call 26; go_must ((with_reducible refine (rtext_any F _ ts _ (H.out.keep hB.out) FW.out MM.out).mono ?_); rw [EL.out]; rintro e' w9 ⟨rfl, hb9⟩; have HB9 := hide (hB.out.trans (hb9.mono hB.out.size)); clear hb9)))
        go_ret
        exact ⟨by rw [T.out]; rfl, HB9.out⟩
end Go.Proofs.YtkinmllflodhaaaGreat.Hist

/- What a law of layer 12 has about it: the history's box, and the table. -/
namespace Go.Proofs.YtkinmllflodhaaaGreat.Tab
open Go.RowKit Go.Proofs.YtkinmllflodhaaaGreat.Dig Go.Proofs.YtkinmllflodhaaaGreat.Mem Go.Proofs.YtkinmllflodhaaaGreat.Hist Go.Proofs.YtkinmllflodhaaaGreat.Own Go.Proofs.YtkinmllflodhaaaGreat.Thing Go.Proofs.YtkinmllflodhaaaGreat.Sets Go.Shelf Go.Proofs.YtkinmllflodhaaaGreat.Keys
set_option linter.unusedVariables false
set_option linter.unusedSimpArgs false

/-- The history's box at w's end, and what has been added since. -/
structure LH (w : World) (ta : Option Addr) (n tcap : Nat) (ts : List TxnM) (W : World) : Prop where
  hist : TxnsAt (fun b => b < w.heap.size) W (.slice ta n tcap) ts
  box : Is W w.heap.size #[.slice ta n tcap]
  below : Below w.heap.size w W
/-- .. and the table. -/
structure LT (w : World) (ta : Option Addr) (n tcap : Nat) (ts : List TxnM) (bT : Nat) (s : Tb) (W : World) : Prop where
  lh : LH w ta n tcap ts W
  tab : TabV W (.pointer (some ⟨bT, 0, none⟩)) (docIds ts) (docKeys ts) s
variable {w W W' : World} {ta : Option Addr} {n tcap : Nat} {ts : List TxnM} {bT : Nat} {s : Tb}
theorem LH.keep (h : LH w ta n tcap ts W) (hb : Below W.heap.size W W') : LH w ta n tcap ts W' := ⟨h.hist.keep hb, h.box.below hb, h.below.trans (hb.mono h.below.size)⟩
theorem LT.keep (h : LT w ta n tcap ts bT s W) (hb : Below W.heap.size W W') : LT w ta n tcap ts bT s W' := ⟨h.lh.keep hb, h.tab.keep hb⟩
theorem LH.c (h : LH w ta n tcap ts W) : W.cell? ⟨w.heap.size, 0, none⟩ = some (.slice ta n tcap) := h.box.cell 0 rfl
theorem LH.start (h : TxnsAt (fun b => b < w.heap.size) w (.slice ta n tcap) ts) : LH w ta n tcap ts (w.alloc (.cells #[.slice ta n tcap] 24)) :=
  ⟨h.keep ((Below.refl _ _).alloc (Nat.le_refl _) _), Is.made w _ _ rfl, (Below.refl _ _).alloc (Nat.le_refl _) _⟩
theorem LH.wide (h : LH w ta n tcap ts W) : TxnsAt (fun b => b < W.heap.size) W (.slice ta n tcap) ts := h.hist.mono fun b q => Nat.lt_of_lt_of_le q h.below.size
theorem LH.len (h : LH w ta n tcap ts W) : n = ts.length := by
  obtain ⟨a, c, e, _⟩ := h.hist.shape
  cases e
  rfl
theorem fewLH (h : Hid (LH w ta n tcap ts W)) : Calls Tryz.prog 5 #[.agg #[.slice ta n tcap], .int .i64 20, .int .i64 60] W fun e w' => ∃ r, e = .returned (.bool r) ∧ Hid (r = true → ts.length ≤ 20 ∧ opsN ts ≤ 60 ∧ Lists 100 ts) ∧ Hid (LH w ta n tcap ts w') := by
  refine (rfew2_any _ _ ts W h.out.hist).mono ?_
  rintro e w' ⟨r, rfl, h1, h2⟩
  exact ⟨r, rfl, h1, h.out.keep h2⟩
/-- Few. -/
def FewH (ts : List TxnM) : Prop := ts.length ≤ 20 ∧ opsN ts ≤ 60 ∧ Lists 100 ts
theorem FewH.f4 (h : FewH ts) : Few4 ts :=
  ⟨by have := h.1; omega, by have := h.2.1; omega, fun t ht => ⟨by obtain ⟨i, hi, rfl⟩ := List.mem_iff_getElem.1 ht; have := ops_le hi; have := h.2.1; omega, fun o ho => by have := h.2.2 t ht o ho; omega⟩⟩
theorem FewH.ft (h : FewH ts) : FewT ts := ⟨by have := h.1; omega, by have := h.2.1; omega, fun t ht o ho => by have := h.2.2 t ht o ho; omega⟩
theorem FewH.ids (h : FewH ts) : (docIds ts).length ≤ 20 := by
  have h1 := setL_length (lt := ltI) ((ts.filter fun t => !t.ab).map (·.id))
  have h2 := idsOf_le ts
  have := h.1
  unfold idsOf at h2
  unfold docIds
  omega
theorem FewH.keys (h : FewH ts) : (docKeys ts).length ≤ 60 := by
  have h1 := setL_length (lt := ltI) (keysOf ts)
  have h2 := keysOf_len ts
  have := h.2.1
  unfold docKeys
  omega
theorem rcheckLH {ec : Int} (h : Hid (LH w ta n tcap ts W)) (hf : Hid (FewH ts)) (hc : Hid (ec = checkS ts)) : Calls Tryz.prog 6 #[.agg #[.slice ta n tcap]] W fun e w' => e = .returned (.int .i64 ec) ∧ Hid (Below W.heap.size W w') := by
  rw [hc.out]
  exact rcheck_any _ _ ts W h.out.hist (fun b q => Nat.lt_of_lt_of_le q h.out.below.size) hf.out.f4
theorem newLH {ec : Int} (h : Hid (LH w ta n tcap ts W)) (hf : Hid (FewH ts)) (hc : Hid (ec = checkS ts)) : Calls Tryz.prog 8 #[.agg #[.slice ta n tcap]] W fun e w' =>
    (Hid (ec ≠ 0) ∧ e = .returned (.tuple #[.pointer none, .int .i64 ec]) ∧ Hid (LH w ta n tcap ts w')) ∨ (ec = 0 ∧ ∃ bT s, e = .returned (.tuple #[.pointer (some ⟨bT, 0, none⟩), .int .i64 0]) ∧ Hid (LT w ta n tcap ts bT s w') ∧ Hid (∃ us, Ord ts us ∧ Uq ts ∧ s = tb (flat us))) := by
  have hn := h.out.len
  rw [hc.out]
  refine (new_any _ ts W h.out.wide hf.out.f4 hf.out.ft).mono ?_
  rintro e w' (⟨q, rfl, hb⟩ | ⟨q, bT, rfl, hm⟩)
  · exact .inl ⟨q, rfl, h.out.keep hb⟩
  · obtain ⟨us, ho, hv⟩ := hm.vw hf.out.ft
    refine .inr ⟨q, bT, tb (flat us), rfl, ⟨h.out.keep hm.below, .inr ⟨bT, rfl, ?_⟩⟩, us, ho, valid_uq (checkS_ok q).1, rfl⟩
    rw [← ids_ord ho]
    exact hv
theorem idsLT {m : Nat} (h : Hid (LT w ta n tcap ts bT s W)) (hf : Hid (FewH ts)) (hm : Hid (m = (docIds ts).length)) : Calls Tryz.prog 30 #[.pointer (some ⟨bT, 0, none⟩)] W fun e w' => ∃ a c, e = .returned (.slice a m c) ∧ Hid (RowV w' a c (docIds ts)) ∧ Hid (Below W.heap.size W w') := by
  rw [hm.out]
  refine (ids_any h.out.tab (by have := hf.out.ids; omega)).mono ?_
  rintro e w' ⟨a, k, c, rfl, hq, hb⟩
  obtain ⟨rfl, hr⟩ := hq.out
  exact ⟨a, c, rfl, hr, hb⟩
theorem keysLT {m : Nat} (h : Hid (LT w ta n tcap ts bT s W)) (hf : Hid (FewH ts)) (hm : Hid (m = (docKeys ts).length)) : Calls Tryz.prog 31 #[.pointer (some ⟨bT, 0, none⟩)] W fun e w' => ∃ a c, e = .returned (.slice a m c) ∧ Hid (RowV w' a c (docKeys ts)) ∧ Hid (Below W.heap.size W w') := by
  rw [hm.out]
  refine (keys_any h.out.tab (by have := hf.out.keys; omega)).mono ?_
  rintro e w' ⟨a, k, c, rfl, hq, hb⟩
  obtain ⟨rfl, hr⟩ := hq.out
  exact ⟨a, c, rfl, hr, hb⟩
theorem ridsLT {m : Nat} (h : Hid (LT w ta n tcap ts bT s W)) (hf : Hid (FewH ts)) (hm : Hid (m = (docIds ts).length)) : Calls Tryz.prog 45 #[.agg #[.slice ta n tcap]] W fun e w' => ∃ a c, e = .returned (.slice a m c) ∧ Hid (RowV w' a c (docIds ts)) ∧ Hid (Below W.heap.size W w') := by
  rw [hm.out]
  refine (rids_any _ _ ts W h.out.lh.hist (fun b q => Nat.lt_of_lt_of_le q h.out.lh.below.size) (by have := hf.out.1; omega)).mono ?_
  rintro e w' ⟨⟨a, c, rfl, hr⟩, hb⟩
  exact ⟨a, c, rfl, hr, hb⟩
theorem rankLT {id k : Int} {q : Bool} (h : Hid (LT w ta n tcap ts bT s W)) (hf : Hid (FewH ts)) (hk : Hid (k = rankL (docIds ts) id)) (hq : Hid (q = decide (id ∈ docIds ts))) : Calls Tryz.prog 29 #[.pointer (some ⟨bT, 0, none⟩), .int .i64 id] W fun e w' => e = .returned (.tuple #[.int .i64 k, .bool q]) ∧ Hid (LT w ta n tcap ts bT s w') := by
  rw [hk.out, hq.out]
  refine (rank_any id h.out.tab (by have := hf.out.ids; omega) (rising_setL totI _)).mono ?_
  rintro e w' ⟨rfl, hb⟩
  exact ⟨rfl, h.out.keep hb.out⟩
theorem sameLT {m : Nat} {l : List Int} {a a' : Option Addr} {c c' : Nat} (h1 : Hid (RowV W a c l)) (h2 : Hid (RowV W a' c' l)) (hm : Hid (m = l.length)) : Calls Tryz.prog 18 #[.slice a m c, .slice a' m c'] W fun e w' => e = .returned (.bool true) ∧ Hid (Below W.heap.size W w') := by
  rw [hm.out]
  refine (Dq.same_is _ _ _ _ _ _ _ (RowV.i h1.out) (RowV.i h2.out)).mono ?_
  rintro e w' ⟨rfl, hb⟩
  exact ⟨by simp, hb⟩
theorem worksLT (W : World) : Calls Tryz.prog 7 #[] W fun e w' => e = .returned (.bool true) ∧ Hid (Below W.heap.size W w') := works12_any W
end Go.Proofs.YtkinmllflodhaaaGreat.Tab
