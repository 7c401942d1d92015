/- The document's own example of layer 3, played: it answers true and writes nothing that was there. -/
import Derived.Test.YtkdggnfjefgonaaHistDec
import Derived.Test.YtkdggnfjefgonaaGrow
import Derived.Test.YtkdggnfjefgonaaHistRSame
import Derived.Lib.SlBytesConst
namespace Go.Proofs.Ytkdggnfjefgonaa.Hist
open Go.RowKit Go.Proofs.Ytkdggnfjefgonaa.Dig Go.Proofs.Ytkdggnfjefgonaa.Mem
set_option linter.unusedVariables false
set_option linter.unusedSimpArgs false

theorem conv_const (w : World) (C : Array Value) (n c b : Nat) (hb : b = w.heap.size) :
    (convert 22 22 (.slice (some ⟨b, 0, none⟩) n c)).run Try.prog (w.alloc (.cells C 5)) = .ok (.slice (some ⟨b, 0, none⟩) n c) (w.alloc (.cells C 5 (C.size, C.size + 1))) := by
  subst hb
  exact Lib.run_convert_bytes_const (P := Try.prog) w 22 5 C n c Try.underlying22 Try.underlying5
theorem Rd.lit (k : IntKind) (ns : List Int) (w : World) (t : TypeId) (fr : Nat × Nat) (b : Nat) (hb : b = w.heap.size) (hw : ∀ n ∈ ns, (Lit.int k n).wf = true) (hl : ns.length ≤ 1000000000000) :
    Rd k (w.alloc (.cells (ns.map (Value.int k)).toArray t fr)) (some ⟨b, 0, none⟩) ns.length (fun i => ns.getD i 0) := by
  subst hb
  refine ⟨hl, fun i hi => ⟨w.heap.size, 0, rfl, ?_, ?_⟩⟩
  · rw [Nat.zero_add, World.cell?_alloc_mark _ _ _ _ _]
    simp [List.getD_eq_getElem?_getD, List.getElem?_eq_getElem hi]
  · simp only [List.getD_eq_getElem?_getD, List.getElem?_eq_getElem hi, Option.getD_some]
    exact hw _ (List.getElem_mem hi)
def exR : List Int := [116, 32, 55, 32, 99, 10, 97, 32, 49, 32, 53, 10, 114, 32, 49, 32, 53, 10]
def exA : List Int := [116, 32, 55, 32, 99, 10, 97, 32, 49, 32, 53, 10, 97, 32, 49, 32, 53, 10]
def exT : List TxnM := [⟨7, false, [⟨false, 1, 5, []⟩, ⟨true, 1, 0, [5]⟩]⟩]
theorem exR_dec : decS (fun i => exR.getD i 0) 18 9 = (exT, 0, 0) := by decide +kernel
theorem exA_dec : decS (fun i => exA.getD i 0) 18 9 = ([], 6, 16) := by decide +kernel
theorem dec_exR (w : World) (n c : Nat) (hn : n = w.heap.size) (hc : 18 ≤ c) :
    Calls Try.prog 8 #[.slice (some ⟨n, 0, none⟩) 18 c, .int .i64 9] (w.alloc (.cells #[.int .u8 116, .int .u8 32, .int .u8 55, .int .u8 32, .int .u8 99, .int .u8 10, .int .u8 97, .int .u8 32, .int .u8 49, .int .u8 32, .int .u8 53, .int .u8 10, .int .u8 114, .int .u8 32, .int .u8 49, .int .u8 32, .int .u8 53, .int .u8 10] 5 (18, 19))) fun e w' => ∃ ta cap, e = .returned (.tuple #[.agg #[.slice ta 1 cap], .int .i64 0, .int .i64 0]) ∧ Hid (TxnsAt (fun b => w.heap.size ≤ b) w' (.slice ta 1 cap) exT) ∧ Hid (Below w.heap.size w w') := by
  refine (dec_any (some ⟨n, 0, none⟩) 18 c (fun i => exR.getD i 0) 9 _ (Rd.lit .u8 exR w 5 (18, 19) n hn (by decide) (by decide)) hc).mono ?_
  rw [exR_dec]
  rintro e w' ⟨tv, rfl, ht, hb, -⟩
  obtain ⟨ta, cap, rfl, -, -⟩ := ht.shape
  exact ⟨ta, cap, rfl, ht.mono (fun b q => by simp at q; omega), ((Below.refl _ _).alloc (Nat.le_refl _) _).trans (hb.mono (by simp))⟩
theorem dec_exA (w : World) (n c : Nat) (hn : n = w.heap.size) (hc : 18 ≤ c) :
    Calls Try.prog 8 #[.slice (some ⟨n, 0, none⟩) 18 c, .int .i64 9] (w.alloc (.cells #[.int .u8 116, .int .u8 32, .int .u8 55, .int .u8 32, .int .u8 99, .int .u8 10, .int .u8 97, .int .u8 32, .int .u8 49, .int .u8 32, .int .u8 53, .int .u8 10, .int .u8 97, .int .u8 32, .int .u8 49, .int .u8 32, .int .u8 53, .int .u8 10] 5 (18, 19))) fun e w' => ∃ ta cap, e = .returned (.tuple #[.agg #[.slice ta 0 cap], .int .i64 6, .int .i64 16]) ∧ Hid (TxnsAt (fun b => w.heap.size ≤ b) w' (.slice ta 0 cap) []) ∧ Hid (Below w.heap.size w w') := by
  refine (dec_any (some ⟨n, 0, none⟩) 18 c (fun i => exA.getD i 0) 9 _ (Rd.lit .u8 exA w 5 (18, 19) n hn (by decide) (by decide)) hc).mono ?_
  rw [exA_dec]
  rintro e w' ⟨tv, rfl, ht, hb, -⟩
  obtain ⟨ta, cap, rfl, -, -⟩ := ht.shape
  exact ⟨ta, cap, rfl, ht.mono (fun b q => by simp at q; omega), ((Below.refl _ _).alloc (Nat.le_refl _) _).trans (hb.mono (by simp))⟩
/-- What was decoded, and what it is held against. -/
structure ExK (w : World) (v1 b1 v2 b2 : Nat) (a1 a2 : Option Addr) (c1 c2 : Nat) (wx : World) : Prop where
  below : Below w.heap.size w wx
  x1 : wx.cell? ⟨v1, 0, none⟩ = some (.slice a1 1 c1)
  x2 : wx.cell? ⟨v2, 0, none⟩ = some (.slice a2 1 c2)
  t1 : TxnsAt (fun _ => True) wx (.slice a1 1 c1) exT
  t2 : TxnsAt (fun _ => True) wx (.slice a2 1 c2) exT
theorem ExK.keep {w wx wy : World} {v1 b1 v2 b2 : Nat} {a1 a2 : Option Addr} {c1 c2 : Nat} (h : ExK w v1 b1 v2 b2 a1 a2 c1 c2 wx) (hb : Below wx.heap.size wx wy) : ExK w v1 b1 v2 b2 a1 a2 c1 c2 wy :=
  ⟨h.below.trans (hb.mono h.below.size), (Only.of_below (S := fun _ => False) hb).cell h.x1 (fun q => q), (Only.of_below (S := fun _ => False) hb).cell h.x2 (fun q => q), h.t1.keep hb, h.t2.keep hb⟩
theorem want_at (w : World) (T0 T1 T2 T3 T4 : TypeId) (o : Obj) (b : Nat) (hb : b = w.heap.size + 1) :
    TxnsAt (fun _ => True) (((((w.alloc o).alloc (.cells #[.int .i64 5] T1)).alloc (.cells #[.bool false, .int .i64 1, .int .i64 5, .slice none 0 0, .bool true, .int .i64 1, .int .i64 0, .slice (some ⟨b, 0, none⟩) 1 1] T2)).alloc
      (.cells #[.int .i64 7, .bool false, .slice (some ⟨b + 1, 0, none⟩) 2 2] T3)).alloc (.cells #[.slice (some ⟨b + 1 + 1, 0, none⟩) 1 1] T4)) (.slice (some ⟨b + 1 + 1, 0, none⟩) 1 1) exT := by
  subst hb
  have h1 : Is ((w.alloc o).alloc (.cells #[.int .i64 5] T1)) (w.heap.size + 1) #[.int .i64 5] := Is.made _ _ _ (by simp)
  have h2 := ((h1.alloc (.cells #[.bool false, .int .i64 1, .int .i64 5, .slice none 0 0, .bool true, .int .i64 1, .int .i64 0, .slice (some ⟨w.heap.size + 1, 0, none⟩) 1 1] T2)).alloc (.cells #[.int .i64 7, .bool false, .slice (some ⟨w.heap.size + 1 + 1, 0, none⟩) 2 2] T3)).alloc (.cells #[.slice (some ⟨w.heap.size + 1 + 1 + 1, 0, none⟩) 1 1] T4)
  have k1 : Is (((w.alloc o).alloc (.cells #[.int .i64 5] T1)).alloc (.cells #[.bool false, .int .i64 1, .int .i64 5, .slice none 0 0, .bool true, .int .i64 1, .int .i64 0, .slice (some ⟨w.heap.size + 1, 0, none⟩) 1 1] T2)) (w.heap.size + 1 + 1) #[.bool false, .int .i64 1, .int .i64 5, .slice none 0 0, .bool true, .int .i64 1, .int .i64 0, .slice (some ⟨w.heap.size + 1, 0, none⟩) 1 1] := Is.made _ _ _ (by simp)
  have k2 := (k1.alloc (.cells #[.int .i64 7, .bool false, .slice (some ⟨w.heap.size + 1 + 1, 0, none⟩) 2 2] T3)).alloc (.cells #[.slice (some ⟨w.heap.size + 1 + 1 + 1, 0, none⟩) 1 1] T4)
  have m1 : Is ((((w.alloc o).alloc (.cells #[.int .i64 5] T1)).alloc (.cells #[.bool false, .int .i64 1, .int .i64 5, .slice none 0 0, .bool true, .int .i64 1, .int .i64 0, .slice (some ⟨w.heap.size + 1, 0, none⟩) 1 1] T2)).alloc (.cells #[.int .i64 7, .bool false, .slice (some ⟨w.heap.size + 1 + 1, 0, none⟩) 2 2] T3)) (w.heap.size + 1 + 1 + 1) #[.int .i64 7, .bool false, .slice (some ⟨w.heap.size + 1 + 1, 0, none⟩) 2 2] := Is.made _ _ _ (by simp)
  have m2 := m1.alloc (.cells #[.slice (some ⟨w.heap.size + 1 + 1 + 1, 0, none⟩) 1 1] T4)
  have r1 := RowAt.block (n := 1) (cs := [[Value.int .i64 5]]) (cap := 1) (by simp) h2 (by simp) (by unfold maxLen; omega)
  have r2 := RowAt.block (n := 4) (cs := [[.bool false, .int .i64 1, .int .i64 5, .slice none 0 0], [.bool true, .int .i64 1, .int .i64 0, .slice (some ⟨w.heap.size + 1, 0, none⟩) 1 1]]) (cap := 2) (by simp) k2 (by simp) (by unfold maxLen; omega)
  have r3 := RowAt.block (n := 3) (cs := [[Value.int .i64 7, .bool false, .slice (some ⟨w.heap.size + 1 + 1, 0, none⟩) 2 2]]) (cap := 1) (by simp) m2 (by simp) (by unfold maxLen; omega)
  refine ⟨_, r3.mono (fun _ _ => trivial), AllAt.one ⟨_, rfl, ⟨_, r2.mono (fun _ _ => trivial), ?_⟩, by decide⟩⟩
  refine AllAt.append (cs := [[.bool false, .int .i64 1, .int .i64 5, .slice none 0 0]]) (ds := [[.bool true, .int .i64 1, .int .i64 0, .slice (some ⟨w.heap.size + 1, 0, none⟩) 1 1]]) (xs := [OpM.mk false 1 5 []]) (ys := [OpM.mk true 1 0 [5]]) (AllAt.one ?_) (AllAt.one ?_)
  · exact ⟨_, rfl, IntsAt.nil, by decide, by decide⟩
  · exact ⟨_, rfl, ⟨r1.mono (fun _ _ => trivial), by decide⟩, by decide, by decide⟩
theorem exT_few : TxnsFew exT := ⟨by decide, fun t ht => by simp [exT] at ht; subst ht; exact ⟨by decide, by decide⟩⟩
theorem rsame_ex (v v' : Value) (w : World) (h : TxnsAt (fun _ => True) w v exT) (h' : TxnsAt (fun _ => True) w v' exT) :
    Calls Try.prog 10 #[.agg #[v], .agg #[v']] w fun e w' => e = .returned (.bool true) ∧ Below w.heap.size w w' := rsame_any _ _ v v' exT exT w h h' exT_few exT_few
theorem same_ex (v v' : Value) (w : World) (h : TxnsAt (fun _ => True) w v exT) (h' : TxnsAt (fun _ => True) w v' exT) :
    Calls Try.prog 14 #[.agg #[v], .agg #[v']] w fun e w' => e = .returned (.bool true) ∧ Below w.heap.size w w' := same_any _ _ v v' exT exT w h h' exT_few exT_few
theorem ops_ex (v : Value) (w : World) (h : TxnsAt (fun _ => True) w v exT) :
    Calls Try.prog 11 #[.agg #[v]] w fun e w' => e = .returned (.int .i64 2) ∧ Below w.heap.size w w' := ops_any _ v exT w h (by decide) (by decide)
theorem exK_start (w w1 w2 : World) (T1 T2 T3 T4 T5 : TypeId) (ta ta2 : Option Addr) (tcap tcap2 : Nat) (ht1 : TxnsAt (fun b => w.heap.size ≤ b) w1 (.slice ta 1 tcap) exT) (hb1 : Below w.heap.size w w1)
    (hb2 : Below (w1.alloc (.cells #[.slice ta 1 tcap] T5)).heap.size (w1.alloc (.cells #[.slice ta 1 tcap] T5)) w2) :
    ExK w w1.heap.size 0 (w2.heap.size + 1 + 1 + 1 + 1) 0 ta (some ⟨w2.heap.size + 1 + 1 + 1, 0, none⟩) tcap 1 (((((w2.alloc (.cells #[.slice ta2 0 tcap2] T5)).alloc (.cells #[.int .i64 5] T1)).alloc (.cells #[.bool false, .int .i64 1, .int .i64 5, .slice none 0 0, .bool true, .int .i64 1, .int .i64 0, .slice (some ⟨w2.heap.size + 1, 0, none⟩) 1 1] T2)).alloc
      (.cells #[.int .i64 7, .bool false, .slice (some ⟨w2.heap.size + 1 + 1, 0, none⟩) 2 2] T3)).alloc (.cells #[.slice (some ⟨w2.heap.size + 1 + 1 + 1, 0, none⟩) 1 1] T4)) := by
  have hs2 := hb2.size
  simp at hs2
  have hw12 : Below w1.heap.size w1 w2 := ((Below.refl _ _).alloc (Nat.le_refl _) _).trans (hb2.mono (by simp))
  have hw02 : Below w.heap.size w w2 := hb1.trans (hw12.mono hb1.size)
  have hs02 := hw02.size
  have hb3 : ∀ o1 o2 o3 o4 o5, Below w2.heap.size w2 (((((w2.alloc o1).alloc o2).alloc o3).alloc o4).alloc o5) := fun o1 o2 o3 o4 o5 => (((((Below.refl _ _).alloc (Nat.le_refl _) _).alloc (by simp) _).alloc (by simp; omega) _).alloc (by simp; omega) _).alloc (by simp; omega) _
  have hI : Is w2 w1.heap.size #[.slice ta 1 tcap] := (Is.made w1 #[.slice ta 1 tcap] T5 rfl).below hb2
  exact ⟨hw02.trans ((hb3 _ _ _ _ _).mono hs02), ((hI.below (hb3 _ _ _ _ _)).cell 0 rfl), ((Is.made _ #[.slice (some ⟨w2.heap.size + 1 + 1 + 1, 0, none⟩) 1 1] T4 (by simp)).cell 0 rfl), ((ht1.keep hw12).keep (hb3 _ _ _ _ _)).mono (fun _ _ => trivial), want_at w2 T5 T1 T2 T3 T4 _ _ rfl⟩
set_option maxHeartbeats 4000000 in
theorem works_any (w : World) : Calls Try.prog 7 #[] w fun e w' => e = .returned (.bool true) ∧ Below w.heap.size w w' := by
  have hcv := conv_const
  go_enter Try.func7, Try.ntmps7
  go_wp2_with (first | (go_at_call 8; (with_reducible refine (dec_exR _ _ _ (by first | rfl | simp) (by decide)).mono ?_); rintro e w1 ⟨ta, tcap, rfl, ht1, hb1⟩) | (go_at_call 8; (with_reducible refine (dec_exA _ _ _ (by first | rfl | simp) (by decide)).mono ?_); rintro e w2 ⟨ta2, tcap2, rfl, ht2, hb2⟩; go_must (have K := hide (exK_start w w1 w2 3 41 44 26 26 ta ta2 tcap tcap2 ht1.out hb1.out hb2.out); have c1 := K.out.x1; have c2 := K.out.x2; clear ht2)) | (go_at_call 10; go_must ((with_reducible refine (rsame_ex _ _ _ K.out.t1 K.out.t2).mono ?_); rintro e w4 ⟨rfl, hb4⟩; have K4 := hide (K.out.keep hb4); have c14 := K4.out.x1; have c24 := K4.out.x2; clear hb4)) | (go_at_call 11; go_must ((with_reducible refine (ops_ex _ _ K4.out.t1).mono ?_); rintro e w5 ⟨rfl, hb5⟩; have K5 := hide (K4.out.keep hb5); have c15 := K5.out.x1; have c25 := K5.out.x2; clear hb5)) | (go_at_call 14; go_must ((with_reducible refine (same_ex _ _ _ K5.out.t1 K5.out.t2).mono ?_); rintro e w6 ⟨rfl, hb6⟩; have K6 := hide (K5.out.keep hb6); clear hb6)))
  go_ret
  exact ⟨rfl, K6.out.below⟩
end Go.Proofs.Ytkdggnfjefgonaa.Hist
