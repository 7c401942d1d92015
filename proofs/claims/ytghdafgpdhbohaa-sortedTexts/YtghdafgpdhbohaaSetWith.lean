/- A set, and some numbers: the program's With. -/
import Derived.Test.YtghdafgpdhbohaaSetOr
import Derived.Deep.RegionWith
namespace Go.Proofs.Ytghdafgpdhbohaa.Sets
open Go.RowKit Go.Proofs.Ytghdafgpdhbohaa.Dig Go.Proofs.Ytghdafgpdhbohaa.Mem
set_option linter.unusedVariables false
set_option linter.unusedSimpArgs false

set_option maxHeartbeats 1000000 in
theorem with_any (v : Value) (s : List Int) (a : Option Addr) (c : Nat) (l : List Int) (w : World) (h : SetV w v s) (hl : RowV w a c l) (hs : s.length ≤ 400000) (hll : l.length ≤ 400000) (hrs : Rising ltI s) :
    Calls Try.prog 13 #[v, .slice a l.length c] w fun e w' => ∃ v', e = .returned v' ∧ SetV w' v' (setL ltI (s ++ l)) ∧ FreshV w.heap.size v' ∧ Below w.heap.size w w' := by
  have HS := hide h
  have HL := hide hl
  have HE : Hid (setL ltI (s ++ setL ltI l) = setL ltI (s ++ l)) := setL_congr totI fun x => by simp [mem_setL totI]
  have H1 := hide hs
  have H2 := hide hll
  have H3 := hide hrs
  have H4 : Hid ((setL ltI l).length ≤ 400000) := Nat.le_trans (setL_length l) hll
  obtain ⟨a2, c2, rfl, -⟩ := h
  obtain ⟨n, hn⟩ : ∃ n, n = s.length := ⟨_, rfl⟩
  obtain ⟨m, hm⟩ : ∃ m, m = l.length := ⟨_, rfl⟩
  rw [← hn] at HS
  have HM := hide hm
  rw [← hn, ← hm]
  clear hn hm hl hs hll hrs
  have HB : Hid (Below w.heap.size w ((w.alloc (.cells #[.slice a2 n c2] 25)).alloc (.cells #[.slice none 0 0] 25))) := ((Below.refl _ _).alloc (Nat.le_refl _) _).alloc (by simp) _
  have HI : Hid (Is ((w.alloc (.cells #[.slice a2 n c2] 25)).alloc (.cells #[.slice none 0 0] 25)) (w.heap.size + 1) #[.slice none 0 0]) := Is.made _ _ _ (by simp)
  have HJ : Hid (Is ((w.alloc (.cells #[.slice a2 n c2] 25)).alloc (.cells #[.slice none 0 0] 25)) w.heap.size #[.slice a2 n c2]) := (Is.made _ _ _ rfl).alloc _
  have HZ : Hid (((w.alloc (.cells #[.slice a2 n c2] 25)).alloc (.cells #[.slice none 0 0] 25)).heap.size = w.heap.size + 2) := by show _ = _; simp
  go_enter Try.func13, Try.ntmps13
  go_wp2
  generalize (w.alloc (.cells #[.slice a2 n c2] 25)).alloc (.cells #[.slice none 0 0] 25) = w2 at *
  have cj := HJ.out.cell 0 rfl
  go_region_with (first | (go_at_call 9; go_must ((refine (show Calls Try.prog 9 #[.slice a m c] _ _ from by rw [HM.out]; exact of_any a c l _ (HL.out.keep (by repeat (first | exact HB.out | apply Below.drew))) (by have := H2.out; omega)).mono ?_); rintro e w5 ⟨v5, rfl, hv5, hf5, hb5⟩; have hb6 : Below w2.heap.size w2 w5 := Below.trans (by repeat (first | exact Below.refl _ _ | apply Below.drew)) hb5; have HV5 := hide hv5; have HB6 := hide hb6; have cj5 := (HJ.out.below hb6).cell 0 rfl; have HBX := hide (HB.out.trans (hb6.mono (by have := HZ.out; omega))); clear hv5 hf5 hb5 hb6)) | (go_at_call 10; go_must ((refine (or_any _ v5 s _ _ (HS.out.keep (by repeat (first | exact HBX.out | apply Below.drew))) (HV5.out.keep (by repeat (first | exact Below.refl _ _ | apply Below.drew))) (by have := H1.out; omega) (by have := H4.out; omega) H3.out (rising_setL totI _)).mono ?_); rw [HE.out]; rintro e w6 ⟨v6, rfl, ⟨a6, c6, rfl, hr6⟩, hf6, hb6⟩; have hb7 : Below w5.heap.size w5 w6 := Below.trans (by repeat (first | exact Below.refl _ _ | apply Below.drew)) hb6; have HR6 := hide hr6; have HF6 : Hid (FreshV w5.heap.size (.agg #[.slice a6 (setL ltI (s ++ l)).length c6])) := hf6; have HBY := hide (HBX.out.trans (hb7.mono (by have := HB6.out.size; have := HZ.out; omega))); have h61 := (HI.out.below HB6.out).below hb7; have c61 : w6.cell? ⟨w.heap.size + 1, 0, none⟩ = some (.slice none 0 0) := h61.cell 0 rfl; have f61 := h61.frozen 0; have H61 := hide h61; have HSZ : Hid (w2.heap.size ≤ w5.heap.size) := HB6.out.size; clear hr6 hf6 hb6 hb7 h61)))
  all_goals
    have hc : (w6.setCell ⟨w.heap.size + 1, 0, none⟩ (.slice a6 (setL ltI (s ++ l)).length c6)).cell? ⟨w.heap.size + 1, 0, none⟩ = some (.slice a6 (setL ltI (s ++ l)).length c6) := (H61.out.set 0 _).cell 0 rfl
    have hF := HF6.out
    have hs5 := HSZ.out
    have hz := HZ.out
    clear cj cj5 c61 f61
    go_wp2
    exact bodyPost_ret (v := .agg #[.slice a6 (setL ltI (s ++ l)).length c6]) (by simp [results, Try.results13, go_sem, hc]) rfl ⟨_, rfl, ⟨_, _, rfl, HR6.out.put (fun b o sp e hp => by subst e; have := hF b o sp _ _ rfl hp; omega) _⟩, fun b o sp n c e hn => by have := hF b o sp n c e hn; omega, HBY.out.setCell (p := ⟨w.heap.size + 1, 0, none⟩) (by simp) _⟩
end Go.Proofs.Ytghdafgpdhbohaa.Sets
