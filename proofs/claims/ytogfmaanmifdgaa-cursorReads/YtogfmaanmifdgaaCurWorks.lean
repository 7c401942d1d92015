/- The document's own example of layer 2, played: it answers true and writes nothing that was there. -/
import Derived.Test.YtogfmaanmifdgaaCurLive
import Derived.Lib.SlBytesConst
namespace Go.Proofs.Ytogfmaanmifdgaa.Cur
open Go.RowKit Go.Proofs.Ytogfmaanmifdgaa.Dig Go.Proofs.Ytogfmaanmifdgaa.Mem
set_option linter.unusedVariables false
set_option linter.unusedSimpArgs false

theorem conv_const (w : World) (C : Array Value) (n c b : Nat) (hb : b = w.heap.size) :
    (convert 22 22 (.slice (some ⟨b, 0, none⟩) n c)).run Try.prog (w.alloc (.cells C 5)) = .ok (.slice (some ⟨b, 0, none⟩) n c) (w.alloc (.cells C 5 (C.size, C.size + 1))) := by
  subst hb
  exact Lib.run_convert_bytes_const (P := Try.prog) w 22 5 C n c Try.underlying22 Try.underlying5
theorem Rd.lit (k : IntKind) (ns : List Int) (w : World) (t : TypeId) (fr : Nat × Nat) (b : Nat) (hb : b = w.heap.size) (hw : ∀ n ∈ ns, (Lit.int k n).wf = true) (hl : ns.length ≤ 1000000000000) :
    Rd k (w.alloc (.cells (ns.map (Value.int k)).toArray t fr)) (some ⟨b, 0, none⟩) ns.length (fun i => ns.getD i 0) := by
  subst hb
  refine ⟨hl, fun i hi => ⟨w.heap.size, 0, rfl, ?_, ?_⟩⟩
  · rw [Nat.zero_add, World.cell?_alloc_mark _ _ _ _ _]
    simp [List.getD_eq_getElem?_getD, List.getElem?_eq_getElem hi]
  · simp only [List.getD_eq_getElem?_getD, List.getElem?_eq_getElem hi, Option.getD_some]
    exact hw _ (List.getElem_mem hi)
/-- The example's bytes. -/
def exB : Nat → Int := fun i => [116, 32, 55, 120].getD i 0
theorem ex1 : byteS exB 4 ⟨0, 0, 0⟩ 116 = ⟨1, 0, 0⟩ := by rfl
theorem ex2 : byteS exB 4 ⟨1, 0, 0⟩ 32 = ⟨2, 0, 0⟩ := by rfl
theorem ex3 : numS exB 4 ⟨2, 0, 0⟩ = (⟨3, 0, 0⟩, 7) := by rfl
theorem ex4 : peekS exB 4 3 = (120, true) := by rfl
theorem ex5 : byteS exB 4 ⟨3, 0, 0⟩ 121 = ⟨3, 4, 3⟩ := by rfl
theorem new_ex (w : World) (n b c : Nat) (hn : n = w.heap.size) (hb : b = w.heap.size + 1) (hc : 4 ≤ c) :
    Calls Try.prog 8 #[.slice (some ⟨n, 0, none⟩) 4 c] (w.alloc (.cells #[.int .u8 116, .int .u8 32, .int .u8 55, .int .u8 120] 5 (4, 5))) fun e w' => e = .returned (.pointer (some ⟨b, 0, none⟩)) ∧ Below w.heap.size w w' ∧ Live w' b (some ⟨n, 0, none⟩) 4 c exB ⟨0, 0, 0⟩ := by
  refine (new_live _ b (some ⟨n, 0, none⟩) 4 c exB (by rw [hb]; simp) (Rd.lit .u8 [116, 32, 55, 120] w 5 _ n hn (by decide) (by decide)) hc).mono ?_
  rintro e w' ⟨rfl, ho, hl⟩
  exact ⟨rfl, ((Below.refl _ _).alloc (Nat.le_refl _) _).only ho (fun i q => q.elim) (by simp), hl⟩
theorem byte_ex (b : Nat) (a : Option Addr) (c : Nat) (s t : St) (x : Int) (w : World) (B : Nat) (w0 : World) (h : Hid (Live w b a 4 c exB s)) (hs : byteS exB 4 s x = t) (hB : Hid (Below B w0 w)) (hb : Hid (B ≤ b ∧ B ≤ w.heap.size)) :
    Calls Try.prog 16 #[.pointer (some ⟨b, 0, none⟩), .int .u8 x] w fun e w' => e = .returned (.tuple #[]) ∧ Hid (Below B w0 w') ∧ Hid (Live w' b a 4 c exB t) ∧ Hid (B ≤ b ∧ B ≤ w'.heap.size) := by
  refine (byte_live b a 4 c s exB x w h.out).mono ?_
  rintro e w' ⟨rfl, ho, hl⟩
  rw [hs] at hl
  exact ⟨rfl, hB.out.only ho (fun i q => by subst q; exact hb.out.1) hb.out.2, hl, hb.out.1, Nat.le_trans hb.out.2 ho.size⟩
theorem num_ex (b : Nat) (a : Option Addr) (c : Nat) (s t : St) (n : Int) (w : World) (B : Nat) (w0 : World) (h : Hid (Live w b a 4 c exB s)) (hs : numS exB 4 s = (t, n)) (hB : Hid (Below B w0 w)) (hb : Hid (B ≤ b ∧ B ≤ w.heap.size)) :
    Calls Try.prog 14 #[.pointer (some ⟨b, 0, none⟩)] w fun e w' => e = .returned (.int .i64 n) ∧ Hid (Below B w0 w') ∧ Hid (Live w' b a 4 c exB t) ∧ Hid (B ≤ b ∧ B ≤ w'.heap.size) := by
  refine (num_live b a 4 c s exB w h.out).mono ?_
  rintro e w' ⟨rfl, ho, hl⟩
  rw [hs] at hl ⊢
  exact ⟨rfl, hB.out.only ho (fun i q => by subst q; exact hb.out.1) hb.out.2, hl, hb.out.1, Nat.le_trans hb.out.2 ho.size⟩
theorem peek_ex (b : Nat) (a : Option Addr) (c : Nat) (w : World) (B : Nat) (w0 : World) (h : Hid (Live w b a 4 c exB ⟨3, 0, 0⟩)) (hB : Hid (Below B w0 w)) (hb : Hid (B ≤ b ∧ B ≤ w.heap.size)) :
    Calls Try.prog 13 #[.pointer (some ⟨b, 0, none⟩)] w fun e w' => e = .returned (.tuple #[.int .u8 120, .bool true]) ∧ Hid (Below B w0 w') ∧ Hid (Live w' b a 4 c exB ⟨3, 0, 0⟩) ∧ Hid (B ≤ b ∧ B ≤ w'.heap.size) := by
  refine (peek_any b a 4 c ⟨3, 0, 0⟩ exB w h.out.cur h.out.rd rfl).mono ?_
  rintro e w' ⟨rfl, n, rfl⟩
  have ho : Only (fun k => k = b) w (w.drewN n) := (Only.refl _ _).drewN n
  exact ⟨rfl, hB.out.only ho (fun i q => by subst q; exact hb.out.1) hb.out.2, h.out.step ho (h.out.cur.drewN n) h.out.at_, hb.out⟩
theorem err_ex (b : Nat) (a : Option Addr) (c : Nat) (s : St) (w : World) (B : Nat) (w0 : World) (h : Hid (Live w b a 4 c exB s)) (hB : Hid (Below B w0 w)) (hb : Hid (B ≤ b ∧ B ≤ w.heap.size)) :
    Calls Try.prog 10 #[.pointer (some ⟨b, 0, none⟩)] w fun e w' => e = .returned (.tuple #[.int .i64 s.e, .int .i64 s.x]) ∧ Hid (Below B w0 w') ∧ Hid (Live w' b a 4 c exB s) ∧ Hid (B ≤ b ∧ B ≤ w'.heap.size) := by
  refine (err_any b a 4 c s w h.out.cur).mono ?_
  rintro e w' ⟨rfl, n, rfl⟩
  have ho : Only (fun k => k = b) w (w.drewN n) := (Only.refl _ _).drewN n
  exact ⟨rfl, hB.out.only ho (fun i q => by subst q; exact hb.out.1) hb.out.2, h.out.step ho (h.out.cur.drewN n) h.out.at_, hb.out⟩
theorem at_ex (b : Nat) (a : Option Addr) (c : Nat) (s : St) (w : World) (h : Hid (Live w b a 4 c exB s)) :
    Calls Try.prog 11 #[.pointer (some ⟨b, 0, none⟩)] w fun e w' => e = .returned (.int .i64 (s.at_ : Int)) ∧ w' = w := at_any b a 4 c s w h.out.cur
set_option maxHeartbeats 1000000 in
theorem works_any (w : World) : Calls Try.prog 7 #[] w fun e w' => e = .returned (.bool true) ∧ Below w.heap.size w w' := by
  have hcv := conv_const
  go_enter Try.func7, Try.ntmps7
  go_wp2_with (first | (go_at_call 8; (with_reducible refine (new_ex w _ (w.heap.size + 1) _ (by simp) (by simp) (by decide)).mono ?_); rintro e w1 ⟨rfl, hb1, hl1⟩; replace hl1 : Hid _ := hl1; have hk1 : Hid (w.heap.size ≤ w.heap.size + 1 ∧ w.heap.size ≤ w1.heap.size) := ⟨by omega, hb1.size⟩; replace hb1 : Hid _ := hb1) | (go_at_call 16; with_reducible refine (byte_ex _ _ _ _ _ 116 _ _ _ hl1 ex1 hb1 hk1).mono ?_; rintro e w2 ⟨rfl, hb2, hl2, hk2⟩) | (go_at_call 16; with_reducible refine (byte_ex _ _ _ _ _ 32 _ _ _ hl2 ex2 hb2 hk2).mono ?_; rintro e w3 ⟨rfl, hb3, hl3, hk3⟩) | (go_at_call 14; with_reducible refine (num_ex _ _ _ _ _ _ _ _ _ hl3 ex3 hb3 hk3).mono ?_; rintro e w4 ⟨rfl, hb4, hl4, hk4⟩) | (go_at_call 13; with_reducible refine (peek_ex _ _ _ _ _ _ hl4 hb4 hk4).mono ?_; rintro e w5 ⟨rfl, hb5, hl5, hk5⟩) | (go_at_call 16; with_reducible refine (byte_ex _ _ _ _ _ 121 _ _ _ hl5 ex5 hb5 hk5).mono ?_; rintro e w6 ⟨rfl, hb6, hl6, hk6⟩) | (go_at_call 10; with_reducible refine (err_ex _ _ _ _ _ _ _ hl6 hb6 hk6).mono ?_; rintro e w7 ⟨rfl, hb7, hl7, hk7⟩) | (go_at_call 11; with_reducible refine (at_ex _ _ _ _ _ hl7).mono ?_; rintro e w8 ⟨rfl, hw⟩; replace hw := hw.symm; subst hw))
  go_ret
  exact ⟨rfl, hb7.out⟩
end Go.Proofs.Ytogfmaanmifdgaa.Cur
