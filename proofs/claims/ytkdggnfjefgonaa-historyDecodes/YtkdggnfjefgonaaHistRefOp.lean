/- The document's op: an operation's line. -/
import Derived.Test.YtkdggnfjefgonaaHistRef
import Derived.Test.YtkdggnfjefgonaaHistApp
import Derived.Test.YtkdggnfjefgonaaHistList
namespace Go.Proofs.Ytkdggnfjefgonaa.Hist
open Go.RowKit Go.Proofs.Ytkdggnfjefgonaa.Dig Go.Proofs.Ytkdggnfjefgonaa.Mem
set_option linter.unusedVariables false
set_option linter.unusedSimpArgs false

/-- What stays in an operation's line, whatever is called: the history, its variable, and the answer's. -/
structure OpSt (w : World) (F : Nat → Prop) (tv : Value) (ts : List TxnM) (a : Option Addr) (len : Nat) (z : Nat → Int) (wx : World) : Prop where
  below : Below w.heap.size w wx
  hi : Is wx w.heap.size #[tv]
  hj : Is wx (w.heap.size + 1) #[.slice none 0 0]
  t : TxnsAt (fun b => F b ∧ b < w.heap.size) wx tv ts
  r : Rd .u8 wx a len z
  al : 0 < len → ∀ x, a = some x → x.block < w.heap.size
section
variable {w wx wy : World} {F : Nat → Prop} {tv : Value} {ts : List TxnM} {a : Option Addr} {len : Nat} {z : Nat → Int}
theorem OpSt.start (T : TypeId) (ht : TxnsAt F w tv ts) (hr : Rd .u8 w a len z) : OpSt w F tv ts a len z ((w.alloc (.cells #[tv] T)).alloc (.cells #[.slice none 0 0] T)) := by
  obtain ⟨h1, h2, h3, h4, h5⟩ := two_mid (T := T) (U := T) ht.lt hr (Below.refl _ _)
  exact ⟨h3, h1, h2, h4, h5, fun h0 => hr.lt h0⟩
theorem OpSt.keep (h : OpSt w F tv ts a len z wx) (hb : Below wx.heap.size wx wy) : OpSt w F tv ts a len z wy :=
  ⟨h.below.trans (hb.mono h.below.size), h.hi.below hb, h.hj.below hb, h.t.keep hb, h.r.only (Only.of_below (S := fun _ => False) hb) (fun _ _ q => q), h.al⟩
theorem OpSt.alloc (h : OpSt w F tv ts a len z wx) (o : Obj) : OpSt w F tv ts a len z (wx.alloc o) := h.keep ((Below.refl _ _).alloc (Nat.le_refl _) _)
theorem OpSt.put (h : OpSt w F tv ts a len z wx) {ob : Nat} (hob : w.heap.size + 1 < ob) (hl : ob < wx.heap.size) (j : Nat) (v : Value) : OpSt w F tv ts a len z (wx.setCell ⟨ob, j, none⟩ v) := by
  have hO : Only (fun k => k = ob) wx (wx.setCell ⟨ob, j, none⟩ v) := (Only.refl _ _).put j _
  exact ⟨h.below.only hO (fun i q => by omega) (by have := h.hi.lt; omega), h.hi.keep hO (by omega), h.hj.keep hO (by omega), h.t.only hO (fun b q => by omega), h.r.only' hO (fun h0 x hx q => by have := h.al h0 x hx; omega), h.al⟩
theorem OpSt.leaf (h : OpSt w F tv ts a len z wx) :
    TxnsAt (fun b => F b ∧ b < w.heap.size) (wx.setCell ⟨w.heap.size + 1, 0, none⟩ tv) tv ts ∧ Below w.heap.size w (wx.setCell ⟨w.heap.size + 1, 0, none⟩ tv) ∧ (wx.setCell ⟨w.heap.size + 1, 0, none⟩ tv).cell? ⟨w.heap.size + 1, 0, none⟩ = some tv :=
  ref_leaf h.below h.hj h.t (fun b q => .inl q.2)
end
set_option maxRecDepth 20000 in
set_option maxHeartbeats 4000000 in
/-- Ahead of the key. -/
theorem rop_head (F : Nat → Prop) (tv : Value) (ts : List TxnM) (a : Option Addr) (len cap : Nat) (z : Nat → Int) (i : Nat) (most : Int) (w : World) (ht : TxnsAt F w tv ts) (hr : Rd .u8 w a len z) (hc : len ≤ cap) (hi : i < len) (hl : len ≤ 1000000) (hts : ts.length ≤ 100000) (hops : opsN ts ≤ 100000)
    (hbad : ts.length = 0 ∨ most ≤ (opsN ts : Int) ∨ isB z len (i + 1) 32 = false ∨ (isB z len (i + 1) 32 = true ∧ (parse z len ((i + 2 : Nat) : Int)).2.2 = false)) :
    Calls Try.prog 19 #[.agg #[tv], .slice a len cap, .int .i64 (i : Int), .int .i64 most] w fun e w' => ∃ tv', e = .returned (.tuple #[.agg #[tv'], .int .i64 ((opS z len most ts i).nx : Int), .int .i64 (opS z len most ts i).e, .int .i64 (opS z len most ts i).wh]) ∧ TxnsAt (fun b => F b ∨ w.heap.size ≤ b) w' tv' (opS z len most ts i).ts ∧ Below w.heap.size w w' := by
  obtain ⟨ta, tcap, rfl, hc1, hc2⟩ := ht.shape
  have hit : (i : Int) < (len : Int) := by omega
  have ST0 := hide (OpSt.start 26 ht hr)
  obtain ⟨hc0, -⟩ := Is.one ST0.out.hi
  obtain ⟨n, hn⟩ : ∃ n, (opsN ts : Int) = n := ⟨_, rfl⟩
  have HN := hide hn
  have H0 := hide ht
  clear ht hr
  by_cases h0 : ts.length = 0
  · have HS : Hid (opS z len most ts i = ⟨ts, 0, 4, i⟩) := if_pos h0
    have h0' : ((ts.length : Int) == 0) = true := by rw [h0]; rfl
    clear h0 hbad
    go_enter Try.func19, Try.ntmps19
    go_wp2
    refine bodyPost_ret (v := .tuple #[.agg #[.slice ta ts.length tcap], .int .i64 0, .int .i64 4, .int .i64 (i : Int)]) (by simp [results, Try.results19, go_sem]) rfl ⟨_, by rw [HS.out]; rfl, ?_, two_below _ _ _ _ _⟩
    rw [HS.out]
    exact (H0.out.keep (two_below _ _ _ _ _)).mono (fun b q => .inl q)
  have h0' : ((ts.length : Int) == 0) = false := by simp; simpa using h0
  by_cases h3 : most ≤ (opsN ts : Int)
  · have HS : Hid (opS z len most ts i = ⟨ts, 0, 3, i⟩) := by show _ = _; unfold opS; rw [if_neg h0, if_pos h3]
    have h3' : most ≤ n := by rw [← hn]; exact h3
    clear h0 h3 hn hbad
    go_enter Try.func19, Try.ntmps19
    go_wp2_with (go_at_call 12; go_must ((with_reducible refine (rops_any _ _ ts _ ST0.out.t (by omega) (by omega)).mono ?_); rw [HN.out]; rintro e w3 ⟨rfl, hb3⟩; have ST3 := hide (ST0.out.keep hb3); obtain ⟨hc3, hg3⟩ := Is.one ST3.out.hi; obtain ⟨hd3, hf3⟩ := Is.one ST3.out.hj; clear hb3))
    obtain ⟨k1, k2, k3⟩ := OpSt.leaf ST3.out
    refine bodyPost_ret (v := .tuple #[.agg #[.slice ta ts.length tcap], .int .i64 0, .int .i64 3, .int .i64 (i : Int)]) (by simp [results, Try.results19, go_sem, k3]) rfl ⟨_, by rw [HS.out]; rfl, ?_, k2⟩
    rw [HS.out]
    exact k1.mono (fun b q => .inl q.1)
  have h3' : ¬ most ≤ n := by rw [← hn]; exact h3
  by_cases h1 : isB z len (i + 1) 32 = false
  · have B1 := hide h1
    have HS : Hid (opS z len most ts i = ⟨ts, 0, 4, ((i + 1 : Nat) : Int)⟩) := by show _ = _; unfold opS; rw [if_neg h0, if_neg h3, if_pos h1]
    clear h0 h3 hn h1 hbad
    go_enter Try.func19, Try.ntmps19
    go_wp2_with (first | (go_at_call 12; go_must ((with_reducible refine (rops_any _ _ ts _ ST0.out.t (by omega) (by omega)).mono ?_); rw [HN.out]; rintro e w3 ⟨rfl, hb3⟩; have ST3 := hide (ST0.out.keep hb3); obtain ⟨hc3, hg3⟩ := Is.one ST3.out.hi; obtain ⟨hd3, hf3⟩ := Is.one ST3.out.hj; clear hb3)) | (go_at_call 27; (with_reducible refine (ris_at _ len cap z (i + 1) _ 32 _ ST3.out.r (by omega) (by omega) B1).mono ?_); rintro e w' ⟨rfl, hw⟩; replace hw := hw.symm; subst hw))
    obtain ⟨k1, k2, k3⟩ := OpSt.leaf ST3.out
    refine bodyPost_ret (v := .tuple #[.agg #[.slice ta ts.length tcap], .int .i64 0, .int .i64 4, .int .i64 ((i : Int) + 1)]) (by simp [results, Try.results19, go_sem, k3]) rfl ⟨_, by rw [HS.out]; rfl, ?_, k2⟩
    rw [HS.out]
    exact k1.mono (fun b q => .inl q.1)
  have h1t : isB z len (i + 1) 32 = true := by simpa using h1
  have B1 := hide h1t
  have e2 : ((i + 2 : Nat) : Int) = (i : Int) + 2 := by push_cast; rfl
  rcases parse_two z len (i + 2) (by have := (isB_iff.1 h1t).1; omega) with ⟨n', t, g1, g2, g3, g4, hp⟩ | ⟨t, g1, g2, hp⟩
  · exfalso
    rcases hbad with q | q | q | q
    · exact h0 q
    · exact h3 q
    · exact h1 q
    · rw [hp] at q; simp at q
  · have HS : Hid (opS z len most ts i = ⟨ts, 0, 4, (t : Int)⟩) := by show _ = _; unfold opS; rw [if_neg h0, if_neg h3, if_neg h1, hp]; rfl
    rw [e2] at hp
    have HP := hide hp
    clear h0 h3 hn h1 h1t hp hbad
    go_enter Try.func19, Try.ntmps19
    go_wp2_with (first | (go_at_call 12; go_must ((with_reducible refine (rops_any _ _ ts _ ST0.out.t (by omega) (by omega)).mono ?_); rw [HN.out]; rintro e w3 ⟨rfl, hb3⟩; have ST3 := hide (ST0.out.keep hb3); obtain ⟨hc3, hg3⟩ := Is.one ST3.out.hi; obtain ⟨hd3, hf3⟩ := Is.one ST3.out.hj; clear hb3)) | (go_at_call 27; (with_reducible refine (ris_at _ len cap z (i + 1) _ 32 _ ST3.out.r (by omega) (by omega) B1).mono ?_); rintro e w' ⟨rfl, hw⟩; replace hw := hw.symm; subst hw) | (go_at_call 28; (with_reducible refine (rparse_eq _ len cap z _ _ ST3.out.r hc HP).mono ?_); rintro e w' ⟨rfl, hw⟩; replace hw := hw.symm; subst hw))
    obtain ⟨k1, k2, k3⟩ := OpSt.leaf ST3.out
    refine bodyPost_ret (v := .tuple #[.agg #[.slice ta ts.length tcap], .int .i64 0, .int .i64 4, .int .i64 (t : Int)]) (by simp [results, Try.results19, go_sem, k3]) rfl ⟨_, by rw [HS.out]; rfl, ?_, k2⟩
    rw [HS.out]
    exact k1.mono (fun b q => .inl q.1)
end Go.Proofs.Ytkdggnfjefgonaa.Hist
