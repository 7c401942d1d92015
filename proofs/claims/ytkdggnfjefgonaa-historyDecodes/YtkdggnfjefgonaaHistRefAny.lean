/- The document's op, whichever line it is; and how many a line leaves. -/
import Derived.Test.YtkdggnfjefgonaaHistRefAppend
namespace Go.Proofs.Ytkdggnfjefgonaa.Hist
open Go.RowKit Go.Proofs.Ytkdggnfjefgonaa.Dig Go.Proofs.Ytkdggnfjefgonaa.Mem
set_option linter.unusedVariables false
set_option linter.unusedSimpArgs false

theorem rop_any (F : Nat → Prop) (tv : Value) (ts : List TxnM) (a : Option Addr) (len cap : Nat) (z : Nat → Int) (i : Nat) (most : Int) (w : World) (ht : TxnsAt F w tv ts) (hr : Rd .u8 w a len z) (hc : len ≤ cap) (hi : i < len) (hl : len ≤ 1000000) (hts : ts.length ≤ 100000) (hops : opsN ts ≤ 100000) (hz : z i = 97 ∨ z i = 114) :
    Calls Try.prog 19 #[.agg #[tv], .slice a len cap, .int .i64 (i : Int), .int .i64 most] w fun e w' => ∃ tv', e = .returned (.tuple #[.agg #[tv'], .int .i64 ((opS z len most ts i).nx : Int), .int .i64 (opS z len most ts i).e, .int .i64 (opS z len most ts i).wh]) ∧ TxnsAt (fun b => F b ∨ w.heap.size ≤ b) w' tv' (opS z len most ts i).ts ∧ Below w.heap.size w w' := by
  by_cases h0 : ts.length = 0
  · exact rop_head F tv ts a len cap z i most w ht hr hc hi hl hts hops (.inl h0)
  by_cases h3 : most ≤ (opsN ts : Int)
  · exact rop_head F tv ts a len cap z i most w ht hr hc hi hl hts hops (.inr (.inl h3))
  by_cases h1 : isB z len (i + 1) 32 = false
  · exact rop_head F tv ts a len cap z i most w ht hr hc hi hl hts hops (.inr (.inr (.inl h1)))
  have h1t : isB z len (i + 1) 32 = true := by simpa using h1
  rcases parse_two z len (i + 2) (by have := (isB_iff.1 h1t).1; omega) with ⟨n', t, g1, g2, g3, g4, hp⟩ | ⟨t, g1, g2, hp⟩
  · rcases hz with hz | hz
    · exact rop_app F tv ts a len cap z i most w ht hr hc hi hl hts hops h0 h3 h1t g2 g3 g4 hp hz
    · exact rop_read F tv ts a len cap z i most w ht hr hc hi hl hts hops h0 h3 h1t g2 g3 g4 hp hz
  · exact rop_head F tv ts a len cap z i most w ht hr hc hi hl hts hops (.inr (.inr (.inr ⟨h1t, by rw [hp]⟩)))

/-- No more than there may be. -/
def FewL (ts : List TxnM) : Prop := ts.length ≤ 1024 ∧ opsN ts ≤ 4096
theorem FewL.addOp {ts : List TxnM} {o : OpM} {most : Int} (h : FewL ts) (hm : most ≤ 4096) (h0 : ¬ ts.length = 0) (h3 : ¬ most ≤ (opsN ts : Int)) : FewL (addOp ts o) := by
  have := addOp_ops ts o (by intro q; subst q; exact h0 rfl)
  exact ⟨by rw [addOp_len]; exact h.1, by rw [this]; omega⟩
theorem FewL.endL {z : Nat → Int} {len j : Nat} {ts : List TxnM} {o : OpM} {most : Int} (h : FewL ts) (hm : most ≤ 4096) (h0 : ¬ ts.length = 0) (h3 : ¬ most ≤ (opsN ts : Int)) : FewL (endL z len ts o j).ts := by
  unfold Hist.endL
  split
  · exact h
  · exact FewL.addOp h hm h0 h3
theorem FewL.line {z : Nat → Int} {len i : Nat} {ts : List TxnM} {most : Int} (h : FewL ts) (hm : most ≤ 4096) : FewL (lineS z len most ts i).ts := by
  unfold lineS
  split
  · unfold txnS
    split; · exact h
    split; · exact h
    split; · exact h
    split; · exact h
    rename_i h1 _ _ _
    unfold txnT
    split; · exact h
    split; · exact h
    split; · exact h
    exact ⟨by simp; omega, by rw [opsN_app]; have := h.2; simp [opsN] at *; omega⟩
  split
  · unfold opS
    split; · exact h
    split; · exact h
    split; · exact h
    split; · exact h
    rename_i h0 h3 _ _
    split
    · unfold readT
      split; · exact h
      exact FewL.endL h hm h0 h3
    · unfold appT
      split; · exact h
      split; · exact h
      split; · exact h
      exact FewL.endL h hm h0 h3
  · exact h
end Go.Proofs.Ytkdggnfjefgonaa.Hist
