/- Joined out of the texts RoLaw, TabLawB, TabRv, RoundQuiet, RoundHeld, RoundLast, in that order. -/
import Derived.RangeFuncNested
import Derived.RangeFuncBound
import Derived.Test.YtkinmllflodhaaaGreatAll16
import Derived.Test.YtkinmllflodhaaaGreatAll14
import Derived.Sort.BigQuietIn
import Derived.RangeFuncCalls
import Derived.Deep.RegionHeld3
import Derived.OrdersIn
import Derived.ControlIn
import Derived.Test.YtkinmllflodhaaaGreatAll7
/- A range over a function that may itself range over another: its contract, and the loop's law. -/
namespace Go.Proofs.YtkinmllflodhaaaGreat.Ro
open Go.RowKit
set_option linter.unusedVariables false

/-- What is asked of such a function: what its caller says of the world (J, Jx) abides whatever turns no cells. Hx: what a round may know of what comes. -/
def SeqO {α : Type} (F : Fence) (n : Nat) (P : Program) (g : Nat) (lb : Array Value) (encs : α → Array Value) (n₀ : Nat) (Hx : List α → α → World → Prop) (S : List α → Prop) (w : World) : Prop :=
  ∀ (l : Nat) (J Jx : List α → World → Prop) (W : World), Below w.heap.size w W → OwnFrom W.heap.size J → OwnFrom W.heap.size Jx →
    (∀ pre x W1, J pre W1 → Hx pre x W1 → YieldAt F (n - 1) P l (encs x) W1 fun e W' =>
      (e = .returned (.bool true) ∧ J (pre ++ [x]) W' ∧ Below n₀ W1 W') ∨ (e = .returned (.bool false) ∧ Jx (pre ++ [x]) W')) →
    J [] W →
    CallsIn F n P g (#[.func (.yield l) #[] #[]] ++ lb) W fun e W' => (∃ v, e = .returned v) ∧ ((∃ xs, S xs ∧ J xs W') ∨ (∃ pre, Jx pre W'))

variable {F : Fence} {n : Nat} {P : Program}
theorem own_below {β : Type} {B : Nat} {J : β → World → Prop} (h : OwnFrom B J) {s : β} {W W' : World} (hs : J s W) (hb : Below W.heap.size W W') : J s W' :=
  h s W W' none hs ⟨hb.os, hb.tape, hb.output, hb.size, fun k hk _ => hb.block k hk⟩ (fun r e => by cases e)
theorem own_later {β : Type} {B B' : Nat} {J : β → World → Prop} (h : OwnFrom B J) (hB : B ≤ B') : OwnFrom B' J :=
  fun s W W' row hs hg hr => h s W W' row hs hg (fun r e => ⟨Nat.le_trans hB (hr r e).1, (hr r e).2⟩)
/-- A block that is no cells lies as it lay, if another one beyond it turns. -/
theorem block_stays {W W' : World} {row : Option Nat} {B k : Nat} {o : Obj} (hg : W.grownBy W' row) (hr : ∀ r, row = some r → B ≤ r ∧ ∃ o : Obj, W.heap[r]? = some o ∧ o.isCells = false) (hk : W.heap[k]? = some o) (hB : k < B) : W'.heap[k]? = some o :=
  (hg.block k (Array.getElem?_eq_some_iff.1 hk).1 (fun e => by have := (hr k e.symm).1; omega)).trans hk
/-- The loop's law. -/
theorem ranges {α : Type} {g : Operand} {ps : Array Tmp} {assign body : Code} {Q : Exit → Act → World → Prop} {a : Act} {w w0 : World}
    (hro : F.round = none) (h1 : 1 ≤ n) {gf : Nat} {lb : Array Value} (hg : a.eval g = .func (.func gf) #[] lb) (hFg : F.fn gf) (eg : ∀ args w, (callFunc gf args).run P w = .ok (.enter gf args) w)
    {encs : α → Array Value} {n₀ : Nat} {Hx : List α → α → World → Prop} {S : List α → Prop} (hseq : SeqO F (n - 1) P gf lb encs n₀ Hx S w0) (hb0 : Below w0.heap.size w0 w) (hn₀ : n₀ ≤ w.heap.size) (hps : ∀ x, (encs x).size = ps.size)
    (I : List α → World → Prop) (Ix : Code → List α → World → Prop) (hI : OwnFrom w.heap.size I) (hIx : ∀ c, OwnFrom w.heap.size (Ix c)) (h0 : I [] w)
    (hround : ∀ (l : Nat) (pre : List α) (x : α) (W : World), w.heap.size ≤ l → I pre W → Hx pre x W → assign.wpIn (F.inRound l) (n - 1 - 1) P (Exit.then (fun a₁ W₁ => KeepsFrom w.heap.size W W₁ ∧ Below n₀ W W₁ ∧
      ∀ W₂ : World, W₁.grownBy W₂ (some l) → (∃ o : Obj, W₁.heap[l]? = some o ∧ o.isCells = false) → body.wpIn (F.inRound l) (n - 1 - 1) P (ownPostG w.heap.size (Below n₀) I Ix (pre ++ [x]) W₂) a₁ W₂) (fun _ _ _ => False))
      { tmps := (ps.zip (encs x)).foldl (fun t (p, v) => t.setIfInBounds p v) a.tmps, defers := [] } W)
    (hdone : ∀ (D : Nat) (xs : List α) (W : World), w.heap.size ≤ D → S xs → I xs W → W.heap[D]? = some (.deferred (some [])) → Q .normal { a with defers := { target := .collected D, args := #[] } :: a.defers } W)
    (hstop : ∀ (D : Nat) (c : Code) (pre : List α) (W : World), w.heap.size ≤ D → Ix c pre W → W.heap[D]? = some (.deferred (some [])) → c.wpIn F n P Q { a with defers := { target := .collected D, args := #[] } :: a.defers } W) :
    (Code.rangeFunc g ps assign body).wpIn F n P Q a w := by
  refine wpIn_rangeFunc fun fn hfn => ?_
  rw [hro]
  -- the record in each of its states, and the two blocks that are laid
  let rec' (st : LoopState) (pe : Option Code) : Loop := { state := st, pending := pe, fn, tmps := a.tmps, params := ps, assign, body, defers := w.heap.size }
  let L := w.heap.size + 1
  let W₁ := (w.alloc (.deferred (some []))).alloc (.loop (rec' .ready none))
  have size₁ : W₁.heap.size = w.heap.size + 2 := by simp [W₁]
  have laid : Below w.heap.size w W₁ := ((Below.refl _ w).alloc (Nat.le_refl _) _).alloc (by simp) _
  have atL : W₁.heap[L]? = some (.loop (rec' .ready none)) := by
    have := World.alloc_heap_new (w.alloc (.deferred (some []))) (.loop (rec' .ready none))
    rwa [World.size_alloc] at this
  have atD : W₁.heap[w.heap.size]? = some (.deferred (some [])) := (Below.heap_alloc _ _ _ (by simp)).trans (World.alloc_heap_new w _)
  refine ⟨L, [{ target := .collected w.heap.size, args := #[] }], W₁, { target := .fn (.func gf) lb, args := #[.func (.yield L) #[] #[]] }, W₁, gf, #[.func (.yield L) #[] #[]] ++ lb, W₁, run_enterLoop_outer _ _ _ _ _, ?_, ?_, ?_, fun _ => h1, ?_⟩
  · simp only [resolve, hg]; simp [go_sem]
  · intro f' hf'; simp [Target.leads] at hf'; subst hf'; exact hFg
  · simp [invoke, go_sem, eg]
  -- what the function is told: the caller's words, and where the two blocks are
  let J (pre : List α) (W : World) : Prop := I pre W ∧ W.heap[L]? = some (.loop (rec' .ready none)) ∧ W.heap[w.heap.size]? = some (.deferred (some []))
  let Jx (pre : List α) (W : World) : Prop := ∃ c, Ix c pre W ∧ W.heap[L]? = some (.loop (rec' .done (some c))) ∧ W.heap[w.heap.size]? = some (.deferred (some []))
  have hJ : OwnFrom W₁.heap.size J := fun s A B row hs hg' hr =>
    ⟨(own_later hI (by omega)) s A B row hs.1 hg' hr, block_stays hg' hr hs.2.1 (by omega), block_stays hg' hr hs.2.2 (by omega)⟩
  have hJx : OwnFrom W₁.heap.size Jx := fun s A B row hs hg' hr => by
    obtain ⟨c, hc, h2, h3⟩ := hs
    exact ⟨c, (own_later (hIx c) (by omega)) s A B row hc hg' hr, block_stays hg' hr h2 (by omega), block_stays hg' hr h3 (by omega)⟩
  -- turning the record
  have turn : ∀ {W : World} {r : Loop} (o : Obj), W.heap[L]? = some (.loop r) → Below n₀ W (W.putObj L o) := fun o h => belowK_b hn₀ _ L _ o (by omega) h rfl rfl
  have other : ∀ {W : World} (o : Obj), (W.putObj L o).heap[w.heap.size]? = W.heap[w.heap.size]? := fun o => World.putObj_heap_other (by omega)
  refine (hseq L J Jx W₁ (hb0.trans (laid.mono hb0.size)) hJ hJx ?_ ⟨hI.alloc _ (hI.alloc _ h0), atL, atD⟩).mono ?_
  · -- a round
    rintro pre x W ⟨hi, hl, hk⟩ hx
    have hy := run_yield (P := P) (args := encs x) hl (hps x)
    refine ⟨fn, _, assign, body, hy, roundIn_of_wpIn hfn (wpIn_mono (hround L pre x W (by omega) hi hx) ?_)⟩
    rintro e1 a' Wa hp
    cases e1 with
    | exit id => exact hp.elim
    | goto t => exact hp.elim
    | ret => exact hp.elim
    | panic ch => exact hp.elim
    | outgrown => exact hp.elim
    | normal =>
    obtain ⟨keeps, kp, hbody⟩ := hp
    have hl1 := keeps.same _ _ (by omega) hl rfl
    have hk1 := keeps.same _ _ (Nat.le_refl _) hk rfl
    have hlt : L < Wa.heap.size := (Array.getElem?_eq_some_iff.1 hl1).1
    refine ⟨_, run_beginRound hl1 rfl, ?_⟩
    have hl2 : (Wa.putObj L (.loop (rec' .busy none))).heap[L]? = some (.loop (rec' .busy none)) := World.putObj_heap_same hlt
    have hk2 := (other (W := Wa) (.loop (rec' .busy none))).trans hk1
    refine wpIn_mono (hbody _ (grownBy_putObj' Wa L _) ⟨_, hl1, rfl⟩) ?_
    have fin : ∀ (jump : Option Code) (W3 : World), KeepsFrom w.heap.size (Wa.putObj L (.loop (rec' .busy none))) W3 →
        (Instr.endRound L jump).run P W3 = .ok (.bool jump.isNone) (W3.putObj L (.loop (rec' (if jump.isNone then .ready else .done) jump))) ∧ W3.heap[L]? = some (.loop (rec' .busy none)) ∧
        (W3.putObj L (.loop (rec' (if jump.isNone then .ready else .done) jump))).heap[L]? = some (.loop (rec' (if jump.isNone then .ready else .done) jump)) ∧
        (W3.putObj L (.loop (rec' (if jump.isNone then .ready else .done) jump))).heap[w.heap.size]? = some (.deferred (some [])) := fun jump W3 k3 => by
      have hl3 := k3.same _ _ (by omega) hl2 rfl
      exact ⟨run_endRound (P := P) jump hl3, hl3, World.putObj_heap_same (Array.getElem?_eq_some_iff.1 hl3).1, (other _).trans (k3.same _ _ (Nat.le_refl _) hk2 rfl)⟩
    have leave : ∀ (c : Code) (W3 : World), KeepsFrom w.heap.size (Wa.putObj L (.loop (rec' .busy none))) W3 → Ix c (pre ++ [x]) W3 →
        ∃ v w', (Instr.endRound L (some c)).run P W3 = .ok v w' ∧ ((Ending.returned v = .returned (.bool true) ∧ J (pre ++ [x]) w' ∧ Below n₀ W w') ∨ (Ending.returned v = .returned (.bool false) ∧ Jx (pre ++ [x]) w')) := fun c W3 k3 hi3 => by
      obtain ⟨hr, hl3, hl4, hk4⟩ := fin (some c) W3 k3
      exact ⟨_, _, hr, .inr ⟨rfl, c, (hIx _).putObj _ hi3 (by omega) hl3 rfl, hl4, hk4⟩⟩
    rintro e a3 W3 hp
    cases e with
    | normal =>
      obtain ⟨k3, kp3, hi3⟩ := hp
      obtain ⟨hr, hl3, hl4, hk4⟩ := fin none W3 k3
      exact ⟨_, _, hr, .inl ⟨rfl, ⟨hI.putObj _ hi3 (by omega) hl3 rfl, hl4, hk4⟩, ((kp.trans (turn _ hl1)).trans kp3).trans (turn _ hl3)⟩⟩
    | ret => exact leave _ W3 hp.1 hp.2
    | exit id => exact leave _ W3 hp.1 hp.2
    | goto t => exact leave _ W3 hp.1 hp.2
    | panic ch => exact hp.elim
    | outgrown => exact hp.elim
  · -- behind it
    rintro e W2 ⟨⟨v, rfl⟩, (⟨xs, hS, hi, hl, hk⟩ | ⟨pre, c, hi, hl, hk⟩)⟩
    · exact ⟨none, _, run_endLoop (P := P) hl (by simp [rec']), hdone _ xs _ (Nat.le_refl _) hS (hI.putObj _ hi (by omega) hl rfl) ((other _).trans hk)⟩
    · exact ⟨some c, _, run_endLoop (P := P) hl (by simp [rec']), hstop _ c pre _ (Nat.le_refl _) ((hIx c).putObj _ hi (by omega) hl rfl) ((other _).trans hk)⟩
end Go.Proofs.YtkinmllflodhaaaGreat.Ro

/- More of what a law of layer 12 has about it: what each call leaves, told over the world ahead of it; the beginning of a table. -/
namespace Go.Proofs.YtkinmllflodhaaaGreat.Tab
open Go.RowKit Go.Proofs.YtkinmllflodhaaaGreat.Dig Go.Proofs.YtkinmllflodhaaaGreat.Mem Go.Proofs.YtkinmllflodhaaaGreat.Hist Go.Proofs.YtkinmllflodhaaaGreat.Own Go.Proofs.YtkinmllflodhaaaGreat.Thing Go.Proofs.YtkinmllflodhaaaGreat.Sets Go.Shelf Go.Proofs.YtkinmllflodhaaaGreat.Keys Go.Proofs.YtkinmllflodhaaaGreat.Ro
set_option linter.unusedVariables false
set_option linter.unusedSimpArgs false

variable {w W W' : World} {ta : Option Addr} {n tcap : Nat} {ts : List TxnM} {bT : Nat} {s : Tb}
theorem fewLB (h : Hid (LH w ta n tcap ts W)) : Calls Tryz.prog 5 #[.agg #[.slice ta n tcap], .int .i64 20, .int .i64 60] W fun e w' => ∃ r, e = .returned (.bool r) ∧ Hid (r = true → FewH ts) ∧ Hid (Below W.heap.size W w') := by
  refine (rfew2_any _ _ ts W h.out.hist).mono ?_
  rintro e w' ⟨r, rfl, h1, h2⟩
  exact ⟨r, rfl, h1, h2⟩
/-- .. where the history may be. -/
theorem newLB (h : Hid (LH w ta n tcap ts W)) (hf : Hid (FewH ts)) (hc : Hid (0 = checkS ts)) : Calls Tryz.prog 8 #[.agg #[.slice ta n tcap]] W fun e w' =>
    ∃ bT us, e = .returned (.tuple #[.pointer (some ⟨bT, 0, none⟩), .int .i64 0]) ∧ Hid (Below W.heap.size W w') ∧ Hid (TabV w' (.pointer (some ⟨bT, 0, none⟩)) (docIds ts) (docKeys ts) (tb (flat us))) ∧ Hid (Ord ts us ∧ Uq ts) := by
  refine (new_any _ ts W h.out.wide hf.out.f4 hf.out.ft).mono ?_
  rintro e w' (⟨q, rfl, hb⟩ | ⟨q, bT, rfl, hm⟩)
  · exact absurd hc.out.symm q
  · obtain ⟨us, ho, hv⟩ := hm.vw hf.out.ft
    refine ⟨bT, us, rfl, hm.below, .inr ⟨bT, rfl, ?_⟩, ho, valid_uq (checkS_ok q).1⟩
    rw [← ids_ord ho]
    exact hv
theorem own_is {β : Type} {B b : Nat} (hb : b < B) (f : β → Array Value) : OwnFrom B (fun (s : β) W => Is W b (f s)) := fun s W W' row hs hg hr => by
  obtain ⟨T, h⟩ := hs
  exact ⟨T, (hg.block b (Array.getElem?_eq_some_iff.1 h).1 (fun e => by have := (hr b e.symm).1; omega)).trans h⟩
theorem own_only {β : Type} {B : Nat} {S : Nat → Prop} {w0 : World} (hB : w0.heap.size ≤ B) : OwnFrom B (fun (_ : β) W => Only S w0 W) := fun s W W' row hs hg hr =>
  ⟨hg.os.trans hs.os, hg.tape.trans hs.tape, hg.output.trans hs.output, Nat.le_trans hs.size hg.size, fun k hk hn => (hg.block k (Nat.lt_of_lt_of_le hk hs.size) (fun e => by have := (hr k e.symm).1; omega)).trans (hs.block k hk hn)⟩
/-- A loop's record turns: what is cells lies as it lay. -/
theorem only_rec {W₁ W₂ : World} {l : Nat} (hg : W₁.grownBy W₂ (some l)) : Only (fun k => k = l) W₁ W₂ := ⟨hg.os, hg.tape, hg.output, hg.size, fun k hk hn => hg.block k hk (fun e => hn (Option.some.inj e))⟩
theorem is_not {W : World} {b l : Nat} {cs : Array Value} (h : Is W b cs) (hl : ∃ o : Obj, W.heap[l]? = some o ∧ o.isCells = false) : ¬ b = l := fun e => by
  obtain ⟨T, q⟩ := h
  obtain ⟨o, ho, hc⟩ := hl
  rw [← e, q] at ho
  cases ho
  cases hc
end Go.Proofs.YtkinmllflodhaaaGreat.Tab

/- A table's reads: the rows as they lie, told once for all worlds behind. -/
namespace Go.Proofs.YtkinmllflodhaaaGreat.Tab
open Go.RowKit Go.Proofs.YtkinmllflodhaaaGreat.Dig Go.Proofs.YtkinmllflodhaaaGreat.Mem Go.Proofs.YtkinmllflodhaaaGreat.Hist Go.Proofs.YtkinmllflodhaaaGreat.Own Go.Proofs.YtkinmllflodhaaaGreat.Thing Go.Proofs.YtkinmllflodhaaaGreat.Sets Go.Shelf Go.Proofs.YtkinmllflodhaaaGreat.Keys Go.Proofs.YtkinmllflodhaaaGreat.Ro
set_option linter.unusedVariables false
set_option linter.unusedSimpArgs false

structure Rv (w : World) (bT : Nat) (rs : Int → List RdM) : Prop where
  ex : ∃ m2, w.cell? ⟨bT, 4, none⟩ = some (.map m2) ∧ ∀ k, nameOk k → ∃ (a : Option Addr) (c : Nat) (es : List RdE), (∀ W, Below w.heap.size w W → (Instr.lookup 77 (.map m2) (.int .i64 k) false).run Tryz.prog W = .ok (.slice a (rs k).length c) W) ∧ Row5 w a (rs k).length (es.flatMap rdC) ∧ es.map (·.r) = rs k ∧ ∀ e ∈ es, e.ok w
theorem Rv.keep {w w' : World} {bT : Nat} {rs : Int → List RdM} (h : Rv w bT rs) (hb : Below w.heap.size w w') : Rv w' bT rs := by
  obtain ⟨m2, hc, h⟩ := h.ex
  refine ⟨m2, (hb.cell (p := ⟨bT, 4, none⟩) (lt_of_cell hc)).trans hc, fun k hk => ?_⟩
  obtain ⟨a, c, es, h1, h2, h3, h4⟩ := h k hk
  exact ⟨a, c, es, fun W hW => h1 W (hb.trans (hW.mono hb.size)), row5_keep h2 hb, h3, fun e he => (h4 e he).keep hb⟩
theorem Made.rv {w w' : World} {bT : Nat} {ts : List TxnM} (h : Made w bT ts w') (hf : FewT ts) : ∃ us, Ord ts us ∧ Vw w' bT (idsOf us) (docKeys ts) (tb (flat us)) ∧ Rv w' bT (tb (flat us)).rd := by
  obtain ⟨d, us, n, ia, ic, ka, kc, ho, ht, hi, h1, h2, hn⟩ := h.ex
  have hl : ∀ k, ∀ r ∈ (tb (flat us)).rd k, r.list.length ≤ 1000000 ∧ r.own.length ≤ 1000000 := fun k r hr => by
    obtain ⟨e1, x, hx, e2⟩ := readsG_own k [] (flat us) r hr
    have hlen : (flat us).length ≤ 1000 := by
      rw [flat_len]
      have : opsN us = opsN ts := (ho.1.map _).sum_nat
      have := hf.2.1
      omega
    refine ⟨?_, by simp at e1; omega⟩
    obtain ⟨t, htm, hx⟩ := List.mem_flatMap.1 hx
    rw [spots_mk] at hx
    have hxo : x.o ∈ t.ops := by
      have := List.mem_map_of_mem (f := fun s : Spot => s.o) hx
      rwa [mk_ops] at this
    rw [e2]
    have := hf.2.2 t (ho.1.mem_iff.1 htm) x.o hxo
    omega
  refine ⟨us, ho, ⟨ia, ic, ka, kc, some d.b0, some d.b1, some d.b2, some d.b3, hi, h1, h2, fun W hW => (ht.keep (Only.of_below (S := fun _ => False) hW) (fun _ _ q => q)).maps hn fun k r hr => hl k r hr⟩, ⟨some d.b2, hi.cell 4 rfl, fun k hk => ?_⟩⟩
  obtain ⟨a, c, e, hr⟩ := own_row5 (ht.rr k)
  have hall : AllAt (RdV w') (d.cR k) ((tb (flat us)).rd k) := ⟨(ht.rs k).1, fun i c r hc hrr => by
    obtain ⟨lv, ov, rfl, g1, g2⟩ := (ht.rs k).2 i c r hc hrr
    obtain ⟨la, lc, rfl⟩ := g1.slice
    obtain ⟨oa, oc, rfl⟩ := g2.slice
    have hll := hl k r (List.mem_of_getElem? hrr)
    exact ⟨la, lc, oa, oc, rfl, (g1.row (by omega)).2, (g2.row (by omega)).2⟩⟩
  obtain ⟨es, e1, e2, e3⟩ := elems _ _ hall
  refine ⟨a, c, es, fun W hW => ?_, ?_, e1, e3⟩
  · have := (ht.keep (Only.of_below (S := fun _ => False) hW) (fun _ _ q => q)).m2.look (T := 77) (E := 94) idIs Tryz.underlying77 (zeroR W) (x := k) hk
    rw [← e]
    exact this
  · have e4 : es.flatMap rdC = (d.cR k).flatten := by rw [← e2, List.flatMap]
    rw [e4]
    exact hr
set_option maxRecDepth 100000 in
theorem orn_some (bT : Nat) (w : World) : Calls Tryz.prog 43 #[.pointer (some ⟨bT, 0, none⟩)] w fun e w' => e = .returned (.pointer (some ⟨bT, 0, none⟩)) ∧ w' = w := by
  go_enter Tryz.func43, Tryz.ntmps43
  go_wp2
  go_ret
  exact ⟨rfl, rfl⟩
variable {w W W' : World} {ta : Option Addr} {n tcap : Nat} {ts : List TxnM}
/-- New, where the history may be: the table, and its reads. -/
theorem newLR (h : Hid (LH w ta n tcap ts W)) (hf : Hid (FewH ts)) (hc : Hid (0 = checkS ts)) : Calls Tryz.prog 8 #[.agg #[.slice ta n tcap]] W fun e w' =>
    ∃ bT us, e = .returned (.tuple #[.pointer (some ⟨bT, 0, none⟩), .int .i64 0]) ∧ Hid (Below W.heap.size W w') ∧ Hid (TabV w' (.pointer (some ⟨bT, 0, none⟩)) (docIds ts) (docKeys ts) (tb (flat us))) ∧ Hid (Rv w' bT (docReads ts)) ∧ Hid (Ord ts us ∧ Uq ts) := by
  refine (new_any _ ts W h.out.wide hf.out.f4 hf.out.ft).mono ?_
  rintro e w' (⟨q, rfl, hb⟩ | ⟨q, bT, rfl, hm⟩)
  · exact absurd hc.out.symm q
  · obtain ⟨us, ho, hv, hr⟩ := hm.rv hf.out.ft
    have hu := valid_uq (checkS_ok q).1
    refine ⟨bT, us, rfl, hm.below, .inr ⟨bT, rfl, ?_⟩, ?_, ho, hu⟩
    · rw [← ids_ord ho]
      exact hv
    · have e : (tb (flat us)).rd = docReads ts := funext fun k => reads_ord ho hu k
      rw [← e]
      exact hr
end Go.Proofs.YtkinmllflodhaaaGreat.Tab

/- A region in a round of a range over a function, whose operations read alone, but for the last one, a store behind all others: one walk in the text's order serves every order. -/
namespace Go.Proofs.YtkinmllflodhaaaGreat.Round
open Go Go.RowKit
set_option linter.unusedVariables false
set_option linter.unusedSimpArgs false

section
variable {F : Fence} {n : Nat} {P : Program} {ops ops' : Array Oper} {md : Region.Mode} {C : World → Prop} {l : Nat}
def skipOf (o : Oper) : Oper := { o with op := .assign (.const undef), dst := none, guard := none }
def noDefer (ops : Array Oper) : Bool := ops.all fun o => match o.op with | .defer _ => false | _ => true
theorem noDefer_spec (h : noDefer ops = true) {i : Nat} {o : Oper} (ho : ops[i]? = some o) (c : Call) : o.op ≠ .defer c := by
  intro e
  have := Array.all_eq_true_iff_forall_mem.1 h o (Array.mem_of_getElem? ho)
  rw [e] at this
  cases this
/-- Edges lead back, and the last operation waits for all others. -/
def backB (ops : Array Oper) : Bool := (List.range ops.size).all fun i => match ops[i]? with | some o => o.after.all fun e => decide (e.on < i) | none => true
def lastB (md : Region.Mode) (ops : Array Oper) (k : Nat) : Bool := match ops[k]? with | some o => (List.range k).all fun j => o.after.any fun e => e.on == j && Region.binds md e | none => false
theorem backB_spec (h : backB ops = true) {i : Nat} {o : Oper} (ho : ops[i]? = some o) {e : _} (he : e ∈ o.after) : e.on < i := by
  unfold backB at h
  have h1 := List.all_eq_true.1 h i (List.mem_range.2 (Array.getElem?_eq_some_iff.1 ho).1)
  rw [ho] at h1
  exact of_decide_eq_true (Array.all_eq_true_iff_forall_mem.1 h1 e he)
/-- While one has not come up, one may. -/
theorem ready_some (hb : backB ops = true) {listed : Array Bool} (hs : listed.size = ops.size) {k : Nat} (hk : listed.getD k true = false) : Region.ready md ops listed ≠ [] := by
  have key : ∀ k, listed.getD k true = false → ∃ j, listed.getD j true = false ∧ ∀ i, i < j → listed.getD i true = true := by
    intro k
    induction k using Nat.strongRecOn with
    | ind k ih =>
      intro hk
      by_cases q : ∃ i, i < k ∧ listed.getD i true = false
      · obtain ⟨i, hi, h⟩ := q
        exact ih i hi h
      · exact ⟨k, hk, fun i hi => by
          cases e : listed.getD i true with
          | true => rfl
          | false => exact absurd ⟨i, hi, e⟩ q⟩
  obtain ⟨j, hj, hall⟩ := key k hk
  have hjs : j < ops.size := by
    apply Nat.lt_of_not_le
    intro q
    simp [Array.getD, show ¬ j < listed.size by omega] at hj
  intro h0
  have : j ∈ Region.ready md ops listed := mem_ready.2 ⟨hj, ops[j], by simp [hjs], fun e he _ => by
    have hlt := backB_spec hb (i := j) (o := ops[j]) (by simp [hjs]) he
    have := hall _ hlt
    have hls : e.on < listed.size := by omega
    simp [Array.getD, hls] at this ⊢
    exact this⟩
  rw [h0] at this
  cases this
theorem wpIn_of_quiet_round {o : Oper} {a : Act} {K : Act → Prop} {K' : Act → World → Prop} {Q' : Exit → Act → World → Prop} {w : World} (hnd : ∀ c, o.op ≠ .defer c) (hw : C w) (h : ∀ a w', C w' → K a → K' a w')
    (ha : o.askedIn F P a C) (hh : o.quietIn F n P a C K) : o.wpIn (F.inRound l) n P a w K' Q' := by
  obtain ⟨v, h1, h2⟩ := hh
  have h3 := h1 w hw
  unfold Oper.quietAtIn at h3
  unfold Oper.wpIn
  refine ⟨ha w hw, ?_⟩
  rw [Oper.semAt_eq _ _ _ hnd]
  generalize (execOp a.eval o).run P w = r at *
  cases r with
  | ok x w' =>
    cases x <;> simp only [Oper.quietUponIn] at h3 <;> simp only [Oper.uponIn]
    case value u =>
      obtain ⟨e1, e2⟩ := h3
      rw [e1, e2]
      exact h _ _ hw h2
    case skip =>
      obtain ⟨e1, e2⟩ := h3
      rw [e1, ← e2]
      exact h _ _ hw h2
    case enter f args =>
      obtain ⟨e1, hd, hc⟩ := h3
      rw [e1]
      exact ⟨hd, (CallsIn.inRound l hc).mono fun e w'' ⟨he, hw''⟩ => by subst he; exact h _ _ hw'' h2⟩
  | halt x w' => simp only [Oper.quietUponIn] at h3
theorem wpOpIn_of_qOpIn_round {i : Nat} {a : Act} {K : Act → Prop} {K' : Act → World → Prop} {Q' : Exit → Act → World → Prop} {w : World} (hnd : noDefer ops = true) (hy : yielded ops' = yielded ops) (hi : ops'[i]? = ops[i]?) (hC : C w) (h : ∀ a w', C w' → K a → K' a w')
    (hh : qOpIn F n P ops' C i K a) : wpOpIn (F.inRound l) n P ops Q' i K' a w := by
  unfold qOpIn at hh
  unfold wpOpIn
  rw [hi, hy] at hh
  split
  · rename_i ho; simp only [ho] at hh; exact h _ _ hC hh
  · rename_i o ho
    simp only [ho] at hh
    obtain ⟨ha, hh⟩ := hh
    split
    · rename_i hw; simp only [hw, if_true] at hh; exact wpIn_of_quiet_round (noDefer_spec hnd ho) hC h ha hh
    · rename_i hw; simp only [hw] at hh; exact ⟨ha w hC, h _ _ hC hh⟩
theorem getD_set_same {listed : Array Bool} {k : Nat} (b : Bool) (hk : k < listed.size) : (listed.setIfInBounds k true).getD k b = true := by
  simp [Array.getD, hk]
theorem listed_default {listed : Array Bool} {j : Nat} (hj : j < listed.size) (b c : Bool) : listed.getD j b = listed.getD j c := by simp [Array.getD, hj]
/-- While the last one has not come up. -/
theorem any_of_quiet_last {Q' : Exit → Act → World → Prop} {k : Nat} {o : Oper} (hnd : noDefer ops = true) (hb : backB ops = true) (hk : ops.size = k + 1) (ho : ops[k]? = some o) (hl : lastB md ops k = true) (hsz : ops'.size = ops.size) (hsame : ∀ i, i ≠ k → ops'[i]? = ops[i]?) (hk' : ops'[k]? = some (skipOf o)) (hdst : o.dst = none) :
    ∀ (fuel : Nat) (listed : Array Bool) (a : Act) (w : World), listed.size = ops.size → listed.getD k true = false → C w →
      wpAnyQIn F n P md ops' C (fun a' => ∀ w', C w' → wpOpIn (F.inRound l) n P ops Q' k (fun a w => Q' .normal a w) a' w') fuel listed a → wpAnyIn (F.inRound l) n P md ops Q' fuel listed a w := by
  have hafter : ∀ i, (ops'[i]?).map Oper.after = (ops[i]?).map Oper.after := fun i => by
    by_cases e : i = k
    · subst e; rw [hk', ho]; rfl
    · rw [hsame i e]
  have hready : ∀ listed, Region.ready md ops' listed = Region.ready md ops listed := fun listed => by
    unfold Region.ready
    rw [hsz]
    apply List.filter_congr
    intro i _
    have := hafter i
    cases h1 : ops'[i]? with
    | none => rw [h1] at this; cases h2 : ops[i]? with
      | none => rfl
      | some x => rw [h2] at this; cases this
    | some y => rw [h1] at this; cases h2 : ops[i]? with
      | none => rw [h2] at this; cases this
      | some x => rw [h2] at this; simp at this; simp [this]
  have hyield : yielded ops' = yielded ops := by
    funext tmps j
    unfold yielded
    have : (ops'[j]?).bind (·.dst) = (ops[j]?).bind (·.dst) := by
      by_cases e : j = k
      · subst e; rw [hk', ho]; simp [skipOf, hdst]
      · rw [hsame j e]
    rw [this]
  intro fuel
  induction fuel with
  | zero =>
    intro listed a w hs hkl hC h
    have h0 : Region.ready md ops' listed = [] := h.1
    rw [hready] at h0
    exact absurd h0 (ready_some hb hs hkl)
  | succ fuel ih =>
    intro listed a w hs hkl hC h
    refine ⟨fun h0 => absurd h0 (ready_some hb hs hkl), fun i hi => ?_⟩
    have h1 := h.2 i (by rw [hready]; exact hi)
    by_cases e : i = k
    · subst e
      have hall : ∀ j, j < i → listed.getD j true = true := fun j hj => by
        obtain ⟨_, o2, ho2, h2⟩ := mem_ready.1 hi
        rw [ho] at ho2
        obtain rfl := Option.some.inj ho2
        unfold lastB at hl
        rw [ho] at hl
        have := List.all_eq_true.1 hl j (List.mem_range.2 hj)
        obtain ⟨q, hqs, hq⟩ := Array.any_eq_true.1 this
        rw [Bool.and_eq_true, beq_iff_eq] at hq
        rw [listed_default (by omega) true false, ← hq.1]
        exact h2 _ (Array.getElem_mem hqs) hq.2
      have hr0 : Region.ready md ops (listed.setIfInBounds i true) = [] := by
        rw [List.eq_nil_iff_forall_not_mem]
        intro j hj
        obtain ⟨h2, o2, ho2, _⟩ := mem_ready.1 hj
        have hjs : j < ops.size := (Array.getElem?_eq_some_iff.1 ho2).1
        by_cases ej : j = i
        · subst ej; rw [getD_set_same true (by omega)] at h2; cases h2
        · rw [getD_set_ne true (Ne.symm ej), hall j (by omega)] at h2; cases h2
      unfold qOpIn at h1
      rw [hk'] at h1
      obtain ⟨_, h1⟩ := h1
      have hw : Region.wanted (skipOf o) (yielded ops' a.tmps) = true := rfl
      rw [if_pos hw] at h1
      obtain ⟨v, _, h1⟩ := h1
      have h1' : wpAnyQIn F n P md ops' C (fun a' => ∀ w', C w' → wpOpIn (F.inRound l) n P ops Q' i (fun a w => Q' .normal a w) a' w') fuel (listed.setIfInBounds i true) a := h1
      have hQ : ∀ w', C w' → wpOpIn (F.inRound l) n P ops Q' i (fun a w => Q' .normal a w) a w' := by
        cases fuel with
        | zero => exact h1'.2
        | succ f => exact h1'.1 (by rw [hready]; exact hr0)
      exact wpOpIn_mono (fun a' w' q => wpAnyIn_done hr0 q fuel) (hQ w hC)
    · exact wpOpIn_of_qOpIn_round hnd hyield (hsame i e) hC (fun a' w' hC' h' => ih _ a' w' (by simp [hs]) (by rw [getD_set_ne true e]; exact hkl) hC' h') h1
theorem wpQuietIn_last {Q : Act → Prop} {a : Act} {o : Oper} (h : Q a) : wpQuietIn F n P ops C Q [skipOf o] a := by
  refine wpQuietIn_step (fun w _ f hf => by simp [Oper.about, skipOf] at hf) (fun K hK => ?_)
  rw [if_pos (by rfl)]
  exact ⟨undef, fun w _ => ⟨rfl, rfl⟩, hK _ (wpQuietIn_nil h)⟩
/-- The region. C: 'some draws later'. -/
theorem wpIn_round_store {id k : Nat} {Q : Exit → Act → World → Prop} {a : Act} {w : World} {os : List Oper} {o : Oper} (hm : P.follows .mixedOrders = true) (ho : os[k]? = some o) (hk : os.length = k + 1) (hdst : o.dst = none)
    (hnd : noDefer os.toArray = true) (hb : backB os.toArray = true) (hl : lastB .any os.toArray k = true) (hB : Region.lexB .any (os.set k (skipOf o)).toArray = true)
    (h : wpQuietIn F n P (os.set k (skipOf o)).toArray (fun w' => ∃ m, w' = w.drewN m) (fun a' => ∀ w', (∃ m, w' = w.drewN m) → wpOpIn (F.inRound l) n P os.toArray Q k (fun a w => Q .normal a w) a' w') (os.set k (skipOf o)) a) : (Code.region id os.toArray true).wpIn (F.inRound l) n P Q a w := by
  simp only [Region.lexB, Bool.and_eq_true] at hB
  have hlt : k < os.length := by omega
  refine wpIn_region_any hm (any_of_quiet_last (F := F) (C := fun w' => ∃ m, w' = w.drewN m) (k := k) (o := o) (ops' := (os.set k (skipOf o)).toArray) hnd hb (by simpa using hk) (by simpa using ho) hl (by simp) (fun i hi => ?_) ?_ hdst _ _ _ _ (by simp) (by simp [Array.getD, hlt]) ⟨1, rfl⟩ ?_)
  · simp [List.getElem?_set, Ne.symm hi]
  · simp [List.getElem?_set, hlt]
  · have := wpAnyQIn_lex (F := F) (n := n) (C := fun w' => ∃ m, w' = w.drewN m) (md := .any) hB.1 (os.set k (skipOf o)) 0 (Array.replicate os.toArray.size false) a (by simp) (by simpa using hB.2) h
    simpa using this
end
end Go.Proofs.YtkinmllflodhaaaGreat.Round

/- A region in a round of a range over a function that draws, and holds loads beside calls and stores: it goes as one outside of any round, its loads taken first. -/
namespace Go.Proofs.YtkinmllflodhaaaGreat.Round
open Go Go.RowKit
set_option linter.unusedVariables false
set_option linter.unusedSimpArgs false

section
variable {P : Program} {ops : Array Oper} {Q : Exit → Act → World → Prop} {md : Region.Mode} {n l : Nat}
theorem wpIn_round_of_wp {o : Oper} {a : Act} {w : World} {K : Act → World → Prop} (hnd : ∀ c, o.op ≠ .defer c) (h : o.wp P a w K Q) : o.wpIn (Fence.wide.inRound l) n P a w K Q := by
  unfold Oper.wp at h
  unfold Oper.wpIn
  refine ⟨fun _ _ => trivial, ?_⟩
  rw [Oper.semAt_eq _ _ _ hnd]
  generalize (execOp a.eval o).run P w = r at *
  cases r with
  | ok x w' =>
    cases x <;> simp only [Oper.upon] at h <;> simp only [Oper.uponIn]
    case value u => exact h
    case skip => exact h
    case defer d => exact h
    case enter f args => exact ⟨fun q => by simp [Fence.wide] at q, CallsIn.inRound l (callsIn_wide.2 h)⟩
    case row row args =>
      refine ⟨fun q => by simp [Fence.wide] at q, fun c cs _ => ?_⟩
      obtain ⟨v, w'', r, s⟩ := h c cs
      exact ⟨v, w'', r, stepsIn_wide.2 s⟩
  | halt x w' =>
    cases x <;> simp only [Oper.upon] at h <;> simp only [Oper.uponIn]
    case panic v => exact h
theorem any_round (hnd : noDefer ops = true) (hno : ¬ LetsOut Q) : ∀ (fuel : Nat) (listed : Array Bool) (a : Act) (w : World), wpAny P md ops Q fuel listed a w → wpAnyIn (Fence.wide.inRound l) n P md ops Q fuel listed a w
  | 0, _, _, _, h => h
  | fuel + 1, listed, a, w, h => ⟨h.1, fun i hi => by
    have h2 := h.2 i hi
    unfold wpOp at h2
    unfold wpOpIn
    split
    · rename_i ho
      simp only [ho] at h2
      exact any_round hnd hno fuel _ a w h2
    · rename_i o ho
      simp only [ho] at h2
      split
      · rename_i hw
        simp only [hw, if_true] at h2
        have h3 := h2.resolve_right (fun q => hno q.2)
        exact Oper.wpIn_mono (fun a' w' q => any_round hnd hno fuel _ a' w' q) (wpIn_round_of_wp (noDefer_spec hnd ho) h3)
      · rename_i hw
        simp only [hw] at h2
        exact ⟨fun _ _ => trivial, any_round hnd hno fuel _ _ w h2⟩⟩
theorem wpIn_round_held {id : Nat} {a : Act} {w : World} {S : World → Prop} (hm : P.follows .mixedOrders = true) (hnd : noDefer ops = true) (hno : ¬ LetsOut Q) (hS : S w.drew)
    (h : S w.drew → wpAnyH P .any ops Q S ops.size (Array.replicate ops.size false) a w.drew) : (Code.region id ops true).wpIn (Fence.wide.inRound l) n P Q a w :=
  wpIn_region_any hm (any_round hnd hno _ _ _ _ (wpAny_of_held _ _ _ _ (h hS)))
end
end Go.Proofs.YtkinmllflodhaaaGreat.Round

/- A region in a round of a range over a function that draws, its last operation waiting for all others: what is held need not hold behind it. -/
namespace Go.Proofs.YtkinmllflodhaaaGreat.Round
open Go Go.RowKit
set_option linter.unusedVariables false
section
variable {n l : Nat} {P : Program} {ops : Array Oper} {Q : Exit → Act → World → Prop} {S : World → Prop}
theorem wpIn_round_last {id k : Nat} {ok : Oper} {a : Act} {w : World} (hm : P.follows .mixedOrders = true) (hnd : noDefer ops = true) (hno : ¬ LetsOut Q) (hs : k + 1 = ops.size) (hk : ops[k]? = some ok) (hw : (List.range k).all (fun j => (List.range (k + 1)).any fun i => match ops[i]? with | none => false | some o => o.after.any fun e => Region.binds .any e && e.on == j) = true)
    (hlt : (List.range ops.size).all (fun i => match ops[i]? with | none => true | some o => o.after.all fun e => !Region.binds .any e || decide (e.on < i)) = true)
    (h : wpAnyH P .any ops (Exit.then (fun a w => wpOp P ops Q k (Q .normal) a w) Q) S k ((Array.replicate ops.size false).setIfInBounds k true) a w.drew) : (Code.region id ops true).wpIn (Fence.wide.inRound l) n P Q a w := by
  refine wpIn_region_any hm (any_round hnd hno _ _ _ _ ?_)
  rw [← hs]
  refine Last.wpAny_last hs hk (fun i hi => ?_) (fun i o ho e he hb => ?_) k _ a _ (by simpa using hs) (fun i o ho hi => by rw [Array.getD_eq_getD_getElem?, Array.getElem?_replicate] at hi; split at hi <;> cases hi) (by rw [Array.getD_eq_getD_getElem?, Array.getElem?_replicate, if_pos (by omega)]; rfl) (by rw [← hs] at h; exact h)
  · have := List.all_eq_true.1 hw i (List.mem_range.2 hi)
    obtain ⟨n, hn, q⟩ := List.any_eq_true.1 this
    have hn' := List.mem_range.1 hn
    cases ho : ops[n]? with
    | none => rw [ho] at q; cases q
    | some o =>
      rw [ho] at q
      obtain ⟨m, hm, q⟩ := Array.any_eq_true.1 q
      simp at q
      exact ⟨n, o, by omega, ho, o.after[m], Array.getElem_mem hm, q.1, q.2⟩
  · have hi : i < ops.size := by
      rcases Nat.lt_or_ge i ops.size with q | q
      · exact q
      · rw [Array.getElem?_eq_none q] at ho; cases ho
    have := List.all_eq_true.1 hlt i (List.mem_range.2 hi)
    rw [ho] at this
    obtain ⟨j, hj, rfl⟩ := Array.mem_iff_getElem.1 he
    have := Array.all_eq_true.1 this j hj
    simp [hb] at this
    exact this
/-- A round's contract, in another round, at whatever depth. -/
theorem round_wide {m m' l l' : Nat} {f : FuncId} {tmps : Array Value} {assign body : Code} {w : World} {R : Ending → World → Prop} (h : RoundIn Fence.wide m P l f tmps assign body w R) : RoundIn (Fence.wide.inRound l') m' P l f tmps assign body w R :=
  ⟨h.1, fun c cs _ => h.2 c cs (fun d hd => by cases hd)⟩
end
end Go.Proofs.YtkinmllflodhaaaGreat.Round
