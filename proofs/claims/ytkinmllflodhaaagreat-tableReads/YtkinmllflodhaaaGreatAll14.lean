/- Joined out of the texts RoLawG, TabRds, TabGet, TabSeq, TabOne, TabWorks, SetOwn, in that order. -/
import Derived.Test.YtkinmllflodhaaaGreatAll1
import Derived.RangeFuncNested
import Derived.RangeFuncBound
import Derived.Test.YtkinmllflodhaaaGreatAll13
import Derived.Laws.StructEq
import Derived.Test.YtkinmllflodhaaaGreatAll9
/- A range over a function that may itself range over another, and hands on what it has made anew. What its caller's rounds turn: blocks that lay there ahead of the loop, but for those of 'keep'; and those of R, which were made in its rounds. Hx pre x W0 W1: what is handed on in W1, W0 being the world as the caller's words were said of it. -/
namespace Go.Proofs.YtkinmllflodhaaaGreat.Ro
open Go.RowKit Go.Proofs.YtkinmllflodhaaaGreat.Mem
set_option linter.unusedVariables false

abbrev Blocks := Nat → Prop
def SeqG {α : Type} (F : Fence) (n : Nat) (P : Program) (g : Nat) (lb : Array Value) (encs : α → Array Value) (keep : Blocks) (Hx : List α → α → World → World → Prop) (S : List α → Prop) (w : World) : Prop :=
  ∀ (l : Nat) (J : List α → Blocks → World → Prop) (Jx : List α → World → Prop) (W : World), Below w.heap.size w W → OwnFrom W.heap.size (fun (s : List α × Blocks) W => J s.1 s.2 W) → OwnFrom W.heap.size Jx →
    (∀ pre R x W0 W1, J pre R W0 → Below W0.heap.size W0 W1 → Hx pre x W0 W1 → YieldAt F (n - 1) P l (encs x) W1 fun e W' =>
      (e = .returned (.bool true) ∧ ∃ R' : Blocks, J (pre ++ [x]) R' W' ∧ (∀ k, R' k → R k ∨ W1.heap.size ≤ k) ∧ Only (fun k => (k < W.heap.size ∧ ¬ keep k) ∨ R k) W1 W') ∨ (e = .returned (.bool false) ∧ Jx (pre ++ [x]) W' ∧ Only (fun k => (k < W.heap.size ∧ ¬ keep k) ∨ R k) W1 W')) →
    J [] (fun _ => False) W →
    CallsIn F n P g (#[.func (.yield l) #[] #[]] ++ lb) W fun e W' => (∃ v, e = .returned v) ∧ ((∃ xs R, S xs ∧ J xs R W') ∨ (∃ pre, Jx pre W'))

variable {F : Fence} {n : Nat} {P : Program}
theorem ownG_below {β : Type} {B : Nat} {J : β → World → Prop} (h : OwnFrom B J) {s : β} {W W' : World} (hs : J s W) (hb : Below W.heap.size W W') : J s W' :=
  h s W W' none hs ⟨hb.os, hb.tape, hb.output, hb.size, fun k hk _ => hb.block k hk⟩ (fun r e => by cases e)
theorem ownG_later {β : Type} {B B' : Nat} {J : β → World → Prop} (h : OwnFrom B J) (hB : B ≤ B') : OwnFrom B' J :=
  fun s W W' row hs hg hr => h s W W' row hs hg (fun r e => ⟨Nat.le_trans hB (hr r e).1, (hr r e).2⟩)
/-- A block that is no cells lies as it lay, if another one beyond it turns. -/
theorem stays {W W' : World} {row : Option Nat} {B k : Nat} {o : Obj} (hg : W.grownBy W' row) (hr : ∀ r, row = some r → B ≤ r ∧ ∃ o : Obj, W.heap[r]? = some o ∧ o.isCells = false) (hk : W.heap[k]? = some o) (hB : k < B) : W'.heap[k]? = some o :=
  (hg.block k (Array.getElem?_eq_some_iff.1 hk).1 (fun e => by have := (hr k e.symm).1; omega)).trans hk
/-- How a round's body may be left. W: the world in which the round was asked for. -/
def postG {α : Type} (B : Nat) (keep R : Blocks) (W : World) (I : List α → Blocks → World → Prop) (Ix : Code → List α → World → Prop) (xs : List α) (W₂ : World) : Exit → Act → World → Prop
  | .normal, _, W' => Only (fun k => (k < B ∧ ¬ keep k) ∨ R k ∨ W.heap.size ≤ k) W₂ W' ∧ ∃ R' : Blocks, I xs R' W' ∧ (∀ k, R' k → R k ∨ W.heap.size ≤ k)
  | .ret, _, W' => Only (fun k => (k < B ∧ ¬ keep k) ∨ R k ∨ W.heap.size ≤ k) W₂ W' ∧ Ix .ret xs W'
  | .exit id, _, W' => Only (fun k => (k < B ∧ ¬ keep k) ∨ R k ∨ W.heap.size ≤ k) W₂ W' ∧ Ix (.exit id) xs W'
  | .goto t, _, W' => Only (fun k => (k < B ∧ ¬ keep k) ∨ R k ∨ W.heap.size ≤ k) W₂ W' ∧ Ix (.goto t) xs W'
  | .panic _, _, _ => False
  | .outgrown, _, _ => False
theorem only_obj {W : World} {S : Blocks} {k : Nat} (o : Obj) (h : S k) : Only S W (W.putObj k o) :=
  have hg := grownBy_putObj' W k o
  ⟨hg.os, hg.tape, hg.output, hg.size, fun i hi hn => hg.block i hi (fun e => hn (by cases e; exact h))⟩
/-- The loop's law. -/
theorem rangesG {α : Type} {g : Operand} {ps : Array Tmp} {assign body : Code} {Q : Exit → Act → World → Prop} {a : Act} {w w0 : World}
    (hro : F.round = none) (h1 : 1 ≤ n) {gf : Nat} {lb : Array Value} (hg : a.eval g = .func (.func gf) #[] lb) (hFg : F.fn gf) (eg : ∀ args w, (callFunc gf args).run P w = .ok (.enter gf args) w)
    {encs : α → Array Value} {keep : Blocks} {Hx : List α → α → World → World → Prop} {S : List α → Prop} (hseq : SeqG F (n - 1) P gf lb encs keep Hx S w0) (hb0 : Below w0.heap.size w0 w) (hkeep : ∀ k, keep k → k < w.heap.size) (hps : ∀ x, (encs x).size = ps.size)
    (I : List α → Blocks → World → Prop) (Ix : Code → List α → World → Prop) (hI : OwnFrom w.heap.size (fun (s : List α × Blocks) W => I s.1 s.2 W)) (hIx : ∀ c, OwnFrom w.heap.size (Ix c)) (h0 : I [] (fun _ => False) w)
    (hround : ∀ (l : Nat) (pre : List α) (R : Blocks) (x : α) (W0 W : World), l = w.heap.size + 1 → (∀ q, R q → w.heap.size + 2 ≤ q) → I pre R W0 → Below W0.heap.size W0 W → Hx pre x W0 W → assign.wpIn (F.inRound l) (n - 1 - 1) P (Exit.then (fun a₁ W₁ => Below W.heap.size W W₁ ∧
      ∀ W₂ : World, W₁.grownBy W₂ (some l) → (∃ o : Obj, W₁.heap[l]? = some o ∧ o.isCells = false) → body.wpIn (F.inRound l) (n - 1 - 1) P (postG w.heap.size keep R W I Ix (pre ++ [x]) W₂) a₁ W₂) (fun _ _ _ => False))
      { tmps := (ps.zip (encs x)).foldl (fun t (p, v) => t.setIfInBounds p v) a.tmps, defers := [] } W)
    (hdone : ∀ (D : Nat) (xs : List α) (R : Blocks) (W : World), w.heap.size ≤ D → S xs → I xs R W → W.heap[D]? = some (.deferred (some [])) → Q .normal { a with defers := { target := .collected D, args := #[] } :: a.defers } W)
    (hstop : ∀ (D : Nat) (c : Code) (pre : List α) (W : World), w.heap.size ≤ D → Ix c pre W → W.heap[D]? = some (.deferred (some [])) → c.wpIn F n P Q { a with defers := { target := .collected D, args := #[] } :: a.defers } W) :
    (Code.rangeFunc g ps assign body).wpIn F n P Q a w := by
  refine wpIn_rangeFunc fun fn hfn => ?_
  rw [hro]
  let rec' (st : LoopState) (pe : Option Code) : Loop := { state := st, pending := pe, fn, tmps := a.tmps, params := ps, assign, body, defers := w.heap.size }
  let L := w.heap.size + 1
  let W₁ := (w.alloc (.deferred (some []))).alloc (.loop (rec' .ready none))
  have size₁ : W₁.heap.size = w.heap.size + 2 := by simp [W₁]
  have laid : Below w.heap.size w W₁ := ((Below.refl _ w).alloc (Nat.le_refl _) _).alloc (by simp) _
  have atL : W₁.heap[L]? = some (.loop (rec' .ready none)) := by
    have := World.alloc_heap_new (w.alloc (.deferred (some []))) (.loop (rec' .ready none))
    rwa [World.size_alloc] at this
  have atD : W₁.heap[w.heap.size]? = some (.deferred (some [])) := (Below.heap_alloc _ _ _ (by simp)).trans (World.alloc_heap_new w _)
  refine ⟨L, [{ target := .collected w.heap.size, args := #[] }], W₁, { target := .fn (.func gf) lb, args := #[.func (.yield L) #[] #[]] }, W₁, gf, #[.func (.yield L) #[] #[]] ++ lb, W₁, run_enterLoop_outer _ _ _ _ _, ?_, ?_, ?_, fun _ => h1, ?_⟩
  · simp only [resolve, hg]; simp [go_sem]
  · intro f' hf'; simp [Target.leads] at hf'; subst hf'; exact hFg
  · simp [invoke, go_sem, eg]
  let J (pre : List α) (R : Blocks) (W : World) : Prop := I pre R W ∧ W.heap[L]? = some (.loop (rec' .ready none)) ∧ W.heap[w.heap.size]? = some (.deferred (some [])) ∧ ∀ q, R q → w.heap.size + 2 ≤ q
  let Jx (pre : List α) (W : World) : Prop := ∃ c, Ix c pre W ∧ W.heap[L]? = some (.loop (rec' .done (some c))) ∧ W.heap[w.heap.size]? = some (.deferred (some []))
  have hJ : OwnFrom W₁.heap.size (fun (s : List α × Blocks) W => J s.1 s.2 W) := fun s A B row hs hg' hr =>
    ⟨(ownG_later hI (by omega)) s A B row hs.1 hg' hr, stays hg' hr hs.2.1 (by omega), stays hg' hr hs.2.2.1 (by omega), hs.2.2.2⟩
  have hJx : OwnFrom W₁.heap.size Jx := fun s A B row hs hg' hr => by
    obtain ⟨c, hc, h2, h3⟩ := hs
    exact ⟨c, (ownG_later (hIx c) (by omega)) s A B row hc hg' hr, stays hg' hr h2 (by omega), stays hg' hr h3 (by omega)⟩
  have hIo := fun (pre : List α) (R : Blocks) (W : World) (l : Nat) (o o' : Obj) (hi : I pre R W) (hl : w.heap.size ≤ l) (h : W.heap[l]? = some o) (hc : o.isCells = false) => hI.putObj (s := (pre, R)) o' hi hl h hc
  have other : ∀ {W : World} (o : Obj), (W.putObj L o).heap[w.heap.size]? = W.heap[w.heap.size]? := fun o => World.putObj_heap_other (by omega)
  refine (hseq L J Jx W₁ (hb0.trans (laid.mono hb0.size)) hJ hJx ?_ ⟨hI.alloc (s := ([], fun _ => False)) _ (hI.alloc (s := ([], fun _ => False)) _ h0), atL, atD, fun _ q => q.elim⟩).mono ?_
  · intro pre R x W0 W hj0 hb0W hx
    have hi0 := hj0.1
    obtain ⟨hi, hl, hk, hRR⟩ := ownG_below (s := (pre, R)) hJ hj0 hb0W
    have hy := run_yield (P := P) (args := encs x) hl (hps x)
    refine ⟨fn, _, assign, body, hy, roundIn_of_wpIn hfn (wpIn_mono (hround L pre R x W0 W rfl hRR hi0 hb0W hx) ?_)⟩
    rintro e1 a' Wa hp
    cases e1 with
    | exit id => exact hp.elim
    | goto t => exact hp.elim
    | ret => exact hp.elim
    | panic ch => exact hp.elim
    | outgrown => exact hp.elim
    | normal =>
    obtain ⟨kp, hbody⟩ := hp
    have hl1 := (kp.block L (Array.getElem?_eq_some_iff.1 hl).1).trans hl
    have hk1 := (kp.block w.heap.size (Array.getElem?_eq_some_iff.1 hk).1).trans hk
    have hlt : L < Wa.heap.size := (Array.getElem?_eq_some_iff.1 hl1).1
    refine ⟨_, run_beginRound hl1 rfl, ?_⟩
    have hl2 : (Wa.putObj L (.loop (rec' .busy none))).heap[L]? = some (.loop (rec' .busy none)) := World.putObj_heap_same hlt
    have hk2 := (other (W := Wa) (.loop (rec' .busy none))).trans hk1
    refine wpIn_mono (hbody _ (grownBy_putObj' Wa L _) ⟨_, hl1, rfl⟩) ?_
    have hLW : L < W.heap.size := (Array.getElem?_eq_some_iff.1 hl).1
    have hTL : (fun k => (k < W₁.heap.size ∧ ¬ keep k) ∨ R k) L := .inl ⟨by omega, fun q => by have := hkeep L q; omega⟩
    have fin : ∀ (jump : Option Code) (W3 : World), Only (fun k => (k < w.heap.size ∧ ¬ keep k) ∨ R k ∨ W.heap.size ≤ k) (Wa.putObj L (.loop (rec' .busy none))) W3 →
        (Instr.endRound L jump).run P W3 = .ok (.bool jump.isNone) (W3.putObj L (.loop (rec' (if jump.isNone then .ready else .done) jump))) ∧ W3.heap[L]? = some (.loop (rec' .busy none)) ∧
        (W3.putObj L (.loop (rec' (if jump.isNone then .ready else .done) jump))).heap[L]? = some (.loop (rec' (if jump.isNone then .ready else .done) jump)) ∧
        (W3.putObj L (.loop (rec' (if jump.isNone then .ready else .done) jump))).heap[w.heap.size]? = some (.deferred (some [])) ∧
        Only (fun k => (k < W₁.heap.size ∧ ¬ keep k) ∨ R k) W (W3.putObj L (.loop (rec' (if jump.isNone then .ready else .done) jump))) := fun jump W3 k3 => by
      have hl3 := (k3.block L (Array.getElem?_eq_some_iff.1 hl2).1 (fun q => by
        rcases q with q | q | q
        · omega
        · have := hRR L q; omega
        · omega)).trans hl2
      have hk3 := (k3.block w.heap.size (Array.getElem?_eq_some_iff.1 hk2).1 (fun q => by
        rcases q with q | q | q
        · omega
        · have := hRR _ q; omega
        · omega)).trans hk2
      have o1 : Only (fun k => (k < W₁.heap.size ∧ ¬ keep k) ∨ R k) W (Wa.putObj L (.loop (rec' .busy none))) := (Only.of_below kp).trans (only_obj _ hTL)
      have o2 : Only (fun k => (k < W₁.heap.size ∧ ¬ keep k) ∨ R k) W W3 := o1.trans' k3 (fun i q => by
        rcases q with q | q | q
        · exact .inl (.inl ⟨by omega, q.2⟩)
        · exact .inl (.inr q)
        · exact .inr q)
      exact ⟨run_endRound (P := P) jump hl3, hl3, World.putObj_heap_same (Array.getElem?_eq_some_iff.1 hl3).1, (other _).trans hk3, o2.trans (only_obj _ hTL)⟩
    have leave : ∀ (c : Code) (W3 : World), Only (fun k => (k < w.heap.size ∧ ¬ keep k) ∨ R k ∨ W.heap.size ≤ k) (Wa.putObj L (.loop (rec' .busy none))) W3 → Ix c (pre ++ [x]) W3 →
        ∃ v w', (Instr.endRound L (some c)).run P W3 = .ok v w' ∧ ((Ending.returned v = .returned (.bool true) ∧ ∃ R' : Blocks, J (pre ++ [x]) R' w' ∧ (∀ k, R' k → R k ∨ W.heap.size ≤ k) ∧ Only (fun k => (k < W₁.heap.size ∧ ¬ keep k) ∨ R k) W w') ∨ (Ending.returned v = .returned (.bool false) ∧ Jx (pre ++ [x]) w' ∧ Only (fun k => (k < W₁.heap.size ∧ ¬ keep k) ∨ R k) W w')) := fun c W3 k3 hi3 => by
      obtain ⟨hr, hl3, hl4, hk4, ho4⟩ := fin (some c) W3 k3
      exact ⟨_, _, hr, .inr ⟨rfl, ⟨c, (hIx _).putObj _ hi3 (by omega) hl3 rfl, hl4, hk4⟩, ho4⟩⟩
    rintro e a3 W3 hp
    cases e with
    | normal =>
      obtain ⟨k3, R', hi3, hR'⟩ := hp
      obtain ⟨hr, hl3, hl4, hk4, ho4⟩ := fin none W3 k3
      exact ⟨_, _, hr, .inl ⟨rfl, R', ⟨hIo _ _ _ _ _ _ hi3 (by omega) hl3 rfl, hl4, hk4, fun q hq => by
        rcases hR' q hq with z | z
        · exact hRR q z
        · omega⟩, hR', ho4⟩⟩
    | ret => exact leave _ W3 hp.1 hp.2
    | exit id => exact leave _ W3 hp.1 hp.2
    | goto t => exact leave _ W3 hp.1 hp.2
    | panic ch => exact hp.elim
    | outgrown => exact hp.elim
  · rintro e W2 ⟨⟨v, rfl⟩, (⟨xs, R, hS, hi, hl, hk, _⟩ | ⟨pre, c, hi, hl, hk⟩)⟩
    · exact ⟨none, _, run_endLoop (P := P) hl (by simp [rec']), hdone _ xs R _ (Nat.le_refl _) hS (hIo _ _ _ _ _ _ hi (by omega) hl rfl) ((other _).trans hk)⟩
    · exact ⟨some c, _, run_endLoop (P := P) hl (by simp [rec']), hstop _ c pre _ (Nat.le_refl _) ((hIx c).putObj _ hi (by omega) hl rfl) ((other _).trans hk)⟩
end Go.Proofs.YtkinmllflodhaaaGreat.Ro

/- What goes through a row of reads. -/
namespace Go.Proofs.YtkinmllflodhaaaGreat.Tab
open Go.Proofs.YtkinmllflodhaaaGreat.Ro Go.RowKit Go.Proofs.YtkinmllflodhaaaGreat.Dig Go.Proofs.YtkinmllflodhaaaGreat.Mem Go.Proofs.YtkinmllflodhaaaGreat.Hist Go.Proofs.YtkinmllflodhaaaGreat.Own Go.Proofs.YtkinmllflodhaaaGreat.Thing Go.Proofs.YtkinmllflodhaaaGreat.Sets Go.Shelf
set_option linter.unusedVariables false
set_option linter.unusedSimpArgs false
attribute [local go_sem] Oper.semAt_some

/-- A list, as far as it has come. -/
def NxtR {α : Type} (l : List α) (pre : List α) (x : α) : Prop := ∃ h : pre.length < l.length, pre = l.take pre.length ∧ x = l[pre.length]
theorem NxtR.at {α : Type} {l : List α} {k : Nat} (h : k < l.length) : NxtR l (l.take k) l[k] := by
  have e : (l.take k).length = k := by rw [List.length_take]; omega
  exact ⟨by rw [e]; exact h, by rw [e], by simp only [e]⟩
theorem NxtR.app {α : Type} {l pre : List α} {x : α} (h : NxtR l pre x) : pre ++ [x] = l.take (pre.length + 1) := by
  obtain ⟨h, e, rfl⟩ := h
  rw [List.take_succ_eq_append_getElem h, ← e]
/-- A read, and where its lists lie. -/
structure RdE where
  r : RdM
  la : Option Addr
  lc : Nat
  oa : Option Addr
  oc : Nat
def rdC (x : RdE) : List Value := [.int .i64 x.r.txn, .int .i64 (x.r.op : Int), .int .i64 x.r.key, .slice x.la x.r.list.length x.lc, .slice x.oa x.r.own.length x.oc]
def rdA (x : RdE) : Array Value := #[.agg #[.int .i64 x.r.txn, .int .i64 (x.r.op : Int), .int .i64 x.r.key, .slice x.la x.r.list.length x.lc, .slice x.oa x.r.own.length x.oc]]
def RdE.ok (w : World) (x : RdE) : Prop := RowV w x.la x.lc x.r.list ∧ RowV w x.oa x.oc x.r.own
theorem RdE.ok.keep {w w' : World} {x : RdE} (h : x.ok w) (hb : Below w.heap.size w w') : x.ok w' := ⟨h.1.keep hb, h.2.keep hb⟩
theorem elems {w : World} : ∀ (rs : List RdM) (cs : List (List Value)), AllAt (RdV w) cs rs → ∃ es : List RdE, es.map (·.r) = rs ∧ es.map rdC = cs ∧ ∀ e ∈ es, e.ok w
  | [], cs, h => by
    have : cs = [] := List.eq_nil_of_length_eq_zero h.1
    exact ⟨[], rfl, by rw [this]; rfl, by simp⟩
  | r :: rs, [], h => by have := h.1; simp at this
  | r :: rs, c :: cs, h => by
    obtain ⟨la, lc, oa, oc, e, h1, h2⟩ := h.2 0 c r rfl rfl
    obtain ⟨es, e1, e2, e3⟩ := elems rs cs ⟨by have := h.1; simpa using this, fun i c r hc hr => h.2 (i + 1) c r (by simpa using hc) (by simpa using hr)⟩
    refine ⟨⟨r, la, lc, oa, oc⟩ :: es, by simp [e1], ?_, ?_⟩
    · rw [List.map_cons, e2, e]; rfl
    · intro x hx
      rcases List.mem_cons.1 hx with rfl | hx
      · exact ⟨h1, h2⟩
      · exact e3 x hx
theorem flat_getF {α : Type} (f : α → List Value) (hf : ∀ x, (f x).length = 5) : ∀ (l : List α) (k : Nat) (hk : k < l.length) (j : Nat) (u : Value), (f l[k])[j]? = some u → (l.flatMap f)[k * 5 + j]? = some u
  | x :: l, 0, _, j, u, h => by
    rw [List.flatMap_cons, List.getElem?_append_left]
    · simpa using h
    · have := (List.getElem?_eq_some_iff.1 h).1
      simpa using this
  | x :: l, k + 1, hk, j, u, h => by
    rw [List.flatMap_cons, List.getElem?_append_right (by rw [hf]; omega), hf, show (k + 1) * 5 + j - 5 = k * 5 + j by omega]
    exact flat_getF f hf l k (by simpa using hk) j u (by simpa using h)
theorem rdC_len (x : RdE) : (rdC x).length = 5 := rfl
theorem rowE_at {w : World} {a : Option Addr} {es : List RdE} (h : Row5 w a es.length (es.flatMap rdC)) {k : Nat} (hk : k < es.length) :
    ∃ b off, a = some ⟨b, off, none⟩ ∧ b < w.heap.size ∧ w.cell? ⟨b, off + k * 5, none⟩ = some (.int .i64 es[k].r.txn) ∧ w.cell? ⟨b, off + k * 5 + 1, none⟩ = some (.int .i64 (es[k].r.op : Int)) ∧
      w.cell? ⟨b, off + k * 5 + 2, none⟩ = some (.int .i64 es[k].r.key) ∧ w.cell? ⟨b, off + k * 5 + 3, none⟩ = some (.slice es[k].la es[k].r.list.length es[k].lc) ∧ w.cell? ⟨b, off + k * 5 + 4, none⟩ = some (.slice es[k].oa es[k].r.own.length es[k].oc) := by
  have g := fun j u hu => h.2 _ u (flat_getF rdC rdC_len es k hk j u hu)
  obtain ⟨b, rfl, c0⟩ := g 0 _ rfl
  have g' : ∀ j u, (rdC es[k])[j]? = some u → w.cell? ⟨b, 0 + k * 5 + j, none⟩ = some u := fun j u hu => by
    obtain ⟨b', e, c⟩ := g j u hu
    cases e
    rw [Nat.zero_add]
    exact c
  exact ⟨b, 0, rfl, lt_of_cell c0, g' 0 _ rfl, g' 1 _ rfl, g' 2 _ rfl, g' 3 _ rfl, g' 4 _ rfl⟩
theorem row5_keep {w w' : World} {a : Option Addr} {n : Nat} {xs : List Value} (h : Row5 w a n xs) (hb : Below w.heap.size w w') : Row5 w' a n xs := by
  refine ⟨h.1, fun i u hu => ?_⟩
  obtain ⟨b, e, c⟩ := h.2 i u hu
  exact ⟨b, e, (hb.cell (p := ⟨b, i, none⟩) (lt_of_cell c)).trans c⟩
set_option maxRecDepth 100000 in
set_option maxHeartbeats 4000000 in
theorem valrc_seq (F : Fence) (n : Nat) (h7 : F.fn 72) (hro : F.round = none) (hn : 1 ≤ n) (Bs : Nat) (a : Option Addr) (cap : Nat) (es : List RdE) (w0 : World) (h : Row5 w0 a es.length (es.flatMap rdC))
    (hts : es.length ≤ 100000) (hBs : w0.cell? ⟨Bs, 0, none⟩ = some (.slice a es.length cap)) (keep : Blocks) (hk1 : keep Bs) (hk2 : ∀ q, 0 < es.length → a = some q → keep q.block) (hk3 : ∀ b, keep b → b < w0.heap.size) :
    SeqG F n Tryz.prog 72 #[.pointer (some ⟨Bs, 0, none⟩)] rdA keep (fun pre x _ _ => NxtR es pre x) (fun xs => xs = es) w0 := by
  intro l J Jx W hW hJ _ hY h0
  have hBs0 := hBs
  replace hBs := (hW.cell (p := ⟨Bs, 0, none⟩) (lt_of_cell hBs)).trans hBs
  show CallsIn F n Tryz.prog 72 #[.func (.yield l) #[] #[], .pointer (some ⟨Bs, 0, none⟩)] W fun e W' => (∃ v, e = .returned v) ∧ ((∃ xs R, xs = es ∧ J xs R W') ∨ (∃ pre, Jx pre W'))
  have HH := hide h
  have HJ := hide hJ
  have HY := hide hY
  have HW := hide hW
  have HK1 := hide hk1
  have HK2 := hide hk2
  have HK3 := hide hk3
  refine callsIn_of_wp Tryz.func72 rfl h7 ?_ hro
  simp only [Tryz.ntmps72, List.size_toArray, List.length_cons, List.length_nil, Nat.reduceAdd, Nat.reduceSub, Array.replicate_succ, Array.replicate_zero, List.push_toArray, List.append_toArray, List.nil_append, List.cons_append]
  obtain ⟨m, hm⟩ : ∃ m, m = es.length := ⟨_, rfl⟩
  rw [← hm] at hBs hts
  have HM := hide hm
  have HST : Hid (∃ R : Blocks, J (es.take 0) R W ∧ (∀ k, R k → w0.heap.size ≤ k) ∧ w0.heap.size ≤ W.heap.size ∧ ∀ b, keep b → W.heap[b]? = w0.heap[b]?) := hide ⟨fun _ => False, h0, fun _ q => q.elim, hW.size, fun b q => hW.block b (hk3 b q)⟩
  clear h hJ hY hm hW hk1 hk2 hk3 h0
  gi_wp2
  gi_loopw [7] (fun i wr => ∃ (k : Nat), k ≤ m ∧ i = .int .i64 k ∧ Hid (∃ R : Blocks, J (es.take k) R wr ∧ (∀ k, R k → w0.heap.size ≤ k) ∧ w0.heap.size ≤ wr.heap.size ∧ ∀ b, keep b → wr.heap[b]? = w0.heap[b]?))
    (fun i _ => m - (intOf i).toNat)
  case atStart => exact ⟨0, Nat.zero_le _, rfl, HST⟩
  case round =>
    obtain ⟨k, hk, rfl, hR⟩ := hrel
    by_cases hlt : k < m
    · have hlt' : k < es.length := by rw [← HM.out]; exact hlt
      obtain ⟨R, hj, hRR, hsz, hsame⟩ := hR.out
      obtain ⟨b, off, rfl, hbl, c0, c1, c2, c3, c4⟩ := rowE_at HH.out hlt'
      have kp : ∀ {i : Nat} {u : Value}, w0.cell? ⟨b, i, none⟩ = some u → wr.cell? ⟨b, i, none⟩ = some u := fun hc => (World.cell?_of_block (a := ⟨b, _, none⟩) (hsame b (HK2.out _ (by omega) rfl))).trans hc
      have d0 := kp c0
      have d1 := kp c1
      have d2 := kp c2
      have d3 := kp c3
      have d4 := kp c4
      have hbW : Below wr.heap.size wr (wr.alloc (.cells #[.int .i64 es[k].r.txn, .int .i64 (es[k].r.op : Int), .int .i64 es[k].r.key, .slice es[k].la es[k].r.list.length es[k].lc, .slice es[k].oa es[k].r.own.length es[k].oc] 38)) := (Below.refl _ _).alloc (Nat.le_refl _) _
      obtain ⟨fn, tmps, assign, body, hy, hR3⟩ := HY.out (es.take k) R es[k] wr (wr.alloc (.cells #[.int .i64 es[k].r.txn, .int .i64 (es[k].r.op : Int), .int .i64 es[k].r.key, .slice es[k].la es[k].r.list.length es[k].lc, .slice es[k].oa es[k].r.own.length es[k].oc] 38)) hj hbW (NxtR.at hlt')
      rw [(NxtR.at hlt').app, show (es.take k).length = k by rw [List.length_take]; omega] at hR3
      unfold rdA at hy
      have GO : Hid (∀ W3 : World, ∀ R' : Blocks, J (es.take (k + 1)) R' W3 → (∀ k_1, R' k_1 → R k_1 ∨ (wr.alloc (.cells #[.int .i64 es[k].r.txn, .int .i64 (es[k].r.op : Int), .int .i64 es[k].r.key, .slice es[k].la es[k].r.list.length es[k].lc, .slice es[k].oa es[k].r.own.length es[k].oc] 38)).heap.size ≤ k_1) → Only (fun k => (k < W.heap.size ∧ ¬ keep k) ∨ R k) (wr.alloc (.cells #[.int .i64 es[k].r.txn, .int .i64 (es[k].r.op : Int), .int .i64 es[k].r.key, .slice es[k].la es[k].r.list.length es[k].lc, .slice es[k].oa es[k].r.own.length es[k].oc] 38)) W3 →
          (∃ R : Blocks, J (es.take (k + 1)) R W3 ∧ (∀ k, R k → w0.heap.size ≤ k) ∧ w0.heap.size ≤ W3.heap.size ∧ ∀ b, keep b → W3.heap[b]? = w0.heap[b]?)) := hide fun W3 R' h1 h2 h3 => by
        have hs1 := hbW.size
        refine ⟨R', h1, fun q hq => ?_, by have := h3.size; omega, fun q hq => ?_⟩
        · rcases h2 q hq with z | z
          · exact hRR q z
          · omega
        · have hq0 := HK3.out q hq
          refine (h3.block q (by omega) (fun z => ?_)).trans ((hbW.block q (by omega)).trans (hsame q hq))
          rcases z with z | z
          · exact z.2 hq
          · have := hRR q z; omega
      obtain ⟨x0, hx0⟩ : ∃ x, x = es[k].r.txn := ⟨_, rfl⟩
      obtain ⟨x1, hx1⟩ : ∃ x, x = (es[k].r.op : Int) := ⟨_, rfl⟩
      obtain ⟨x2, hx2⟩ : ∃ x, x = es[k].r.key := ⟨_, rfl⟩
      obtain ⟨x3, hx3⟩ : ∃ x, x = es[k].la := ⟨_, rfl⟩
      obtain ⟨x4, hx4⟩ : ∃ x, x = es[k].r.list.length := ⟨_, rfl⟩
      obtain ⟨x5, hx5⟩ : ∃ x, x = es[k].lc := ⟨_, rfl⟩
      obtain ⟨x6, hx6⟩ : ∃ x, x = es[k].oa := ⟨_, rfl⟩
      obtain ⟨x7, hx7⟩ : ∃ x, x = es[k].r.own.length := ⟨_, rfl⟩
      obtain ⟨x8, hx8⟩ : ∃ x, x = es[k].oc := ⟨_, rfl⟩
      rw [← hx0, ← hx1, ← hx2, ← hx3, ← hx4, ← hx5, ← hx6, ← hx7, ← hx8] at hy hR3 GO
      rw [← hx0] at d0
      rw [← hx1] at d1
      rw [← hx2] at d2
      rw [← hx3, ← hx4, ← hx5] at d3
      rw [← hx6, ← hx7, ← hx8] at d4
      clear hx0 hx1 hx2 hx3 hx4 hx5 hx6 hx7 hx8 c0 c1 c2 c3 c4 kp hbl hR hbW hj hRR hsz hsame
      gi_wp2
      refine hR3.mono ?_
      rintro e W3 (⟨rfl, R', hJ3, hR', hk3⟩ | ⟨rfl, hJx3, _⟩)
      · have G3 := hide (GO.out W3 R' hJ3 hR' hk3)
        clear GO hJ3 hR' hk3
        gi_wp2
        go_roundw
        case rel => exact ⟨k + 1, by omega, by simp, G3⟩
        case measure => simp [intOf]; omega
      · gi_wp2
        refine bodyPost_ret (results_none rfl _ _ _) rfl ?_
        exact ⟨⟨_, rfl⟩, .inr ⟨_, hJx3⟩⟩
    · obtain rfl : k = m := by omega
      gi_wp2
      go_end0
      obtain ⟨R, hj, _⟩ := hR.out
      refine ⟨⟨_, rfl⟩, .inl ⟨es, R, rfl, ?_⟩⟩
      rwa [HM.out, List.take_length] at hj
end Go.Proofs.YtkinmllflodhaaaGreat.Tab

/- What a table answers. -/
namespace Go.Proofs.YtkinmllflodhaaaGreat.Tab
open Go.RowKit Go.Proofs.YtkinmllflodhaaaGreat.Dig Go.Proofs.YtkinmllflodhaaaGreat.Mem Go.Proofs.YtkinmllflodhaaaGreat.Hist Go.Proofs.YtkinmllflodhaaaGreat.Own Go.Proofs.YtkinmllflodhaaaGreat.Thing Go.Proofs.YtkinmllflodhaaaGreat.Sets Go.Shelf Go.Proofs.YtkinmllflodhaaaGreat.Keys
set_option linter.unusedVariables false
set_option linter.unusedSimpArgs false

section
variable {v : Value} {ids keys : List Int} {s : Tb} {w : World}
theorem ids_any (h : TabV w v ids keys s) (hl : ids.length ≤ 1000000) : Calls Tryz.prog 30 #[v] w fun e w' => ∃ (a : Option Addr) (n c : Nat), e = .returned (.slice a n c) ∧ Hid (n = ids.length ∧ RowV w' a c ids) ∧ Hid (Below w.heap.size w w') := by
  have HO := hide (orn_any v ids keys s w h)
  clear h
  have HC : Hid (∀ (a : Option Addr) (c : Nat) (W : World), RowV W a c ids → Calls Tryz.prog 44 #[.slice a ids.length c] W fun e w' => ∃ (a' : Option Addr) (c' : Nat), e = .returned (.slice a' ids.length c') ∧ Hid (RowV w' a' c' ids ∧ Below W.heap.size W w')) := hide fun a c W hr => by
    refine (clone_any a c ids W hr hl).mono ?_
    rintro e w' ⟨⟨a', c', rfl, h1⟩, h2⟩
    exact ⟨a', c', rfl, h1, h2⟩
  go_enter Tryz.func30, Tryz.ntmps30
  go_wp2_with (first | (go_at_call 43; go_must ((with_reducible refine (Hid.out HO).mono ?_); rintro e w1 ⟨bT, rfl, hv, hb⟩; obtain ⟨ia, ic, ka, kc, m0, m1, m2, m3, hi, h1, h2, h4⟩ := hv.out.ex; have c0 : w1.cell? ⟨bT, 0, none⟩ = some (.slice ia ids.length ic) := hi.cell 0 rfl; have H1 := hide h1; clear hi h1 h2 h4)) | (go_at_call 44; go_must ((with_reducible refine (Hid.out HC _ _ _ H1.out).mono ?_); rintro e w2 ⟨a', c', rfl, h3⟩)))
  go_ret
  exact ⟨_, _, _, rfl, ⟨rfl, h3.out.1⟩, hb.out.trans (h3.out.2.mono hb.out.size)⟩
theorem keys_any (h : TabV w v ids keys s) (hl : keys.length ≤ 1000000) : Calls Tryz.prog 31 #[v] w fun e w' => ∃ (a : Option Addr) (n c : Nat), e = .returned (.slice a n c) ∧ Hid (n = keys.length ∧ RowV w' a c keys) ∧ Hid (Below w.heap.size w w') := by
  have HO := hide (orn_any v ids keys s w h)
  clear h
  have HC : Hid (∀ (a : Option Addr) (c : Nat) (W : World), RowV W a c keys → Calls Tryz.prog 44 #[.slice a keys.length c] W fun e w' => ∃ (a' : Option Addr) (c' : Nat), e = .returned (.slice a' keys.length c') ∧ Hid (RowV w' a' c' keys ∧ Below W.heap.size W w')) := hide fun a c W hr => by
    refine (clone_any a c keys W hr hl).mono ?_
    rintro e w' ⟨⟨a', c', rfl, h1⟩, h2⟩
    exact ⟨a', c', rfl, h1, h2⟩
  go_enter Tryz.func31, Tryz.ntmps31
  go_wp2_with (first | (go_at_call 43; go_must ((with_reducible refine (Hid.out HO).mono ?_); rintro e w1 ⟨bT, rfl, hv, hb⟩; obtain ⟨ia, ic, ka, kc, m0, m1, m2, m3, hi, h1, h2, h4⟩ := hv.out.ex; have c0 : w1.cell? ⟨bT, 1, none⟩ = some (.slice ka keys.length kc) := hi.cell 1 rfl; have H1 := hide h2; clear hi h1 h2 h4)) | (go_at_call 44; go_must ((with_reducible refine (Hid.out HC _ _ _ H1.out).mono ?_); rintro e w2 ⟨a', c', rfl, h3⟩)))
  go_ret
  exact ⟨_, _, _, rfl, ⟨rfl, h3.out.1⟩, hb.out.trans (h3.out.2.mono hb.out.size)⟩
/-- The place of a number. -/
def rankL (ids : List Int) (id : Int) : Nat := if id ∈ ids then ids.countP (fun y => ltI y id) else 0
theorem rank_any (id : Int) (h : TabV w v ids keys s) (hl : ids.length ≤ 1000000) (hs : Rising ltI ids) : Calls Tryz.prog 29 #[v, .int .i64 id] w fun e w' => e = .returned (.tuple #[.int .i64 (rankL ids id : Int), .bool (decide (id ∈ ids))]) ∧ Hid (Below w.heap.size w w') := by
  have HO := hide (orn_any v ids keys s w h)
  clear h
  obtain ⟨m, hm⟩ : ∃ m, m = ids.countP fun y => ltI y id := ⟨_, rfl⟩
  obtain ⟨q, hq⟩ : ∃ q, q = decide (id ∈ ids) := ⟨_, rfl⟩
  have HC : Hid (∀ (a : Option Addr) (c : Nat) (W : World), RowV W a c ids → Calls Tryz.prog 58 #[.slice a ids.length c, .int .i64 id] W fun e w' => e = .returned (.tuple #[.int .i64 (m : Int), .bool q]) ∧ Hid (Below W.heap.size W w')) := hide fun a c W hr => by
    have := bs_any a c ids id W hr hl hs
    rw [← hm, ← hq] at this
    exact this
  have hr : rankL ids id = if q = true then m else 0 := by
    unfold rankL
    rw [hm, hq]
    by_cases e : id ∈ ids <;> simp [e]
  rw [hr, ← hq]
  clear hm hq hr
  cases q
  · go_enter Tryz.func29, Tryz.ntmps29
    go_wp2_with (first | (go_at_call 43; go_must ((with_reducible refine (Hid.out HO).mono ?_); rintro e w1 ⟨bT, rfl, hv, hb⟩; obtain ⟨ia, ic, ka, kc, m0, m1, m2, m3, hi, h1, h2, h4⟩ := hv.out.ex; have c0 : w1.cell? ⟨bT, 0, none⟩ = some (.slice ia ids.length ic) := hi.cell 0 rfl; have H1 := hide h1; clear hi h1 h2 h4)) | (go_at_call 58; go_must ((with_reducible refine (Hid.out HC _ _ _ H1.out).mono ?_); rintro e w2 ⟨rfl, h3⟩)))
    go_ret2
    exact ⟨rfl, hb.out.trans (h3.out.mono hb.out.size)⟩
  · go_enter Tryz.func29, Tryz.ntmps29
    go_wp2_with (first | (go_at_call 43; go_must ((with_reducible refine (Hid.out HO).mono ?_); rintro e w1 ⟨bT, rfl, hv, hb⟩; obtain ⟨ia, ic, ka, kc, m0, m1, m2, m3, hi, h1, h2, h4⟩ := hv.out.ex; have c0 : w1.cell? ⟨bT, 0, none⟩ = some (.slice ia ids.length ic) := hi.cell 0 rfl; have H1 := hide h1; clear hi h1 h2 h4)) | (go_at_call 58; go_must ((with_reducible refine (Hid.out HC _ _ _ H1.out).mono ?_); rintro e w2 ⟨rfl, h3⟩)))
    go_ret2
    exact ⟨rfl, hb.out.trans (h3.out.mono hb.out.size)⟩
theorem apps_any (id key : Int) (h : TabV w v ids keys s) (h1 : (Lit.int .i64 id).wf = true) (h2 : (Lit.int .i64 key).wf = true) (hl : (s.ap (id, key)).length ≤ 1000000) : Calls Tryz.prog 32 #[v, .int .i64 id, .int .i64 key] w fun e w' => ∃ (a : Option Addr) (n c : Nat), e = .returned (.slice a n c) ∧ Hid (n = (s.ap (id, key)).length ∧ RowV w' a c (s.ap (id, key))) ∧ Hid (Below w.heap.size w w') := by
  have HO := hide (orn_any v ids keys s w h)
  clear h
  obtain ⟨l, hL⟩ : ∃ l, l = s.ap (id, key) := ⟨_, rfl⟩
  have HLL := hide hL
  rw [← hL] at hl ⊢
  clear hL
  have HC : Hid (∀ (a : Option Addr) (c : Nat) (W : World), RowV W a c l → Calls Tryz.prog 44 #[.slice a l.length c] W fun e w' => ∃ (a' : Option Addr) (c' : Nat), e = .returned (.slice a' l.length c') ∧ Hid (RowV w' a' c' l ∧ Below W.heap.size W w')) := hide fun a c W hr => by
    refine (clone_any a c l W hr hl).mono ?_
    rintro e w' ⟨⟨a', c', rfl, h1⟩, h2⟩
    exact ⟨a', c', rfl, h1, h2⟩
  have HP : Hid (appOk (id, key)) := hide ⟨h1, h2⟩
  clear h1 h2
  go_enter Tryz.func32, Tryz.ntmps32
  go_wp2_with (first | (go_at_call 43; go_must ((with_reducible refine (Hid.out HO).mono ?_); rintro e w1 ⟨bT, rfl, hv, hb⟩; obtain ⟨ia, ic, ka, kc, m0, m1, m2, m3, hi, h1, h2, h4⟩ := hv.out.ex; obtain ⟨la, lc, hlk, hrw⟩ := (h4 w1 (Below.refl _ _)).l1 _ HP.out; rw [← HLL.out] at hlk hrw; have c0 : w1.cell? ⟨bT, 3, none⟩ = some (.map m1) := hi.cell 3 rfl; have H1 := hide hrw; clear hi h1 h2 h4 hrw)) | (go_at_call 44; go_must ((with_reducible refine (Hid.out HC _ _ _ H1.out).mono ?_); rintro e w2 ⟨a', c', rfl, h3⟩)))
  go_ret
  exact ⟨_, _, _, rfl, ⟨rfl, h3.out.1⟩, hb.out.trans (h3.out.2.mono hb.out.size)⟩
set_option maxHeartbeats 4000000 in
set_option maxRecDepth 100000 in
theorem writer_any (key value : Int) (h : TabV w v ids keys s) (h1 : (Lit.int .i64 key).wf = true) (h2 : (Lit.int .i64 value).wf = true) : Calls Tryz.prog 28 #[v, .int .i64 key, .int .i64 value] w fun e w' => e = .returned (.tuple #[wrO (s.wr (key, value)), .bool (s.wr (key, value)).isSome]) ∧ Hid (Below w.heap.size w w') := by
  have hz : ∀ (o : Obj), Hid (Below w.heap.size w (w.alloc o)) := fun o => (Below.refl _ _).alloc (Nat.le_refl _) _
  have HO := hide (fun W (hW : Below w.heap.size w W) => orn_any v ids keys s W (h.keep hW))
  have HP : Hid (appOk (key, value)) := hide ⟨h1, h2⟩
  clear h h1 h2
  obtain ⟨r0, r1, r2, r3, r4, hr⟩ : ∃ r0 r1 r2 r3 r4, wrO (s.wr (key, value)) = .agg #[.int .i64 r0, .int .i64 r1, .int .i64 r2, .int .i64 r3, .bool r4] := by
    cases s.wr (key, value) with
    | none => exact ⟨_, _, _, _, _, rfl⟩
    | some m => exact ⟨_, _, _, _, _, rfl⟩
  obtain ⟨q, hq⟩ : ∃ q, q = (s.wr (key, value)).isSome := ⟨_, rfl⟩
  have HR := hide hr
  have HQ := hide hq
  rw [hr, ← hq]
  clear hr hq
  go_enter Tryz.func28, Tryz.ntmps28
  go_upto_region 2 with (go_at_call 43; go_must ((with_reducible refine (Hid.out HO _ (hz _).out).mono ?_); rintro e w1 ⟨bT, rfl, hv, hb⟩; obtain ⟨ia, ic, ka, kc, m0, m1, m2, m3, hi, h1, h2, h4⟩ := hv.out.ex; have hlk := (h4 w1 (Below.refl _ _)).l0 _ HP.out; rw [HR.out, ← HQ.out] at hlk; have c0 : w1.cell? ⟨bT, 2, none⟩ = some (.map m0) := hi.cell 2 rfl; clear hi h1 h2 h4))
  obtain ⟨w2, hw2⟩ : ∃ w2, w2 = w1.alloc (.cells #[.int .i64 r0, .int .i64 r1, .int .i64 r2, .int .i64 r3, .bool r4] 64) := ⟨_, rfl⟩
  rw [← hw2]
  have R1 := (Is.made w #[.int .i64 0, .int .i64 0, .int .i64 0, .int .i64 0, .bool false] 64 rfl).below hb.out
  have hb2 : Below w1.heap.size w1 w2 := by rw [hw2]; exact (Below.refl _ _).alloc (Nat.le_refl _) _
  have X2 : Is w2 w1.heap.size #[.int .i64 r0, .int .i64 r1, .int .i64 r2, .int .i64 r3, .bool r4] := by rw [hw2]; exact Is.made _ _ _ rfl
  have R2 := R1.below hb2
  have hne : ¬ w.heap.size = w1.heap.size := by have := R1.lt; omega
  have b0 : w2.cell? ⟨w.heap.size, 0, none⟩ = some (.int .i64 0) := R2.cell 0 rfl
  have b1 : w2.cell? ⟨w.heap.size, 1, none⟩ = some (.int .i64 0) := R2.cell 1 rfl
  have b2 : w2.cell? ⟨w.heap.size, 2, none⟩ = some (.int .i64 0) := R2.cell 2 rfl
  have b3 : w2.cell? ⟨w.heap.size, 3, none⟩ = some (.int .i64 0) := R2.cell 3 rfl
  have b4 : w2.cell? ⟨w.heap.size, 4, none⟩ = some (.bool false) := R2.cell 4 rfl
  have x0 : w2.cell? ⟨w1.heap.size, 0, none⟩ = some (.int .i64 r0) := X2.cell 0 rfl
  have x1 : w2.cell? ⟨w1.heap.size, 1, none⟩ = some (.int .i64 r1) := X2.cell 1 rfl
  have x2 : w2.cell? ⟨w1.heap.size, 2, none⟩ = some (.int .i64 r2) := X2.cell 2 rfl
  have x3 : w2.cell? ⟨w1.heap.size, 3, none⟩ = some (.int .i64 r3) := X2.cell 3 rfl
  have x4 : w2.cell? ⟨w1.heap.size, 4, none⟩ = some (.bool r4) := X2.cell 4 rfl
  have f0 := R2.frozen 0
  have f1 := R2.frozen 1
  have f2 := R2.frozen 2
  have f3 := R2.frozen 3
  have f4 := R2.frozen 4
  have HB2 := hide hb2
  have HR2 := hide R2
  clear hw2 R1 X2 R2 hb2 hlk c0
  go_wp2
  have Y0 := HR2.out.set 0 (.int .i64 r0)
  have Y1 := Y0.set 1 (.int .i64 r1)
  have Y2 := Y1.set 2 (.int .i64 r2)
  have Y3 := Y2.set 3 (.int .i64 r3)
  have Y4 := (Y3.set 4 (.bool r4)).eq (cs' := #[.int .i64 r0, .int .i64 r1, .int .i64 r2, .int .i64 r3, .bool r4]) rfl
  have hbf : Below w.heap.size w (((((w2.setCell ⟨w.heap.size, 0, none⟩ (.int .i64 r0)).setCell ⟨w.heap.size, 1, none⟩ (.int .i64 r1)).setCell ⟨w.heap.size, 2, none⟩ (.int .i64 r2)).setCell ⟨w.heap.size, 3, none⟩ (.int .i64 r3)).setCell ⟨w.heap.size, 4, none⟩ (.bool r4)) := by
    have h0 : Below w.heap.size w w2 := (((hz (.cells #[.int .i64 0, .int .i64 0, .int .i64 0, .int .i64 0, .bool false] 64)).out).trans (hb.out.mono (by simp))).trans (HB2.out.mono (by have := hb.out.size; simp at this; omega))
    exact ((((h0.setCell (p := ⟨w.heap.size, 0, none⟩) (Nat.le_refl _) _).setCell (p := ⟨w.heap.size, 1, none⟩) (Nat.le_refl _) _).setCell (p := ⟨w.heap.size, 2, none⟩) (Nat.le_refl _) _).setCell (p := ⟨w.heap.size, 3, none⟩) (Nat.le_refl _) _).setCell (p := ⟨w.heap.size, 4, none⟩) (Nat.le_refl _) _
  clear Y0 Y1 Y2 Y3 b0 b1 b2 b3 b4 x0 x1 x2 x3 x4 f0 f1 f2 f3 f4
  generalize (((((w2.setCell ⟨w.heap.size, 0, none⟩ (.int .i64 r0)).setCell ⟨w.heap.size, 1, none⟩ (.int .i64 r1)).setCell ⟨w.heap.size, 2, none⟩ (.int .i64 r2)).setCell ⟨w.heap.size, 3, none⟩ (.int .i64 r3)).setCell ⟨w.heap.size, 4, none⟩ (.bool r4)) = wf at Y4 hbf ⊢
  have q0 : wf.cell? ⟨w.heap.size, 0, none⟩ = some (.int .i64 r0) := Y4.cell 0 rfl
  have q1 : wf.cell? ⟨w.heap.size, 1, none⟩ = some (.int .i64 r1) := Y4.cell 1 rfl
  have q2 : wf.cell? ⟨w.heap.size, 2, none⟩ = some (.int .i64 r2) := Y4.cell 2 rfl
  have q3 : wf.cell? ⟨w.heap.size, 3, none⟩ = some (.int .i64 r3) := Y4.cell 3 rfl
  have q4 : wf.cell? ⟨w.heap.size, 4, none⟩ = some (.bool r4) := Y4.cell 4 rfl
  refine bodyPost_ret (v := .tuple #[.agg #[.int .i64 r0, .int .i64 r1, .int .i64 r2, .int .i64 r3, .bool r4], .bool q]) (by simp [results, Tryz.results28, go_sem, q0, q1, q2, q3, q4]) rfl ⟨rfl, hbf⟩
end
end Go.Proofs.YtkinmllflodhaaaGreat.Tab

/- What is gone through: Reads and Writes, as far as they are only asked for. -/
namespace Go.Proofs.YtkinmllflodhaaaGreat.Tab
open Go.RowKit Go.Proofs.YtkinmllflodhaaaGreat.Dig Go.Proofs.YtkinmllflodhaaaGreat.Mem Go.Proofs.YtkinmllflodhaaaGreat.Hist Go.Proofs.YtkinmllflodhaaaGreat.Own Go.Proofs.YtkinmllflodhaaaGreat.Thing Go.Proofs.YtkinmllflodhaaaGreat.Sets Go.Shelf Go.Proofs.YtkinmllflodhaaaGreat.Keys
set_option linter.unusedVariables false
set_option linter.unusedSimpArgs false

theorem reads_any (p : Option Addr) (k : Int) (w : World) : Calls Tryz.prog 9 #[.pointer p, .int .i64 k] w fun e w' => e = .returned (.func (.func 41) #[] #[.pointer (some ⟨w.heap.size, 0, none⟩), .pointer (some ⟨w.heap.size + 1, 0, none⟩)]) ∧ w' = (w.alloc (.cells #[.pointer p] 28)).alloc (.cells #[.int .i64 k] 3) := by
  go_enter Tryz.func9, Tryz.ntmps9
  go_wp2
  go_ret
  exact ⟨rfl, rfl⟩
theorem valw_any (a : Option Addr) (len cap : Nat) (w : World) :
    Calls Tryz.prog 59 #[.slice a len cap] w fun e w' => e = .returned (.func (.func 79) #[] #[.pointer (some ⟨w.heap.size, 0, none⟩)]) ∧ w' = w.alloc (.cells #[.slice a len cap] 120) := by
  go_enter Tryz.func59, Tryz.ntmps59
  go_wp2
  go_ret
  exact ⟨rfl, rfl⟩
theorem writes_any (v : Value) (ids keys : List Int) (s : Tb) (k : Int) (w : World) (h : TabV w v ids keys s) (hk : (Lit.int .i64 k).wf = true) :
    Calls Tryz.prog 33 #[v, .int .i64 k] w fun e w' => ∃ B, e = .returned (.func (.func 79) #[] #[.pointer (some ⟨B, 0, none⟩)]) ∧ Hid (w.heap.size ≤ B ∧ (∃ a c, w'.cell? ⟨B, 0, none⟩ = some (.slice a (s.ws k).length c) ∧ Row5 w' a (s.ws k).length ((s.ws k).flatMap wrC)) ∧ Below w.heap.size w w') := by
  have HO := hide (orn_any v ids keys s w h)
  have HP : Hid (nameOk k) := hk
  clear h hk
  obtain ⟨m, hm⟩ : ∃ m, m = (s.ws k).length := ⟨_, rfl⟩
  have HM := hide hm
  rw [← hm]
  clear hm
  go_enter Tryz.func33, Tryz.ntmps33
  go_wp2_with (first | (go_at_call 43; go_must ((with_reducible refine (Hid.out HO).mono ?_); rintro e w1 ⟨bT, rfl, hv, hb⟩; obtain ⟨ia, ic, ka, kc, m0, m1, m2, m3, hi, h1, h2, h4⟩ := hv.out.ex; obtain ⟨la, lc, hlk, hrw⟩ := (h4 w1 (Below.refl _ _)).l3 _ HP.out; rw [← HM.out] at hlk hrw; have c0 : w1.cell? ⟨bT, 5, none⟩ = some (.map m3) := hi.cell 5 rfl; have H1 := hide hrw; clear hi h1 h2 h4 hrw)) | (go_at_call 59; go_must ((with_reducible refine (valw_any _ _ _ _).mono ?_); rintro e w2 ⟨rfl, rfl⟩)))
  go_ret
  have hB : Below w1.heap.size w1 (w1.alloc (.cells #[.slice la m lc] 120)) := (Below.refl _ _).alloc (Nat.le_refl _) _
  refine ⟨_, rfl, hb.out.size, ⟨la, lc, (Is.made w1 #[.slice la m lc] 120 rfl).cell 0 rfl, H1.out.1, fun i u hu => ?_⟩, hb.out.trans (hB.mono hb.out.size)⟩
  obtain ⟨b, e, hc⟩ := H1.out.2 i u hu
  exact ⟨b, e, (hB.cell (p := ⟨b, i, none⟩) (lt_of_cell hc)).trans hc⟩
end Go.Proofs.YtkinmllflodhaaaGreat.Tab

/- The document's example of layer 12. -/
namespace Go.Proofs.YtkinmllflodhaaaGreat.Tab
open Go.RowKit Go.Proofs.YtkinmllflodhaaaGreat.Dig Go.Proofs.YtkinmllflodhaaaGreat.Mem Go.Proofs.YtkinmllflodhaaaGreat.Hist Go.Proofs.YtkinmllflodhaaaGreat.Own Go.Proofs.YtkinmllflodhaaaGreat.Thing Go.Proofs.YtkinmllflodhaaaGreat.Sets Go.Shelf Go.Proofs.YtkinmllflodhaaaGreat.Keys
set_option linter.unusedVariables false
set_option linter.unusedSimpArgs false

def oneH : List TxnM := [⟨7, false, [⟨false, 1, 5, []⟩, ⟨true, 1, 0, [3, 5]⟩]⟩, ⟨2, true, [⟨false, 0, 3, []⟩]⟩]
theorem one_chk : checkS oneH = 0 := by decide +kernel
theorem one_few : Few4 oneH := ⟨by decide, by decide, fun t ht => by
  simp only [oneH, List.mem_cons, List.not_mem_nil, or_false] at ht
  rcases ht with rfl | rfl
  · exact ⟨by decide, fun o ho => by
      simp only [List.mem_cons, List.not_mem_nil, or_false] at ho
      rcases ho with rfl | rfl <;> decide⟩
  · exact ⟨by decide, fun o ho => by
      simp only [List.mem_cons, List.not_mem_nil, or_false] at ho
      subst ho; decide⟩⟩
theorem one_few2 : FewT oneH := ⟨by decide, by decide, fun t ht o ho => by
  simp only [oneH, List.mem_cons, List.not_mem_nil, or_false] at ht
  rcases ht with rfl | rfl
  · simp only [List.mem_cons, List.not_mem_nil, or_false] at ho
    rcases ho with rfl | rfl <;> decide
  · simp only [List.mem_cons, List.not_mem_nil, or_false] at ho
    subst ho; decide⟩
theorem AllAt.two {α : Type} {R : List Value → α → Prop} {c d : List Value} {x y : α} (h : R c x) (k : R d y) : AllAt R [c, d] [x, y] := (AllAt.one h).append (AllAt.one k)
set_option maxRecDepth 20000 in
theorem one_at {w : World} {b0 b1 b2 b3 : Nat} (h0 : Is w b0 #[.int .i64 3, .int .i64 5]) (h1 : Is w b1 #[.bool false, .int .i64 1, .int .i64 5, .slice none 0 0, .bool true, .int .i64 1, .int .i64 0, .slice (some ⟨b0, 0, none⟩) 2 2])
    (h2 : Is w b2 #[.bool false, .int .i64 0, .int .i64 3, .slice none 0 0]) (h3 : Is w b3 #[.int .i64 7, .bool false, .slice (some ⟨b1, 0, none⟩) 2 2, .int .i64 2, .bool true, .slice (some ⟨b2, 0, none⟩) 1 1]) :
    TxnsAt (fun b => b < w.heap.size) w (.slice (some ⟨b3, 0, none⟩) 2 2) oneH := by
  have l0 := h0.lt
  have l1 := h1.lt
  have l2 := h2.lt
  have l3 := h3.lt
  have r0 := RowAt.block (n := 1) (cs := [[Value.int .i64 3], [.int .i64 5]]) (cap := 2) (by simp) h0 (by simp) (by unfold maxLen; omega)
  have r1 := RowAt.block (n := 4) (cs := [[Value.bool false, .int .i64 1, .int .i64 5, .slice none 0 0], [.bool true, .int .i64 1, .int .i64 0, .slice (some ⟨b0, 0, none⟩) 2 2]]) (cap := 2) (by simp) h1 (by simp) (by unfold maxLen; omega)
  have r2 := RowAt.block (n := 4) (cs := [[Value.bool false, .int .i64 0, .int .i64 3, .slice none 0 0]]) (cap := 1) (by simp) h2 (by simp) (by unfold maxLen; omega)
  have r3 := RowAt.block (n := 3) (cs := [[Value.int .i64 7, .bool false, .slice (some ⟨b1, 0, none⟩) 2 2], [.int .i64 2, .bool true, .slice (some ⟨b2, 0, none⟩) 1 1]]) (cap := 2) (by simp) h3 (by simp) (by unfold maxLen; omega)
  exact ⟨_, r3.mono (fun b q => by omega), AllAt.two ⟨_, rfl, ⟨_, r1.mono (fun b q => by omega), AllAt.two ⟨_, rfl, IntsAt.nil, by decide, by decide⟩ ⟨_, rfl, ⟨r0.mono (fun b q => by omega), by decide⟩, by decide, by decide⟩⟩, by decide⟩ ⟨_, rfl, ⟨_, r2.mono (fun b q => by omega), AllAt.one ⟨_, rfl, IntsAt.nil, by decide, by decide⟩⟩, by decide⟩⟩
set_option maxRecDepth 20000 in
set_option maxHeartbeats 2000000 in
theorem one_any (w : World) : Calls Tryz.prog 27 #[] w fun e w' => ∃ a c, e = .returned (.agg #[.slice a 2 c]) ∧ Hid (TxnsAt (fun b => b < w'.heap.size) w' (.slice a 2 c) oneH) ∧ Hid (Below w.heap.size w w') := by
  go_enter Tryz.func27, Tryz.ntmps27
  go_wp2
  obtain ⟨W0, hW0⟩ : ∃ W0, W0 = w.alloc (.cells #[.slice (some ⟨w.heap.size + 1 + 1 + 1 + 1, 0, none⟩) 2 2] 24) := ⟨_, rfl⟩
  obtain ⟨W1, hW1⟩ : ∃ W1, W1 = W0.alloc (.cells #[.int .i64 3, .int .i64 5] 3) := ⟨_, rfl⟩
  obtain ⟨W2, hW2⟩ : ∃ W2, W2 = W1.alloc (.cells #[.bool false, .int .i64 1, .int .i64 5, .slice none 0 0, .bool true, .int .i64 1, .int .i64 0, .slice (some ⟨w.heap.size + 1, 0, none⟩) 2 2] 57) := ⟨_, rfl⟩
  obtain ⟨W3, hW3⟩ : ∃ W3, W3 = W2.alloc (.cells #[.bool false, .int .i64 0, .int .i64 3, .slice none 0 0] 57) := ⟨_, rfl⟩
  obtain ⟨W4, hW4⟩ : ∃ W4, W4 = W3.alloc (.cells #[.int .i64 7, .bool false, .slice (some ⟨w.heap.size + 1 + 1, 0, none⟩) 2 2, .int .i64 2, .bool true, .slice (some ⟨w.heap.size + 1 + 1 + 1, 0, none⟩) 1 1] 55) := ⟨_, rfl⟩
  rw [← hW0, ← hW1, ← hW2, ← hW3, ← hW4]
  have z0 : W0.heap.size = w.heap.size + 1 := by rw [hW0]; simp
  have z1 : W1.heap.size = w.heap.size + 1 + 1 := by rw [hW1]; simp [z0]
  have z2 : W2.heap.size = w.heap.size + 1 + 1 + 1 := by rw [hW2]; simp [z1]
  have z3 : W3.heap.size = w.heap.size + 1 + 1 + 1 + 1 := by rw [hW3]; simp [z2]
  have b1 : Below W1.heap.size W1 W2 := by rw [hW2]; exact (Below.refl _ _).alloc (Nat.le_refl _) _
  have b2 : Below W2.heap.size W2 W3 := by rw [hW3]; exact (Below.refl _ _).alloc (Nat.le_refl _) _
  have b3 : Below W3.heap.size W3 W4 := by rw [hW4]; exact (Below.refl _ _).alloc (Nat.le_refl _) _
  have hbw : Below w.heap.size w W4 := by rw [hW4, hW3, hW2, hW1, hW0]; exact (((((Below.refl _ _).alloc (Nat.le_refl _) _).alloc (by simp) _).alloc (by simp; omega) _).alloc (by simp; omega) _).alloc (by simp; omega) _
  have i0 : Is W4 w.heap.size #[.slice (some ⟨w.heap.size + 1 + 1 + 1 + 1, 0, none⟩) 2 2] := by
    have h := Is.made w #[.slice (some ⟨w.heap.size + 1 + 1 + 1 + 1, 0, none⟩) 2 2] 24 rfl
    rw [← hW0] at h
    have b0 : Below W0.heap.size W0 W1 := by rw [hW1]; exact (Below.refl _ _).alloc (Nat.le_refl _) _
    exact (((h.below b0).below b1).below b2).below b3
  have i1 : Is W4 (w.heap.size + 1) #[.int .i64 3, .int .i64 5] := by
    have h := Is.made W0 #[.int .i64 3, .int .i64 5] 3 z0.symm
    rw [← hW1] at h
    exact ((h.below b1).below b2).below b3
  have i2 : Is W4 (w.heap.size + 1 + 1) #[.bool false, .int .i64 1, .int .i64 5, .slice none 0 0, .bool true, .int .i64 1, .int .i64 0, .slice (some ⟨w.heap.size + 1, 0, none⟩) 2 2] := by
    have h := Is.made W1 #[.bool false, .int .i64 1, .int .i64 5, .slice none 0 0, .bool true, .int .i64 1, .int .i64 0, .slice (some ⟨w.heap.size + 1, 0, none⟩) 2 2] 57 z1.symm
    rw [← hW2] at h
    exact (h.below b2).below b3
  have i3 : Is W4 (w.heap.size + 1 + 1 + 1) #[.bool false, .int .i64 0, .int .i64 3, .slice none 0 0] := by
    have h := Is.made W2 #[.bool false, .int .i64 0, .int .i64 3, .slice none 0 0] 57 z2.symm
    rw [← hW3] at h
    exact h.below b3
  have i4 : Is W4 (w.heap.size + 1 + 1 + 1 + 1) #[.int .i64 7, .bool false, .slice (some ⟨w.heap.size + 1 + 1, 0, none⟩) 2 2, .int .i64 2, .bool true, .slice (some ⟨w.heap.size + 1 + 1 + 1, 0, none⟩) 1 1] := by
    have h := Is.made W3 #[.int .i64 7, .bool false, .slice (some ⟨w.heap.size + 1 + 1, 0, none⟩) 2 2, .int .i64 2, .bool true, .slice (some ⟨w.heap.size + 1 + 1 + 1, 0, none⟩) 1 1] 55 z3.symm
    rw [← hW4] at h
    exact h
  have c0 : W4.cell? ⟨w.heap.size, 0, none⟩ = some (.slice (some ⟨w.heap.size + 1 + 1 + 1 + 1, 0, none⟩) 2 2) := i0.cell 0 rfl
  have hat := one_at i1 i2 i3 i4
  clear hW0 hW1 hW2 hW3 hW4 z0 z1 z2 z3 b1 b2 b3 i0 i1 i2 i3 i4
  refine bodyPost_ret (v := .agg #[.slice (some ⟨w.heap.size + 1 + 1 + 1 + 1, 0, none⟩) 2 2]) (by simp [results, Tryz.results27, go_sem, c0]) rfl ⟨_, _, rfl, hat, hbw⟩
end Go.Proofs.YtkinmllflodhaaaGreat.Tab

/- The document's example of layer 12, played. -/
namespace Go.Proofs.YtkinmllflodhaaaGreat.Tab
open Go.RowKit Go.Proofs.YtkinmllflodhaaaGreat.Dig Go.Proofs.YtkinmllflodhaaaGreat.Mem Go.Proofs.YtkinmllflodhaaaGreat.Hist Go.Proofs.YtkinmllflodhaaaGreat.Own Go.Proofs.YtkinmllflodhaaaGreat.Thing Go.Proofs.YtkinmllflodhaaaGreat.Sets Go.Shelf Go.Proofs.YtkinmllflodhaaaGreat.Keys
set_option linter.unusedVariables false
set_option linter.unusedSimpArgs false

theorem RowV.i {w : World} {a : Option Addr} {c : Nat} {l : List Int} (h : RowV w a c l) : Dq.RowI w a c l := ⟨h.cap, h.rd, h.nil⟩
theorem oneIds : docIds oneH = [7] := by decide +kernel
theorem oneKeys : docKeys oneH = [0, 1] := by decide +kernel
theorem oneApps : docApps oneH 2 0 = [3] := by decide +kernel
theorem oneWr : wrO (docWriter oneH (1, 5)) = .agg #[.int .i64 7, .int .i64 0, .int .i64 1, .int .i64 5, .bool false] ∧ (docWriter oneH (1, 5)).isSome = true := ⟨rfl, rfl⟩
/-- What the example's table says. -/
structure OneT (w : World) (bT : Nat) (s : Tb) (w' : World) : Prop where
  vw : TabV w' (.pointer (some ⟨bT, 0, none⟩)) [7] [0, 1] s
  below : Below w.heap.size w w'
theorem OneT.keep {w w' w2 : World} {bT : Nat} {s : Tb} (h : OneT w bT s w') (hb : Below w'.heap.size w' w2) : OneT w bT s w2 := ⟨h.vw.keep hb, h.below.trans (hb.mono h.below.size)⟩
theorem new_one (w wx : World) (a : Option Addr) (c : Nat) (h : TxnsAt (fun b => b < wx.heap.size) wx (.slice a 2 c) oneH) (hb : Below w.heap.size w wx) :
    Calls Tryz.prog 8 #[.agg #[.slice a 2 c]] wx fun e w' => ∃ bT s, e = .returned (.tuple #[.pointer (some ⟨bT, 0, none⟩), .int .i64 0]) ∧ Hid (OneT w bT s w') ∧ Hid (s.wr (1, 5) = docWriter oneH (1, 5) ∧ s.ap (2, 0) = [3]) := by
  refine (new_any (.slice a 2 c) oneH wx h one_few one_few2).mono ?_
  rintro e w' (⟨q, _⟩ | ⟨_, bT, rfl, hm⟩)
  · exact absurd one_chk q
  · obtain ⟨us, ho, hv⟩ := hm.vw one_few2
    have hu : Uq oneH := valid_uq (checkS_ok one_chk).1
    refine ⟨bT, tb (flat us), rfl, ⟨.inr ⟨bT, rfl, ?_⟩, hb.trans (hm.below.mono hb.size)⟩, ⟨writer_ord ho hu (1, 5), by rw [← oneApps]; exact apps_ord ho hu 2 0⟩⟩
    rw [← oneIds, ← ids_ord ho, ← oneKeys]
    exact hv
theorem wrEq (W : World) (a0 a1 a2 a3 : Int) (a4 : Bool) : (binOp .eql 64 (.agg #[.int .i64 a0, .int .i64 a1, .int .i64 a2, .int .i64 a3, .bool a4]) (.agg #[.int .i64 a0, .int .i64 a1, .int .i64 a2, .int .i64 a3, .bool a4])).run Tryz.prog W = .ok (.bool true) W := by
  have u3 := Tryz.underlying3
  have a3' := Tryz.isAgg3
  have z3 := Tryz.sizeOf3
  have hS : Tryz.prog.underlying 64 = some (.struct (Tryz.prog.fieldsOf 64)) := by kernel_rfl
  have hp : Tryz.prog.stoodInHeld 64 = false := by kernel_rfl
  rw [run_eql_struct, show (10000 : Nat) = 9999 + 1 from rfl, run_equalIn_agg W 9999 64 _ _ hS hp]
  simp only [Program.fieldsOf, Tryz.underlying64]
  go_simp
theorem same_lit {w wx : World} {bT : Nat} {s : Tb} {a : Option Addr} {n c : Nat} {l : List Int} {xs : List Int} (h : OneT w bT s wx) (hr : RowV wx a c l) (hn : n = l.length) (hx : ∀ x ∈ xs, (Lit.int .i64 x).wf = true) (hl : l = xs) (m : Nat) (hm : m = xs.length) (cs : Array Value) (hcs : cs = (xs.map (Value.int .i64)).toArray) (hm0 : xs.length ≤ 100) (b : Nat) (hb : b = wx.heap.size) :
    Calls Tryz.prog 18 #[.slice a n c, .slice (some ⟨b, 0, none⟩) m m] (wx.alloc (.cells cs 3)) fun e w' => e = .returned (.bool true) ∧ Hid (OneT w bT s w') := by
  subst hl hn hm hcs hb
  have hB : Below wx.heap.size wx (wx.alloc (.cells (l.map (Value.int .i64)).toArray 3)) := (Below.refl _ _).alloc (Nat.le_refl _) _
  have h2 := Dq.rowi_made wx l 3 (p := wx.heap.size) (n := l.length) rfl rfl (by omega) hx
  refine (Dq.same_is _ _ _ _ _ _ _ (RowV.i (hr.keep hB)) h2).mono ?_
  rintro e w' ⟨rfl, hb⟩
  exact ⟨by simp, h.keep (hB.trans (hb.mono hB.size))⟩
set_option maxRecDepth 100000 in
set_option maxHeartbeats 4000000 in
theorem works12_any (w : World) : Calls Tryz.prog 7 #[] w fun e w' => e = .returned (.bool true) ∧ Below w.heap.size w w' := by
  have hr71 : ∀ (p q : Option Addr) (W : World), (binOp .neq 33 (.func (.func 41) #[] #[.pointer p, .pointer q]) Value.nilFunc).run Tryz.prog W = .ok (.bool true) W := fun p q W => by kernel_rfl
  have hr51 : ∀ (p : Option Addr) (W : World), (binOp .neq 72 (.func (.func 79) #[] #[.pointer p]) Value.nilFunc).run Tryz.prog W = .ok (.bool true) W := fun p W => by kernel_rfl
  have hweq := fun W => wrEq W 7 0 1 5 false
  have H71 := hide hr71
  have wf1 : (Lit.int .i64 1).wf = true := by decide
  have wf5 : (Lit.int .i64 5).wf = true := by decide
  have wf2 : (Lit.int .i64 2).wf = true := by decide
  have wf0 : (Lit.int .i64 0).wf = true := by decide
  go_enter Tryz.func7, Tryz.ntmps7
  go_upto_region 2 with (first
    | (go_at_call 27; go_must ((with_reducible refine (one_any _).mono ?_); rintro e w1 ⟨a, c, rfl, ht, hb⟩))
    | (go_at_call 8; go_must ((with_reducible refine (new_one w _ a c ht.out hb.out).mono ?_); rintro e w2 ⟨bT, s, rfl, H2, HS⟩)))
  have CW : Hid (Calls Tryz.prog 28 #[.pointer (some ⟨bT, 0, none⟩), .int .i64 1, .int .i64 5] w2 fun e w' => e = .returned (.tuple #[.agg #[.int .i64 7, .int .i64 0, .int .i64 1, .int .i64 5, .bool false], .bool true]) ∧ Hid (OneT w bT s w')) := hide (by
    have := writer_any 1 5 H2.out.vw wf1 wf5
    rw [HS.out.1, oneWr.1, oneWr.2] at this
    refine this.mono ?_
    rintro e w' ⟨rfl, hb⟩
    exact ⟨rfl, H2.out.keep hb.out⟩)
  go_upto_region 3 with (go_at_call 28; go_must ((with_reducible refine (Hid.out CW).mono ?_); rintro e w3 ⟨rfl, H3⟩))
  have H4 := hide (H3.out.keep ((Below.refl w3.heap.size w3).alloc (Nat.le_refl _) (.cells #[.int .i64 7, .int .i64 0, .int .i64 1, .int .i64 5, .bool false] 64)))
  have X4 := Is.made w3 #[.int .i64 7, .int .i64 0, .int .i64 1, .int .i64 5, .bool false] 64 rfl
  generalize (w3.alloc (.cells #[.int .i64 7, .int .i64 0, .int .i64 1, .int .i64 5, .bool false] 64)) = w4 at H4 X4 ⊢
  have CR : Hid (Calls Tryz.prog 29 #[.pointer (some ⟨bT, 0, none⟩), .int .i64 7] w4 fun e w' => e = .returned (.tuple #[.int .i64 0, .bool true]) ∧ Hid (OneT w bT s w') ∧ Hid (Below w4.heap.size w4 w')) := hide (by
    have := rank_any 7 H4.out.vw (by decide) (by simp [Rising])
    refine this.mono ?_
    rintro e w' ⟨rfl, hb⟩
    exact ⟨by simp [rankL, ltI], H4.out.keep hb.out, hb⟩)
  go_upto_region 4 with (go_at_call 29; go_must ((with_reducible refine (Hid.out CR).mono ?_); rintro e w5 ⟨rfl, H5, B5⟩))
  have X5 := X4.below B5.out
  have x0 : w5.cell? ⟨w3.heap.size, 0, none⟩ = some (.int .i64 7) := X5.cell 0 rfl
  have x1 : w5.cell? ⟨w3.heap.size, 1, none⟩ = some (.int .i64 0) := X5.cell 1 rfl
  have x2 : w5.cell? ⟨w3.heap.size, 2, none⟩ = some (.int .i64 1) := X5.cell 2 rfl
  have x3 : w5.cell? ⟨w3.heap.size, 3, none⟩ = some (.int .i64 5) := X5.cell 3 rfl
  have x4 : w5.cell? ⟨w3.heap.size, 4, none⟩ = some (.bool false) := X5.cell 4 rfl
  clear CW CR H2 H3 H4 X4 X5 ht hb
  have wfA : ∀ x ∈ ([7] : List Int), (Lit.int .i64 x).wf = true := by decide
  have wfB : ∀ x ∈ ([0, 1] : List Int), (Lit.int .i64 x).wf = true := by decide
  have wfC : ∀ x ∈ ([3] : List Int), (Lit.int .i64 x).wf = true := by decide
  have hap : Hid (s.ap (2, 0) = [3]) := hide HS.out.2
  go_wp2_with (first
    | (go_at_call 30; go_must ((with_reducible refine (ids_any H5.out.vw (by decide)).mono ?_); rintro e w6 ⟨ia, il, ic, rfl, hi, hb6⟩; obtain ⟨hin, hir⟩ := hi.out; obtain rfl : il = 1 := hin; have H6 := hide (H5.out.keep hb6.out); have S1 := hide (same_lit (n := 1) H6.out hir rfl wfA rfl 1 rfl #[.int .i64 7] rfl (by decide) _ rfl); clear hi hir))
    | (go_at_call 31; go_must ((with_reducible refine (keys_any H7.out.vw (by decide)).mono ?_); rintro e w8 ⟨ka, kl, kc, rfl, hi, hb8⟩; obtain ⟨hin, hir⟩ := hi.out; obtain rfl : kl = 2 := hin; have H8 := hide (H7.out.keep hb8.out); have S2 := hide (same_lit (n := 2) H8.out hir rfl wfB rfl 2 rfl #[.int .i64 0, .int .i64 1] rfl (by decide) _ rfl); clear hi hir))
    | (go_at_call 32; go_must ((with_reducible refine (apps_any 2 0 H9.out.vw wf2 wf0 (by rw [hap.out]; decide)).mono ?_); rintro e wa ⟨pa, pl, pc, rfl, hi, hba⟩; obtain ⟨hin, hir⟩ := hi.out; rw [hap.out] at hin hir; obtain rfl : pl = 1 := hin; have HA := hide (H9.out.keep hba.out); have S3 := hide (same_lit (n := 1) HA.out hir rfl wfC rfl 1 rfl #[.int .i64 3] rfl (by decide) _ rfl); clear hi hir))
    | (go_at_call 18; go_must (first
        | ((with_reducible refine (Hid.out S1).mono ?_); rintro e w7 ⟨rfl, H7⟩; clear S1)
        | ((with_reducible refine (Hid.out S2).mono ?_); rintro e w9 ⟨rfl, H9⟩; clear S2)
        | ((with_reducible refine (Hid.out S3).mono ?_); rintro e wc ⟨rfl, HC⟩; clear S3)))
    | (go_at_call 9; go_must ((with_reducible refine (reads_any _ _ _).mono ?_); rintro e wd ⟨rfl, hwd⟩; have HD := hide (HC.out.keep (w2 := wd) (by rw [hwd]; exact ((Below.refl _ _).alloc (Nat.le_refl _) _).alloc (by simp) _)); clear hwd))
    | (go_at_call 33; go_must ((with_reducible refine (writes_any _ _ _ s 1 _ HD.out.vw wf1).mono ?_); rintro e wz ⟨B, rfl, hz⟩)))
  go_ret
  exact ⟨rfl, HD.out.below.trans (hz.out.2.2.mono HD.out.below.size)⟩
end Go.Proofs.YtkinmllflodhaaaGreat.Tab

/- A row of the call's own, as a row that is read. -/
namespace Go.Proofs.YtkinmllflodhaaaGreat.Sets
open Go.RowKit Go.Proofs.YtkinmllflodhaaaGreat.Dig Go.Proofs.YtkinmllflodhaaaGreat.Mem
set_option linter.unusedVariables false
set_option linter.unusedSimpArgs false

/-- A row that is owned, read. -/
theorem rowv_of_own {w : World} {base : Nat} {a : Option Addr} {n c : Nat} {l : List Int} (h : w.ownsRow base 3 1 (.slice a n c) l.length (l.map (Value.int .i64))) (hl : l.length ≤ 1000000) (hw : ∀ n ∈ l, (Lit.int .i64 n).wf = true) : n = l.length ∧ RowV w a c l := by
  obtain ⟨a', c', e, hr⟩ := own_rowv h (by omega) hw
  injection e with e1 e2 e3
  subst e1; subst e2; subst e3
  exact ⟨rfl, hr⟩
theorem own_form {w : World} {base e : TypeId} {v : Value} {n : Nat} {xs : List Value} (h : w.ownsRow base e 1 v n xs) : ∃ a c, v = .slice a n c := by
  rcases h.2 with ⟨rfl, h0⟩ | ⟨g, cap, cur, rfl, _⟩
  · have : n = 0 := by omega
    exact ⟨none, 0, by rw [this]⟩
  · exact ⟨_, _, rfl⟩
theorem fresh_own {w : World} {base e : TypeId} {a : Option Addr} {n m c : Nat} {xs : List Value} (h : w.ownsRow base e 1 (.slice a n c) n xs) : FreshV base (.agg #[.slice a m c]) := fun b o sp n' c' q _ => by
  injection q with q
  simp at q
  obtain ⟨rfl, rfl, rfl⟩ := q
  exact (World.ownsRow.lt h b rfl).1
end Go.Proofs.YtkinmllflodhaaaGreat.Sets
