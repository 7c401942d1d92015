/- A range over a function whose elements hang on what the loop's body does between two of them: the function is told what the body keeps (I), and says of each element that it is the one that is due (Ok). -/
import Derived.Test.YthajooipaiiieaaMem
import Derived.RangeFuncBox
import Derived.RangeFuncNested
import Derived.RangeFuncBound
import Derived.RangeFuncCalls
import Derived.RangeFuncLeaves
import Derived.RangeFuncWrites
namespace Go.Proofs.Ythajooipaiiieaa.Bit
open Go.RowKit Go.Proofs.Ythajooipaiiieaa.Mem
set_option linter.unusedVariables false
set_option linter.unusedSimpArgs false

section
variable {F : Fence} {n : Nat} {P : Program}
/-- The function's word. -/
def Led (F : Fence) (n : Nat) (P : Program) (gf : Nat) (lb : Array Value) (encs : Int → Array Value) (I : List Int → World → Prop) (Ok : List Int → Int → Prop) (S Sp : List Int → Prop) : Prop :=
  ∀ (l : Nat) (J Jx : List Int → World → Prop) (W : World), (∀ pre W', J pre W' → I pre W') → AbidesFrom W.heap.size J → AbidesFrom W.heap.size Jx →
    (∀ pre x W', J pre W' → Ok pre x → YieldAt F (n - 1) P l (encs x) W' fun e V => (e = .returned (.bool true) ∧ J (pre ++ [x]) V) ∨ (e = .returned (.bool false) ∧ Jx (pre ++ [x]) V)) →
    J [] W → CallsIn F n P gf (#[.func (.yield l) #[] #[]] ++ lb) W fun e V => (∃ v, e = .returned v) ∧ ((∃ xs, S xs ∧ J xs V) ∨ (∃ pre, Sp pre ∧ Jx pre V))
/-- The loop's two blocks: for deferred calls, at B; its record, behind it. -/
structure Book (B : Nat) (r : Loop) (W : World) : Prop where
  defs : W.heap[B]? = some (.deferred (some []))
  loop : W.heap[B + 1]? = some (.loop r)
theorem Book.turn {B : Nat} {r r' : Loop} {W : World} (h : Book B r W) : Book B r' (W.putObj (B + 1) (.loop r')) :=
  ⟨(World.putObj_heap_other (by omega)).trans h.defs, World.putObj_heap_same (Array.getElem?_eq_some_iff.1 h.loop).1⟩
theorem Book.keep {B : Nat} {r : Loop} {W V : World} (h : Book B r W) (k : KeepsFrom B W V) : Book B r V := ⟨k.same _ _ (Nat.le_refl _) h.defs rfl, k.same _ _ (by omega) h.loop rfl⟩
theorem Book.walk {B : Nat} {r : Loop} {W V : World} {row : Option Nat} (h : Book B r W) (hg : W.grownBy V row) (hr : ∀ q, row = some q → ∃ o : Obj, W.heap[q]? = some o ∧ o.isWalk = true) : Book B r V :=
  ⟨(grownBy_keeps hg hr h.defs rfl).trans h.defs, (grownBy_keeps hg hr h.loop rfl).trans h.loop⟩
/-- How a round's body may be left. -/
def ledPost (B : Nat) (I : List Int → World → Prop) (Ix : Code → List Int → World → Prop) (xs : List Int) (W : World) : Exit → Act → World → Prop
  | .normal, _, V => KeepsFrom B W V ∧ I xs V
  | .ret, _, V => KeepsFrom B W V ∧ Ix .ret xs V
  | .exit id, _, V => KeepsFrom B W V ∧ Ix (.exit id) xs V
  | .goto t, _, V => KeepsFrom B W V ∧ Ix (.goto t) xs V
  | .panic _, _, _ => False
  | .outgrown, _, _ => False
theorem range_led {g : Operand} {ps : Array Tmp} {assign body : Code} {Q : Exit → Act → World → Prop} {a : Act} {w : World} (hro : F.round = none) (h1 : 1 ≤ n) {gf : Nat} {lb : Array Value} (hg : a.eval g = .func (.func gf) #[] lb) (hFg : F.fn gf) (eg : ∀ args w, (callFunc gf args).run P w = .ok (.enter gf args) w)
    {encs : Int → Array Value} (I : List Int → World → Prop) (Ix : Code → List Int → World → Prop) {Ok : List Int → Int → Prop} {S Sp : List Int → Prop} (hled : Led F (n - 1) P gf lb encs I Ok S Sp) (hps : ∀ x, (encs x).size = ps.size) (hI : OwnFrom w.heap.size I) (hIx : ∀ c, OwnFrom w.heap.size (Ix c)) (h0 : I [] w) (a₁ : Int → Act)
    (hassign : ∀ (l : Nat) (x : Int) (W : World) (K : Act → World → Prop), K (a₁ x) W → assign.wpIn (F.inRound l) (n - 1 - 1) P (Exit.then K (fun _ _ _ => False)) { tmps := (ps.zip (encs x)).foldl (fun t (p, v) => t.setIfInBounds p v) a.tmps, defers := [] } W)
    (hbody : ∀ (l : Nat) (pre : List Int) (x : Int) (W : World), I pre W → Ok pre x → body.wpIn (F.inRound l) (n - 1 - 1) P (ledPost w.heap.size I Ix (pre ++ [x]) W) (a₁ x) W)
    (hdone : ∀ (D : Nat) (xs : List Int) (W : World), w.heap.size ≤ D → S xs → I xs W → W.heap[D]? = some (.deferred (some [])) → Q .normal { a with defers := { target := .collected D, args := #[] } :: a.defers } W)
    (hstop : ∀ (D : Nat) (c : Code) (pre : List Int) (W : World), w.heap.size ≤ D → Sp pre → Ix c pre W → W.heap[D]? = some (.deferred (some [])) → c.wpIn F n P Q { a with defers := { target := .collected D, args := #[] } :: a.defers } W) :
    (Code.rangeFunc g ps assign body).wpIn F n P Q a w := by
  refine wpIn_rangeFunc fun fn hfn => ?_
  rw [hro]
  generalize hB : w.heap.size = B at *
  let R : LoopState → Option Code → Loop := fun st pe => { state := st, pending := pe, fn, tmps := a.tmps, params := ps, assign, body, defers := B }
  have book0 : Book B (R .ready none) ((w.alloc (.deferred (some []))).alloc (.loop (R .ready none))) := by
    refine ⟨?_, ?_⟩
    · have e := World.alloc_heap_new w (.deferred (some []))
      rw [hB] at e
      exact (Below.heap_alloc _ _ _ (by simp; omega)).trans e
    · have e := World.alloc_heap_new (w.alloc (.deferred (some []))) (.loop (R .ready none))
      rwa [World.size_alloc, hB] at e
  have I0 : I [] ((w.alloc (.deferred (some []))).alloc (.loop (R .ready none))) := hI.alloc _ (hI.alloc _ h0)
  have hsz : ((w.alloc (.deferred (some []))).alloc (.loop (R .ready none))).heap.size = B + 2 := by simp; omega
  have hent : (Instr.enterLoop fn a.tmps ps assign body none).run P w = .ok (B + 1, [{ target := .collected B, args := #[] }]) ((w.alloc (.deferred (some []))).alloc (.loop (R .ready none))) := by
    have := run_enterLoop_outer (P := P) (w := w) fn a.tmps ps assign body
    rwa [hB] at this
  generalize (w.alloc (.deferred (some []))).alloc (.loop (R .ready none)) = W1 at *
  have low : ∀ {A V : World} {row : Option Nat}, (∀ q, row = some q → W1.heap.size ≤ q ∧ ∃ o : Obj, A.heap[q]? = some o ∧ o.isWalk = true) → ∀ q, row = some q → B ≤ q ∧ ∃ o : Obj, A.heap[q]? = some o ∧ o.isCells = false := fun hr q e => by
    obtain ⟨h2, o, h3, h4⟩ := hr q e
    exact ⟨by omega, o, h3, Obj.not_cells_of_walk h4⟩
  refine ⟨B + 1, [{ target := .collected B, args := #[] }], W1, { target := .fn (.func gf) lb, args := #[.func (.yield (B + 1)) #[] #[]] }, W1, gf, #[.func (.yield (B + 1)) #[] #[]] ++ lb, W1, hent, ?_, ?_, ?_, fun _ => h1, ?_⟩
  · simp only [resolve, hg]
    simp [go_sem]
  · intro f' hf'
    simp [Target.leads] at hf'
    subst hf'
    exact hFg
  · simp [invoke, go_sem, eg]
  refine (hled (B + 1) (fun pre W => I pre W ∧ Book B (R .ready none) W) (fun pre W => ∃ c, Ix c pre W ∧ Book B (R .done (some c)) W) W1 (fun _ _ h => h.1)
    (fun s A V row hs hgr hr => ⟨hI s A V row hs.1 hgr (low (V := V) hr), hs.2.walk hgr (fun q e => (hr q e).2)⟩)
    (fun s A V row hs hgr hr => let ⟨c, q1, q2⟩ := hs; ⟨c, hIx c s A V row q1 hgr (low (V := V) hr), q2.walk hgr (fun q e => (hr q e).2)⟩) ?_ ⟨I0, book0⟩).mono ?_
  · rintro pre x W ⟨hi, hbk⟩ hok
    have hy := run_yield (P := P) (args := encs x) hbk.loop (hps x)
    refine ⟨fn, _, assign, body, hy, roundIn_of_wpIn hfn (hassign _ x W _ ⟨_, run_beginRound hbk.loop rfl, ?_⟩)⟩
    have hbusy : Book B { R .ready none with state := .busy } (W.putObj (B + 1) (.loop { R .ready none with state := .busy })) := hbk.turn
    refine wpIn_mono (hbody _ pre x _ (hI.putObj _ hi (by omega) hbk.loop rfl) hok) ?_
    rintro e a3 V hp
    cases e with
    | normal =>
      have b3 := hbusy.keep hp.1
      exact ⟨_, _, run_endRound (P := P) none b3.loop, .inl ⟨rfl, hI.putObj _ hp.2 (by omega) b3.loop rfl, b3.turn⟩⟩
    | ret =>
      have b3 := hbusy.keep hp.1
      exact ⟨_, _, run_endRound (P := P) (some .ret) b3.loop, .inr ⟨rfl, .ret, (hIx _).putObj _ hp.2 (by omega) b3.loop rfl, b3.turn⟩⟩
    | exit id =>
      have b3 := hbusy.keep hp.1
      exact ⟨_, _, run_endRound (P := P) (some (.exit id)) b3.loop, .inr ⟨rfl, .exit id, (hIx _).putObj _ hp.2 (by omega) b3.loop rfl, b3.turn⟩⟩
    | goto t =>
      have b3 := hbusy.keep hp.1
      exact ⟨_, _, run_endRound (P := P) (some (.goto t)) b3.loop, .inr ⟨rfl, .goto t, (hIx _).putObj _ hp.2 (by omega) b3.loop rfl, b3.turn⟩⟩
    | panic ch => exact hp.elim
    | outgrown => exact hp.elim
  · rintro e V ⟨⟨v, rfl⟩, (⟨xs, hS, hi, hbk⟩ | ⟨pre, hSp, c, hi, hbk⟩)⟩
    · exact ⟨none, _, run_endLoop (P := P) hbk.loop (by simp [R]), hdone B xs _ (Nat.le_refl _) hS (hI.putObj _ hi (by omega) hbk.loop rfl) ((World.putObj_heap_other (by omega)).trans hbk.defs)⟩
    · exact ⟨some c, _, run_endLoop (P := P) hbk.loop (by simp [R]), hstop B c pre _ (Nat.le_refl _) hSp ((hIx c).putObj _ hi (by omega) hbk.loop rfl) ((World.putObj_heap_other (by omega)).trans hbk.defs)⟩
end
end Go.Proofs.Ythajooipaiiieaa.Bit
