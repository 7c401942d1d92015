/- Sets that a reader keeps: maps of struct{} by keys that are structs of numbers. -/
import Derived.Test.YtigmgkcojifbcaaMem
import Derived.Test.YtigmgkcojifbcaaFrame
import Derived.Maps.OwnSet
import Derived.Maps.OwnOps
import Derived.DeepKeys4
namespace Go.Proofs.Ytigmgkcojifbcaa.Keys
open Go.RowKit Go.Proofs.Ytigmgkcojifbcaa.Dig Go.Proofs.Ytigmgkcojifbcaa.Mem Go.Maps
set_option linter.unusedVariables false
set_option linter.unusedSimpArgs false

theorem zeroUnit (w : World) : (zeroValue 83).run Try.prog w = .ok (.agg #[]) w := by kernel_rfl
set_option maxRecDepth 100000 in
theorem rowNamed : (129 : TypeId) < Try.prog.types.size := of_decide_eq_true (by kernel_rfl)
set_option maxRecDepth 100000 in
theorem rowApp : (132 : TypeId) < Try.prog.types.size := of_decide_eq_true (by kernel_rfl)
theorem wideNamed : (match Try.prog.underlying 129 with | some (.array _ _) | some (.struct _) => true | _ => false) = true := by kernel_rfl
theorem wideApp : (match Try.prog.underlying 132 with | some (.array _ _) | some (.struct _) => true | _ => false) = true := by kernel_rfl
set_option maxRecDepth 100000 in
theorem lawNamed : Keyed Try.prog 129 := Keyed.of_law (deep_law_laid Frame.laidOut (m := 2) (by omega) rowNamed (by kernel_rfl) wideNamed)
set_option maxRecDepth 100000 in
theorem lawApp : Keyed Try.prog 132 := Keyed.of_law (deep_law_laid Frame.laidOut (m := 2) (by omega) rowApp (by kernel_rfl) wideApp)
theorem ktNamed : Try.prog.keyType 129 = true := by kernel_rfl
theorem ktApp : Try.prog.keyType 132 = true := by kernel_rfl
set_option maxRecDepth 100000 in
theorem sizes : ∃ m, Try.prog.types.size = m + 1 := ⟨Try.prog.types.size - 1, (Nat.sub_add_cancel (Nat.lt_of_le_of_lt (Nat.zero_le _) rowNamed)).symm⟩
theorem cellsNamed : Try.prog.cellsOf 129 = 1 := by kernel_rfl
theorem cellsApp : Try.prog.cellsOf 132 = 2 := by kernel_rfl
theorem cellsInt : Try.prog.cellsOf 3 = 1 := by kernel_rfl
theorem keyNamed {n : Int} (hw : (Lit.int .i64 n).wf = true) : keyOf Try.prog 129 (.agg #[.int .i64 n]) = some (.string (keyBytes [.int .i64 n])) := by
  obtain ⟨m, hm⟩ := sizes
  unfold keyOf
  simp only [Try.underlying129]
  rw [if_pos (by simp [ktNamed, Value.formed, Try.underlying129, cellsNamed]), hm]
  simp [Program.keyLits, Try.underlying129, cellsNamed, cellsInt, Value.cells, go_sem, hw, Try.underlying3]
theorem keyApp {k v : Int} (hk : (Lit.int .i64 k).wf = true) (hv : (Lit.int .i64 v).wf = true) : keyOf Try.prog 132 (.agg #[.int .i64 k, .int .i64 v]) = some (.string (keyBytes [.int .i64 k, .int .i64 v])) := by
  obtain ⟨m, hm⟩ := sizes
  unfold keyOf
  simp only [Try.underlying132]
  rw [if_pos (by simp [ktApp, Value.formed, Try.underlying132, cellsApp]), hm]
  simp [Program.keyLits, Try.underlying132, cellsApp, cellsInt, Value.cells, go_sem, hk, hv, Try.underlying3]

/-- Block b is a set of at most n keys, those of which P says so. -/
def SetAt {α : Type} (K : TypeId) (key : α → Value) (lit : α → Lit) (ok : α → Prop) (w : World) (b n : Nat) (P : α → Bool) : Prop :=
  ∃ D : DataW Unit, w.ownsMap Try.prog K unitElem b n D ∧ ∀ x, ok x → Maps.has D (lit x) = P x
/-- What a set's keys are. -/
structure KeyIs {α : Type} (K : TypeId) (key : α → Value) (lit : α → Lit) (ok : α → Prop) : Prop where
  law : Keyed Try.prog K
  of : ∀ x, ok x → keyOf Try.prog K (key x) = some (lit x)
  inj : ∀ x y, key x = key y → x = y
section
variable {α : Type} {K T : TypeId} {key : α → Value} {lit : α → Lit} {ok : α → Prop} {w w' : World} {b n : Nat} {P : α → Bool}
theorem SetAt.lt (h : SetAt K key lit ok w b n P) : b < w.heap.size := let ⟨_, h1, _⟩ := h; h1.lt
theorem SetAt.made (w : World) (hb : b = w.heap.size) : SetAt K key lit ok (w.alloc (.map #[] 0)) b 0 (fun _ => false) := by
  subst hb
  exact ⟨_, World.ownsMap_made w Try.prog K unitElem, fun x _ => by simp [Maps.has]⟩
theorem SetAt.keep {S : Nat → Prop} (h : SetAt K key lit ok w b n P) (ho : Only S w w') (hb : ¬ S b) : SetAt K key lit ok w' b n P := by
  obtain ⟨D, h1, h2⟩ := h
  have hl := h1.lt
  obtain ⟨es, clock, e, r⟩ := h1
  exact ⟨D, ⟨es, clock, by rw [ho.block b hl hb]; exact e, r⟩, h2⟩
theorem SetAt.mono (h : SetAt K key lit ok w b n P) {m : Nat} (hm : n ≤ m) : SetAt K key lit ok w b m P := let ⟨D, h1, h2⟩ := h; ⟨D, h1.mono hm, h2⟩
theorem SetAt.congr (h : SetAt K key lit ok w b n P) {P' : α → Bool} (e : ∀ x, P' x = P x) : SetAt K key lit ok w b n P' := let ⟨D, h1, h2⟩ := h; ⟨D, h1, fun x hx => by rw [e]; exact h2 x hx⟩
theorem SetAt.block (h : SetAt K key lit ok w b n P) (hb : w'.heap[b]? = w.heap[b]?) : SetAt K key lit ok w' b n P := by
  obtain ⟨D, ⟨es, clock, e, r⟩, h2⟩ := h
  exact ⟨D, ⟨es, clock, by rw [hb]; exact e, r⟩, h2⟩
theorem SetAt.look (h : SetAt K key lit ok w b n P) (hk : KeyIs K key lit ok) (ht : Try.prog.underlying T = some (.map K 83)) {x : α} (hx : ok x) :
    (Instr.lookup T (.map (some b)) (key x) true).run Try.prog w = .ok (.tuple #[.agg #[], .bool (P x)]) w := by
  obtain ⟨D, h1, h2⟩ := h
  obtain ⟨v, ps, hrun, hv⟩ := h1.look_ok hk.law ht (zeroUnit w) unitElem_mk (hk.of x hx)
  obtain ⟨rfl, _⟩ := unitElem_inv hv
  rw [hrun, h2 x hx]
theorem SetAt.store (h : SetAt K key lit ok w b n P) (hk : KeyIs K key lit ok) (ht : Try.prog.underlying T = some (.map K 83)) {x : α} (hx : ok x) (hn : n < maxLen) {P' : α → Bool} (h1 : P' x = true) (h2 : ∀ y, y ≠ x → P' y = P y) :
    ∃ w', (Instr.mapUpdate T (.map (some b)) (key x) (.agg #[])).run Try.prog w = .ok () w' ∧ SetAt K key lit ok w' b (n + 1) P' ∧ Only (fun k => k = b) w w' := by
  obtain ⟨D, g1, g2⟩ := h
  have hm := g1.isMap
  obtain ⟨w', hrun, hown, hg⟩ := g1.update hk.law ht hn (hk.of x hx) unitElem_mk
  refine ⟨w', hrun, ⟨_, hown, fun y hy => ?_⟩, ⟨hg.os, hg.tape, hg.output, hg.size, fun k hk hn => hg.block k hk (fun q => hn (by simpa using q))⟩⟩
  by_cases e : y = x
  · subst e
    rw [h1]
    exact Maps.has_put_same hm (hk.law.key (hk.of y hy)) _
  · rw [h2 y e, ← g2 y hy]
    refine Maps.has_put_other (fun q => e (hk.inj y x ?_)) _
    have := hk.of y hy
    rw [q] at this
    exact hk.law.inj this (hk.of x hx)
end
def nameV (n : Int) : Value := .agg #[.int .i64 n]
def nameL (n : Int) : Lit := .string (keyBytes [.int .i64 n])
def nameOk (n : Int) : Prop := (Lit.int .i64 n).wf = true
theorem nameIs : KeyIs 129 nameV nameL nameOk := ⟨lawNamed, fun x hx => keyNamed hx, fun x y h => by simpa [nameV] using h⟩
def appV (p : Int × Int) : Value := .agg #[.int .i64 p.1, .int .i64 p.2]
def appL (p : Int × Int) : Lit := .string (keyBytes [.int .i64 p.1, .int .i64 p.2])
def appOk (p : Int × Int) : Prop := (Lit.int .i64 p.1).wf = true ∧ (Lit.int .i64 p.2).wf = true
theorem appIs : KeyIs 132 appV appL appOk := ⟨lawApp, fun x hx => keyApp hx.1 hx.2, fun x y h => by simp [appV] at h; exact Prod.ext h.1 h.2⟩
def Names (w : World) (b n : Nat) (P : Int → Bool) : Prop := SetAt 129 nameV nameL nameOk w b n P
def Vals (w : World) (b n : Nat) (P : Int × Int → Bool) : Prop := SetAt 132 appV appL appOk w b n P
theorem Names.look {w : World} {b n : Nat} {P : Int → Bool} (h : Names w b n P) {x : Int} (hx : (Lit.int .i64 x).wf = true) : (Instr.lookup 69 (.map (some b)) (.agg #[.int .i64 x]) true).run Try.prog w = .ok (.tuple #[.agg #[], .bool (P x)]) w := SetAt.look h nameIs Try.underlying69 hx
theorem Vals.look {w : World} {b n : Nat} {P : Int × Int → Bool} (h : Vals w b n P) {x y : Int} (hx : (Lit.int .i64 x).wf = true) (hy : (Lit.int .i64 y).wf = true) : (Instr.lookup 70 (.map (some b)) (.agg #[.int .i64 x, .int .i64 y]) true).run Try.prog w = .ok (.tuple #[.agg #[], .bool (P (x, y))]) w := SetAt.look (x := (x, y)) h appIs Try.underlying70 ⟨hx, hy⟩
theorem Names.store {w : World} {b n : Nat} {P : Int → Bool} (h : Names w b n P) {x : Int} (hx : (Lit.int .i64 x).wf = true) (hn : n < 1000000) :
    ∃ w', (Instr.mapUpdate 69 (.map (some b)) (.agg #[.int .i64 x]) (.agg #[])).run Try.prog w = .ok () w' ∧ Names w' b (n + 1) (fun y => P y || x == y) ∧ Only (fun k => k = b) w w' :=
  SetAt.store h nameIs Try.underlying69 hx (by unfold maxLen; omega) (by simp) (fun y hy => by simp [Ne.symm hy])
theorem Vals.store {w : World} {b n : Nat} {P : Int × Int → Bool} (h : Vals w b n P) {x y : Int} (hx : (Lit.int .i64 x).wf = true) (hy : (Lit.int .i64 y).wf = true) (hn : n < 1000000) :
    ∃ w', (Instr.mapUpdate 70 (.map (some b)) (.agg #[.int .i64 x, .int .i64 y]) (.agg #[])).run Try.prog w = .ok () w' ∧ Vals w' b (n + 1) (fun p => P p || (x == p.1 && y == p.2)) ∧ Only (fun k => k = b) w w' :=
  SetAt.store (x := (x, y)) h appIs Try.underlying70 ⟨hx, hy⟩ (by unfold maxLen; omega) (by simp) (fun p hp => by
    by_cases e : x = p.1
    · by_cases e2 : y = p.2
      · exact absurd (Prod.ext e.symm e2.symm) hp
      · simp [e2]
    · simp [e])
end Go.Proofs.Ytigmgkcojifbcaa.Keys
