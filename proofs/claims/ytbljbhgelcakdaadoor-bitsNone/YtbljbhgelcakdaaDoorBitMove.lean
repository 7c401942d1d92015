/- What a law over sets knows, while a row of the call's own grows beside them. -/
import Derived.Test.YtbljbhgelcakdaaDoorBitDo
import Derived.Test.YtbljbhgelcakdaaDoorBitRange
import Derived.Maps.AppendAt
namespace Go.Proofs.YtbljbhgelcakdaaDoor.Bit
open Go.RowKit Go.Proofs.YtbljbhgelcakdaaDoor.Dig Go.Proofs.YtbljbhgelcakdaaDoor.Mem
set_option linter.unusedVariables false
set_option linter.unusedSimpArgs false

theorem only_grown {W V : World} {row : Option Nat} (h : W.grownBy V row) : Only (fun k => row = some k) W V := ⟨h.os, h.tape, h.output, h.size, fun k hk hn => h.block k hk (fun e => hn e.symm)⟩
/-- A block of one slice is no row that is read. -/
theorem apart_num {W : World} {B : Nat} {a a2 : Option Addr} {c c2 n : Nat} {l : List Int} (h : Is W B #[.slice a n c]) (hr : RowI W a2 c2 l) (hl : 0 < l.length) : ∀ x, a2 = some x → x.block ≠ B := fun x e hx => by
  obtain ⟨b, off, e2, hc⟩ := hr.at hl
  rw [e2] at e
  cases e
  subst hx
  obtain ⟨T, hT⟩ := h
  simp only [World.cell?, hT, Nat.add_zero] at hc
  rcases Nat.eq_zero_or_pos off with q | q
  · subst q; simp at hc
  · simp [show off ≠ 0 by omega] at hc
theorem apart_bool {W : World} {B : Nat} {a a2 : Option Addr} {c c2 n : Nat} {m : List Bool} (h : Is W B #[.slice a n c]) (hr : RowB W a2 c2 m) (hl : 0 < m.length) : ∀ x, a2 = some x → x.block ≠ B := fun x e hx => by
  obtain ⟨b, off, e2, hc⟩ := hr.at hl
  rw [e2] at e
  cases e
  subst hx
  obtain ⟨T, hT⟩ := h
  simp only [World.cell?, hT, Nat.add_zero] at hc
  rcases Nat.eq_zero_or_pos off with q | q
  · subst q; simp at hc
  · simp [show off ≠ 0 by omega] at hc
section
variable {At : World → Value → (Nat → Prop) → List Bool → Prop} {w wx w3 : World} {os : List (Value × List Bool)} {ns : List (Option Addr × Nat × List Int)} {bs : List (Option Addr × Nat × List Bool)} {cs : List (Nat × Array Value)}
/-- A block that is no cells is turned, or new ones are laid. -/
theorem Env.off (A : Api At) (C : ∀ {w p F m}, At w p F m → ∀ k, F k → ∃ o : Obj, w.heap[k]? = some o ∧ o.isCells = true) (h : Env At w os ns bs cs wx) {row : Option Nat} (hg : wx.grownBy w3 row) (hr : ∀ r, row = some r → w.heap.size ≤ r ∧ ∃ o : Obj, wx.heap[r]? = some o ∧ o.isCells = false) : Env At w os ns bs cs w3 := by
  have ho := only_grown hg
  have cellNe : ∀ {x : Addr} {v : Value}, wx.cell? x = some v → ¬ row = some x.block := fun {x v} hc e => by
    obtain ⟨o, h1, h2⟩ := cells_of_cell hc
    obtain ⟨_, o', h3, h4⟩ := hr _ e
    rw [h1] at h3
    cases h3
    rw [h2] at h4
    cases h4
  obtain ⟨F, h1, h2, h3, h4, h5⟩ := h.sets
  refine ⟨h.tab, h.below.trans (ho.below (fun k e => (hr k e).1) h.size), ⟨F, fun i hi => ⟨A.keep (h1 i hi).1 ho (fun k hk e => ?_), (h1 i hi).2⟩, h2, h3, h4, h5⟩, fun r hr' => (h.nums r hr').only ho (fun hl x e q => ?_), fun r hr' => (h.bools r hr').only ho (fun hl x e q => ?_), fun b hb => ?_⟩
  · obtain ⟨o, g1, g2⟩ := C (h1 i hi).1 k hk
    obtain ⟨_, o', g3, g4⟩ := hr k e
    rw [g1] at g3
    cases g3
    rw [g2] at g4
    cases g4
  · obtain ⟨b, off, e2, hc⟩ := (h.nums r hr').at hl
    rw [e2] at e
    cases e
    exact cellNe hc q
  · obtain ⟨b, off, e2, hc⟩ := (h.bools r hr').at hl
    rw [e2] at e
    cases e
    exact cellNe hc q
  · have hb' := h.boxes b hb
    refine hb'.keep ho (fun q => ?_)
    obtain ⟨T, hT⟩ := hb'
    obtain ⟨_, o', g3, g4⟩ := hr _ q
    rw [hT] at g3
    cases g3
    cases g4
/-- The row, and its box, lie apart from the other boxes and rows. -/
def Sep (a : Option Addr) (bs : List (Option Addr × Nat × List Bool)) (cs : List (Nat × Array Value)) : Prop := ∀ x, a = some x → (∀ b ∈ cs, b.1 ≠ x.block) ∧ ∀ r ∈ bs, 0 < r.2.2.length → ∀ y, r.1 = some y → y.block ≠ x.block
theorem Sep.nil (bs : List (Option Addr × Nat × List Bool)) (cs : List (Nat × Array Value)) : Sep none bs cs := fun x e => by cases e
/-- An element more, and the box that says so. -/
theorem Env.app (A : Api At) {a a3 : Option Addr} {c c3 B base n n3 : Nat} {l l' : List Int} {tmp : Obj} (h : Env At w os [(a, c, l)] bs ((B, #[.slice a n c]) :: cs) wx) (hn : n = l.length) (hn3 : n3 = l'.length)
    (hown : wx.ownsRow base 3 1 (.slice a n c) n (l.map (Value.int .i64))) (hbase : w.heap.size ≤ base) (hB : w.heap.size ≤ B) (hne : a ≠ none → 0 < l.length) (hsep : Sep a bs cs) (hBs : ∀ b ∈ cs, b.1 ≠ B)
    (hg : (wx.alloc tmp).grownBy w3 (Value.slice a n c).ownBlock) (hown3 : w3.ownsRow base 3 1 (.slice a3 n3 c3) n3 (l'.map (Value.int .i64))) (hat : (Value.slice a3 n3 c3).ownBlock = (Value.slice a n c).ownBlock ∨ (Value.slice a3 n3 c3).ownBlock = some (wx.alloc tmp).heap.size) (hw : ∀ x ∈ l', (Lit.int .i64 x).wf = true) (hl' : l'.length ≤ 1000000) :
    Env At w os [(a3, c3, l')] bs ((B, #[.slice a3 n3 c3]) :: cs) (w3.setCell ⟨B, 0, none⟩ (.slice a3 n3 c3)) ∧ (w3.setCell ⟨B, 0, none⟩ (.slice a3 n3 c3)).ownsRow base 3 1 (.slice a3 n3 c3) n3 (l'.map (Value.int .i64)) ∧ Sep a3 bs cs ∧ w3.cell? ⟨B, 0, none⟩ = some (.slice a n c) ∧ w3.frozen? ⟨B, 0, none⟩ = false := by
  subst hn; subst hn3
  obtain ⟨F, h1, h2, h3, h4, h5⟩ := h.sets
  have hrow := h.nums (a, c, l) (by simp)
  have hbox := h.boxes (B, #[.slice a l.length c]) (by simp)
  have hBlt := hbox.lt
  have g1 : Only (fun k => (Value.slice a l.length c).ownBlock = some k) wx w3 := by
    have hbl : Below wx.heap.size wx (wx.alloc tmp) := (Below.refl _ _).alloc (Nat.le_refl _) _
    exact (Only.of_below hbl).trans (only_grown hg)
  have rowB : ∀ k, (Value.slice a l.length c).ownBlock = some k → k ≠ B := fun k e => by
    cases a with
    | none => simp [Value.ownBlock] at e
    | some x =>
      simp [Value.ownBlock] at e
      subst e
      exact apart_num hbox hrow (hne (by simp)) x rfl
  have hbox3 : Is w3 B #[.slice a l.length c] := hbox.keep g1 (fun e => rowB B e rfl)
  -- where the new row lies
  have new : ∀ x, a3 = some x → (a ≠ none ∧ ∃ y, a = some y ∧ y.block = x.block) ∨ x.block = wx.heap.size + 1 := fun x e => by
    subst e
    rcases hat with q | q
    · left
      cases a with
      | none => simp [Value.ownBlock] at q
      | some y => simp [Value.ownBlock] at q; exact ⟨by simp, y, rfl, q.symm⟩
    · right
      simpa [Value.ownBlock] using q
  have new3 : ∀ x, a3 = some x → x.block ≠ B := fun x e => by
    rcases new x e with ⟨_, y, rfl, hy⟩ | q
    · rw [← hy]
      exact rowB y.block (by simp [Value.ownBlock])
    · omega
  have g2 : Only (fun k => (Value.slice a l.length c).ownBlock = some k ∨ k = B) wx (w3.setCell ⟨B, 0, none⟩ (.slice a3 l'.length c3)) :=
    Only.setCell (S := fun k => (Value.slice a l.length c).ownBlock = some k ∨ k = B) (g1.mono (fun k q => Or.inl q)) (p := ⟨B, 0, none⟩) (.inl (.inr rfl)) _
  have FS : ∀ i, i < os.length → ∀ k, F i k → ¬ ((Value.slice a l.length c).ownBlock = some k ∨ k = B) := fun i hi k hk q => by
    rcases q with q | q
    · cases a with
      | none => simp [Value.ownBlock] at q
      | some x =>
        simp [Value.ownBlock] at q
        subst q
        exact h3 (some x, c, l) (by simp) (hne (by simp)) x rfl i hi hk
    · subst q
      exact h5 (k, #[.slice a l.length c]) (by simp) i hi hk
  have hr3 : RowI w3 a3 c3 l' := by
    obtain ⟨a', c', e, hr, _⟩ := OwnI.row (l := l') (base := base) hown3 (by omega) hw
    injection e with e1 e2 e3
    subst e1 e3
    exact hr
  have sep3 : Sep a3 bs cs := fun x e => by
    rcases new x e with ⟨_, y, hy, hb⟩ | q
    · rw [← hb]
      exact hsep y hy
    · refine ⟨fun b hb => ?_, fun r hr hl y ey => ?_⟩
      · have := (h.boxes b (List.mem_cons_of_mem _ hb)).lt
        omega
      · have := (h.bools r hr).lt hl y ey
        omega
  refine ⟨⟨h.tab, h.below.trans (g2.below (fun k q => ?_) h.size), ⟨F, fun i hi => ⟨A.keep (h1 i hi).1 g2 (fun k hk => FS i hi k hk), (h1 i hi).2⟩, h2, fun r hr hl x e i hi hF => ?_, h4, fun b hb i hi => ?_⟩, fun r hr => ?_, fun r hr => ?_, fun b hb => ?_⟩, ?_, sep3, hbox3.cell 0 rfl, hbox3.frozen 0⟩
  · rcases q with q | q
    · exact Nat.le_trans hbase (World.ownsRow.lt hown k q).1
    · omega
  · obtain rfl : r = (a3, c3, l') := by simpa using hr
    rcases new x e with ⟨_, y, hy, hb⟩ | q
    · rw [← hb] at hF
      subst hy
      exact h3 (some y, c, l) (by simp) (hne (by simp)) y rfl i hi hF
    · have := A.lt (h1 i hi).1 _ hF
      omega
  · rcases List.mem_cons.1 hb with e | q
    · subst e; exact h5 (B, #[.slice a l.length c]) (by simp) i hi
    · exact h5 b (List.mem_cons_of_mem _ q) i hi
  · obtain rfl : r = (a3, c3, l') := by simpa using hr
    exact hr3.only (S := fun k => k = B) ((Only.refl _ _).put 0 _) (fun _ x e => new3 x e)
  · refine (h.bools r hr).only g2 (fun hl x e q => ?_)
    rcases q with q | q
    · cases a with
      | none => simp [Value.ownBlock] at q
      | some y =>
        simp [Value.ownBlock] at q
        exact (hsep y rfl).2 r hr hl x e q.symm
    · exact apart_bool hbox (h.bools r hr) hl x e q
  · rcases List.mem_cons.1 hb with e | q
    · subst e
      exact hbox3.set 0 _
    · refine (h.boxes b (List.mem_cons_of_mem _ q)).keep g2 (fun s => ?_)
      rcases s with s | s
      · cases a with
        | none => simp [Value.ownBlock] at s
        | some y =>
          simp [Value.ownBlock] at s
          exact (hsep y rfl).1 b q s.symm
      · exact hBs b q s
  · refine hown3.kept (grownBy_setCell' w3 B _) ?_
    cases a3 with
    | none => exact .inl rfl
    | some x => exact .inr (by simp [Value.ownBlock]; exact new3 x rfl)
end
end Go.Proofs.YtbljbhgelcakdaaDoor.Bit
