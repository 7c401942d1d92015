/- A ring that is far too great is halved. -/
import Derived.Test.YthajooipaiiieaaDqsSize
namespace Go.Proofs.Ythajooipaiiieaa.DqS
open Go.RowKit Go.Proofs.Ythajooipaiiieaa.Dig Go.Proofs.Ythajooipaiiieaa.Mem Go.Proofs.Ythajooipaiiieaa.Dq Go.Proofs.Ythajooipaiiieaa.Bit Go.Shelf
set_option linter.unusedVariables false
set_option linter.unusedSimpArgs false
attribute [local go_sem] Oper.semAt_some

/-- The deque at P has become l': nothing else has turned but what was the deque's; the block's other cells are as they were. -/
structure Turned (w : World) (P : Nat × Nat × Array Value) (S : Nat → Prop) (l' : List (List UInt8)) (w' : World) : Prop where
  now : ∃ s' : Sh, s'.At w' l' ∧ s'.place = some P ∧ ∀ k, s'.has k → S k ∨ w.heap.size ≤ k
  only : Only S w w'
theorem Turned.trans {w w1 w2 : World} {P : Nat × Nat × Array Value} {S : Nat → Prop} {l2 : List (List UInt8)} (ho : Only S w w1) {S1 : Nat → Prop} (hs : ∀ k, S1 k → S k ∨ w.heap.size ≤ k) (h : Turned w1 P S1 l2 w2) : Turned w P S l2 w2 := by
  obtain ⟨⟨s', h1, h2, h3⟩, h4⟩ := h
  refine ⟨⟨s', h1, h2, fun k hk => ?_⟩, ho.trans' h4 hs⟩
  rcases h3 k hk with q | q
  · exact hs k q
  · exact .inr (Nat.le_trans ho.size q)
theorem Turned.ring {w w' : World} {b o g n t : Nat} {cs : Array Value} {rs l : List (List UInt8)} {S : Nat → Prop} (h : Dq w' b o cs g n t rs l) (hb : S b) (hg : S g ∨ w.heap.size ≤ g) (ho : Only S w w') : Turned w (b, o, cs) S l w' :=
  ⟨⟨.ring b o cs g n t rs, h, rfl, fun k hk => by
    rcases hk with rfl | rfl
    · exact .inl hb
    · exact hg⟩, ho⟩
def R2 (b g : Nat) (k : Nat) : Prop := k = b ∨ k = g
set_option maxRecDepth 100000 in
set_option maxHeartbeats 1000000 in
theorem shrink_dq {w : World} {b o g n t : Nat} {cs : Array Value} {rs l : List (List UInt8)} (h : Dq w b o cs g n t rs l) :
    Calls Try.prog 46 #[.pointer (some ⟨b, o, none⟩)] w fun e w' => e = .returned (.tuple #[]) ∧ Turned w (b, o, cs) (R2 b g) l w' := by
  obtain ⟨h0, h1, h2⟩ := h.cells
  have hn := h.le
  have hc := h.ring.cnt
  have ht := h.ring.top
  have HD := hide h
  obtain ⟨m, hm⟩ : ∃ m, m = l.length := ⟨_, rfl⟩
  have HM := hide hm
  rw [← hm] at h2 hc
  have hq4 : (n : Int).tdiv 4 = ((n / 4 : Nat) : Int) := by rw [Int.tdiv_eq_ediv_of_nonneg (by omega)]; rfl
  have hq2 : (n : Int).tdiv 2 = ((n / 2 : Nat) : Int) := by rw [Int.tdiv_eq_ediv_of_nonneg (by omega)]; rfl
  clear h hm h1
  by_cases e1 : 4 < n
  · by_cases e2 : m ≤ n / 4
    · have HR := hide (fun W (hW : Dq W b o cs g n t rs l) => resize_sh (w := W) (s := .ring b o cs g n t rs) (l := l) hW rfl (n / 2) (by rw [← HM.out]; omega) (by omega) (by omega))
      obtain ⟨q, hq⟩ : ∃ q, q = n / 4 := ⟨_, rfl⟩
      obtain ⟨q', hq'⟩ : ∃ q', q' = n / 2 := ⟨_, rfl⟩
      rw [← hq] at hq4 e2
      rw [← hq'] at hq2 HR
      have e1i : (4 : Int) < n := by omega
      have e2i : (m : Int) ≤ (n : Int) / 4 := by omega
      have e3i : (n : Int) / 2 = q' := by omega
      have e4i : (n : Int) / 4 = q := by omega
      clear e1 e2 hq hq'
      go_enter Try.func46, Try.ntmps46
      go_wp2
      go_quiet (fail)
      go_wp2_with (go_at_call 43; go_must ((with_reducible refine ((Hid.out HR) _ (HD.out.drewN nq)).mono ?_); rintro e w9 ⟨rfl, hb9, ho9⟩; have HB9 := hide hb9; have HO9 := hide ho9; clear hb9 ho9))
      go_end0
      exact ⟨rfl, Turned.ring HB9.out (.inl rfl) (.inr (by exact Nat.le_refl _)) (((Only.refl _ _).drewN nq).trans (HO9.out.mono (fun k e => .inl e)))⟩
    · have e1i : (4 : Int) < n := by omega
      have e2i : decide ((m : Int) ≤ (n : Int) / 4) = false := decide_eq_false (by omega)
      clear e1 e2
      go_enter Try.func46, Try.ntmps46
      go_wp2
      go_quiet (fail)
      go_wp2
      go_end0
      exact ⟨rfl, Turned.ring (HD.out.drewN nq) (.inl rfl) (.inl (.inr rfl)) ((Only.refl _ _).drewN nq)⟩
  · have e1i : decide ((4 : Int) < n) = false := decide_eq_false (by omega)
    clear e1
    go_enter Try.func46, Try.ntmps46
    go_wp2
    go_quiet (fail)
    go_wp2
    go_end0
    exact ⟨rfl, Turned.ring (HD.out.drewN nq) (.inl rfl) (.inl (.inr rfl)) ((Only.refl _ _).drewN nq)⟩
end Go.Proofs.Ythajooipaiiieaa.DqS
