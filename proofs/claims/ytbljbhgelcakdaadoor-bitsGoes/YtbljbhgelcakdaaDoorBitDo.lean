/- An act of BitsPlays, by the program and by the document, over open contracts. -/
import Derived.Test.YtbljbhgelcakdaaDoorBitClone
import Derived.Deep.RegionHeld3
namespace Go.Proofs.YtbljbhgelcakdaaDoor.Bit
open Go.RowKit Go.Proofs.YtbljbhgelcakdaaDoor.Dig Go.Proofs.YtbljbhgelcakdaaDoor.Mem
set_option linter.unusedVariables false
set_option linter.unusedSimpArgs false

structure KeyW (P : Prop) : Prop where
  out : P
/-- What many ways come to is shown once: P is found by the first way. -/
theorem merge {P Q : Prop} (h : KeyW P → Q) (p : P) : Q := h ⟨p⟩
theorem withB_same (a b : List Bool) (how : Int) (h0 : how ≠ 0) (h1 : how ≠ 1) (h2 : how ≠ 2) : withB a b how = a := by
  rw [← withN_all, withN_same a b how h0 h1 h2]
def stepB (m : List Bool) (d : Int) (l : List Int) (room : Int) : List Bool := if d = 0 then setB m l true else if d = 1 then setB m l false else withB m (setB (newB room false) l true) (d - 2)
theorem stepB_length (m : List Bool) (d : Int) (l : List Int) (room : Int) : (stepB m d l room).length = m.length := by
  unfold stepB
  split
  · rw [setB_length]
  · split
    · rw [setB_length]
    · rw [withB_length]
section
variable {At : World → Value → (Nat → Prop) → List Bool → Prop} {w wx : World} {os os' : List (Value × List Bool)} {ns ns' : List (Option Addr × Nat × List Int)} {bs bs' : List (Option Addr × Nat × List Bool)} {cs cs' : List (Nat × Array Value)}
/-- What a law doesn't need any more it forgets. -/
theorem Env.sub (h : Env At w os ns bs cs wx) (n : Nat) (ho : os.take n = os') (hn : ∀ r ∈ ns', r ∈ ns) (hb : ∀ r ∈ bs', r ∈ bs) (hc : ∀ r ∈ cs', r ∈ cs) : Env At w os' ns' bs' cs' wx := by
  subst ho
  obtain ⟨F, h1, h2, h3, h4, h5⟩ := h.sets
  have hl : ∀ i, i < (os.take n).length → i < os.length := fun i hi => by rw [List.length_take] at hi; omega
  refine ⟨h.tab, h.below, ⟨F, fun i hi => ?_, fun i j k hi hj => h2 i j k (hl i hi) (hl j hj), fun r hr q x e i hi => h3 r (hn r hr) q x e i (hl i hi), fun r hr q x e i hi => h4 r (hb r hr) q x e i (hl i hi), fun r hr i hi => h5 r (hc r hr) i (hl i hi)⟩, fun r hr => h.nums r (hn r hr), fun r hr => h.bools r (hb r hr), fun r hr => h.boxes r (hc r hr)⟩
  have := h1 i (hl i hi)
  rw [List.getElem_take]
  exact this
set_option maxHeartbeats 4000000 in
set_option maxRecDepth 20000 in
theorem do_any (A : Api At) (p : Value) (m : List Bool) (am : Option Addr) (cm M : Nat) (d room : Int) (la : Option Addr) (lc n : Nat) (l : List Int) (h : Hid (Env At w [(p, m)] [(la, lc, l)] [(am, cm, m)] [] wx)) (hM : M = m.length) (hn : n = l.length) (hl : l.length ≤ 1000) (hm : m.length ≤ 65536) (hd : (Lit.int .i64 d).wf = true) (hd4 : d ≤ 4) (hroom : (Lit.int .i64 room).wf = true) :
    Calls Tryd.prog 11 #[p, .slice am M cm, .agg #[.int .i64 d, .slice la n lc, .int .i64 room]] wx fun e w' => ∃ a c, e = .returned (.slice a M c) ∧ Hid (Env At w [(p, stepB m d l room)] [] [(a, c, stepB m d l room)] [] w') := by
  have H0 : Hid (Env At w [(p, m)] [(la, lc, l)] [(am, cm, m)] [(wx.heap.size, #[.int .i64 d, .slice la n lc, .int .i64 room])] (wx.alloc (.cells #[.int .i64 d, .slice la n lc, .int .i64 room] 30))) := h.out.box A _ _ rfl
  have KR := hide hroom
  have KN := hide hn
  have KL := hide hl
  have KM := hide hM
  have KM2 := hide hm
  have hb1 := bounds_i64 hd
  obtain ⟨q1, q2⟩ := hb1
  obtain ⟨O, hO⟩ : ∃ O, setB (newB room false) l true = O := ⟨_, rfl⟩
  obtain ⟨R, hR⟩ : ∃ R, R = (newB room false).length := ⟨_, rfl⟩
  have HO := hide hO
  have HR := hide hR
  have HRO : Hid (R = O.length) := hide (by rw [← hO, setB_length, hR])
  have HRL : Hid ((newB room false).length ≤ 100000) := hide (by have := newB_le room false; omega)
  have HS : Hid (stepB m d l room = if d = 0 then setB m l true else if d = 1 then setB m l false else withB m O (d - 2)) := by rw [← hO]; rfl
  clear hO hR h hd hroom hn hl hM hm
  go_enter Tryd.func11, Tryd.ntmps11
  go_wp2_with (first
    | (go_at_call 8; go_must ((refine (newE A room (m := newB room false) H0 KR.out rfl).mono ?_); rintro e w1 ⟨q, rfl, H1⟩; have k0 := Env.cell H1.out (b := wx.heap.size) (c := #[.int .i64 d, .slice la n lc, .int .i64 room]) (by simp) 0 (v := .int .i64 d) rfl; have k1 := Env.cell H1.out (b := wx.heap.size) (c := #[.int .i64 d, .slice la n lc, .int .i64 room]) (by simp) 1 (v := .slice la n lc) rfl; have k2 := Env.cell H1.out (b := wx.heap.size) (c := #[.int .i64 d, .slice la n lc, .int .i64 room]) (by simp) 2 (v := .int .i64 room) rfl))
    | (go_at_call 21; go_must ((refine (putE A 1 (p := q) (m := newB room false) (m3 := O) (l := l) (n := n) (a := la) (c := lc) H1 rfl (by simp) KN.out KL.out HO.out).mono ?_); rintro e w2 ⟨rfl, H2⟩; clear k0 k1 k2; have k0 := Env.cell H2.out (b := wx.heap.size) (c := #[.int .i64 d, .slice la n lc, .int .i64 room]) (by simp) 0 (v := .int .i64 d) rfl; have k1 := Env.cell H2.out (b := wx.heap.size) (c := #[.int .i64 d, .slice la n lc, .int .i64 room]) (by simp) 1 (v := .slice la n lc) rfl; have k2 := Env.cell H2.out (b := wx.heap.size) (c := #[.int .i64 d, .slice la n lc, .int .i64 room]) (by simp) 2 (v := .int .i64 room) rfl)))
  clear k0 k1 k2
  apply merge
  · intro key
    have k0 := Env.cell H2.out (b := wx.heap.size) (c := #[.int .i64 d, .slice la n lc, .int .i64 room]) (by simp) 0 (v := .int .i64 d) rfl; have k1 := Env.cell H2.out (b := wx.heap.size) (c := #[.int .i64 d, .slice la n lc, .int .i64 room]) (by simp) 1 (v := .slice la n lc) rfl; have k2 := Env.cell H2.out (b := wx.heap.size) (c := #[.int .i64 d, .slice la n lc, .int .i64 room]) (by simp) 2 (v := .int .i64 room) rfl
    go_region_held3 (fun w' => w'.cell? ⟨wx.heap.size, 0, none⟩ = some (.int .i64 d) ∧ w'.cell? ⟨wx.heap.size, 1, none⟩ = some (.slice la n lc) ∧ w'.cell? ⟨wx.heap.size, 2, none⟩ = some (.int .i64 room)) (first | assumption | go_keep)
      (first
        | (go_at_call 10; go_must ((refine (rnewE A room false (m := newB room false) (n := R) (hide (H2.out.read A (by repeat (first | exact Below.refl _ _ | apply Below.drew)))) KR.out rfl HR.out).mono ?_); rintro e w3 ⟨a3, c3, rfl, H3⟩; clear k0 k1 k2; have k0 := Env.cell H3.out (b := wx.heap.size) (c := #[.int .i64 d, .slice la n lc, .int .i64 room]) (by simp) 0 (v := .int .i64 d) rfl; have k1 := Env.cell H3.out (b := wx.heap.size) (c := #[.int .i64 d, .slice la n lc, .int .i64 room]) (by simp) 1 (v := .slice la n lc) rfl; have k2 := Env.cell H3.out (b := wx.heap.size) (c := #[.int .i64 d, .slice la n lc, .int .i64 room]) (by simp) 2 (v := .int .i64 room) rfl))
        | (go_at_call 22; go_must ((refine (rsetE A true (a := a3) (c := c3) (a2 := la) (c2 := lc) (m := newB room false) (l := l) (m3 := O) (n := R) (n2 := n) (hide (H3.out.read A (by repeat (first | exact Below.refl _ _ | apply Below.drew)))) (by simp) (by simp) HR.out KN.out HRL.out HO.out).mono ?_); rintro e w4 ⟨a4, c4, rfl, H4⟩; clear k0 k1 k2; have k0 := Env.cell H4.out (b := wx.heap.size) (c := #[.int .i64 d, .slice la n lc, .int .i64 room]) (by simp) 0 (v := .int .i64 d) rfl; have k1 := Env.cell H4.out (b := wx.heap.size) (c := #[.int .i64 d, .slice la n lc, .int .i64 room]) (by simp) 1 (v := .slice la n lc) rfl; have k2 := Env.cell H4.out (b := wx.heap.size) (c := #[.int .i64 d, .slice la n lc, .int .i64 room]) (by simp) 2 (v := .int .i64 room) rfl)))
    all_goals
      clear k0 k1 k2
      clear H3
      clear w3
      revert H4; revert w4; revert c4; revert a4; revert c3; revert a3
      exact key.out
  intro a3 c3 a4 c4 w4 hS H4
  clear hS
  by_cases h0 : d = 0
  · subst h0
    have k0 := Env.cell H4.out (b := wx.heap.size) (c := #[.int .i64 0, .slice la n lc, .int .i64 room]) (by simp) 0 (v := .int .i64 0) rfl; have k1 := Env.cell H4.out (b := wx.heap.size) (c := #[.int .i64 0, .slice la n lc, .int .i64 room]) (by simp) 1 (v := .slice la n lc) rfl; have k2 := Env.cell H4.out (b := wx.heap.size) (c := #[.int .i64 0, .slice la n lc, .int .i64 room]) (by simp) 2 (v := .int .i64 room) rfl
    have HE : Hid (setB m l true = stepB m 0 l room) := by show _ = _; rw [HS.out]; rfl
    go_wp2_with (first
      | (go_at_call 21; go_must ((refine (putE A 0 (p := p) (m := m) (m3 := stepB m 0 l room) (l := l) (n := n) (a := la) (c := lc) H4 rfl (by simp) KN.out KL.out HE.out).mono ?_); rintro e w5 ⟨rfl, H5⟩; clear k0 k1 k2; have k0 := Env.cell H5.out (b := wx.heap.size) (c := #[.int .i64 0, .slice la n lc, .int .i64 room]) (by simp) 0 (v := .int .i64 0) rfl; have k1 := Env.cell H5.out (b := wx.heap.size) (c := #[.int .i64 0, .slice la n lc, .int .i64 room]) (by simp) 1 (v := .slice la n lc) rfl; have k2 := Env.cell H5.out (b := wx.heap.size) (c := #[.int .i64 0, .slice la n lc, .int .i64 room]) (by simp) 2 (v := .int .i64 room) rfl))
      | (go_at_call 22; go_must ((refine (rsetE A true (a := am) (c := cm) (a2 := la) (c2 := lc) (m := m) (l := l) (m3 := stepB m 0 l room) (n := M) (n2 := n) H5 (by simp) (by simp) KM.out KN.out (by have := KM2.out; omega) HE.out).mono ?_); rintro e w6 ⟨a6, c6, rfl, H6⟩)))
    go_ret
    exact ⟨a6, c6, rfl, H6.out.sub 1 rfl (by simp) (by simp) (by simp)⟩
  by_cases h1 : d = 1
  · subst h1
    have k0 := Env.cell H4.out (b := wx.heap.size) (c := #[.int .i64 1, .slice la n lc, .int .i64 room]) (by simp) 0 (v := .int .i64 1) rfl; have k1 := Env.cell H4.out (b := wx.heap.size) (c := #[.int .i64 1, .slice la n lc, .int .i64 room]) (by simp) 1 (v := .slice la n lc) rfl; have k2 := Env.cell H4.out (b := wx.heap.size) (c := #[.int .i64 1, .slice la n lc, .int .i64 room]) (by simp) 2 (v := .int .i64 room) rfl
    have HE : Hid (setB m l false = stepB m 1 l room) := by show _ = _; rw [HS.out]; rfl
    go_wp2_with (first
      | (go_at_call 24; go_must ((refine (dropE A 0 (p := p) (m := m) (m3 := stepB m 1 l room) (l := l) (n := n) (a := la) (c := lc) H4 rfl (by simp) KN.out KL.out HE.out).mono ?_); rintro e w5 ⟨rfl, H5⟩; clear k0 k1 k2; have k0 := Env.cell H5.out (b := wx.heap.size) (c := #[.int .i64 1, .slice la n lc, .int .i64 room]) (by simp) 0 (v := .int .i64 1) rfl; have k1 := Env.cell H5.out (b := wx.heap.size) (c := #[.int .i64 1, .slice la n lc, .int .i64 room]) (by simp) 1 (v := .slice la n lc) rfl; have k2 := Env.cell H5.out (b := wx.heap.size) (c := #[.int .i64 1, .slice la n lc, .int .i64 room]) (by simp) 2 (v := .int .i64 room) rfl))
      | (go_at_call 22; go_must ((refine (rsetE A false (a := am) (c := cm) (a2 := la) (c2 := lc) (m := m) (l := l) (m3 := stepB m 1 l room) (n := M) (n2 := n) H5 (by simp) (by simp) KM.out KN.out (by have := KM2.out; omega) HE.out).mono ?_); rintro e w6 ⟨a6, c6, rfl, H6⟩)))
    go_ret
    exact ⟨a6, c6, rfl, H6.out.sub 1 rfl (by simp) (by simp) (by simp)⟩
  by_cases h2 : d = 2
  · subst h2
    have k0 := Env.cell H4.out (b := wx.heap.size) (c := #[.int .i64 2, .slice la n lc, .int .i64 room]) (by simp) 0 (v := .int .i64 2) rfl
    have HE : Hid (withB m O 0 = stepB m 2 l room) := by show _ = _; rw [HS.out]; rfl
    go_wp2_with (first
      | (go_at_call 27; go_must ((refine (orE A 0 1 (p := p) (m := m) (q := q) (m2 := O) (m3 := stepB m 2 l room) H4 rfl rfl (by decide) HE.out).mono ?_); rintro e w5 ⟨rfl, H5⟩; clear k0; have k0 := Env.cell H5.out (b := wx.heap.size) (c := #[.int .i64 2, .slice la n lc, .int .i64 room]) (by simp) 0 (v := .int .i64 2) rfl))
      | (go_at_call 31; go_must ((refine (rwithE A 0 (a := am) (c := cm) (a2 := a4) (c2 := c4) (m := m) (m2 := O) (m3 := stepB m 2 l room) (n := M) (n2 := R) H5 (by simp) (by simp) KM.out HRO.out (by have := KM2.out; omega) HE.out).mono ?_); rintro e w6 ⟨a6, c6, rfl, H6⟩)))
    go_ret
    exact ⟨a6, c6, rfl, H6.out.sub 1 rfl (by simp) (by simp) (by simp)⟩
  by_cases h3 : d = 3
  · subst h3
    have k0 := Env.cell H4.out (b := wx.heap.size) (c := #[.int .i64 3, .slice la n lc, .int .i64 room]) (by simp) 0 (v := .int .i64 3) rfl
    have HE : Hid (withB m O 1 = stepB m 3 l room) := by show _ = _; rw [HS.out]; rfl
    go_wp2_with (first
      | (go_at_call 28; go_must ((refine (andE A 0 1 (p := p) (m := m) (q := q) (m2 := O) (m3 := stepB m 3 l room) H4 rfl rfl (by decide) HE.out).mono ?_); rintro e w5 ⟨rfl, H5⟩; clear k0; have k0 := Env.cell H5.out (b := wx.heap.size) (c := #[.int .i64 3, .slice la n lc, .int .i64 room]) (by simp) 0 (v := .int .i64 3) rfl))
      | (go_at_call 31; go_must ((refine (rwithE A 1 (a := am) (c := cm) (a2 := a4) (c2 := c4) (m := m) (m2 := O) (m3 := stepB m 3 l room) (n := M) (n2 := R) H5 (by simp) (by simp) KM.out HRO.out (by have := KM2.out; omega) HE.out).mono ?_); rintro e w6 ⟨a6, c6, rfl, H6⟩)))
    go_ret
    exact ⟨a6, c6, rfl, H6.out.sub 1 rfl (by simp) (by simp) (by simp)⟩
  by_cases h4 : d = 4
  · subst h4
    have k0 := Env.cell H4.out (b := wx.heap.size) (c := #[.int .i64 4, .slice la n lc, .int .i64 room]) (by simp) 0 (v := .int .i64 4) rfl
    have HE : Hid (withB m O 2 = stepB m 4 l room) := by show _ = _; rw [HS.out]; rfl
    go_wp2_with (first
      | (go_at_call 29; go_must ((refine (minusE A 0 1 (p := p) (m := m) (q := q) (m2 := O) (m3 := stepB m 4 l room) H4 rfl rfl (by decide) HE.out).mono ?_); rintro e w5 ⟨rfl, H5⟩; clear k0; have k0 := Env.cell H5.out (b := wx.heap.size) (c := #[.int .i64 4, .slice la n lc, .int .i64 room]) (by simp) 0 (v := .int .i64 4) rfl))
      | (go_at_call 31; go_must ((refine (rwithE A 2 (a := am) (c := cm) (a2 := a4) (c2 := c4) (m := m) (m2 := O) (m3 := stepB m 4 l room) (n := M) (n2 := R) H5 (by simp) (by simp) KM.out HRO.out (by have := KM2.out; omega) HE.out).mono ?_); rintro e w6 ⟨a6, c6, rfl, H6⟩)))
    go_ret
    exact ⟨a6, c6, rfl, H6.out.sub 1 rfl (by simp) (by simp) (by simp)⟩
  · have k0 := Env.cell H4.out (b := wx.heap.size) (c := #[.int .i64 d, .slice la n lc, .int .i64 room]) (by simp) 0 (v := .int .i64 d) rfl
    obtain ⟨x, hx⟩ : ∃ x, IntKind.i64.wrap (d - 2) = x := ⟨_, rfl⟩
    have hxx : x ≠ 0 ∧ x ≠ 1 ∧ x ≠ 2 := by rw [← hx, IntKind.wrap_i64]; omega
    have HE : Hid (withB m O x = stepB m d l room) := by
      show _ = _
      rw [HS.out, if_neg h0, if_neg h1, withB_same m O x hxx.1 hxx.2.1 hxx.2.2, withB_same m O (d - 2) (by omega) (by omega) (by omega)]
    have HE2 : Hid (stepB m d l room = m) := by rw [← HE.out]; exact withB_same m O x hxx.1 hxx.2.1 hxx.2.2
    have g0 : (d == 0) = false := by simpa using h0
    have g1 : (d == 1) = false := by simpa using h1
    have g2 : (d == 2) = false := by simpa using h2
    have g3 : (d == 3) = false := by simpa using h3
    have g4 : (d == 4) = false := by simpa using h4
    clear h0 h1 h2 h3 h4 hxx
    go_wp2_with (first
      | (go_at_call 31; go_must ((refine (rwithE A x (a := am) (c := cm) (a2 := a4) (c2 := c4) (m := m) (m2 := O) (m3 := stepB m d l room) (n := M) (n2 := R) H4 (by simp) (by simp) KM.out HRO.out (by have := KM2.out; omega) HE.out).mono ?_); rintro e w6 ⟨a6, c6, rfl, H6⟩)))
    go_ret
    exact ⟨a6, c6, rfl, by have := H6.out.sub 1 (os' := [(p, m)]) (ns' := []) (bs' := [(a6, c6, stepB m d l room)]) (cs' := []) rfl (by simp) (by simp) (by simp); rw [HE2.out] at this ⊢; exact this⟩
end
end Go.Proofs.YtbljbhgelcakdaaDoor.Bit
