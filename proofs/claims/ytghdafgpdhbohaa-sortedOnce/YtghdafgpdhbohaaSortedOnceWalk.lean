/- SortedOnce, walked. -/
import Derived.Test.YtghdafgpdhbohaaSetWorks
import Derived.Test.YtghdafgpdhbohaaFrame
import Derived.Deep.RegionHeld3
import Derived.Deep.DrawnRows
import Derived.Deep.DeepMust
namespace Go.Proofs.Ytghdafgpdhbohaa.Walk
open Go.RowKit Go.Proofs.Ytghdafgpdhbohaa.Dig Go.Proofs.Ytghdafgpdhbohaa.Mem Go.Proofs.Ytghdafgpdhbohaa.Sets
set_option linter.unusedVariables false
set_option linter.unusedSimpArgs false

theorem row_of1 {w : World} {a : Option Addr} {len cap : Nat} {zs : List Int} (h : Frame.IsRow .i64 w a len cap zs) (hl : len ≤ 1000000) : ∃ l, len = l.length ∧ RowV w a cap l := by
  have hc := h.cap.1
  obtain ⟨l, rfl, hr, hw, hn⟩ := h.list (by omega)
  exact ⟨l, rfl, hc, hr, fun e => (hn e).2⟩
theorem Env.lts {w wx : World} {cs : List (Nat × Value)} {sets rows : List SetT} (h : Env w cs sets rows wx) (a : Option Addr) (c : Nat) (s : List Int) (hp : (a, c, s) ∈ sets) : ∀ q o sp, a = some ⟨q, o, sp⟩ → 0 < s.length → q < wx.heap.size := fun q o sp e hl => by
  obtain ⟨b', off', e', hc⟩ := (h.sets _ hp).1.at hl
  have e'' : a = some ⟨b', off', none⟩ := e'
  rw [e] at e''
  cases e''
  exact lt_of_cell hc
structure KeyW (P : Prop) : Prop where
  out : P
/-- What many ways come to is shown once: P is found by the first way. -/
theorem merge {P Q : Prop} (h : KeyW P → Q) (p : P) : Q := h ⟨p⟩
theorem once_no (w : World) (a0 : Option Addr) (n0 c0 : Nat) (t : Int) (h : 60 < n0) (m0 : n0 ≤ 9223372036854775807) : Calls Try.prog 7 #[.slice a0 n0 c0, .int .u8 t] w fun e w' => e = .returned (.bool true) ∧ Below w.heap.size w w' := by
  have g0 : (60 : Int) < n0 := by omega
  go_enter Try.func7, Try.ntmps7
  go_wp2_with (first | (go_at_call 8; go_must ((with_reducible refine (works5_any _).mono ?_); rintro e w1 ⟨rfl, hb1⟩)))
  go_ret
  exact ⟨rfl, hb1⟩
/-- What has been put together when k rounds are over. -/
def rot (l : List Int) (t k : Nat) : List Int := (List.range k).map fun i => l.getD ((i + t) % l.length) 0
theorem rot_succ (l : List Int) (t k : Nat) : rot l t (k + 1) = rot l t k ++ [l.getD ((k + t) % l.length) 0] := by simp [rot, List.range_succ]
theorem rot_len (l : List Int) (t k : Nat) : (rot l t k).length = k := by simp [rot]
theorem rot_all (l : List Int) (t : Nat) (x : Int) : x ∈ rot l t l.length ↔ x ∈ l := by
  unfold rot
  rw [List.mem_map]
  constructor
  · rintro ⟨i, hi, rfl⟩
    have hi := List.mem_range.1 hi
    have hm : (i + t) % l.length < l.length := Nat.mod_lt _ (by omega)
    rw [List.getD_eq_getElem?_getD, List.getElem?_eq_getElem hm]
    exact List.getElem_mem hm
  · intro hx
    obtain ⟨j, hj, e⟩ := List.getElem_of_mem hx
    refine ⟨(j + (l.length - t % l.length)) % l.length, List.mem_range.2 (Nat.mod_lt _ (by omega)), ?_⟩
    have ht : t % l.length < l.length := Nat.mod_lt _ (by omega)
    have e1 : ((j + (l.length - t % l.length)) % l.length + t) % l.length = j := by
      have h2 := Nat.mod_add_div t l.length
      have h3 : l.length * (t / l.length + 1) = l.length * (t / l.length) + l.length := Nat.mul_succ _ _
      rw [Nat.mod_add_mod, show j + (l.length - t % l.length) + t = j + l.length * (t / l.length + 1) by omega, Nat.add_mul_mod_self_left, Nat.mod_eq_of_lt hj]
    rw [e1, List.getD_eq_getElem?_getD, List.getElem?_eq_getElem hj]
    exact e
def OnceR (w : World) (a : Option Addr) (c : Nat) (l : List Int) (t : Nat) (b5 b6 : Nat) (a5 : Option Addr) (c5 m5 : Nat) (kv : Value) (wr : World) : Prop :=
  ∃ (k m : Nat) (a6 : Option Addr) (c6 : Nat), k ≤ l.length ∧ kv = .int .i64 (k : Int) ∧ Hid (m = (setL ltI (rot l t k)).length) ∧ Hid (∀ q o sp, a6 = some ⟨q, o, sp⟩ → 0 < m → q ≠ b6) ∧
    Hid (Env w [(b5, .slice a5 m5 c5), (b6, .slice a6 m c6)] [(a6, c6, setL ltI (rot l t k)), (a5, c5, setL ltI l)] [(a, c, l)] wr)
set_option maxRecDepth 20000 in
set_option maxHeartbeats 2000000 in
theorem walk_sortedOnce (w : World) (a0 : Option Addr) (n0 c0 : Nat) (z0 : List Int) (h0 : Frame.IsRow .i64 w a0 n0 c0 z0) (t : Int) (ht : (Lit.int .u8 t).wf = true) :
    Calls Try.prog 7 #[.slice a0 n0 c0, .int .u8 t] w fun e w' => e = .returned (.bool true) ∧ Below w.heap.size w w' := by
  have m0 := h0.cap
  by_cases hb : 60 < n0
  · exact once_no w a0 n0 c0 t hb (by omega)
  obtain ⟨l, e0, r0⟩ := row_of1 h0 (by omega)
  have hbt := bounds_u8 ht
  obtain ⟨tn, rfl⟩ : ∃ tn : Nat, t = tn := ⟨t.toNat, by omega⟩
  have g0 : ¬ (60 : Int) < n0 := by omega
  have hblk : ∀ b o sp, a0 = some ⟨b, o, sp⟩ → 0 < l.length → b < w.heap.size := fun b o sp e hp => by
    obtain ⟨b', off', e', hc⟩ := r0.at hp
    rw [e] at e'
    cases e'
    exact lt_of_cell hc
  have HBL := hide hblk
  have HN := hide e0
  have H0 : Hid (Env w [] [] [(a0, c0, l)] w) := (Env.start w).row r0 (by show l.length ≤ _; omega)
  have C0 := hide (ofD (a := a0) (c := c0) (n := n0) (s := setL ltI l) H0 (by simp) HN rfl)
  have hsl := setL_length (lt := ltI) l
  have HSL : Hid ((setL ltI l).length ≤ 60) := hide (by omega)
  clear h0 m0 e0 r0 hblk ht hsl
  go_enter Try.func7, Try.ntmps7
  go_wp2_with (first
    | (go_at_call 9; (with_reducible refine (Hid.out C0).mono ?_); go_must (clear C0; rintro e w1 ⟨a5, c5, m5, rfl, hm5, hf5, H1⟩; have H2 : Hid (Env w [] [(a5, c5, setL ltI l)] [(none, 0, []), (a0, c0, l)] w1) := hide (H1.out.row ⟨by simp, ⟨by simp, by simp⟩, fun _ => rfl⟩ (by simp)); have C1 := hide (ofD (a := none) (c := 0) (n := 0) (l := []) (s := []) H2 (by simp) rfl rfl)))
    | (go_at_call 9; (with_reducible refine (Hid.out C1).mono ?_); go_must (clear C1; rintro e w2 ⟨a6, c6, m6, rfl, hm6, hf6, H3⟩; obtain rfl : m6 = 0 := hm6.out)))
  have HA5 : Hid (∀ q o sp, a5 = some ⟨q, o, sp⟩ → 0 < (setL ltI l).length → q < w2.heap.size) := fun q o sp e hp => by
    obtain ⟨b', off', e', hc⟩ := (H3.out.sets (a5, c5, setL ltI l) (by simp)).1.at hp
    have e'' : a5 = some ⟨b', off', none⟩ := e'
    rw [e] at e''
    cases e''
    exact lt_of_cell hc
  have HZW := hide H3.out.below.size
  have HS0 : Hid (OnceR w a0 c0 l tn w2.heap.size (w2.heap.size + 1) a5 c5 m5 (.int .i64 0) ((w2.alloc (.cells #[.slice a5 m5 c5] 25)).alloc (.cells #[.slice a6 0 c6] 25))) :=
    ⟨0, 0, a6, c6, by omega, rfl, rfl, fun _ _ _ _ h => by omega, ((H3.out.box (.slice a5 m5 c5) 25 rfl).box (b := w2.heap.size + 1) (.slice a6 0 c6) 25 (by simp)).sub (by simp) (by simp [rot, setL]) (by simp)⟩
  clear H1 H2 H3 hf6 hf5
  have hn60 : n0 ≤ 60 := by omega
  have hzw : w.heap.size ≤ w2.heap.size := HZW.out
  go_loopw [7] (fun kv wr => OnceR w a0 c0 l tn w2.heap.size (w2.heap.size + 1) a5 c5 m5 kv wr) (fun kv _ => n0 - (intOf kv).toNat)
  case atStart => exact HS0.out
  case round =>
    obtain ⟨k, m, a6, c6, hk, rfl, hm, hap, hE⟩ := hrel
    rw [← HN.out] at hk
    have k5 := hE.out.cell (b := w2.heap.size) (v := .slice a5 m5 c5) (by simp)
    have k6 := hE.out.cell (b := w2.heap.size + 1) (v := .slice a6 m c6) (by simp)
    have f6 := hE.out.frozen (b := w2.heap.size + 1) (v := .slice a6 m c6) (by simp)
    have z6 := hE.out.lt (b := w2.heap.size + 1) (v := .slice a6 m c6) (by simp)
    by_cases hlt : k < n0
    · have hnp : 0 < n0 := by omega
      have hjl : (k + tn) % n0 < n0 := Nat.mod_lt _ hnp
      obtain ⟨b1, o1, rfl, hc1, hw1⟩ := hE.out.elem (a := a0) (c := c0) (l := l) (by simp) (i := k) (by rw [← HN.out]; exact hlt)
      obtain ⟨b1', o1', e1, hc2, hw2⟩ := hE.out.elem (a := some ⟨b1, o1, none⟩) (c := c0) (l := l) (by simp) (i := (k + tn) % n0) (by rw [← HN.out]; exact hjl)
      cases e1
      have HR : Hid (rot l tn (k + 1) = rot l tn k ++ [l.getD ((k + tn) % n0) 0]) := by rw [HN.out]; exact rot_succ l tn k
      obtain ⟨j, hj⟩ : ∃ j, j = (k + tn) % n0 := ⟨_, rfl⟩
      rw [← hj] at hc2 hw2 HR hjl
      obtain ⟨y, hy⟩ : ∃ y, y = l.getD k 0 := ⟨_, rfl⟩
      obtain ⟨x, hx⟩ : ∃ x, x = l.getD j 0 := ⟨_, rfl⟩
      rw [← hy] at hc1 hw1
      rw [← hx] at hc2 hw2 HR
      have hjI : ((k : Int) + (tn : Int)).tmod (n0 : Int) = (j : Int) := by
        rw [Int.tmod_eq_emod_of_nonneg (by omega), hj]
        push_cast
        rfl
      have hjE : ((k : Int) + (tn : Int)) % (n0 : Int) = (j : Int) := by
        rw [hj]
        push_cast
        rfl
      clear hj hy hx
      have HL1 := lay1 wr.heap.size x 3 hE rfl hw2
      have HU : Hid (setL ltI (setL ltI (rot l tn k) ++ [x]) = setL ltI (rot l tn (k + 1))) := by rw [HR.out]; exact setL_congr totI fun z => by simp [mem_setL totI]
      have HUL : Hid ((setL ltI (rot l tn (k + 1))).length ≤ 100000) := hide (by have := setL_length (lt := ltI) (rot l tn (k + 1)); rw [rot_len] at this; omega)
      have hn0 : ¬ ((n0 : Int) = 0) := by omega
      have hbw1 : b1 < w.heap.size := HBL.out b1 o1 none rfl (by rw [← HN.out]; exact hnp)
      go_wp2
      apply merge
      · intro key
        go_region_with (first | (go_at_call 13; (refine (withD (a2 := a6) (c2 := c6) (n2 := m) (s := setL ltI (rot l tn k)) (a := some ⟨wr.heap.size, 0, none⟩) (c := 1) (n := 1) (l := [x]) (hide (HL1.out.keep (by repeat (first | exact Below.refl _ _ | apply Below.drew)))) (by simp) (by simp) hm rfl HU HUL).mono ?_); rintro e w4 ⟨a7, c7, m7, rfl, hm7, hf7, H4⟩; have k64 := H4.out.cell (b := w2.heap.size + 1) (v := .slice a6 m c6) (by simp); have f64 := H4.out.frozen (b := w2.heap.size + 1) (v := .slice a6 m c6) (by simp)))
        all_goals (
          have hq : Hid (∀ q o sp, a7 = some ⟨q, o, sp⟩ → 0 < m7 → q ≠ w2.heap.size + 1) := fun q o sp e hp => by
            have := hf7.out q o sp m7 c7 (by rw [e]) hp
            simp at this
            omega
          have H5 : Hid (Env w [(w2.heap.size, .slice a5 m5 c5), (w2.heap.size + 1, .slice a7 m7 c7)] [(a7, c7, setL ltI (rot l tn (k + 1))), (a5, c5, setL ltI l)] [(some ⟨b1, o1, none⟩, c0, l)] (w4.setCell ⟨w2.heap.size + 1, 0, none⟩ (.slice a7 m7 c7))) := by
            refine H4.out.put (w2.heap.size + 1) (.slice a7 m7 c7) (by omega) (v0 := .slice a6 m c6) (by simp) (by simp) ?_ ?_
            · intro p hp
              rcases List.mem_cons.1 hp with rfl | hp
              · exact ⟨by simp, fun q o sp e hp => hq.out q o sp e (by rw [hm7.out]; exact hp)⟩
              · obtain rfl := List.mem_singleton.1 hp
                exact ⟨by simp, fun q o sp e hp => by have := HA5.out q o sp e hp; omega⟩
            · intro p hp
              obtain rfl := List.mem_singleton.1 hp
              exact ⟨by simp, fun q o sp e hp => by cases e; omega⟩
          clear hf7 H4 k64 f64
          generalize w4.setCell ⟨w2.heap.size + 1, 0, none⟩ (.slice a7 m7 c7) = W at H5 ⊢
          clear w4
          revert W a7 c7 m7
          exact key.out)
      intro a7 c7 m7 hm7 hq W H5
      clear HL1 HU k5 k6 f6 z6 hE hap hm hc1 hc2
      obtain ⟨b1', o1', e1, hcy, hwy⟩ := H5.out.elem (a := some ⟨b1, o1, none⟩) (c := c0) (l := l) (by simp) (i := k) (by rw [← HN.out]; exact hlt)
      cases e1
      have k6 := H5.out.cell (b := w2.heap.size + 1) (v := .slice a7 m7 c7) (by simp)
      have z6 := H5.out.lt (b := w2.heap.size + 1) (v := .slice a7 m7 c7) (by simp)
      obtain ⟨y, hy⟩ : ∃ y, y = l.getD k 0 := ⟨_, rfl⟩
      rw [← hy] at hcy hwy
      clear hy
      have HS1 : Hid (setL ltI [y] = [y]) := rfl
      have HU1 : Hid (setL ltI ([y] ++ setL ltI (rot l tn (k + 1))) = setL ltI (y :: rot l tn (k + 1))) := hide (setL_congr totI fun z => by simp [mem_setL totI])
      have HUL1 : Hid ((setL ltI (y :: rot l tn (k + 1))).length ≤ 100000) := hide (by have := setL_length (lt := ltI) (y :: rot l tn (k + 1)); rw [List.length_cons, rot_len] at this; omega)
      have HY1 := lay1 W.heap.size y 3 H5 rfl hwy
      have HY2 := lay1 (W.heap.size + 1) y 3 (box1 W.heap.size (.slice none 0 0) 25 H5 rfl) (by simp) hwy
      have HY3 := box1 (W.heap.size + 1) (.slice none 0 0) 25 HY1 (by simp)
      replace HY1 := hide HY1.out.drew
      replace HY2 := hide HY2.out.drew
      replace HY3 := hide HY3.out.drew
      have CO1 := hide (ofD (a := some ⟨W.heap.size, 0, none⟩) (c := 1) (n := 1) (l := [y]) (s := [y]) HY1 (by simp) rfl HS1)
      have CO2 := hide (ofD (a := some ⟨W.heap.size + 1, 0, none⟩) (c := 1) (n := 1) (l := [y]) (s := [y]) HY2 (by simp) rfl HS1)
      have CO3 := hide (ofD (a := some ⟨W.heap.size, 0, none⟩) (c := 1) (n := 1) (l := [y]) (s := [y]) HY3 (by simp) rfl HS1)
      go_wp2
      apply merge
      · intro key
        go_region_held3 (fun w' => w'.cell? ⟨b1, o1 + k, none⟩ = some (.int .i64 y) ∧ w'.cell? ⟨w2.heap.size + 1, 0, none⟩ = some (.slice a7 m7 c7)) (first | exact ⟨by assumption, by assumption⟩ | go_keep | (refine ⟨(World.cell?_setCell_far _ _ _ _ ?_).trans (by assumption), (World.cell?_setCell_far _ _ _ _ ?_).trans (by assumption)⟩ <;> (dsimp only; omega)))
          (first
            | (go_at_call 9; (with_reducible refine (Hid.out CO1).mono ?_); rintro e w5 ⟨a8, c8, m8, rfl, hm8, hf8, H6⟩; have hc5 : w5.cell? ⟨b1, o1 + k, none⟩ = some (.int .i64 y) := ((H6.out.below.cell (p := ⟨b1, o1 + k, none⟩) hbw1).trans (H5.out.below.cell (p := ⟨b1, o1 + k, none⟩) hbw1).symm).trans hcy; have k65 := H6.out.cell (b := w2.heap.size + 1) (v := .slice a7 m7 c7) (by simp); have z65 := H6.out.lt (b := w2.heap.size + 1) (v := .slice a7 m7 c7) (by simp); have CR1 := hide (orD (a := a8) (c := c8) (n := m8) (s := [y]) (a2 := a7) (c2 := c7) (n2 := m7) (t := setL ltI (rot l tn (k + 1))) H6 (by simp) (by simp) hm8 hm7 HU1 HUL1); have H6b := box1 w5.heap.size (.slice none 0 0) 25 H6 rfl; have CR2 := hide (orD (a := a8) (c := c8) (n := m8) (s := [y]) (a2 := a7) (c2 := c7) (n2 := m7) (t := setL ltI (rot l tn (k + 1))) H6b (by simp) (by simp) hm8 hm7 HU1 HUL1))
            | (go_at_call 9; (with_reducible refine (Hid.out CO2).mono ?_); rintro e w5 ⟨a8, c8, m8, rfl, hm8, hf8, H6⟩; have hc5 : w5.cell? ⟨b1, o1 + k, none⟩ = some (.int .i64 y) := ((H6.out.below.cell (p := ⟨b1, o1 + k, none⟩) hbw1).trans (H5.out.below.cell (p := ⟨b1, o1 + k, none⟩) hbw1).symm).trans hcy; have k65 := H6.out.cell (b := w2.heap.size + 1) (v := .slice a7 m7 c7) (by simp); have z65 := H6.out.lt (b := w2.heap.size + 1) (v := .slice a7 m7 c7) (by simp); have CR3 := hide (orD (a := a8) (c := c8) (n := m8) (s := [y]) (a2 := a7) (c2 := c7) (n2 := m7) (t := setL ltI (rot l tn (k + 1))) H6 (by simp) (by simp) hm8 hm7 HU1 HUL1); have k85 := H6.out.cell (b := W.heap.size) (v := .slice none 0 0) (by simp); have f85 := H6.out.frozen (b := W.heap.size) (v := .slice none 0 0) (by simp))
            | (go_at_call 9; (with_reducible refine (Hid.out CO3).mono ?_); rintro e w5 ⟨a8, c8, m8, rfl, hm8, hf8, H6⟩; have hc5 : w5.cell? ⟨b1, o1 + k, none⟩ = some (.int .i64 y) := ((H6.out.below.cell (p := ⟨b1, o1 + k, none⟩) hbw1).trans (H5.out.below.cell (p := ⟨b1, o1 + k, none⟩) hbw1).symm).trans hcy; have k65 := H6.out.cell (b := w2.heap.size + 1) (v := .slice a7 m7 c7) (by simp); have z65 := H6.out.lt (b := w2.heap.size + 1) (v := .slice a7 m7 c7) (by simp); have CR4 := hide (orD (a := a8) (c := c8) (n := m8) (s := [y]) (a2 := a7) (c2 := c7) (n2 := m7) (t := setL ltI (rot l tn (k + 1))) H6 (by simp) (by simp) hm8 hm7 HU1 HUL1); have k85 := H6.out.cell (b := W.heap.size + 1) (v := .slice none 0 0) (by simp); have f85 := H6.out.frozen (b := W.heap.size + 1) (v := .slice none 0 0) (by simp))
            | (go_at_call 10; (with_reducible refine (Hid.out CR1).mono ?_); rintro e w6 ⟨a9, c9, m9, rfl, hm9, hf9, H7⟩; have hc6 : w6.cell? ⟨b1, o1 + k, none⟩ = some (.int .i64 y) := ((H7.out.below.cell (p := ⟨b1, o1 + k, none⟩) hbw1).trans (H5.out.below.cell (p := ⟨b1, o1 + k, none⟩) hbw1).symm).trans hcy; have k66 := H7.out.cell (b := w2.heap.size + 1) (v := .slice a7 m7 c7) (by simp); have z66 := H7.out.lt (b := w2.heap.size + 1) (v := .slice a7 m7 c7) (by simp); skip)
            | (go_at_call 10; (with_reducible refine (Hid.out CR2).mono ?_); rintro e w6 ⟨a9, c9, m9, rfl, hm9, hf9, H7⟩; have hc6 : w6.cell? ⟨b1, o1 + k, none⟩ = some (.int .i64 y) := ((H7.out.below.cell (p := ⟨b1, o1 + k, none⟩) hbw1).trans (H5.out.below.cell (p := ⟨b1, o1 + k, none⟩) hbw1).symm).trans hcy; have k66 := H7.out.cell (b := w2.heap.size + 1) (v := .slice a7 m7 c7) (by simp); have z66 := H7.out.lt (b := w2.heap.size + 1) (v := .slice a7 m7 c7) (by simp); have k86 := H7.out.cell (b := w5.heap.size) (v := .slice none 0 0) (by simp); have f86 := H7.out.frozen (b := w5.heap.size) (v := .slice none 0 0) (by simp))
            | (go_at_call 10; (with_reducible refine (Hid.out CR3).mono ?_); rintro e w6 ⟨a9, c9, m9, rfl, hm9, hf9, H7⟩; have hc6 : w6.cell? ⟨b1, o1 + k, none⟩ = some (.int .i64 y) := ((H7.out.below.cell (p := ⟨b1, o1 + k, none⟩) hbw1).trans (H5.out.below.cell (p := ⟨b1, o1 + k, none⟩) hbw1).symm).trans hcy; have k66 := H7.out.cell (b := w2.heap.size + 1) (v := .slice a7 m7 c7) (by simp); have z66 := H7.out.lt (b := w2.heap.size + 1) (v := .slice a7 m7 c7) (by simp); have k86 := H7.out.cell (b := W.heap.size) (v := .slice none 0 0) (by simp); have f86 := H7.out.frozen (b := W.heap.size) (v := .slice none 0 0) (by simp))
            | (go_at_call 10; (with_reducible refine (Hid.out CR4).mono ?_); rintro e w6 ⟨a9, c9, m9, rfl, hm9, hf9, H7⟩; have hc6 : w6.cell? ⟨b1, o1 + k, none⟩ = some (.int .i64 y) := ((H7.out.below.cell (p := ⟨b1, o1 + k, none⟩) hbw1).trans (H5.out.below.cell (p := ⟨b1, o1 + k, none⟩) hbw1).symm).trans hcy; have k66 := H7.out.cell (b := w2.heap.size + 1) (v := .slice a7 m7 c7) (by simp); have z66 := H7.out.lt (b := w2.heap.size + 1) (v := .slice a7 m7 c7) (by simp); have k86 := H7.out.cell (b := W.heap.size + 1) (v := .slice none 0 0) (by simp); have f86 := H7.out.frozen (b := W.heap.size + 1) (v := .slice none 0 0) (by simp)))
        · have H8 : Hid (Env w [(w6.heap.size, .slice a9 m9 c9), (w2.heap.size, .slice a5 m5 c5), (w2.heap.size + 1, .slice a7 m7 c7)] [(a9, c9, setL ltI (y :: rot l tn (k + 1))), (a7, c7, setL ltI (rot l tn (k + 1))), (a5, c5, setL ltI l)] [(some ⟨b1, o1, none⟩, c0, l)] (w6.alloc (.cells #[.slice a9 m9 c9] 25))) := hide ((H7.out.box (.slice a9 m9 c9) 25 rfl).sub (by simp) (by simp) (by simp))
          rename_i hHd
          clear hHd
          try clear k86
          try clear f86
          try clear k85
          try clear f85
          try clear z65
          try clear z66
          try clear k65
          try clear k66
          try clear hc5
          try clear hc6
          try clear hm8
          try clear hf8
          try clear hf9
          try clear CR1
          try clear CR2
          try clear CR3
          try clear CR4
          try clear H6b
          try clear H7
          try clear H6
          generalize (w6.alloc (.cells #[.slice a9 m9 c9] 25)) = Wn at H8 ⊢
          generalize w6.heap.size = B8 at H8 ⊢
          clear w6 w5
          generalize W.heap.size = BY
          revert H8; revert hm9; revert Wn; revert BY; revert B8; revert m9; revert c9; revert a9; revert m8; revert c8; revert a8
          exact key.out
        · have H8 : Hid (Env w [(w5.heap.size, .slice a9 m9 c9), (w2.heap.size, .slice a5 m5 c5), (w2.heap.size + 1, .slice a7 m7 c7)] [(a9, c9, setL ltI (y :: rot l tn (k + 1))), (a7, c7, setL ltI (rot l tn (k + 1))), (a5, c5, setL ltI l)] [(some ⟨b1, o1, none⟩, c0, l)] (w6.setCell ⟨w5.heap.size, 0, none⟩ (.slice a9 m9 c9))) := by
            have g7 := Env.lts H6.out a7 c7 (setL ltI (rot l tn (k + 1))) (by simp)
            have g5 := Env.lts H6.out a5 c5 (setL ltI l) (by simp)
            have hw1 := H6.out.below.size
            have hw2 := z65
            have g9 : ∀ q o sp, a9 = some ⟨q, o, sp⟩ → 0 < (setL ltI (y :: rot l tn (k + 1))).length → q ≠ w5.heap.size := fun q o sp e hp => by
              have := hf9.out q o sp m9 c9 (by rw [e]) (by rw [hm9.out]; exact hp)
              try simp at this
              omega
            refine H7.out.put (w5.heap.size) (.slice a9 m9 c9) (by omega) (v0 := .slice none 0 0) (by simp) ?_ ?_ ?_
            · intro p hp
              rcases List.mem_cons.1 hp with rfl | hp
              · exact Or.inl rfl
              rcases List.mem_cons.1 hp with rfl | hp
              · exact Or.inr ⟨by simp, by dsimp only; omega⟩
              · obtain rfl := List.mem_singleton.1 hp
                exact Or.inr ⟨by simp, by dsimp only; omega⟩
            · intro p hp
              rcases List.mem_cons.1 hp with rfl | hp
              · exact ⟨by simp, fun q o sp e hp => g9 q o sp e hp⟩
              rcases List.mem_cons.1 hp with rfl | hp
              · exact ⟨by simp, fun q o sp e hp => by have := g7 q o sp e hp; omega⟩
              · obtain rfl := List.mem_singleton.1 hp
                exact ⟨by simp, fun q o sp e hp => by have := g5 q o sp e hp; omega⟩
            · intro p hp
              obtain rfl := List.mem_singleton.1 hp
              exact ⟨by simp, fun q o sp e hp => by cases e; omega⟩
          rename_i hHd
          clear hHd
          try clear k86
          try clear f86
          try clear k85
          try clear f85
          try clear z65
          try clear z66
          try clear k65
          try clear k66
          try clear hc5
          try clear hc6
          try clear hm8
          try clear hf8
          try clear hf9
          try clear CR1
          try clear CR2
          try clear CR3
          try clear CR4
          try clear H6b
          try clear H7
          try clear H6
          generalize w6.setCell ⟨w5.heap.size, 0, none⟩ (.slice a9 m9 c9) = Wn at H8 ⊢
          generalize w5.heap.size = B8 at H8 ⊢
          clear w6 w5
          generalize W.heap.size = BY
          revert H8; revert hm9; revert Wn; revert BY; revert B8; revert m9; revert c9; revert a9; revert m8; revert c8; revert a8
          exact key.out
        · have H8 : Hid (Env w [(W.heap.size + 1, .slice a9 m9 c9), (w2.heap.size, .slice a5 m5 c5), (w2.heap.size + 1, .slice a7 m7 c7)] [(a9, c9, setL ltI (y :: rot l tn (k + 1))), (a7, c7, setL ltI (rot l tn (k + 1))), (a5, c5, setL ltI l)] [(some ⟨b1, o1, none⟩, c0, l)] (w6.setCell ⟨W.heap.size + 1, 0, none⟩ (.slice a9 m9 c9))) := by
            have g7 := Env.lts H5.out a7 c7 (setL ltI (rot l tn (k + 1))) (by simp)
            have g5 := Env.lts H5.out a5 c5 (setL ltI l) (by simp)
            have hw2 := z6
            have hw3 := H6.out.lt (b := W.heap.size + 1) (v := .slice none 0 0) (by simp)
            have g9 : ∀ q o sp, a9 = some ⟨q, o, sp⟩ → 0 < (setL ltI (y :: rot l tn (k + 1))).length → q ≠ W.heap.size + 1 := fun q o sp e hp => by
              have := hf9.out q o sp m9 c9 (by rw [e]) (by rw [hm9.out]; exact hp)
              try simp at this
              omega
            refine H7.out.put (W.heap.size + 1) (.slice a9 m9 c9) (by omega) (v0 := .slice none 0 0) (by simp) ?_ ?_ ?_
            · intro p hp
              rcases List.mem_cons.1 hp with rfl | hp
              · exact Or.inl rfl
              rcases List.mem_cons.1 hp with rfl | hp
              · exact Or.inr ⟨by simp, by dsimp only; omega⟩
              · obtain rfl := List.mem_singleton.1 hp
                exact Or.inr ⟨by simp, by dsimp only; omega⟩
            · intro p hp
              rcases List.mem_cons.1 hp with rfl | hp
              · exact ⟨by simp, fun q o sp e hp => g9 q o sp e hp⟩
              rcases List.mem_cons.1 hp with rfl | hp
              · exact ⟨by simp, fun q o sp e hp => by have := g7 q o sp e hp; omega⟩
              · obtain rfl := List.mem_singleton.1 hp
                exact ⟨by simp, fun q o sp e hp => by have := g5 q o sp e hp; omega⟩
            · intro p hp
              obtain rfl := List.mem_singleton.1 hp
              exact ⟨by simp, fun q o sp e hp => by cases e; omega⟩
          rename_i hHd
          clear hHd
          try clear k86
          try clear f86
          try clear k85
          try clear f85
          try clear z65
          try clear z66
          try clear k65
          try clear k66
          try clear hc5
          try clear hc6
          try clear hm8
          try clear hf8
          try clear hf9
          try clear CR1
          try clear CR2
          try clear CR3
          try clear CR4
          try clear H6b
          try clear H7
          try clear H6
          generalize w6.setCell ⟨W.heap.size + 1, 0, none⟩ (.slice a9 m9 c9) = Wn at H8 ⊢
          generalize W.heap.size + 1 = B8 at H8 ⊢
          clear w6 w5
          generalize W.heap.size = BY
          revert H8; revert hm9; revert Wn; revert BY; revert B8; revert m9; revert c9; revert a9; revert m8; revert c8; revert a8
          exact key.out
        · have H8 : Hid (Env w [(W.heap.size, .slice a9 m9 c9), (w2.heap.size, .slice a5 m5 c5), (w2.heap.size + 1, .slice a7 m7 c7)] [(a9, c9, setL ltI (y :: rot l tn (k + 1))), (a7, c7, setL ltI (rot l tn (k + 1))), (a5, c5, setL ltI l)] [(some ⟨b1, o1, none⟩, c0, l)] (w6.setCell ⟨W.heap.size, 0, none⟩ (.slice a9 m9 c9))) := by
            have g7 := Env.lts H5.out a7 c7 (setL ltI (rot l tn (k + 1))) (by simp)
            have g5 := Env.lts H5.out a5 c5 (setL ltI l) (by simp)
            have hw2 := z6
            have hw3 := H6.out.lt (b := W.heap.size) (v := .slice none 0 0) (by simp)
            have g9 : ∀ q o sp, a9 = some ⟨q, o, sp⟩ → 0 < (setL ltI (y :: rot l tn (k + 1))).length → q ≠ W.heap.size := fun q o sp e hp => by
              have := hf9.out q o sp m9 c9 (by rw [e]) (by rw [hm9.out]; exact hp)
              try simp at this
              omega
            refine H7.out.put (W.heap.size) (.slice a9 m9 c9) (by omega) (v0 := .slice none 0 0) (by simp) ?_ ?_ ?_
            · intro p hp
              rcases List.mem_cons.1 hp with rfl | hp
              · exact Or.inl rfl
              rcases List.mem_cons.1 hp with rfl | hp
              · exact Or.inr ⟨by simp, by dsimp only; omega⟩
              · obtain rfl := List.mem_singleton.1 hp
                exact Or.inr ⟨by simp, by dsimp only; omega⟩
            · intro p hp
              rcases List.mem_cons.1 hp with rfl | hp
              · exact ⟨by simp, fun q o sp e hp => g9 q o sp e hp⟩
              rcases List.mem_cons.1 hp with rfl | hp
              · exact ⟨by simp, fun q o sp e hp => by have := g7 q o sp e hp; omega⟩
              · obtain rfl := List.mem_singleton.1 hp
                exact ⟨by simp, fun q o sp e hp => by have := g5 q o sp e hp; omega⟩
            · intro p hp
              obtain rfl := List.mem_singleton.1 hp
              exact ⟨by simp, fun q o sp e hp => by cases e; omega⟩
          rename_i hHd
          clear hHd
          try clear k86
          try clear f86
          try clear k85
          try clear f85
          try clear z65
          try clear z66
          try clear k65
          try clear k66
          try clear hc5
          try clear hc6
          try clear hm8
          try clear hf8
          try clear hf9
          try clear CR1
          try clear CR2
          try clear CR3
          try clear CR4
          try clear H6b
          try clear H7
          try clear H6
          generalize w6.setCell ⟨W.heap.size, 0, none⟩ (.slice a9 m9 c9) = Wn at H8 ⊢
          clear w6 w5
          generalize W.heap.size + 1 = BY
          generalize W.heap.size = B8 at H8 ⊢
          revert H8; revert hm9; revert Wn; revert BY; revert B8; revert m9; revert c9; revert a9; revert m8; revert c8; revert a8
          exact key.out
      intro a8 c8 m8 a9 c9 m9 B8 BY Wn hm9 H8
      have hcz : Wn.cell? ⟨b1, o1 + k, none⟩ = some (.int .i64 y) := ((H8.out.below.cell (p := ⟨b1, o1 + k, none⟩) hbw1).trans (H5.out.below.cell (p := ⟨b1, o1 + k, none⟩) hbw1).symm).trans hcy
      clear CO1 CO2 CO3 HY1 HY2 HY3 k6 z6
      have k6 := H8.out.cell (b := w2.heap.size + 1) (v := .slice a7 m7 c7) (by simp)
      have k8 := H8.out.cell (b := B8) (v := .slice a9 m9 c9) (by simp)
      clear hcy
      have HU9 : Hid (setL ltI (setL ltI (rot l tn (k + 1)) ++ [y]) = setL ltI (y :: rot l tn (k + 1))) := hide (setL_congr totI fun z => by simp [mem_setL totI, or_comm])
      have HSF : Hid ((cmpL ltI (setL ltI (y :: rot l tn (k + 1))) (setL ltI (y :: rot l tn (k + 1))) == 0) = true) := hide (by rw [cmpL_self totI]; rfl)
      have CL1 := hide (listD (a := a9) (c := c9) (n := m9) (s := setL ltI (y :: rot l tn (k + 1))) (hide (lay1 Wn.heap.size y 3 H8 rfl hwy).out.drew) (by simp) hm9)
      have CL2 := hide (listD (a := a9) (c := c9) (n := m9) (s := setL ltI (y :: rot l tn (k + 1))) (hide H8.out.drew) (by simp) hm9)
      go_wp2
      go_region_held3 (fun w' => w'.cell? ⟨b1, o1 + k, none⟩ = some (.int .i64 y) ∧ w'.cell? ⟨w2.heap.size + 1, 0, none⟩ = some (.slice a7 m7 c7) ∧ w'.cell? ⟨B8, 0, none⟩ = some (.slice a9 m9 c9)) (first | exact ⟨by assumption, by assumption, by assumption⟩ | go_keep)
        (first
          | (go_at_call 15; (with_reducible refine (Hid.out CL1).mono ?_); rintro e w7 ⟨a10, c10, rfl, H9⟩; have hcw7 : w7.cell? ⟨b1, o1 + k, none⟩ = some (.int .i64 y) := ((H9.out.below.cell (p := ⟨b1, o1 + k, none⟩) hbw1).trans (H8.out.below.cell (p := ⟨b1, o1 + k, none⟩) hbw1).symm).trans hcz; have k6w7 := H9.out.cell (b := w2.heap.size + 1) (v := .slice a7 m7 c7) (by simp); have k8w7 := H9.out.cell (b := B8) (v := .slice a9 m9 c9) (by simp); have CW1 := hide (withD (a2 := a7) (c2 := c7) (n2 := m7) (s := setL ltI (rot l tn (k + 1))) (a := some ⟨Wn.heap.size, 0, none⟩) (c := 1) (n := 1) (l := [y]) H9 (by simp) (by simp) hm7 rfl HU9 HUL1))
          | (go_at_call 15; (with_reducible refine (Hid.out CL2).mono ?_); rintro e w7 ⟨a10, c10, rfl, H9⟩; have hcw7 : w7.cell? ⟨b1, o1 + k, none⟩ = some (.int .i64 y) := ((H9.out.below.cell (p := ⟨b1, o1 + k, none⟩) hbw1).trans (H8.out.below.cell (p := ⟨b1, o1 + k, none⟩) hbw1).symm).trans hcz; have k6w7 := H9.out.cell (b := w2.heap.size + 1) (v := .slice a7 m7 c7) (by simp); have k8w7 := H9.out.cell (b := B8) (v := .slice a9 m9 c9) (by simp); have HZ2 := lay1 w7.heap.size y 3 H9 rfl hwy; have CW2 := hide (withD (a2 := a7) (c2 := c7) (n2 := m7) (s := setL ltI (rot l tn (k + 1))) (a := some ⟨w7.heap.size, 0, none⟩) (c := 1) (n := 1) (l := [y]) HZ2 (by simp) (by simp) hm7 rfl HU9 HUL1))
          | (go_at_call 13; (with_reducible refine (Hid.out CW1).mono ?_); rintro e w8 ⟨a11, c11, m11, rfl, hm11, hf11, H10⟩; have hcw8 : w8.cell? ⟨b1, o1 + k, none⟩ = some (.int .i64 y) := ((H10.out.below.cell (p := ⟨b1, o1 + k, none⟩) hbw1).trans (H8.out.below.cell (p := ⟨b1, o1 + k, none⟩) hbw1).symm).trans hcz; have k6w8 := H10.out.cell (b := w2.heap.size + 1) (v := .slice a7 m7 c7) (by simp); have k8w8 := H10.out.cell (b := B8) (v := .slice a9 m9 c9) (by simp); have CL3 := hide (listD (a := a11) (c := c11) (n := m11) (s := setL ltI (y :: rot l tn (k + 1))) H10 (by simp) hm11))
          | (go_at_call 13; (with_reducible refine (Hid.out CW2).mono ?_); rintro e w8 ⟨a11, c11, m11, rfl, hm11, hf11, H10⟩; have hcw8 : w8.cell? ⟨b1, o1 + k, none⟩ = some (.int .i64 y) := ((H10.out.below.cell (p := ⟨b1, o1 + k, none⟩) hbw1).trans (H8.out.below.cell (p := ⟨b1, o1 + k, none⟩) hbw1).symm).trans hcz; have k6w8 := H10.out.cell (b := w2.heap.size + 1) (v := .slice a7 m7 c7) (by simp); have k8w8 := H10.out.cell (b := B8) (v := .slice a9 m9 c9) (by simp); have CL3 := hide (listD (a := a11) (c := c11) (n := m11) (s := setL ltI (y :: rot l tn (k + 1))) H10 (by simp) hm11))
          | (go_at_call 15; (with_reducible refine (Hid.out CL3).mono ?_); rintro e w9 ⟨a12, c12, rfl, H11⟩; have hcw9 : w9.cell? ⟨b1, o1 + k, none⟩ = some (.int .i64 y) := ((H11.out.below.cell (p := ⟨b1, o1 + k, none⟩) hbw1).trans (H8.out.below.cell (p := ⟨b1, o1 + k, none⟩) hbw1).symm).trans hcz; have k6w9 := H11.out.cell (b := w2.heap.size + 1) (v := .slice a7 m7 c7) (by simp); have k8w9 := H11.out.cell (b := B8) (v := .slice a9 m9 c9) (by simp); have CP := hide (psameD (a := a10) (c := c10) (n := m9) (l := setL ltI (y :: rot l tn (k + 1))) (a2 := a12) (c2 := c12) (n2 := m11) (k := setL ltI (y :: rot l tn (k + 1))) (r := true) H11 (by simp) (by simp) hm9 hm11 HSF))
          | (go_at_call 30; (with_reducible refine (Hid.out CP).mono ?_); rintro e w10 ⟨rfl, hw10⟩; replace hw10 := hw10.symm; subst hw10))
      all_goals go_wp2
      all_goals (
        refine ⟨⟨k + 1, m7, a7, c7, by rw [← HN.out]; omega, by push_cast; rfl, hm7, hq, H11.out.sub (by simp) (by simp) (by simp)⟩, ?_⟩
        show n0 - ((k : Int) + 1).toNat < n0 - (k : Int).toNat
        omega)
    · obtain rfl : k = n0 := by omega
      have HEQ : setL ltI (rot l tn k) = setL ltI l := setL_congr totI fun z => by rw [HN.out]; exact rot_all l tn z
      rw [HEQ] at hm hE
      obtain rfl : m5 = m := hm5.out.trans hm.out.symm
      have HSF : Hid ((cmpL ltI (setL ltI l) (setL ltI l) == 0) = true) := hide (by rw [cmpL_self totI]; rfl)
      have HM : Hid (partL (setL ltI l) false (setL ltI l) = []) := hide (by simp [partL])
      have HA : Hid (partL (setL ltI l) true (setL ltI l) = setL ltI l) := hide (by simp [partL])
      have CA1 := hide (listD (a := a5) (c := c5) (n := m5) (s := setL ltI l) (hide hE.out.drew) (by simp) hm5)
      clear f6 z6 hap hm
      go_wp2
      go_region_held3 (fun w' => w'.cell? ⟨w2.heap.size, 0, none⟩ = some (.slice a5 m5 c5) ∧ w'.cell? ⟨w2.heap.size + 1, 0, none⟩ = some (.slice a6 m5 c6)) (first | exact ⟨by assumption, by assumption⟩ | go_keep)
        (first
          | (go_at_call 15; (with_reducible refine (Hid.out CA1).mono ?_); rintro e x1 ⟨a20, c20, rfl, G1⟩; have k5x1 := G1.out.cell (b := w2.heap.size) (v := .slice a5 m5 c5) (by simp); have k6x1 := G1.out.cell (b := w2.heap.size + 1) (v := .slice a6 m5 c6) (by simp); have CA2 := hide (listD (a := a6) (c := c6) (n := m5) (s := setL ltI l) G1 (by simp) hm5))
          | (go_at_call 15; (with_reducible refine (Hid.out CA2).mono ?_); rintro e x2 ⟨a21, c21, rfl, G2⟩; have k5x2 := G2.out.cell (b := w2.heap.size) (v := .slice a5 m5 c5) (by simp); have k6x2 := G2.out.cell (b := w2.heap.size + 1) (v := .slice a6 m5 c6) (by simp); have CA3 := hide (psameD (a := a20) (c := c20) (n := m5) (l := setL ltI l) (a2 := a21) (c2 := c21) (n2 := m5) (k := setL ltI l) (r := true) G2 (by simp) (by simp) hm5 hm5 HSF))
          | (go_at_call 30; (with_reducible refine (Hid.out CA3).mono ?_); rintro e x3 ⟨rfl, hx3⟩; replace hx3 := hx3.symm; subst hx3; have CA4 := hide (lenD (a := a5) (c := c5) (n := m5) (s := setL ltI l) G2 (by simp) hm5))
          | (go_at_call 18; (with_reducible refine (Hid.out CA4).mono ?_); rintro e x4 ⟨rfl, G4⟩; have k5x4 := G4.out.cell (b := w2.heap.size) (v := .slice a5 m5 c5) (by simp); have k6x4 := G4.out.cell (b := w2.heap.size + 1) (v := .slice a6 m5 c6) (by simp); have CA5 := hide (lenD (a := a6) (c := c6) (n := m5) (s := setL ltI l) G4 (by simp) hm5))
          | (go_at_call 18; (with_reducible refine (Hid.out CA5).mono ?_); rintro e x5 ⟨rfl, G5⟩; have k5x5 := G5.out.cell (b := w2.heap.size) (v := .slice a5 m5 c5) (by simp); have k6x5 := G5.out.cell (b := w2.heap.size + 1) (v := .slice a6 m5 c6) (by simp); have CA6 := hide (minusD (a := a5) (c := c5) (n := m5) (s := setL ltI l) (a2 := a6) (c2 := c6) (n2 := m5) (t := setL ltI l) (u := []) G5 (by simp) (by simp) hm5 hm5 HM))
          | (go_at_call 12; (with_reducible refine (Hid.out CA6).mono ?_); rintro e x6 ⟨a22, c22, m22, rfl, hm22, hf22, G6⟩; have k5x6 := G6.out.cell (b := w2.heap.size) (v := .slice a5 m5 c5) (by simp); have k6x6 := G6.out.cell (b := w2.heap.size + 1) (v := .slice a6 m5 c6) (by simp); obtain rfl : m22 = 0 := hm22.out; have CA7 := hide (lenD (a := a22) (c := c22) (n := 0) (s := []) G6 (by simp) rfl))
          | (go_at_call 18; (with_reducible refine (Hid.out CA7).mono ?_); rintro e x7 ⟨rfl, G7⟩; have k5x7 := G7.out.cell (b := w2.heap.size) (v := .slice a5 m5 c5) (by simp); have k6x7 := G7.out.cell (b := w2.heap.size + 1) (v := .slice a6 m5 c6) (by simp); have CA8 := hide (andD (a := a5) (c := c5) (n := m5) (s := setL ltI l) (a2 := a6) (c2 := c6) (n2 := m5) (t := setL ltI l) (u := setL ltI l) G7 (by simp) (by simp) hm5 hm5 HA))
          | (go_at_call 11; (with_reducible refine (Hid.out CA8).mono ?_); rintro e x8 ⟨a23, c23, m23, rfl, hm23, hf23, G8⟩; have k5x8 := G8.out.cell (b := w2.heap.size) (v := .slice a5 m5 c5) (by simp); have k6x8 := G8.out.cell (b := w2.heap.size + 1) (v := .slice a6 m5 c6) (by simp); obtain rfl : m5 = m23 := hm5.out.trans hm23.out.symm; have CA9 := hide (lenD (a := a23) (c := c23) (n := m5) (s := setL ltI l) G8 (by simp) hm5))
          | (go_at_call 18; (with_reducible refine (Hid.out CA9).mono ?_); rintro e x9 ⟨rfl, G9⟩; have k5x9 := G9.out.cell (b := w2.heap.size) (v := .slice a5 m5 c5) (by simp); have k6x9 := G9.out.cell (b := w2.heap.size + 1) (v := .slice a6 m5 c6) (by simp); have CA10 := hide (lenD (a := a5) (c := c5) (n := m5) (s := setL ltI l) G9 (by simp) hm5))
          | (go_at_call 18; (with_reducible refine (Hid.out CA10).mono ?_); rintro e x10 ⟨rfl, G10⟩; have k5x10 := G10.out.cell (b := w2.heap.size) (v := .slice a5 m5 c5) (by simp); have k6x10 := G10.out.cell (b := w2.heap.size + 1) (v := .slice a6 m5 c6) (by simp); skip)
          | (go_at_call 8; (with_reducible refine (works5_any _).mono ?_); rintro e x11 ⟨rfl, hb11⟩; have G11 := hide (G10.out.keep hb11); have k5x11 := G11.out.cell (b := w2.heap.size) (v := .slice a5 m5 c5) (by simp); have k6x11 := G11.out.cell (b := w2.heap.size + 1) (v := .slice a6 m5 c6) (by simp)))
      go_wp2
      go_ret
      exact ⟨rfl, G11.out.below⟩
end Go.Proofs.Ytghdafgpdhbohaa.Walk
