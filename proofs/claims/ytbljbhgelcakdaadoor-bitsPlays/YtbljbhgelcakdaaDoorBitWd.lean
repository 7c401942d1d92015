/- The program's sets as they lie: a struct of the room and a row of words; New, Room, and the words' bits. -/
import Derived.Test.YtbljbhgelcakdaaDoorBitWords
import Derived.Test.YtbljbhgelcakdaaDoorBitRow
import Derived.Test.YtbljbhgelcakdaaDoorBitTz
import Derived.Deep.DeepMust
namespace Go.Proofs.YtbljbhgelcakdaaDoor.Bit
open Go.RowKit Go.Proofs.YtbljbhgelcakdaaDoor.Dig Go.Proofs.YtbljbhgelcakdaaDoor.Mem
set_option linter.unusedVariables false
set_option linter.unusedSimpArgs false

def u64s (ws : List Nat) : Array Value := (ws.map fun x : Nat => Value.int .u64 (x : Int)).toArray
theorem u64s_at {ws : List Nat} {i : Nat} (hi : i < ws.length) : (u64s ws)[i]? = some (.int .u64 ((ws.getD i 0 : Nat) : Int)) := by
  simp [u64s, List.getD_eq_getElem?_getD, List.getElem?_eq_getElem hi]
theorem u64s_set {ws : List Nat} {i x : Nat} : (u64s ws).setIfInBounds i (.int .u64 (x : Int)) = u64s (ws.set i x) := by
  apply Array.ext'
  simp [u64s, List.map_set]
/-- A set as it lies: its struct at b, its words at g. -/
structure Wd (w : World) (b g n c : Nat) (ws : List Nat) : Prop where
  box : Is w b #[.int .i64 (n : Int), .slice (some ⟨g, 0, none⟩) c c]
  row : Is w g (u64s ws)
  ne : b ≠ g
  le : n ≤ 65536
  len : c = ws.length
  cnt : c = (n + 63) / 64
  lt : ∀ i, i < c → ws.getD i 0 < 18446744073709551616
  tight : Tight n ws
theorem Wd.cells {w : World} {b g n c : Nat} {ws : List Nat} (h : Wd w b g n c ws) : w.cell? ⟨b, 0, none⟩ = some (.int .i64 (n : Int)) ∧ w.cell? ⟨b, 1, none⟩ = some (.slice (some ⟨g, 0, none⟩) c c) := ⟨h.box.cell 0 rfl, h.box.cell 1 rfl⟩
theorem Wd.word {w : World} {b g n c : Nat} {ws : List Nat} (h : Wd w b g n c ws) {i : Nat} (hi : i < c) : w.cell? ⟨g, i, none⟩ = some (.int .u64 ((ws.getD i 0 : Nat) : Int)) := h.row.cell i (u64s_at (by have := h.len; omega))
theorem Wd.keep {w w' : World} {b g n c : Nat} {ws : List Nat} (h : Wd w b g n c ws) {S : Nat → Prop} (ho : Only S w w') (h1 : ¬ S b) (h2 : ¬ S g) : Wd w' b g n c ws := ⟨h.box.keep ho h1, h.row.keep ho h2, h.ne, h.le, h.len, h.cnt, h.lt, h.tight⟩
theorem Wd.below {w w' : World} {b g n c : Nat} {ws : List Nat} (h : Wd w b g n c ws) (ho : Below w.heap.size w w') : Wd w' b g n c ws := h.keep (Only.of_below (S := fun _ => False) ho) (fun q => q) (fun q => q)
theorem Wd.bound {w : World} {b g n c : Nat} {ws : List Nat} (h : Wd w b g n c ws) : c ≤ 1024 := by have := h.cnt; have := h.le; omega
/-- A word is turned. -/
theorem Wd.set {w : World} {b g n c : Nat} {ws : List Nat} (h : Wd w b g n c ws) {i x : Nat} (hx : x < 18446744073709551616) (ht : Tight n (ws.set i x)) : Wd (w.setCell ⟨g, i, none⟩ (.int .u64 (x : Int))) b g n c (ws.set i x) :=
  ⟨h.box.other (Ne.symm h.ne) _, by have := h.row.set i (.int .u64 (x : Int)); rw [u64s_set] at this; exact this, h.ne, h.le, by rw [List.length_set]; exact h.len, h.cnt, fun j hj => by
    rw [List.getD_eq_getElem?_getD, List.getElem?_set]
    split
    · split
      · exact hx
      · simp
    · rw [← List.getD_eq_getElem?_getD]; exact h.lt j hj, ht⟩
/-- A set's truths. -/
def AtI (w : World) (p : Value) (F : Nat → Prop) (m : List Bool) : Prop :=
  (p = .pointer none ∧ m = [] ∧ F = fun _ => False) ∨ ∃ b g n c ws, p = .pointer (some ⟨b, 0, none⟩) ∧ Wd w b g n c ws ∧ m = bitsW n ws ∧ F = fun k => k = b ∨ k = g
theorem AtI.keep {w w' : World} {p : Value} {F : Nat → Prop} {m : List Bool} {S : Nat → Prop} (h : AtI w p F m) (ho : Only S w w') (hs : ∀ k, F k → ¬ S k) : AtI w' p F m := by
  rcases h with h | ⟨b, g, n, c, ws, rfl, h, rfl, rfl⟩
  · exact .inl h
  · exact .inr ⟨b, g, n, c, ws, rfl, h.keep ho (hs b (.inl rfl)) (hs g (.inr rfl)), rfl, rfl⟩
theorem Tryd.infoU64 : (Tryd.prog.info? 55).map (fun i => (i.zero, i.size, i.bytes)) = some (some (.int .u64 0), 1, 8) := by kernel_rfl
theorem mk_words (n : Nat) (hn : n ≤ 65536) : ∀ w : World, (Instr.makeSlice 52 (.int .i64 (n : Int)) (.int .i64 (n : Int))).run Tryd.prog w = .ok (.slice (some ⟨w.heap.size, 0, none⟩) n n) (w.alloc (.cells (u64s (List.replicate n 0)) 55)) := fun w => by
  obtain ⟨i0, hi, hz0, hz1, hz2⟩ := info_parts Tryd.infoU64
  have hr := run_makeSlice (P := Tryd.prog) w 52 55 i0 (.int .u64 0) Tryd.underlying52 hi hz0 .i64 .i64 (n : Int) (n : Int) (by omega) (Int.le_refl _) (by rw [hz1]; simp; omega) (by rw [hz2]; omega) (by omega)
  simp only [Int.toNat_natCast] at hr
  have e : madeCells (Value.int .u64 0).cells (n * i0.size) = u64s (List.replicate n 0) := by
    apply Array.ext'
    rw [hz1, Nat.mul_one, show (Value.int .u64 0).cells = #[.int .u64 0] from rfl, toList_madeCells_one]; simp [u64s]
  rw [e] at hr
  exact hr
theorem wd_new (w : World) (n c : Nat) (T : TypeId) (hn : n ≤ 65536) (hc : c = (n + 63) / 64) (U : TypeId) : Wd ((w.alloc (.cells (u64s (List.replicate c 0)) U)).alloc (.cells #[.int .i64 (n : Int), .slice (some ⟨w.heap.size, 0, none⟩) c c] T)) (w.heap.size + 1) w.heap.size n c (List.replicate c 0) :=
  ⟨Is.made _ _ T (by simp), (Is.made w _ U rfl).alloc _, by omega, hn, by simp, hc, fun i hi => by rw [List.getD_eq_getElem?_getD, List.getElem?_replicate]; split <;> simp, Tight.new n c⟩
theorem below2 (w : World) (o p : Obj) : Below w.heap.size w ((w.alloc o).alloc p) := ((Below.refl _ _).alloc (Nat.le_refl _) _).alloc (by simp) _
def NewP (k : Int) (w : World) (e : Ending) (w' : World) : Prop := ∃ n c, n = (max 0 (min k 65536)).toNat ∧ e = .returned (.pointer (some ⟨w.heap.size + 1, 0, none⟩)) ∧ Wd w' (w.heap.size + 1) w.heap.size n c (List.replicate c 0) ∧ Below w.heap.size w w'
theorem NewP.mk {k : Int} {w : World} {e : Ending} {w' : World} (n c : Nat) (h1 : n = (max 0 (min k 65536)).toNat) (h2 : e = .returned (.pointer (some ⟨w.heap.size + 1, 0, none⟩))) (h3 : Wd w' (w.heap.size + 1) w.heap.size n c (List.replicate c 0)) (h4 : Below w.heap.size w w') : NewP k w e w' := ⟨n, c, h1, h2, h3, h4⟩
set_option maxHeartbeats 1000000 in
theorem new_any (k : Int) (w : World) :
    Calls Tryd.prog 8 #[.int .i64 k] w (NewP k w) := by
  by_cases h1 : k < 0
  · have hmk : ∀ w : World, (Instr.makeSlice 52 (.int .i64 0) (.int .i64 0)).run Tryd.prog w = .ok (.slice (some ⟨w.heap.size, 0, none⟩) 0 0) (w.alloc (.cells (u64s (List.replicate 0 0)) 55)) := mk_words 0 (by omega)
    go_enter Tryd.func8, Tryd.ntmps8
    go_wp2
    go_ret
    exact .mk 0 0 (by omega) rfl (wd_new w 0 0 _ (by omega) (by omega) _) (below2 _ _ _)
  by_cases h2 : 65536 < k
  · obtain ⟨c, hc⟩ : ∃ c, c = 1024 := ⟨_, rfl⟩
    have hmk : ∀ w : World, (Instr.makeSlice 52 (.int .i64 1024) (.int .i64 1024)).run Tryd.prog w = .ok (.slice (some ⟨w.heap.size, 0, none⟩) 1024 1024) (w.alloc (.cells (u64s (List.replicate c 0)) 55)) := by rw [hc]; exact mk_words 1024 (by omega)
    have HC := hide hc
    clear hc
    go_enter Tryd.func8, Tryd.ntmps8
    go_wp2
    go_ret
    have HW := wd_new w 65536 c 54 (by omega) (by rw [HC.out]) 55
    rw [show (c : Nat) = 1024 from HC.out] at HW ⊢
    exact .mk 65536 1024 (by omega) rfl HW (below2 _ _ _)
  · obtain ⟨n, rfl⟩ : ∃ n : Nat, k = (n : Int) := ⟨k.toNat, by omega⟩
    obtain ⟨c, hc⟩ : ∃ c, c = (n + 63) / 64 := ⟨_, rfl⟩
    have g3 : ((n : Int) + 64 - 1) / 64 = (c : Int) := by omega
    have hmk := mk_words c (by omega)
    have HC := hide hc
    have hnn : ¬ 65536 < n := by omega
    clear hc
    go_enter Tryd.func8, Tryd.ntmps8
    go_wp2
    go_ret
    exact .mk n c (by omega) rfl (wd_new w n c _ (by omega) HC.out _) (below2 _ _ _)
/-- A set, and its room. -/
theorem room_wd {b g n c : Nat} {ws : List Nat} (w : World) (h : Wd w b g n c ws) : Calls Tryd.prog 12 #[.pointer (some ⟨b, 0, none⟩)] w fun e w' => e = .returned (.int .i64 (n : Int)) ∧ w' = w := by
  have h1 := h.cells.1
  clear h
  go_enter Tryd.func12, Tryd.ntmps12
  go_wp2
  go_ret
  exact ⟨rfl, rfl⟩
theorem room_nil (w : World) : Calls Tryd.prog 12 #[.pointer none] w fun e w' => e = .returned (.int .i64 0) ∧ w' = w := by
  go_enter Tryd.func12, Tryd.ntmps12
  go_wp2
  go_ret
  exact ⟨rfl, rfl⟩
/-- The bits of word i for which there is room. -/
def fitN (n i : Nat) : Nat := 2 ^ min (n - i * 64) 64 - 1
theorem fitN_lt (n i : Nat) : fitN n i < 18446744073709551616 := by
  unfold fitN
  have : 2 ^ min (n - i * 64) 64 ≤ 2 ^ 64 := Nat.pow_le_pow_right (by decide) (Nat.min_le_right _ _)
  have : 0 < 2 ^ min (n - i * 64) 64 := Nat.two_pow_pos _
  omega
theorem fitN_bit (n i k : Nat) (hk : k < 64) : (fitN n i).testBit k = decide (i * 64 + k < n) := by
  unfold fitN
  rw [Nat.testBit_two_pow_sub_one]
  apply decide_eq_decide.2
  omega
theorem fit_val (q : Nat) (hq : q ≤ 64) : IntKind.u64.wrap (IntKind.u64.wrap (2 ^ q) - 1) = ((2 ^ q - 1 : Nat) : Int) := by
  rcases Nat.lt_or_ge q 64 with h | h
  · have h1 : 2 ^ q < 2 ^ 64 := Nat.pow_lt_pow_right (by decide) h
    have h2 : 0 < 2 ^ q := Nat.two_pow_pos _
    have e : ((2 : Int) ^ q) = ((2 ^ q : Nat) : Int) := by simp
    rw [e]
    generalize 2 ^ q = x at *
    rw [IntKind.wrap_u64, IntKind.wrap_u64]
    omega
  · obtain rfl : q = 64 := by omega
    rfl
set_option maxHeartbeats 1000000 in
theorem fit_p {p : Value} {n : Nat} (w : World) (HR : Hid (Calls Tryd.prog 12 #[p] w fun e w' => e = .returned (.int .i64 (n : Int)) ∧ w' = w)) (hle : n ≤ 65536) (i : Nat) (hi : i ≤ 2000) : Calls Tryd.prog 30 #[p, .int .i64 (i : Int)] w fun e w' => e = .returned (.int .u64 ((fitN n i : Nat) : Int)) ∧ w' = w := by
  obtain ⟨q, hq⟩ : ∃ q, q = n - i * 64 := ⟨_, rfl⟩
  go_enter Tryd.func30, Tryd.ntmps30
  go_wp2_with (go_at_call 12; go_must ((with_reducible refine (Hid.out HR).mono ?_); rintro e w9 ⟨rfl, rfl⟩))
  · go_ret
    refine ⟨?_, rfl⟩
    have h2 : 64 ≤ n - i * 64 := by omega
    have e : fitN n i = 2 ^ 64 - 1 := by unfold fitN; rw [Nat.min_eq_right h2]
    rw [e]
    rfl
  · go_ret
    refine ⟨?_, rfl⟩
    have e : fitN n i = 2 ^ 0 - 1 := by unfold fitN; rw [show n - i * 64 = 0 by omega]; rfl
    rw [e]
    rfl
  · go_ret
    refine ⟨?_, rfl⟩
    have h2 : n - i * 64 ≤ 64 := by omega
    have e : fitN n i = 2 ^ q - 1 := by unfold fitN; rw [Nat.min_eq_left h2, hq]
    have e2 : ((n : Int) - (i : Int) * 64).toNat = q := by omega
    have := fit_val q (by omega)
    rw [e, ← this, ← e2]
    rfl
set_option maxHeartbeats 1000000 in
theorem word_wd {b g n c : Nat} {ws : List Nat} (w : World) (h : Wd w b g n c ws) (i : Nat) (hi : i ≤ 400000000000000000) : Calls Tryd.prog 35 #[.pointer (some ⟨b, 0, none⟩), .int .i64 (i : Int)] w fun e w' => e = .returned (.int .u64 ((ws.getD i 0 : Nat) : Int)) ∧ w' = w := by
  have h1 := h.cells.2
  have hl := h.len
  have hb := h.bound
  by_cases hc : i < c
  · have h2 := h.word hc
    obtain ⟨x, hx⟩ : ∃ x, x = ws.getD i 0 := ⟨_, rfl⟩
    rw [← hx] at h2 ⊢
    clear h hx hl
    go_enter Tryd.func35, Tryd.ntmps35
    go_wp2
    go_ret
    exact ⟨rfl, rfl⟩
  · have hx : ws.getD i 0 = 0 := by rw [List.getD_eq_getElem?_getD, List.getElem?_eq_none (by omega)]; rfl
    rw [hx]
    have hc1 : c ≤ i := by omega
    clear h hx hl hc
    go_enter Tryd.func35, Tryd.ntmps35
    go_wp2
    go_ret
    exact ⟨rfl, rfl⟩
theorem word_nil (w : World) (i : Int) : Calls Tryd.prog 35 #[.pointer none, .int .i64 i] w fun e w' => e = .returned (.int .u64 0) ∧ w' = w := by
  go_enter Tryd.func35, Tryd.ntmps35
  go_wp2
  go_ret
  exact ⟨rfl, rfl⟩
end Go.Proofs.YtbljbhgelcakdaaDoor.Bit
