/- How lists of numbers stand: the program's Compare and Same, the document's Compare and Has. -/
import Derived.Test.YtghdafgpdhbohaaSetPlain
import Derived.Test.YtghdafgpdhbohaaShelfI
import Derived.Test.YtghdafgpdhbohaaApp
import Derived.Test.YtghdafgpdhbohaaMem
namespace Go.Proofs.Ytghdafgpdhbohaa.Sets
open Go.RowKit Go.Proofs.Ytghdafgpdhbohaa.Dig Go.Proofs.Ytghdafgpdhbohaa.Mem
set_option linter.unusedVariables false
set_option linter.unusedSimpArgs false

/-- A slice value that reads a list of numbers. -/
structure RowV (w : World) (a : Option Addr) (c : Nat) (l : List Int) : Prop where
  cap : l.length ≤ c
  rd : Rd .i64 w a l.length (fun i => l.getD i 0)
  nil : a = none → c = 0
theorem RowV.keep {w w' : World} {a : Option Addr} {c : Nat} {l : List Int} (h : RowV w a c l) (hb : Below w.heap.size w w') : RowV w' a c l := ⟨h.cap, h.rd.keep hb, h.nil⟩
theorem RowV.at {w : World} {a : Option Addr} {c : Nat} {l : List Int} (h : RowV w a c l) {i : Nat} (hi : i < l.length) : ∃ b off, a = some ⟨b, off, none⟩ ∧ w.cell? ⟨b, off + i, none⟩ = some (.int .i64 (l.getD i 0)) := by
  obtain ⟨b, off, e, hc, _⟩ := h.rd.2 i hi
  exact ⟨b, off, e, hc⟩
theorem drop_at {l : List Int} {i : Nat} (h : i < l.length) : l.drop i = l.getD i 0 :: l.drop (i + 1) := by
  rw [List.drop_eq_getElem_cons h]; simp [List.getD_eq_getElem?_getD, List.getElem?_eq_getElem h]

theorem ccmp_any (x y : Int) (w : World) : Calls Try.prog 34 #[.int .i64 x, .int .i64 y] w fun e w' => e = .returned (.int .i64 (cmpI x y)) ∧ w' = w := by
  have h := Try.cmp_Compare_int x y w
  have e : Lib.compareInt x y = cmpI x y := by unfold Lib.compareInt cmpI; rfl
  rw [e] at h
  exact h
theorem cmpI_lt {x y : Int} (h : x < y) : cmpI x y = -1 := by simp [cmpI, h]
theorem cmpI_gt {x y : Int} (h : y < x) : cmpI x y = 1 := by simp [cmpI, h, show ¬ x < y by omega]
theorem cmpI_eq {x y : Int} (h : x = y) : cmpI x y = 0 := by simp [cmpI, h]
theorem lexI_cons (x y : Int) (a b : List Int) : lexL ltI (x :: a) (y :: b) = if cmpI x y = 0 then lexL ltI a b else cmpI x y := by
  rw [lexL]
  generalize lexL ltI a b = r
  unfold cmpI ltI
  by_cases h1 : x < y
  · simp [h1]
  · by_cases h2 : y < x
    · simp [h1, h2]
    · simp [h1, h2]
theorem lexI_step {a b : List Int} {i : Nat} (ha : i < a.length) (hb : i < b.length) :
    lexL ltI (a.drop i) (b.drop i) = if cmpI (a.getD i 0) (b.getD i 0) = 0 then lexL ltI (a.drop (i + 1)) (b.drop (i + 1)) else cmpI (a.getD i 0) (b.getD i 0) := by
  rw [drop_at ha, drop_at hb, lexI_cons]
theorem lexI_end {a b : List Int} {i : Nat} (ha : a.length ≤ i) : lexL ltI (a.drop i) (b.drop i) = 0 := by
  rw [List.drop_eq_nil_of_le ha]; simp [lexL]
def LRel2 (a b : List Int) (i : Value) : Prop := ∃ k : Nat, k ≤ a.length ∧ i = .int .i64 (k : Int) ∧ Hid (lexL ltI (a.drop k) (b.drop k) = lexL ltI a b)
set_option maxHeartbeats 1000000 in
theorem lcmp_any (x y : Option Addr) (c d : Nat) (a b : List Int) (w : World) (ha : RowV w x c a) (hb : RowV w y d b) (hl : a.length = b.length) :
    Calls Try.prog 44 #[.slice x a.length c, .slice y b.length d] w fun e w' => e = .returned (.int .i64 (lexL ltI a b)) ∧ w' = w := by
  have hlen := ha.rd.le
  have HL : Hid (a.length = b.length) := hl
  obtain ⟨n, hn⟩ : ∃ n, n = a.length := ⟨_, rfl⟩
  have hnb : b.length = n := by rw [hn, hl]
  rw [← hn, hnb]
  have R0 : Hid (LRel2 a b (.int .i64 0)) := ⟨0, by omega, rfl, by show _ = _; simp⟩
  have HN : Hid (n = a.length) := hn
  rw [← hn] at hlen
  clear hl hn hnb
  go_enter Try.func44, Try.ntmps44
  go_wp2
  go_loopw [11] (fun i wr => LRel2 a b i ∧ wr = w) (fun i _ => n - (intOf i).toNat)
  case atStart => exact ⟨R0.out, rfl⟩
  case round =>
    obtain ⟨⟨k, hk, rfl, hx⟩, rfl⟩ := hrel
    rw [← HN.out] at hk
    by_cases hlt : k < n
    · have h1 : k < a.length := by rw [← HN.out]; exact hlt
      have h2 : k < b.length := by rw [← HL.out]; exact h1
      obtain ⟨b1, o1, rfl, hc1⟩ := ha.at h1
      obtain ⟨b2, o2, rfl, hc2⟩ := hb.at h2
      obtain ⟨p, hp⟩ : ∃ p, p = a.getD k 0 := ⟨_, rfl⟩
      obtain ⟨q, hq⟩ : ∃ q, q = b.getD k 0 := ⟨_, rfl⟩
      have ST : Hid (lexL ltI (a.drop k) (b.drop k) = if cmpI p q = 0 then lexL ltI (a.drop (k + 1)) (b.drop (k + 1)) else cmpI p q) := by rw [hp, hq]; exact lexI_step h1 h2
      rw [← hp] at hc1
      rw [← hq] at hc2
      clear hp hq h1 h2 ha hb
      obtain ⟨r, hr⟩ : ∃ r, Hid (cmpI p q = r) := ⟨_, rfl⟩
      by_cases h0 : r = 0
      · have g0 : (r != 0) = false := by simp [h0]
        go_wp2_with (go_at_call 34; refine (ccmp_any p q _).mono ?_; rw [hr.out]; rintro e w9 ⟨rfl, rfl⟩)
        go_roundw
        case rel => exact ⟨⟨k + 1, by rw [← HN.out]; omega, by go_num, by have := ST.out; rw [hr.out, if_pos h0] at this; exact this.symm.trans hx.out⟩, trivial⟩
        case measure => simp [intOf]; omega
      · have g0 : (r != 0) = true := by simp [h0]
        go_wp2_with (go_at_call 34; refine (ccmp_any p q _).mono ?_; rw [hr.out]; rintro e w9 ⟨rfl, rfl⟩)
        go_ret
        refine ⟨?_, rfl⟩
        rw [← hx.out, ST.out, hr.out, if_neg h0]
        rfl
    · have HE : Hid (lexL ltI a b = 0) := by rw [← hx.out]; exact lexI_end (by rw [← HN.out]; omega)
      have hge : ¬ (k : Int) < (n : Int) := by omega
      go_wp2
      go_ret
      rw [HE.out]
      exact ⟨rfl, rfl⟩

/-- The program's Compare of two lists, whatever they are. -/
theorem cmp_any (x y : Option Addr) (c d : Nat) (a b : List Int) (w : World) (ha : RowV w x c a) (hb : RowV w y d b) :
    Calls Try.prog 28 #[.slice x a.length c, .slice y b.length d] w fun e w' => e = .returned (.int .i64 (cmpL ltI a b)) ∧ w' = w := by
  have l1 := ha.rd.le
  have l2 := hb.rd.le
  by_cases hl : a.length = b.length
  · have HC : Hid (cmpL ltI a b = lexL ltI a b) := by show _ = _; unfold cmpL; rw [if_neg (by omega), if_neg (by omega)]
    have HX : Hid (Calls Try.prog 44 #[.slice x a.length c, .slice y b.length d] w fun e w' => e = .returned (.int .i64 (lexL ltI a b)) ∧ w' = w) := lcmp_any x y c d a b w ha hb hl
    obtain ⟨n, hn⟩ : ∃ n, n = a.length := ⟨_, rfl⟩
    rw [← hl, ← hn] at HX ⊢
    have g0 : ((n : Int) != n) = false := by simp
    clear hl hn ha hb l1 l2
    go_enter Try.func28, Try.ntmps28
    go_wp2_with (go_at_call 44; refine HX.out.mono ?_; rintro e w9 ⟨rfl, rfl⟩)
    go_ret
    rw [HC.out]
    exact ⟨rfl, rfl⟩
  · have HC : Hid (cmpL ltI a b = cmpI (a.length : Int) (b.length : Int)) := by
      show _ = _
      unfold cmpL cmpI
      by_cases h1 : a.length < b.length
      · rw [if_pos h1, if_pos (by omega)]
      · rw [if_neg h1, if_pos (by omega), if_neg (by omega), if_pos (by omega)]
    obtain ⟨n, hn⟩ : ∃ n, n = a.length := ⟨_, rfl⟩
    obtain ⟨m, hm⟩ : ∃ m, m = b.length := ⟨_, rfl⟩
    rw [← hn, ← hm] at hl HC ⊢
    have g0 : ((n : Int) != m) = true := by simp; omega
    clear hn hm ha hb l1 l2 hl
    go_enter Try.func28, Try.ntmps28
    go_wp2_with (go_at_call 34; refine (ccmp_any _ _ _).mono ?_; rintro e w9 ⟨rfl, rfl⟩)
    go_ret
    rw [HC.out]
    exact ⟨rfl, rfl⟩
/-- The program's Same. -/
theorem psame_any (x y : Option Addr) (c d : Nat) (a b : List Int) (w : World) (ha : RowV w x c a) (hb : RowV w y d b) :
    Calls Try.prog 30 #[.slice x a.length c, .slice y b.length d] w fun e w' => e = .returned (.bool (cmpL ltI a b == 0)) ∧ w' = w := by
  have HX : Hid (Calls Try.prog 28 #[.slice x a.length c, .slice y b.length d] w fun e w' => e = .returned (.int .i64 (cmpL ltI a b)) ∧ w' = w) := cmp_any x y c d a b w ha hb
  obtain ⟨r, hr⟩ : ∃ r, r = cmpL ltI a b := ⟨_, rfl⟩
  obtain ⟨n, hn⟩ : ∃ n, n = a.length := ⟨_, rfl⟩
  obtain ⟨m, hm⟩ : ∃ m, m = b.length := ⟨_, rfl⟩
  rw [← hr, ← hn, ← hm] at HX ⊢
  clear hr hn hm ha hb
  go_enter Try.func30, Try.ntmps30
  go_wp2_with (go_at_call 28; refine HX.out.mono ?_; rintro e w9 ⟨rfl, rfl⟩)
  go_ret
  exact ⟨rfl, rfl⟩
theorem psame_yes (x y : Option Addr) (c d : Nat) (a b : List Int) (w : World) (ha : RowV w x c a) (hb : RowV w y d b) (h : a = b) :
    Calls Try.prog 30 #[.slice x a.length c, .slice y b.length d] w fun e w' => e = .returned (.bool true) ∧ w' = w := by
  have := psame_any x y c d a b w ha hb
  rw [h, cmpL_self totI] at this
  rw [h]
  exact this
/-- The document's Same of two rows that read one list. -/
theorem same_rows (x y : Option Addr) (c d : Nat) (a b : List Int) (w : World) (ha : RowV w x c a) (hb : RowV w y d b) (h : a = b) :
    Calls Try.prog 14 #[.slice x a.length c, .slice y b.length d] w fun e w' => e = .returned (.bool true) ∧ Below w.heap.size w w' := by
  subst h
  exact same_yes x y a.length c d _ w ha.rd hb.rd
/-- The document's Has. -/
theorem rhas_any (x : Option Addr) (c : Nat) (a : List Int) (v : Int) (w : World) (ha : RowV w x c a) :
    Calls Try.prog 20 #[.slice x a.length c, .int .i64 v] w fun e w' => e = .returned (.bool (decide (v ∈ a))) ∧ w' = w := by
  have hlen := ha.rd.le
  have HA := hide ha
  obtain ⟨n, hn⟩ : ∃ n, n = a.length := ⟨_, rfl⟩
  rw [← hn] at hlen ⊢
  have HN : Hid (n = a.length) := hn
  clear hn ha
  go_enter Try.func20, Try.ntmps20
  go_wp2
  go_loopw [5] (fun i wr => (∃ k : Nat, k ≤ n ∧ i = .int .i64 (k : Int) ∧ ∀ j, j < k → a.getD j 0 ≠ v) ∧ wr = w) (fun i _ => n - (intOf i).toNat)
  case atStart => exact ⟨⟨0, by omega, rfl, by omega⟩, rfl⟩
  case round =>
    obtain ⟨⟨k, hk, rfl, hx⟩, rfl⟩ := hrel
    have HX := hide hx
    clear hx
    by_cases hlt : k < n
    · obtain ⟨b1, o1, rfl, hc1⟩ := HA.out.at (show k < a.length by rw [← HN.out]; exact hlt)
      obtain ⟨p, hp⟩ : ∃ p, p = a.getD k 0 := ⟨_, rfl⟩
      rw [← hp] at hc1
      have HP : Hid (p = a.getD k 0) := hp
      clear hp
      by_cases he : p = v
      · have g1 : (p == v) = true := by simp [he]
        have HM : Hid (decide (v ∈ a) = true) := by
          show _ = _
          rw [decide_eq_true_eq, ← he, HP.out, List.getD_eq_getElem?_getD, List.getElem?_eq_getElem (by rw [← HN.out]; exact hlt)]
          exact List.getElem_mem _
        clear he
        go_wp2
        go_ret
        rw [HM.out]
        exact ⟨rfl, rfl⟩
      · have g1 : (p == v) = false := by simpa using he
        have HE : Hid (a.getD k 0 ≠ v) := by rw [← HP.out]; exact he
        clear he
        go_wp2
        go_roundw
        case rel => exact ⟨⟨k + 1, by omega, by go_num, fun j hj => by
          by_cases e : j = k
          · rw [e]; exact HE.out
          · exact HX.out j (by omega)⟩, trivial⟩
        case measure => simp [intOf]; omega
    · have HM : Hid (decide (v ∈ a) = false) := by
        show _ = _
        rw [decide_eq_false_iff_not]
        intro hm
        obtain ⟨j, hj, e⟩ := List.getElem_of_mem hm
        exact HX.out j (by rw [← HN.out] at hj; omega) (by rw [List.getD_eq_getElem?_getD, List.getElem?_eq_getElem hj]; exact e)
      go_wp2
      go_ret
      rw [HM.out]
      exact ⟨rfl, rfl⟩
set_option maxHeartbeats 1000000 in
/-- The document's Compare. -/
theorem rcmp_any (x y : Option Addr) (c d : Nat) (a b : List Int) (w : World) (ha : RowV w x c a) (hb : RowV w y d b) :
    Calls Try.prog 29 #[.slice x a.length c, .slice y b.length d] w fun e w' => e = .returned (.int .i64 (cmpL ltI a b)) ∧ Below w.heap.size w w' := by
  have l1 := ha.rd.le
  have l2 := hb.rd.le
  by_cases h1 : a.length < b.length
  · have HC : Hid (cmpL ltI a b = -1) := by show _ = _; unfold cmpL; rw [if_pos h1]
    obtain ⟨n, hn⟩ : ∃ n, n = a.length := ⟨_, rfl⟩
    obtain ⟨m, hm⟩ : ∃ m, m = b.length := ⟨_, rfl⟩
    rw [← hn, ← hm] at h1 ⊢
    have g0 : (n : Int) < m := by omega
    clear hn hm ha hb l1 l2 h1
    go_enter Try.func29, Try.ntmps29
    go_wp2
    go_ret
    rw [HC.out]
    exact ⟨rfl, Below.refl _ _⟩
  by_cases h2 : b.length < a.length
  · have HC : Hid (cmpL ltI a b = 1) := by show _ = _; unfold cmpL; rw [if_neg h1, if_pos h2]
    obtain ⟨n, hn⟩ : ∃ n, n = a.length := ⟨_, rfl⟩
    obtain ⟨m, hm⟩ : ∃ m, m = b.length := ⟨_, rfl⟩
    rw [← hn, ← hm] at h1 h2 ⊢
    have g0 : ¬ (n : Int) < m := by omega
    have g1 : (m : Int) < n := by omega
    clear hn hm ha hb l1 l2 h1 h2
    go_enter Try.func29, Try.ntmps29
    go_wp2
    go_ret
    rw [HC.out]
    exact ⟨rfl, Below.refl _ _⟩
  have HC : Hid (cmpL ltI a b = lexL ltI a b) := by show _ = _; unfold cmpL; rw [if_neg h1, if_neg h2]
  have HL : Hid (a.length = b.length) := by show _ = _; omega
  have HA := hide ha
  have HB := hide hb
  obtain ⟨n, hn⟩ : ∃ n, n = a.length := ⟨_, rfl⟩
  have hnb : b.length = n := by rw [hn]; omega
  rw [← hn, hnb]
  have R0 : Hid (LRel2 a b (.int .i64 0)) := ⟨0, by omega, rfl, by show _ = _; simp⟩
  have HN : Hid (n = a.length) := hn
  rw [← hn] at l1
  clear hn hnb h1 h2 ha hb l2
  go_enter Try.func29, Try.ntmps29
  go_wp2
  go_loopw [5] (fun i wr => LRel2 a b i ∧ Below w.heap.size w wr) (fun i _ => n - (intOf i).toNat)
  case atStart => exact ⟨R0.out, Below.refl _ _⟩
  case round =>
    obtain ⟨⟨k, hk, rfl, hx⟩, hbel⟩ := hrel
    rw [← HN.out] at hk
    by_cases hlt : k < n
    · have h1 : k < a.length := by rw [← HN.out]; exact hlt
      have h2 : k < b.length := by rw [← HL.out]; exact h1
      obtain ⟨b1, o1, rfl, hc1⟩ := (HA.out.keep hbel).at h1
      obtain ⟨b2, o2, rfl, hc2⟩ := (HB.out.keep hbel).at h2
      obtain ⟨p, hp⟩ : ∃ p, p = a.getD k 0 := ⟨_, rfl⟩
      obtain ⟨q, hq⟩ : ∃ q, q = b.getD k 0 := ⟨_, rfl⟩
      have ST : Hid (lexL ltI (a.drop k) (b.drop k) = if cmpI p q = 0 then lexL ltI (a.drop (k + 1)) (b.drop (k + 1)) else cmpI p q) := by rw [hp, hq]; exact lexI_step h1 h2
      rw [← hp] at hc1
      rw [← hq] at hc2
      clear hp hq h1 h2
      rcases Int.lt_trichotomy p q with h | h | h
      · have HR : Hid (lexL ltI a b = -1) := by show _ = _; rw [← hx.out, ST.out, cmpI_lt h]; rfl
        clear hx ST
        go_wp2
        go_region
        all_goals
          go_wp2
          go_ret
          rw [HC.out, HR.out]
          exact ⟨rfl, by (repeat (first | exact hbel | apply Below.drew))⟩
      · have HR : Hid (lexL ltI (a.drop (k + 1)) (b.drop (k + 1)) = lexL ltI a b) := by show _ = _; rw [← hx.out, ST.out, cmpI_eq h]; rfl
        have g1 : ¬ p < q := by omega
        have g2 : ¬ q < p := by omega
        clear hx ST h
        go_wp2
        go_region
        all_goals
          go_wp2
          go_region
          all_goals
            go_wp2
            go_roundw
            case rel => exact ⟨⟨k + 1, by rw [← HN.out]; omega, by go_num, HR.out⟩, by (repeat (first | exact hbel | apply Below.drew))⟩
            case measure => simp [intOf]; omega
      · have HR : Hid (lexL ltI a b = 1) := by show _ = _; rw [← hx.out, ST.out, cmpI_gt h]; rfl
        have g1 : ¬ p < q := by omega
        clear hx ST
        go_wp2
        go_region
        all_goals
          go_wp2
          go_region
          all_goals
            go_wp2
            go_ret
            rw [HC.out, HR.out]
            exact ⟨rfl, by (repeat (first | exact hbel | apply Below.drew))⟩
    · have HE : Hid (lexL ltI a b = 0) := by rw [← hx.out]; exact lexI_end (by rw [← HN.out]; omega)
      have hge : ¬ (k : Int) < (n : Int) := by omega
      go_wp2
      go_ret
      rw [HC.out, HE.out]
      exact ⟨rfl, hbel⟩
end Go.Proofs.Ytghdafgpdhbohaa.Sets
