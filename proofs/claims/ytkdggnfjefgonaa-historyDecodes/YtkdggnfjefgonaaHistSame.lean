/- Contracts of the two Same: whether two histories are alike. -/
import Derived.Test.YtkdggnfjefgonaaHistOps
namespace Go.Proofs.Ytkdggnfjefgonaa.Hist
open Go.RowKit Go.Proofs.Ytkdggnfjefgonaa.Dig Go.Proofs.Ytkdggnfjefgonaa.Mem
set_option linter.unusedVariables false
set_option linter.unusedSimpArgs false

theorem getD_ext {l m : List Int} (h : l.length = m.length) (he : ∀ i, i < l.length → l.getD i 0 = m.getD i 0) : l = m := by
  apply List.ext_getElem h
  intro i h1 h2
  have := he i h1
  simpa [List.getD_eq_getElem?_getD, List.getElem?_eq_getElem h1, List.getElem?_eq_getElem h2] using this
def SameRel (w : World) (n : Nat) (x y : Nat → Int) (i : Value) (wr : World) : Prop :=
  ∃ k : Nat, k ≤ n ∧ i = .int .i64 (k : Int) ∧ Hid (∀ j, j < k → x j = y j) ∧ Below w.heap.size w wr
theorem SameRel.next {w w' : World} {n : Nat} {x y : Nat → Int} {k : Nat} {i : Value} (hlt : k < n) (he : x k = y k) (h : Hid (∀ j, j < k → x j = y j)) (hi : i = .int .i64 ((k + 1 : Nat) : Int)) (hb : Below w.heap.size w w') : SameRel w n x y i w' :=
  ⟨k + 1, by omega, hi, hide (fun j hj => by
    rcases Nat.lt_or_ge j k with q | q
    · exact h.out j q
    · have : j = k := by omega
      subst this; exact he), hb⟩
theorem same_bool {l m : List Int} {r : Bool} (h : r = true ↔ (l.length = m.length ∧ ∀ i, i < l.length → (fun i => l.getD i 0) i = (fun i => m.getD i 0) i)) : r = decide (l = m) := by
  rw [Bool.eq_iff_iff, h, decide_eq_true_iff]
  exact ⟨fun q => getD_ext q.1 q.2, fun q => by subst q; exact ⟨rfl, fun _ _ => rfl⟩⟩
theorem sequal_rd (a b : Option Addr) (n m c d : Nat) (x y : Nat → Int) (w : World) (ha : Rd .i64 w a n x) (hb : Rd .i64 w b m y) :
    Calls Try.prog 45 #[.slice a n c, .slice b m d] w fun e w' => ∃ r, e = .returned (.bool r) ∧ (r = true ↔ (n = m ∧ ∀ i, i < n → x i = y i)) ∧ Below w.heap.size w w' := by
  have hn := ha.le
  have hm := hb.le
  by_cases hnm : n = m
  · subst hnm
    have g0 : ((n : Int) != n) = false := by simp
    go_enter Try.func45, Try.ntmps45
    go_wp2
    go_loopw [13] (fun i wr => SameRel w n x y i wr) (fun i _ => n - (intOf i).toNat)
    case atStart => exact ⟨0, by omega, rfl, hide (fun j hj => by omega), Below.refl _ _⟩
    case round =>
      obtain ⟨k, hk, rfl, hj, hbel⟩ := hrel
      by_cases hlt : k < n
      · obtain ⟨b1, o1, rfl, hc1, hw1⟩ := (ha.keep hbel).2 k hlt
        obtain ⟨b2, o2, rfl, hc2, hw2⟩ := (hb.keep hbel).2 k hlt
        have i1 : (k : Int) < (n : Int) := by omega
        by_cases he : x k = y k
        · have g1 : (x k != y k) = false := by simp [he]
          have HE : Hid (x k = y k) := he
          clear he
          go_wp2
          go_quiet (fail)
          go_wp2
          go_roundw
          case rel => exact SameRel.next hlt HE.out hj (by go_num) (hbel.drewN _)
          case measure => simp [intOf]; omega
        · have g1 : (x k != y k) = true := by simpa using he
          have HE : Hid (¬ x k = y k) := he
          clear he
          go_wp2
          go_quiet (fail)
          go_wp2
          go_ret
          exact ⟨false, rfl, by simp; exact ⟨k, hlt, HE.out⟩, hbel.drewN _⟩
      · go_wp2
        go_ret
        exact ⟨true, rfl, by simp; exact fun i hi => hj.out i (by omega), hbel⟩
  · have g0 : ((n : Int) != m) = true := by simp; omega
    have HE : Hid (¬ n = m) := hnm
    clear hnm
    go_enter Try.func45, Try.ntmps45
    go_wp2
    go_ret
    exact ⟨false, rfl, by simp; exact fun q => absurd q HE.out, Below.refl _ _⟩
theorem sequal_any (F F' : Nat → Prop) (v v' : Value) (l m : List Int) (w : World) (h : IntsAt F w v l) (h' : IntsAt F' w v' m) (hl : l.length ≤ 1000000) (hm : m.length ≤ 1000000) :
    Calls Try.prog 45 #[v, v'] w fun e w' => e = .returned (.bool (decide (l = m))) ∧ Below w.heap.size w w' := by
  obtain ⟨a, c, rfl, _, ha⟩ := h.rd (by omega)
  obtain ⟨b, d, rfl, _, hb⟩ := h'.rd (by omega)
  refine (sequal_rd a b _ _ c d _ _ w ha hb).mono ?_
  rintro e w' ⟨r, rfl, hr, hbel⟩
  exact ⟨by rw [same_bool hr], hbel⟩
theorem rsame1_rd (a b : Option Addr) (n m c d : Nat) (x y : Nat → Int) (w : World) (ha : Rd .i64 w a n x) (hb : Rd .i64 w b m y) :
    Calls Try.prog 32 #[.slice a n c, .slice b m d] w fun e w' => ∃ r, e = .returned (.bool r) ∧ (r = true ↔ (n = m ∧ ∀ i, i < n → x i = y i)) ∧ Below w.heap.size w w' := by
  have hn := ha.le
  have hm := hb.le
  by_cases hnm : n = m
  · subst hnm
    have g0 : ((n : Int) != n) = false := by simp
    go_enter Try.func32, Try.ntmps32
    go_wp2
    go_loopw [5] (fun i wr => SameRel w n x y i wr) (fun i _ => n - (intOf i).toNat)
    case atStart => exact ⟨0, by omega, rfl, hide (fun j hj => by omega), Below.refl _ _⟩
    case round =>
      obtain ⟨k, hk, rfl, hj, hbel⟩ := hrel
      by_cases hlt : k < n
      · obtain ⟨b1, o1, rfl, hc1, hw1⟩ := (ha.keep hbel).2 k hlt
        obtain ⟨b2, o2, rfl, hc2, hw2⟩ := (hb.keep hbel).2 k hlt
        have i1 : (k : Int) < (n : Int) := by omega
        by_cases he : x k = y k
        · have g1 : (x k != y k) = false := by simp [he]
          have HE : Hid (x k = y k) := he
          clear he
          go_wp2
          go_quiet (fail)
          go_wp2
          go_roundw
          case rel => exact SameRel.next hlt HE.out hj (by go_num) (hbel.drewN _)
          case measure => simp [intOf]; omega
        · have g1 : (x k != y k) = true := by simpa using he
          have HE : Hid (¬ x k = y k) := he
          clear he
          go_wp2
          go_quiet (fail)
          go_wp2
          go_ret
          exact ⟨false, rfl, by simp; exact ⟨k, hlt, HE.out⟩, hbel.drewN _⟩
      · go_wp2
        go_ret
        exact ⟨true, rfl, by simp; exact fun i hi => hj.out i (by omega), hbel⟩
  · have g0 : ((n : Int) != m) = true := by simp; omega
    have HE : Hid (¬ n = m) := hnm
    clear hnm
    go_enter Try.func32, Try.ntmps32
    go_wp2
    go_ret
    exact ⟨false, rfl, by simp; exact fun q => absurd q HE.out, Below.refl _ _⟩
theorem rsame1_any (F F' : Nat → Prop) (v v' : Value) (l m : List Int) (w : World) (h : IntsAt F w v l) (h' : IntsAt F' w v' m) (hl : l.length ≤ 1000000) (hm : m.length ≤ 1000000) :
    Calls Try.prog 32 #[v, v'] w fun e w' => e = .returned (.bool (decide (l = m))) ∧ Below w.heap.size w w' := by
  obtain ⟨a, c, rfl, _, ha⟩ := h.rd (by omega)
  obtain ⟨b, d, rfl, _, hb⟩ := h'.rd (by omega)
  refine (rsame1_rd a b _ _ c d _ _ w ha hb).mono ?_
  rintro e w' ⟨r, rfl, hr, hbel⟩
  exact ⟨by rw [same_bool hr], hbel⟩

theorem op_dec (o p : OpM) : decide (o = p) = (o.read == p.read && o.key == p.key && o.value == p.value && decide (o.list = p.list)) := by
  obtain ⟨r, k, v, l⟩ := o
  obtain ⟨r', k', v', l'⟩ := p
  rw [Bool.eq_iff_iff]
  simp [OpM.mk.injEq, and_assoc]
theorem txn_dec (t u : TxnM) : decide (t = u) = (t.id == u.id && t.ab == u.ab && decide (t.ops = u.ops)) := by
  obtain ⟨i, a, o⟩ := t
  obtain ⟨i', a', o'⟩ := u
  rw [Bool.eq_iff_iff]
  simp [TxnM.mk.injEq, and_assoc]
/-- An operation, as an argument. -/
def opV (o : OpM) (lv : Value) : Value := .agg #[.bool o.read, .int .i64 o.key, .int .i64 o.value, lv]
theorem sop_any (F F' : Nat → Prop) (o p : OpM) (lv pv : Value) (w : World) (h : IntsAt F w lv o.list) (h' : IntsAt F' w pv p.list) (hl : o.list.length ≤ 1000000) (hm : p.list.length ≤ 1000000) :
    Calls Try.prog 34 #[.agg #[.bool o.read, .int .i64 o.key, .int .i64 o.value, lv], .agg #[.bool p.read, .int .i64 p.key, .int .i64 p.value, pv]] w fun e w' => e = .returned (.bool (decide (o = p))) ∧ Below w.heap.size w w' := by
  have H : Hid (IntsAt F w lv o.list ∧ IntsAt F' w pv p.list) := ⟨h, h'⟩
  clear h h'
  by_cases h1 : (o.read == p.read) = true
  · by_cases h2 : (o.key == p.key) = true
    · by_cases h3 : (o.value == p.value) = true
      · have D : Hid (decide (o = p) = decide (o.list = p.list)) := by show _ = _; rw [op_dec, h1, h2, h3]; rfl
        go_enter Try.func34, Try.ntmps34
        go_wp2_with (go_at_call 45; (with_reducible refine (sequal_any F F' lv pv o.list p.list _ (H.out.1.keep (((Below.refl _ _).alloc (Nat.le_refl _) _).alloc (by simp) _)) (H.out.2.keep (((Below.refl _ _).alloc (Nat.le_refl _) _).alloc (by simp) _)) hl hm).mono ?_); rintro e w1 ⟨rfl, hb⟩)
        go_ret
        exact ⟨by rw [D.out]; rfl, (((Below.refl _ _).alloc (Nat.le_refl _) _).alloc (by simp) _).trans (hb.mono (by simp; omega))⟩
      · have h3' : (o.value == p.value) = false := by simpa using h3
        have D : Hid (decide (o = p) = false) := by show _ = _; rw [op_dec, h3']; simp
        clear h3
        go_enter Try.func34, Try.ntmps34
        go_wp2
        go_ret
        exact ⟨by rw [D.out]; rfl, ((Below.refl _ _).alloc (Nat.le_refl _) _).alloc (by simp) _⟩
    · have h2' : (o.key == p.key) = false := by simpa using h2
      have D : Hid (decide (o = p) = false) := by show _ = _; rw [op_dec, h2']; simp
      clear h2
      go_enter Try.func34, Try.ntmps34
      go_wp2
      go_ret
      exact ⟨by rw [D.out]; rfl, ((Below.refl _ _).alloc (Nat.le_refl _) _).alloc (by simp) _⟩
  · have h1' : (o.read == p.read) = false := by simpa using h1
    have D : Hid (decide (o = p) = false) := by show _ = _; rw [op_dec, h1']; simp
    clear h1
    go_enter Try.func34, Try.ntmps34
    go_wp2
    go_ret
    exact ⟨by rw [D.out]; rfl, ((Below.refl _ _).alloc (Nat.le_refl _) _).alloc (by simp) _⟩
theorem rsop_any (F F' : Nat → Prop) (o p : OpM) (lv pv : Value) (w : World) (h : IntsAt F w lv o.list) (h' : IntsAt F' w pv p.list) (hl : o.list.length ≤ 1000000) (hm : p.list.length ≤ 1000000) :
    Calls Try.prog 20 #[.agg #[.bool o.read, .int .i64 o.key, .int .i64 o.value, lv], .agg #[.bool p.read, .int .i64 p.key, .int .i64 p.value, pv]] w fun e w' => e = .returned (.bool (decide (o = p))) ∧ Below w.heap.size w w' := by
  have H : Hid (IntsAt F w lv o.list ∧ IntsAt F' w pv p.list) := ⟨h, h'⟩
  clear h h'
  by_cases h1 : (o.read == p.read) = true
  · by_cases h2 : (o.key == p.key) = true
    · by_cases h3 : (o.value == p.value) = true
      · have D : Hid (decide (o = p) = decide (o.list = p.list)) := by show _ = _; rw [op_dec, h1, h2, h3]; rfl
        go_enter Try.func20, Try.ntmps20
        go_wp2_with (go_at_call 32; (with_reducible refine (rsame1_any F F' lv pv o.list p.list _ (H.out.1.keep (((Below.refl _ _).alloc (Nat.le_refl _) _).alloc (by simp) _)) (H.out.2.keep (((Below.refl _ _).alloc (Nat.le_refl _) _).alloc (by simp) _)) hl hm).mono ?_); rintro e w1 ⟨rfl, hb⟩)
        go_ret
        exact ⟨by rw [D.out]; rfl, (((Below.refl _ _).alloc (Nat.le_refl _) _).alloc (by simp) _).trans (hb.mono (by simp; omega))⟩
      · have h3' : (o.value == p.value) = false := by simpa using h3
        have D : Hid (decide (o = p) = false) := by show _ = _; rw [op_dec, h3']; simp
        clear h3
        go_enter Try.func20, Try.ntmps20
        go_wp2
        go_ret
        exact ⟨by rw [D.out]; rfl, ((Below.refl _ _).alloc (Nat.le_refl _) _).alloc (by simp) _⟩
    · have h2' : (o.key == p.key) = false := by simpa using h2
      have D : Hid (decide (o = p) = false) := by show _ = _; rw [op_dec, h2']; simp
      clear h2
      go_enter Try.func20, Try.ntmps20
      go_wp2
      go_ret
      exact ⟨by rw [D.out]; rfl, ((Below.refl _ _).alloc (Nat.le_refl _) _).alloc (by simp) _⟩
  · have h1' : (o.read == p.read) = false := by simpa using h1
    have D : Hid (decide (o = p) = false) := by show _ = _; rw [op_dec, h1']; simp
    clear h1
    go_enter Try.func20, Try.ntmps20
    go_wp2
    go_ret
    exact ⟨by rw [D.out]; rfl, ((Below.refl _ _).alloc (Nat.le_refl _) _).alloc (by simp) _⟩
end Go.Proofs.Ytkdggnfjefgonaa.Hist
