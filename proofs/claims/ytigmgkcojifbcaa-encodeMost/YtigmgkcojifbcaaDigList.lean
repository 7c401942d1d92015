/- Contracts of the program's and the document's ways to read a list of numbers, and of the document's Same. -/
import Derived.Test.YtigmgkcojifbcaaDigParse
namespace Go.Proofs.Ytigmgkcojifbcaa.Dig
open Go.RowKit
set_option linter.unusedVariables false
set_option linter.unusedSimpArgs false

/-- The numbers from place a on, each with a blank ahead, behind those of l; f is fuel. -/
def lscan (z : Nat → Int) (len : Nat) : Nat → Nat → List Int → List Int × Int × Bool
  | 0, a, l => (l, (a : Int), true)
  | f + 1, a, l => if a < len ∧ z a = 32 then
      (if (parse z len ((a : Int) + 1)).2.2 = true then lscan z len f (parse z len ((a : Int) + 1)).2.1.toNat (l ++ [(parse z len ((a : Int) + 1)).1]) else ([], (parse z len ((a : Int) + 1)).2.1, false))
      else (l, (a : Int), true)
def lst (z : Nat → Int) (len : Nat) (at_ : Int) : List Int × Int × Bool :=
  if at_ < 0 ∨ (len : Int) < at_ then ([], 0, false) else lscan z len (len - at_.toNat) at_.toNat []
theorem lst_in {z : Nat → Int} {len a : Nat} (h : a ≤ len) : lst z len (a : Int) = lscan z len (len - a) a [] := by
  unfold lst; rw [if_neg (by omega)]; simp
theorem lst_out {z : Nat → Int} {len : Nat} {at_ : Int} (h : at_ < 0 ∨ (len : Int) < at_) : lst z len at_ = ([], 0, false) := by
  unfold lst; rw [if_pos h]
theorem lscan_stop {z : Nat → Int} {len f a : Nat} {l : List Int} (hf : len - a ≤ f) (h : ¬ (a < len ∧ z a = 32)) : lscan z len f a l = (l, (a : Int), true) := by
  cases f with
  | zero => rfl
  | succ f => rw [lscan, if_neg h]
theorem lscan_bad {z : Nat → Int} {len f a : Nat} {l : List Int} {n t : Int} (hf : len - a ≤ f) (h : a < len ∧ z a = 32) (hp : parse z len ((a : Int) + 1) = (n, t, false)) : lscan z len f a l = ([], t, false) := by
  obtain ⟨g, rfl⟩ : ∃ g, f = g + 1 := ⟨f - 1, by omega⟩
  rw [lscan, if_pos h, hp]; simp
theorem lscan_go {z : Nat → Int} {len f a : Nat} {l : List Int} {n : Int} {t : Nat} (hf : len - a ≤ f) (h : a < len ∧ z a = 32) (hp : parse z len ((a : Int) + 1) = (n, (t : Int), true)) :
    lscan z len f a l = lscan z len (f - 1) t (l ++ [n]) := by
  obtain ⟨g, rfl⟩ : ∃ g, f = g + 1 := ⟨f - 1, by omega⟩
  rw [lscan, if_pos h, hp]; simp

/-- What a way to read a number ends with. -/
theorem scan_spec (z : Nat → Int) (len a : Nat) : ∀ f m, a + m ≤ len → len - a - m ≤ f → (∀ j, j < m → dgt (z (a + j)) = true) → (m = 0 ∨ okm z a m = true) →
    (∃ k, m ≤ k ∧ 1 ≤ k ∧ a + k ≤ len ∧ okm z a k = true ∧ (∀ j, j < k → dgt (z (a + j)) = true) ∧ ¬ (a + k < len ∧ dgt (z (a + k)) = true) ∧ scan z len a f m = (val z a k, ((a + k : Nat) : Int), true)) ∨
    (∃ k, m ≤ k ∧ a + k ≤ len ∧ (k = 0 ∨ okm z a k = true) ∧ (∀ j, j < k → dgt (z (a + j)) = true) ∧ ((k = 0 ∧ ¬ (a < len ∧ dgt (z a) = true)) ∨ (a + k < len ∧ dgt (z (a + k)) = true ∧ ¬ okm z a (k + 1) = true)) ∧ scan z len a f m = (0, ((a + k : Nat) : Int), false))
  | 0, m, hm, hf, hd, hok => by
    by_cases h0 : m = 0
    · right
      subst h0
      exact ⟨0, by omega, hm, .inl rfl, hd, .inl ⟨rfl, by omega⟩, by rw [scan]; simp⟩
    · left
      exact ⟨m, by omega, by omega, hm, by rcases hok with h | h; exact absurd h h0; exact h, hd, by omega, by rw [scan, if_neg h0]⟩
  | f + 1, m, hm, hf, hd, hok => by
    by_cases hg : a + m < len ∧ dgt (z (a + m)) = true
    · by_cases ho : okm z a (m + 1) = true
      · have hd' : ∀ j, j < m + 1 → dgt (z (a + j)) = true := fun j hj => by
          by_cases e : j = m
          · rw [e]; exact hg.2
          · exact hd j (by omega)
        have hs : scan z len a (f + 1) m = scan z len a f (m + 1) := by rw [scan, if_pos hg, if_pos ho]
        rw [hs]
        rcases scan_spec z len a f (m + 1) (by omega) (by omega) hd' (.inr ho) with ⟨k, h1, h2⟩ | ⟨k, h1, h2⟩
        · exact .inl ⟨k, by omega, h2⟩
        · exact .inr ⟨k, by omega, h2⟩
      · right
        exact ⟨m, by omega, hm, hok, hd, .inr ⟨hg.1, hg.2, ho⟩, by rw [scan, if_pos hg, if_neg ho]⟩
    · by_cases h0 : m = 0
      · right
        subst h0
        exact ⟨0, by omega, hm, .inl rfl, hd, .inl ⟨rfl, by simpa using hg⟩, by rw [scan, if_neg hg]; simp⟩
      · left
        exact ⟨m, by omega, by omega, hm, by rcases hok with h | h; exact absurd h h0; exact h, hd, hg, by rw [scan, if_neg hg, if_neg h0]⟩
theorem parse_spec (z : Nat → Int) (len a : Nat) (h : a ≤ len) :
    (∃ k, 1 ≤ k ∧ a + k ≤ len ∧ okm z a k = true ∧ (∀ j, j < k → dgt (z (a + j)) = true) ∧ ¬ (a + k < len ∧ dgt (z (a + k)) = true) ∧ parse z len (a : Int) = (val z a k, ((a + k : Nat) : Int), true)) ∨
    (∃ k, a + k ≤ len ∧ (k = 0 ∨ okm z a k = true) ∧ (∀ j, j < k → dgt (z (a + j)) = true) ∧ ((k = 0 ∧ ¬ (a < len ∧ dgt (z a) = true)) ∨ (a + k < len ∧ dgt (z (a + k)) = true ∧ ¬ okm z a (k + 1) = true)) ∧ parse z len (a : Int) = (0, ((a + k : Nat) : Int), false)) := by
  rw [parse_in h]
  rcases scan_spec z len a (len - a - 0) 0 (by omega) (by omega) (by omega) (.inl rfl) with ⟨k, _, h2⟩ | ⟨k, _, h2⟩
  · exact .inl ⟨k, h2⟩
  · exact .inr ⟨k, h2⟩
/-- Read a number from a place on: either a number and the place behind it, or the first wrong place. -/
theorem parse_two (z : Nat → Int) (len a : Nat) (h : a ≤ len) :
    (∃ (n : Int) (t : Nat), a < t ∧ t ≤ len ∧ 0 ≤ n ∧ n ≤ 2147483647 ∧ parse z len (a : Int) = (n, (t : Int), true)) ∨ (∃ t : Nat, a ≤ t ∧ t ≤ len ∧ parse z len (a : Int) = (0, (t : Int), false)) := by
  rcases parse_spec z len a h with ⟨k, h1, h2, h3, h4, h5, h6⟩ | ⟨k, h2, h3, h4, h5, h6⟩
  · have := ok_bd h4 (.inr h3)
    exact .inl ⟨_, a + k, by omega, h2, this.1, this.2, h6⟩
  · exact .inr ⟨a + k, by omega, h2, h6⟩

theorem lt_of_cell {w : World} {p : Addr} {v : Value} (h : w.cell? p = some v) : p.block < w.heap.size := by
  rcases Nat.lt_or_ge p.block w.heap.size with g | g
  · exact g
  · simp [World.cell?, Array.getElem?_eq_none g] at h
theorem Rd.keep {k : IntKind} {w w' : World} {a : Option Addr} {len : Nat} {z : Nat → Int} (h : Rd k w a len z) (hb : Below w.heap.size w w') : Rd k w' a len z := by
  refine ⟨h.1, fun i hi => ?_⟩
  obtain ⟨b, off, e, hc, hw⟩ := h.2 i hi
  exact ⟨b, off, e, by rw [hb.cell (lt_of_cell hc)]; exact hc, hw⟩
/-- What a row of the call's own holds, read. -/
theorem Rd.own {w : World} {base : Nat} {v : Value} {l : List Int} (h : w.ownsRow base 3 1 v l.length (l.map (Value.int .i64))) (hl : l.length ≤ 1000000000000) (hw : ∀ n ∈ l, (Lit.int .i64 n).wf = true) :
    ∃ a cap, v = .slice a l.length cap ∧ l.length ≤ cap ∧ Rd .i64 w a l.length (fun i => l.getD i 0) := by
  have h' := h
  obtain ⟨h1, h2⟩ := h
  rcases h2 with ⟨hv, h0⟩ | ⟨g, cap, cur, hv, hg, hh, hc1, hc2, hc3, hc4⟩
  · have : l = [] := by cases l with
      | nil => rfl
      | cons x l => simp at h0
    subst this
    exact ⟨none, 0, hv, by simp, by simp, fun i hi => by simp at hi⟩
  · refine ⟨_, cap, hv, hc1, hl, fun i hi => ⟨g, 0, rfl, ?_, ?_⟩⟩
    · subst hv
      rw [Nat.zero_add, h'.cellAt i (by omega)]
      simp [List.getD_eq_getElem?_getD, List.getElem?_eq_getElem hi]
    · simp only [List.getD_eq_getElem?_getD, List.getElem?_eq_getElem hi, Option.getD_some]
      exact hw _ (List.getElem_mem hi)

theorem parse_eq (a : Option Addr) (len cap : Nat) (z : Nat → Int) (at_ : Int) (w : World) (h : Rd .u8 w a len z) {n t : Int} {b : Bool} (hr : Hid (parse z len at_ = (n, t, b))) :
    Calls Try.prog 81 #[.slice a len cap, .int .i64 at_] w fun e w' => e = .returned (.tuple #[.int .i64 n, .int .i64 t, .bool b]) ∧ w' = w := by
  have := parse_any a len cap z at_ w h
  rw [hr.out] at this
  exact this
theorem rparse_eq (a : Option Addr) (len cap : Nat) (z : Nat → Int) (at_ : Int) (w : World) (h : Rd .u8 w a len z) (hc : len ≤ cap) {n t : Int} {b : Bool} (hr : Hid (parse z len at_ = (n, t, b))) :
    Calls Try.prog 48 #[.slice a len cap, .int .i64 at_] w fun e w' => e = .returned (.tuple #[.int .i64 n, .int .i64 t, .bool b]) ∧ w' = w := by
  have := rparse_any a len cap z at_ w h hc
  rw [hr.out] at this
  exact this

theorem one_new (w : World) (x : Value) (t : TypeId) : ∀ (j : Nat) (u : Value), [x][j]? = some u → (w.alloc (.cells #[x] t)).cell? ((⟨w.heap.size, 0, none⟩ : Addr).add j) = some u := by
  intro j u hj
  match j, hj with
  | 0, hj => simp at hj; subst hj; simp [Addr.add]

theorem wf_of_i64 {n : Int} (h0 : 0 ≤ n) (h1 : n ≤ 2147483647) : (Lit.int .i64 n).wf = true := WalkArith.wf_i64 (by omega)

def LRel (z : Nat → Int) (len a0 base : Nat) (w : World) (v a : Value) (wr : World) : Prop :=
  ∃ (at_ : Nat) (l : List Int) (f : Nat), at_ ≤ len ∧ a = .int .i64 (at_ : Int) ∧ wr.ownsRow base 3 1 v l.length (l.map (Value.int .i64)) ∧ Below base w wr ∧ len - at_ ≤ f ∧ l.length ≤ at_ ∧ (∀ n ∈ l, 0 ≤ n ∧ n ≤ 2147483647) ∧ Hid (lst z len (a0 : Int) = lscan z len f at_ l)
theorem LRel.push {z : Nat → Int} {len a0 base at_ f : Nat} {w w1 : World} {v1 : Value} {l : List Int} {n : Int} {t : Nat} (hlt : at_ < len) (h32 : z at_ = 32) (hp : parse z len ((at_ : Int) + 1) = (n, (t : Int), true)) (h1 : at_ < t) (h2 : t ≤ len) (hn : 0 ≤ n ∧ n ≤ 2147483647)
    (hf : len - at_ ≤ f) (hll : l.length ≤ at_) (hl : ∀ n ∈ l, 0 ≤ n ∧ n ≤ 2147483647) (hs : Hid (lst z len (a0 : Int) = lscan z len f at_ l)) (hown : w1.ownsRow base 3 1 v1 (l.length + 1) (l.map (Value.int .i64) ++ [.int .i64 n])) (hb : Below base w w1) :
    LRel z len a0 base w v1 (.int .i64 (t : Int)) w1 := by
  refine ⟨t, l ++ [n], f - 1, h2, rfl, ?_, hb, by omega, by simp; omega, ?_, hs.out.trans (lscan_go hf ⟨hlt, h32⟩ hp)⟩
  · rw [List.length_append, List.map_append]; exact hown
  · intro m hm
    rcases List.mem_append.1 hm with q | q
    · exact hl m q
    · simp at q; subst q; exact hn

theorem Try.info3 : (Try.prog.info? 3).map (fun i => (i.zero, i.size, i.bytes)) = some (some (.int .i64 0), 1, 8) := by kernel_rfl
/-- What a list's reading ends with. -/
def ListPost (r : List Int × Int × Bool) (w : World) (e : Ending) (w' : World) : Prop :=
  ∃ v, e = .returned (.tuple #[v, .int .i64 r.2.1, .bool r.2.2]) ∧ w'.ownsRow w.heap.size 3 1 v r.1.length (r.1.map (Value.int .i64)) ∧ Below w.heap.size w w' ∧ (∀ n ∈ r.1, 0 ≤ n ∧ n ≤ 2147483647) ∧ r.1.length ≤ 1000000000000
theorem list_inside (a : Option Addr) (len cap : Nat) (z : Nat → Int) (a0 : Nat) (w : World) (h : Rd .u8 w a len z) (hat : a0 ≤ len) :
    Calls Try.prog 82 #[.slice a len cap, .int .i64 (a0 : Int)] w fun e w' => ListPost (lst z len (a0 : Int)) w e w' := by
  have hlen := h.le
  have hat' : ¬ len < a0 := by omega
  have hat2 : ¬ (a0 : Int) < 0 := by omega
  have HP : Hid (lst z len (a0 : Int) = lscan z len (len - a0) a0 []) := lst_in hat
  obtain ⟨i0, hi, hz0, hz1, hz2⟩ := info_parts Try.info3
  go_enter Try.func82, Try.ntmps82
  go_wp2
  go_loopw [1, 7] (fun t v wr => LRel z len a0 w.heap.size w v t wr) (fun t _ _ => len - (intOf t).toNat)
  case atStart => exact ⟨a0, [], len - a0, hat, rfl, World.ownsRow_nil _ _ _ _, Below.refl _ _, Nat.le_refl _, by simp, by simp, HP⟩
  case round =>
    obtain ⟨at_, l, f, hat3, rfl, hown, hbel, hf, hll, hl, hs⟩ := hrel
    have hr := h.keep hbel
    by_cases hlt : at_ < len
    · obtain ⟨b, off, rfl, hcell, hz0', hz1'⟩ := hr.u8 hlt
      by_cases h32 : z at_ = 32
      · have g32 : (z at_ == 32) = true := by simp [h32]
        rcases parse_two z len (at_ + 1) (by omega) with ⟨n, t, ht1, ht2, hn1, hn2, hp⟩ | ⟨t, ht1, ht2, hp⟩
        · have HPP : Hid (parse z len ((at_ : Int) + 1) = (n, (t : Int), true)) := hp
          have H32 : Hid (z at_ = 32) := h32
          clear hp h32
          go_wp2_with (first | (go_at_call 81; refine (parse_eq _ _ _ z _ _ hr HPP).mono ?_; rintro e w' ⟨rfl, hw⟩; replace hw := hw.symm; subst hw) | (at_builtin; go_loud (refine wpList_append_own _ rfl _ _ 43 rfl w.heap.size 3 i0 (.int .i64 0) 1 8 Try.underlying43 hi hz0 hz1 hz2 rfl (by decide) _ _ _ rfl (hown.alloc _) ⟨wr.heap.size, 0, none⟩ 1 1 [.int .i64 n] rfl rfl ?_ ?_ ?_ ?_ ?_ ?_)))
          · exact one_new _ _ _
          · intro u hu; simp at hu; subst hu; rfl
          · unfold maxLen; omega
          · omega
          · have := hbel.size; simp; omega
          · intro v1 w1 hown1 hgrow1 _
            have hb1 : Below w.heap.size w w1 := (hbel.alloc hbel.size _).grown hgrow1 (by have := hbel.size; simp; omega) (fun k hk => (hown.lt k hk).1)
            have R := LRel.push hlt H32.out HPP.out (by omega) ht2 ⟨hn1, hn2⟩ hf hll hl hs hown1 hb1
            clear hown1 hgrow1 hown hbel hb1 hr h hcell
            go_wp2
            go_roundw
            case rel => exact R
            case measure => simp [intOf]; omega
        · have HPP : Hid (parse z len ((at_ : Int) + 1) = (0, (t : Int), false)) := hp
          have HR : Hid (lst z len (a0 : Int) = ([], (t : Int), false)) := hs.out.trans (lscan_bad hf ⟨hlt, h32⟩ hp)
          clear hp h32
          go_wp2_with (go_at_call 81; refine (parse_eq _ _ _ z _ _ hr HPP).mono ?_; rintro e w' ⟨rfl, hw⟩; replace hw := hw.symm; subst hw)
          go_ret3
          rw [HR.out]
          exact ⟨_, rfl, World.ownsRow_nil _ _ _ _, hbel, by simp, by simp⟩
      · have g32 : (z at_ == 32) = false := by simp [h32]
        have HR : Hid (lst z len (a0 : Int) = (l, (at_ : Int), true)) := hs.out.trans (lscan_stop hf (by intro q; exact h32 q.2))
        clear h32
        go_wp2
        go_ret3
        rw [HR.out]
        exact ⟨_, rfl, hown, hbel, hl, by show l.length ≤ _; omega⟩
    · have HR : Hid (lst z len (a0 : Int) = (l, (at_ : Int), true)) := hs.out.trans (lscan_stop hf (by intro q; exact hlt q.1))
      go_wp2
      go_ret3
      rw [HR.out]
      exact ⟨_, rfl, hown, hbel, hl, by show l.length ≤ _; omega⟩
theorem list_outside (a : Option Addr) (len cap : Nat) (z : Nat → Int) (at_ : Int) (w : World) (hat : at_ < 0 ∨ (len : Int) < at_) :
    Calls Try.prog 82 #[.slice a len cap, .int .i64 at_] w fun e w' => ListPost (lst z len at_) w e w' := by
  rw [lst_out hat]
  have P0 : ListPost ([], 0, false) w (.returned (.tuple #[.slice none 0 0, .int .i64 0, .bool false])) w := ⟨_, rfl, World.ownsRow_nil _ _ _ _, Below.refl _ _, by simp, by simp⟩
  have PH : Hid (ListPost ([], 0, false) w (.returned (.tuple #[.slice none 0 0, .int .i64 0, .bool false])) w) := P0
  clear P0
  by_cases h0 : at_ < 0
  · go_enter Try.func82, Try.ntmps82
    go_wp2
    go_ret3
    exact PH.out
  · have h1 : (len : Int) < at_ := by omega
    clear hat
    go_enter Try.func82, Try.ntmps82
    go_wp2
    go_ret3
    exact PH.out
theorem list_any (a : Option Addr) (len cap : Nat) (z : Nat → Int) (at_ : Int) (w : World) (h : Rd .u8 w a len z) :
    Calls Try.prog 82 #[.slice a len cap, .int .i64 at_] w fun e w' => ListPost (lst z len at_) w e w' := by
  by_cases hat : at_ < 0 ∨ (len : Int) < at_
  · exact list_outside a len cap z at_ w hat
  · obtain ⟨a0, rfl⟩ : ∃ a0 : Nat, at_ = a0 := ⟨at_.toNat, by omega⟩
    exact list_inside a len cap z a0 w h (by omega)

/-- The program's List, its answer named. -/
theorem list_eq (a : Option Addr) (len cap : Nat) (z : Nat → Int) (at_ : Int) (w : World) (h : Rd .u8 w a len z) {l : List Int} {t : Int} {b : Bool} (hr : Hid (lst z len at_ = (l, t, b))) :
    Calls Try.prog 82 #[.slice a len cap, .int .i64 at_] w fun e w' => ∃ a' c, e = .returned (.tuple #[.slice a' l.length c, .int .i64 t, .bool b]) ∧ Below w.heap.size w w' ∧ Rd .i64 w' a' l.length (fun i => l.getD i 0) ∧ l.length ≤ c := by
  refine (list_any a len cap z at_ w h).mono ?_
  rw [hr.out]
  rintro e w' ⟨v, rfl, hown, hb, hl, hll⟩
  obtain ⟨a', c, rfl, h1, h2⟩ := Rd.own hown hll (fun n hn => by have := hl n hn; exact wf_of_i64 this.1 this.2)
  exact ⟨a', c, rfl, hb, h2, h1⟩

def RLRel (z : Nat → Int) (len a0 base : Nat) (w : World) (v a kv : Value) (wr : World) : Prop :=
  ∃ (at_ : Nat) (l : List Int) (f k : Nat), kv = .int .i64 (k : Int) ∧ k ≤ at_ - a0 ∧ a0 ≤ at_ ∧ at_ ≤ len ∧ a = .int .i64 (at_ : Int) ∧ wr.ownsRow base 3 1 v l.length (l.map (Value.int .i64)) ∧ Below base w wr ∧ len - at_ ≤ f ∧ l.length ≤ at_ ∧ (∀ n ∈ l, 0 ≤ n ∧ n ≤ 2147483647) ∧ Hid (lst z len (a0 : Int) = lscan z len f at_ l)
theorem rlist_inside (a : Option Addr) (len cap : Nat) (z : Nat → Int) (a0 : Nat) (w : World) (h : Rd .u8 w a len z) (hcap : len ≤ cap) (hat : a0 ≤ len) :
    Calls Try.prog 50 #[.slice a len cap, .int .i64 (a0 : Int)] w fun e w' => ListPost (lst z len (a0 : Int)) w e w' := by
  have hlen := h.le
  have hat' : ¬ len < a0 := by omega
  have hat2 : ¬ (a0 : Int) < 0 := by omega
  have HP : Hid (lst z len (a0 : Int) = lscan z len (len - a0) a0 []) := lst_in hat
  obtain ⟨i0, hi, hz0, hz1, hz2⟩ := info_parts Try.info3
  go_enter Try.func50, Try.ntmps50
  go_wp2
  go_loopw [1, 7, 8] (fun t v k wr => RLRel z len a0 w.heap.size w v t k wr) (fun _ _ k _ => len + 1 - (intOf k).toNat)
  case atStart => exact ⟨a0, [], len - a0, 0, rfl, by omega, by omega, hat, rfl, World.ownsRow_nil _ _ _ _, Below.refl _ _, Nat.le_refl _, by simp, by simp, HP⟩
  case round =>
    obtain ⟨at_, l, f, k, rfl, hk1, hk2, hat3, rfl, hown, hbel, hf, hll, hl, hs⟩ := hrel
    have hr := h.keep hbel
    have hkl : k ≤ len := by omega
    by_cases hlt : at_ < len
    · have hlt' : ¬ len ≤ at_ := by omega
      obtain ⟨b, off, rfl, hcell, hz0', hz1'⟩ := hr.u8 hlt
      by_cases h32 : z at_ = 32
      · have g32 : (z at_ != 32) = false := by simp [h32]
        rcases parse_two z len (at_ + 1) (by omega) with ⟨n, t, ht1, ht2, hn1, hn2, hp⟩ | ⟨t, ht1, ht2, hp⟩
        · have HPP : Hid (parse z len ((at_ : Int) + 1) = (n, (t : Int), true)) := hp
          have H32 : Hid (z at_ = 32) := h32
          clear hp h32
          go_wp2_with (first | (go_at_call 48; refine (rparse_eq _ _ _ z _ _ hr hcap HPP).mono ?_; rintro e w' ⟨rfl, hw⟩; replace hw := hw.symm; subst hw) | (at_builtin; go_loud (refine wpList_append_own _ rfl _ _ 43 rfl w.heap.size 3 i0 (.int .i64 0) 1 8 Try.underlying43 hi hz0 hz1 hz2 rfl (by decide) _ _ _ rfl (hown.alloc _) ⟨wr.heap.size, 0, none⟩ 1 1 [.int .i64 n] rfl rfl ?_ ?_ ?_ ?_ ?_ ?_)))
          · exact one_new _ _ _
          · intro u hu; simp at hu; subst hu; rfl
          · unfold maxLen; omega
          · omega
          · have := hbel.size; simp; omega
          · intro v1 w1 hown1 hgrow1 _
            have hb1 : Below w.heap.size w w1 := (hbel.alloc hbel.size _).grown hgrow1 (by have := hbel.size; simp; omega) (fun k hk => (hown.lt k hk).1)
            have R : RLRel z len a0 w.heap.size w v1 (.int .i64 (t : Int)) (.int .i64 ((k : Int) + 1)) w1 := by
              obtain ⟨q1, q2, q3, q4, q5, q6, q7, q8⟩ := LRel.push hlt H32.out HPP.out (by omega) ht2 ⟨hn1, hn2⟩ hf hll hl hs hown1 hb1
              have qt : q1 = t := by simp at q5; omega
              subst qt
              exact ⟨q1, q2, q3, k + 1, by go_num, by omega, by omega, q4, q5, q6, q7, q8⟩
            clear hown1 hgrow1 hown hbel hb1 hr h hcell
            go_wp2
            go_roundw
            case rel => exact R
            case measure => simp [intOf]; omega
        · have HPP : Hid (parse z len ((at_ : Int) + 1) = (0, (t : Int), false)) := hp
          have HR : Hid (lst z len (a0 : Int) = ([], (t : Int), false)) := hs.out.trans (lscan_bad hf ⟨hlt, h32⟩ hp)
          clear hp h32
          go_wp2_with (go_at_call 48; refine (rparse_eq _ _ _ z _ _ hr hcap HPP).mono ?_; rintro e w' ⟨rfl, hw⟩; replace hw := hw.symm; subst hw)
          go_ret3
          rw [HR.out]
          exact ⟨_, rfl, World.ownsRow_nil _ _ _ _, hbel, by simp, by simp⟩
      · have g32 : (z at_ != 32) = true := by simp [h32]
        have HR : Hid (lst z len (a0 : Int) = (l, (at_ : Int), true)) := hs.out.trans (lscan_stop hf (by intro q; exact h32 q.2))
        clear h32
        go_wp2
        go_ret3
        rw [HR.out]
        exact ⟨_, rfl, hown, hbel, hl, by show l.length ≤ _; omega⟩
    · have hlt' : len ≤ at_ := by omega
      have HR : Hid (lst z len (a0 : Int) = (l, (at_ : Int), true)) := hs.out.trans (lscan_stop hf (by intro q; exact hlt q.1))
      go_wp2
      go_ret3
      rw [HR.out]
      exact ⟨_, rfl, hown, hbel, hl, by show l.length ≤ _; omega⟩
theorem rlist_outside (a : Option Addr) (len cap : Nat) (z : Nat → Int) (at_ : Int) (w : World) (hat : at_ < 0 ∨ (len : Int) < at_) :
    Calls Try.prog 50 #[.slice a len cap, .int .i64 at_] w fun e w' => ListPost (lst z len at_) w e w' := by
  rw [lst_out hat]
  have P0 : ListPost ([], 0, false) w (.returned (.tuple #[.slice none 0 0, .int .i64 0, .bool false])) w := ⟨_, rfl, World.ownsRow_nil _ _ _ _, Below.refl _ _, by simp, by simp⟩
  have PH : Hid (ListPost ([], 0, false) w (.returned (.tuple #[.slice none 0 0, .int .i64 0, .bool false])) w) := P0
  clear P0
  by_cases h0 : at_ < 0
  · go_enter Try.func50, Try.ntmps50
    go_wp2
    go_ret3
    exact PH.out
  · have h1 : (len : Int) < at_ := by omega
    clear hat
    go_enter Try.func50, Try.ntmps50
    go_wp2
    go_ret3
    exact PH.out
theorem rlist_any (a : Option Addr) (len cap : Nat) (z : Nat → Int) (at_ : Int) (w : World) (h : Rd .u8 w a len z) (hcap : len ≤ cap) :
    Calls Try.prog 50 #[.slice a len cap, .int .i64 at_] w fun e w' => ListPost (lst z len at_) w e w' := by
  by_cases hat : at_ < 0 ∨ (len : Int) < at_
  · exact rlist_outside a len cap z at_ w hat
  · obtain ⟨a0, rfl⟩ : ∃ a0 : Nat, at_ = a0 := ⟨at_.toNat, by omega⟩
    exact rlist_inside a len cap z a0 w h hcap (by omega)

/-- The document's List, its answer named. -/
theorem rlist_eq (a : Option Addr) (len cap : Nat) (z : Nat → Int) (at_ : Int) (w : World) (h : Rd .u8 w a len z) (hcap : len ≤ cap) {l : List Int} {t : Int} {b : Bool} (hr : Hid (lst z len at_ = (l, t, b))) :
    Calls Try.prog 50 #[.slice a len cap, .int .i64 at_] w fun e w' => ∃ a' c, e = .returned (.tuple #[.slice a' l.length c, .int .i64 t, .bool b]) ∧ Below w.heap.size w w' ∧ Rd .i64 w' a' l.length (fun i => l.getD i 0) ∧ l.length ≤ c := by
  refine (rlist_any a len cap z at_ w h hcap).mono ?_
  rw [hr.out]
  rintro e w' ⟨v, rfl, hown, hb, hl, hll⟩
  obtain ⟨a', c, rfl, h1, h2⟩ := Rd.own hown hll (fun n hn => by have := hl n hn; exact wf_of_i64 this.1 this.2)
  exact ⟨a', c, rfl, hb, h2, h1⟩

/-- The document's Same of two rows that hold the same. -/
theorem same_yes (a b : Option Addr) (n c d : Nat) (x : Nat → Int) (w : World) (ha : Rd .i64 w a n x) (hb : Rd .i64 w b n x) :
    Calls Try.prog 51 #[.slice a n c, .slice b n d] w fun e w' => e = .returned (.bool true) ∧ Below w.heap.size w w' := by
  have hn := ha.le
  have g0 : ((n : Int) != n) = false := by simp
  go_enter Try.func51, Try.ntmps51
  go_wp2
  go_loopw [5] (fun i wr => ∃ k : Nat, k ≤ n ∧ i = .int .i64 (k : Int) ∧ Below w.heap.size w wr) (fun i _ => n - (intOf i).toNat)
  case atStart => exact ⟨0, by omega, rfl, Below.refl _ _⟩
  case round =>
    obtain ⟨k, hk, rfl, hbel⟩ := hrel
    by_cases hlt : k < n
    · obtain ⟨b1, o1, rfl, hc1, hw1⟩ := (ha.keep hbel).2 k hlt
      obtain ⟨b2, o2, rfl, hc2, hw2⟩ := (hb.keep hbel).2 k hlt
      go_wp2
      go_region
      all_goals
        go_wp2
        go_roundw
        case rel => exact ⟨k + 1, by omega, by go_num, by first | exact hbel | exact hbel.drew | (repeat (first | exact hbel | apply Below.drew))⟩
        case measure => simp [intOf]; omega
    · go_wp2
      go_ret
      exact ⟨rfl, hbel⟩
end Go.Proofs.Ytigmgkcojifbcaa.Dig
