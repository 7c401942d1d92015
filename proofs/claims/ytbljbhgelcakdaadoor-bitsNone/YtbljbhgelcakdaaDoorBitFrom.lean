/- The words of a set are gone through: the function that from hands back. -/
import Derived.Test.YtbljbhgelcakdaaDoorBitWd
import Derived.Test.YtbljbhgelcakdaaDoorBitRange
import Derived.Shelf.Abstract
import Derived.Shelf.RegionOpen
import Derived.WalkKit
import Derived.OwnWalkIn
import Derived.TacticsInMore
import Derived.LoopNIn
import Derived.LoopIn
namespace Go.Proofs.YtbljbhgelcakdaaDoor.Bit
open Go.RowKit Go.Proofs.YtbljbhgelcakdaaDoor.Dig Go.Proofs.YtbljbhgelcakdaaDoor.Mem Go.Shelf
set_option linter.unusedVariables false
set_option linter.unusedSimpArgs false
attribute [local go_sem] Oper.semAt_some

/-- The places from f on, below k, of words with bits. -/
def upW (ws : List Nat) (f k : Nat) : List Int := ((List.range k).filter fun i => decide (f ≤ i) && decide (ws.getD i 0 ≠ 0)).map fun i : Nat => (i : Int)
theorem upW_hit {ws : List Nat} {f k : Nat} (hf : f ≤ k) (hx : ws.getD k 0 ≠ 0) : upW ws f (k + 1) = upW ws f k ++ [(k : Int)] := by
  unfold upW
  have e : (decide (f ≤ k) && decide (ws.getD k 0 ≠ 0)) = true := by rw [decide_eq_true hf, decide_eq_true hx]; rfl
  rw [List.range_succ, List.filter_append, List.map_append, List.filter_cons, if_pos e]
  rfl
theorem upW_miss {ws : List Nat} {f k : Nat} (hx : ws.getD k 0 = 0) : upW ws f (k + 1) = upW ws f k := by
  unfold upW
  have e : ¬ (decide (f ≤ k) && decide (ws.getD k 0 ≠ 0)) = true := by rw [decide_eq_false (p := ws.getD k 0 ≠ 0) (fun h => h hx)]; simp
  rw [List.range_succ, List.filter_append, List.filter_cons, if_neg e]
  simp
theorem upW_zero (ws : List Nat) (f : Nat) : upW ws f f = [] := by
  unfold upW
  rw [List.map_eq_nil_iff, List.filter_eq_nil_iff]
  intro a ha
  have := List.mem_range.1 ha
  simp; omega
theorem mem_upW {ws : List Nat} {f k : Nat} {x : Int} : x ∈ upW ws f k ↔ ∃ i : Nat, x = (i : Int) ∧ f ≤ i ∧ i < k ∧ ws.getD i 0 ≠ 0 := by
  unfold upW
  rw [List.mem_map]
  constructor
  · rintro ⟨i, hi, rfl⟩
    rw [List.mem_filter, List.mem_range, Bool.and_eq_true, decide_eq_true_eq, decide_eq_true_eq] at hi
    exact ⟨i, rfl, hi.2.1, hi.1, hi.2.2⟩
  · rintro ⟨i, rfl, h1, h2, h3⟩
    exact ⟨i, by rw [List.mem_filter, List.mem_range, Bool.and_eq_true, decide_eq_true_eq, decide_eq_true_eq]; exact ⟨h2, h1, h3⟩, rfl⟩
theorem upW_over {ws : List Nat} {f k : Nat} (hk : ws.length ≤ k) : upW ws f k = upW ws f ws.length := by
  obtain ⟨d, rfl⟩ : ∃ d, k = ws.length + d := ⟨k - ws.length, by omega⟩
  clear hk
  induction d with
  | zero => rfl
  | succ d ih =>
    rw [← ih, ← Nat.add_assoc]
    exact upW_miss (by rw [List.getD_eq_getElem?_getD, List.getElem?_eq_none (by omega)]; rfl)
def encW (ws : List Nat) (x : Int) : Array Value := #[.int .i64 x, .int .u64 ((ws.getD x.toNat 0 : Nat) : Int)]
theorem from_any (q : Option Addr) (f : Int) (w : World) :
    Calls Tryd.prog 33 #[.pointer q, .int .i64 f] w fun e w' => e = .returned (.func (.func 40) #[] #[.pointer (some ⟨w.heap.size, 0, none⟩), .pointer (some ⟨w.heap.size + 1, 0, none⟩)]) ∧ w' = (w.alloc (.cells #[.pointer q] 24)).alloc (.cells #[.int .i64 f] 3) := by
  go_enter Tryd.func33, Tryd.ntmps33
  go_wp2
  go_ret
  exact ⟨rfl, rfl⟩
set_option maxRecDepth 100000 in
set_option maxHeartbeats 2000000 in
theorem fromc_led0 (B1 B2 b g c f : Nat) (ws : List Nat) (I : List Int → World → Prop) (hl : c = ws.length) (hc : c ≤ 1024)
    (hI : ∀ pre W, I pre W → W.cell? ⟨B1, 0, none⟩ = some (.pointer (some ⟨b, 0, none⟩)) ∧ W.cell? ⟨B2, 0, none⟩ = some (.int .i64 (f : Int)) ∧ W.cell? ⟨b, 1, none⟩ = some (.slice (some ⟨g, 0, none⟩) c c) ∧
      ∀ k, pre = upW ws f k → f ≤ k → k < c → W.cell? ⟨g, k, none⟩ = some (.int .u64 ((ws.getD k 0 : Nat) : Int))) (hf : f ≤ 400000000000000000) :
    Led Fence.wide 2 Tryd.prog 40 #[.pointer (some ⟨B1, 0, none⟩), .pointer (some ⟨B2, 0, none⟩)] (encW ws) I (fun pre x => ∃ k : Nat, x = (k : Int) ∧ f ≤ k ∧ k < c ∧ ws.getD k 0 ≠ 0 ∧ pre = upW ws f k) (fun xs => xs = upW ws f c) (fun _ => True) := fun l J Jx W hJI hJ hJx hY h0 => by
  refine callsIn_of_wp Tryd.func40 rfl trivial ?_ rfl
  simp only [Tryd.ntmps40, List.size_toArray, List.length_cons, List.length_nil, Nat.reduceAdd, Nat.reduceSub, Array.replicate_succ, Array.replicate_zero, List.push_toArray, List.append_toArray, List.nil_append, List.cons_append]
  have HL := hide hl
  have HI := hide hI
  have HJI := hide hJI
  obtain ⟨k1, k2, k3, _⟩ := hI _ _ (hJI _ _ h0)
  clear hl hI hJI
  gi_wp2
  clear k1 k2 k3
  gi_loopw [4] (fun i wr => ∃ k : Nat, f ≤ k ∧ (k ≤ c ∨ k = f) ∧ i = .int .i64 k ∧ J (upW ws f k) wr) (fun i _ => c - (intOf i).toNat)
  case atStart => exact ⟨f, Nat.le_refl _, .inr rfl, rfl, by rw [upW_zero]; exact h0⟩
  case round =>
    obtain ⟨k, hfk, hk, rfl, hJs⟩ := hrel
    obtain ⟨k1, k2, k3, k4⟩ := HI.out _ _ (HJI.out _ _ hJs)
    by_cases hlt : k < c
    · have k5 := k4 k rfl hfk hlt
      obtain ⟨x, hx⟩ : ∃ x, x = ws.getD k 0 := ⟨_, rfl⟩
      by_cases h0x : x = 0
      · subst h0x
        have HS : Hid (upW ws f (k + 1) = upW ws f k) := upW_miss hx.symm
        rw [← hx] at k5
        clear k4 hx
        gi_wp2
        refine ⟨fun _ h => (by cases h), ?_⟩
        gi_wp2
        go_roundw
        case rel => exact ⟨k + 1, by omega, by omega, by simp, by rw [HS.out]; exact hJs⟩
        case measure => simp [intOf]; omega
      · have HS : Hid (upW ws f (k + 1) = upW ws f k ++ [(k : Int)]) := upW_hit hfk (by rw [← hx]; exact h0x)
        obtain ⟨fn, tmps, assign, body, hy, hR⟩ := hY _ (k : Int) wr hJs ⟨k, rfl, hfk, hlt, by rw [← hx]; exact h0x, rfl⟩
        simp only [encW, Int.toNat_natCast] at hy
        rw [← hx] at k5 hy
        have hx0 : ¬ (x : Int) = 0 := by omega
        clear k4 hx
        gi_wp2
        refine hR.mono ?_
        rintro e W3 (⟨rfl, hJ3⟩ | ⟨rfl, hJx3⟩)
        · gi_wp2
          go_roundw
          case rel => exact ⟨k + 1, by omega, by omega, by simp, by rw [HS.out]; exact hJ3⟩
          case measure => simp [intOf]; omega
        · gi_wp2
          refine bodyPost_ret (results_none rfl _ _ _) rfl ?_
          exact ⟨⟨_, rfl⟩, .inr ⟨_, trivial, hJx3⟩⟩
    · have e : upW ws f k = upW ws f c := by rw [HL.out]; exact upW_over (by have := HL.out; omega)
      have hlt' : c ≤ k := by omega
      rw [e] at hJs
      clear k4 hlt
      gi_wp2
      go_end0
      exact ⟨⟨_, rfl⟩, .inl ⟨_, rfl, hJs⟩⟩
set_option maxRecDepth 100000 in
theorem fromc_nil (B1 B2 f : Nat) (I : List Int → World → Prop) (hI : ∀ pre W, I pre W → W.cell? ⟨B1, 0, none⟩ = some (.pointer none)) :
    Led Fence.wide 2 Tryd.prog 40 #[.pointer (some ⟨B1, 0, none⟩), .pointer (some ⟨B2, 0, none⟩)] (encW []) I (fun pre x => ∃ k : Nat, x = (k : Int) ∧ f ≤ k ∧ k < 0 ∧ List.getD [] k 0 ≠ 0 ∧ pre = upW [] f k) (fun xs => xs = upW [] f 0) (fun _ => True) := fun l J Jx W hJI hJ hJx hY h0 => by
  refine callsIn_of_wp Tryd.func40 rfl trivial ?_ rfl
  simp only [Tryd.ntmps40, List.size_toArray, List.length_cons, List.length_nil, Nat.reduceAdd, Nat.reduceSub, Array.replicate_succ, Array.replicate_zero, List.push_toArray, List.append_toArray, List.nil_append, List.cons_append]
  have k1 := hI _ _ (hJI _ _ h0)
  clear hI hJI hY
  gi_wp2
  refine bodyPost_ret (results_none rfl _ _ _) rfl ?_
  exact ⟨⟨_, rfl⟩, .inl ⟨_, rfl, h0⟩⟩
/-- A set: nil, or as it lies. -/
def SetI (w : World) (p : Value) (F : Nat → Prop) (n c : Nat) (ws : List Nat) : Prop :=
  (p = .pointer none ∧ n = 0 ∧ c = 0 ∧ ws = [] ∧ F = fun _ => False) ∨ ∃ b g, p = .pointer (some ⟨b, 0, none⟩) ∧ Wd w b g n c ws ∧ F = fun k => k = b ∨ k = g
theorem AtI.set {w : World} {p : Value} {F : Nat → Prop} {m : List Bool} (h : AtI w p F m) : ∃ n c ws, SetI w p F n c ws ∧ m = bitsW n ws := by
  rcases h with ⟨rfl, rfl, rfl⟩ | ⟨b, g, n, c, ws, rfl, h, rfl, rfl⟩
  · exact ⟨0, 0, [], .inl ⟨rfl, rfl, rfl, rfl, rfl⟩, rfl⟩
  · exact ⟨n, c, ws, .inr ⟨b, g, rfl, h, rfl⟩, rfl⟩
theorem SetI.at {w : World} {p : Value} {F : Nat → Prop} {n c : Nat} {ws : List Nat} (h : SetI w p F n c ws) : AtI w p F (bitsW n ws) := by
  rcases h with ⟨rfl, rfl, rfl, rfl, rfl⟩ | ⟨b, g, rfl, h, rfl⟩
  · exact .inl ⟨rfl, rfl, rfl⟩
  · exact .inr ⟨b, g, n, c, ws, rfl, h, rfl, rfl⟩
theorem SetI.keep {w w' : World} {p : Value} {F : Nat → Prop} {n c : Nat} {ws : List Nat} {S : Nat → Prop} (h : SetI w p F n c ws) (ho : Only S w w') (hs : ∀ k, F k → ¬ S k) : SetI w' p F n c ws := by
  rcases h with h | ⟨b, g, rfl, h, rfl⟩
  · exact .inl h
  · exact .inr ⟨b, g, rfl, h.keep ho (hs b (.inl rfl)) (hs g (.inr rfl)), rfl⟩
theorem SetI.below {w w' : World} {p : Value} {F : Nat → Prop} {n c : Nat} {ws : List Nat} (h : SetI w p F n c ws) (hb : Below w.heap.size w w') : SetI w' p F n c ws := h.keep (Only.of_below (S := fun _ => False) hb) (fun k _ q => q)
theorem SetI.facts {w : World} {p : Value} {F : Nat → Prop} {n c : Nat} {ws : List Nat} (h : SetI w p F n c ws) : c = ws.length ∧ n ≤ 65536 ∧ c ≤ 1024 ∧ n ≤ 64 * c ∧ (∀ i, ws.getD i 0 < 18446744073709551616) ∧ Tight n ws ∧ (∃ q, p = .pointer q) ∧ ∀ k, F k → k < w.heap.size := by
  rcases h with ⟨rfl, rfl, rfl, rfl, rfl⟩ | ⟨b, g, rfl, h, rfl⟩
  · exact ⟨rfl, by omega, by omega, by omega, fun i => by simp, fun k _ => by simp, ⟨_, rfl⟩, fun k q => q.elim⟩
  · refine ⟨h.len, h.le, h.bound, by have := h.cnt; omega, fun i => ?_, h.tight, ⟨_, rfl⟩, ?_⟩
    · rcases Nat.lt_or_ge i c with q | q
      · exact h.lt i q
      · rw [List.getD_eq_getElem?_getD, List.getElem?_eq_none (by have := h.len; omega)]; simp
    · rintro k (rfl | rfl)
      · exact h.box.lt
      · exact h.row.lt
theorem room_s {w : World} {p : Value} {F : Nat → Prop} {n c : Nat} {ws : List Nat} (h : SetI w p F n c ws) : Calls Tryd.prog 12 #[p] w fun e w' => e = .returned (.int .i64 (n : Int)) ∧ w' = w := by
  rcases h with ⟨rfl, rfl, rfl, rfl, rfl⟩ | ⟨b, g, rfl, h, rfl⟩
  · exact room_nil w
  · exact room_wd w h
theorem word_s {w : World} {p : Value} {F : Nat → Prop} {n c : Nat} {ws : List Nat} (h : SetI w p F n c ws) (i : Nat) (hi : i ≤ 400000000000000000) : Calls Tryd.prog 35 #[p, .int .i64 (i : Int)] w fun e w' => e = .returned (.int .u64 ((ws.getD i 0 : Nat) : Int)) ∧ w' = w := by
  rcases h with ⟨rfl, rfl, rfl, rfl, rfl⟩ | ⟨b, g, rfl, h, rfl⟩
  · exact (word_nil w i).mono (fun e w' q => by simpa using q)
  · exact word_wd w h i hi
theorem fit_s {w : World} {p : Value} {F : Nat → Prop} {n c : Nat} {ws : List Nat} (h : SetI w p F n c ws) (i : Nat) (hi : i ≤ 2000) : Calls Tryd.prog 30 #[p, .int .i64 (i : Int)] w fun e w' => e = .returned (.int .u64 ((fitN n i : Nat) : Int)) ∧ w' = w := fit_p w (room_s h) (h.facts.2.1) i hi
/-- The function that from hands back, over a set that may change while it is gone through. -/
theorem from_led (p : Value) (B1 B2 c f : Nat) (ws : List Nat) (I : List Int → World → Prop) (hl : c = ws.length) (hc : c ≤ 1024) (hf : f ≤ 400000000000000000)
    (hI : ∀ pre W, I pre W → W.cell? ⟨B1, 0, none⟩ = some p ∧ W.cell? ⟨B2, 0, none⟩ = some (.int .i64 (f : Int)))
    (hp : (p = .pointer none ∧ ws = []) ∨ ∃ b g, p = .pointer (some ⟨b, 0, none⟩) ∧ ∀ pre W, I pre W → W.cell? ⟨b, 1, none⟩ = some (.slice (some ⟨g, 0, none⟩) c c) ∧ ∀ k, pre = upW ws f k → f ≤ k → k < c → W.cell? ⟨g, k, none⟩ = some (.int .u64 ((ws.getD k 0 : Nat) : Int))) :
    Led Fence.wide 2 Tryd.prog 40 #[.pointer (some ⟨B1, 0, none⟩), .pointer (some ⟨B2, 0, none⟩)] (encW ws) I (fun pre x => ∃ k : Nat, x = (k : Int) ∧ f ≤ k ∧ k < c ∧ ws.getD k 0 ≠ 0 ∧ pre = upW ws f k) (fun xs => xs = upW ws f c) (fun _ => True) := by
  rcases hp with ⟨rfl, rfl⟩ | ⟨b, g, rfl, hp⟩
  · obtain rfl : c = 0 := hl
    exact fromc_nil B1 B2 f I (fun pre W h => (hI pre W h).1)
  · exact fromc_led0 B1 B2 b g c f ws I hl hc (fun pre W h => ⟨(hI pre W h).1, (hI pre W h).2, (hp pre W h).1, (hp pre W h).2⟩) hf
/-- .. and of one that stays as it is. -/
theorem from_still {w : World} {p : Value} {F : Nat → Prop} {n c : Nat} {ws : List Nat} (h : SetI w p F n c ws) (B1 B2 f : Nat) (I : List Int → World → Prop) (hf : f ≤ 400000000000000000)
    (hI : ∀ pre W, I pre W → W.cell? ⟨B1, 0, none⟩ = some p ∧ W.cell? ⟨B2, 0, none⟩ = some (.int .i64 (f : Int)) ∧ SetI W p F n c ws) :
    Led Fence.wide 2 Tryd.prog 40 #[.pointer (some ⟨B1, 0, none⟩), .pointer (some ⟨B2, 0, none⟩)] (encW ws) I (fun pre x => ∃ k : Nat, x = (k : Int) ∧ f ≤ k ∧ k < c ∧ ws.getD k 0 ≠ 0 ∧ pre = upW ws f k) (fun xs => xs = upW ws f c) (fun _ => True) := by
  refine from_led p B1 B2 c f ws I h.facts.1 h.facts.2.2.1 hf (fun pre W q => ⟨(hI pre W q).1, (hI pre W q).2.1⟩) ?_
  rcases h with ⟨rfl, rfl, rfl, rfl, rfl⟩ | ⟨b, g, rfl, h, rfl⟩
  · exact .inl ⟨rfl, rfl⟩
  · refine .inr ⟨b, g, rfl, fun pre W q => ?_⟩
    rcases (hI pre W q).2.2 with ⟨e, _⟩ | ⟨b', g', e, h', e2⟩
    · cases e
    · cases e
      have hg : g' = g := by
        have a1 : (fun k => k = b ∨ k = g) g := .inr rfl
        rw [e2] at a1
        rcases a1 with a1 | a1
        · exact absurd a1.symm h.ne
        · exact a1.symm
      subst hg
      exact ⟨h'.cells.2, fun k _ _ hk => h'.word hk⟩
/-- A block of cells, while one that is no cells turns. -/
theorem is_off {W V : World} {b : Nat} {cs : Array Value} (h : Is W b cs) {row : Option Nat} (hg : W.grownBy V row) (hr : ∀ r, row = some r → ∃ o : Obj, W.heap[r]? = some o ∧ o.isCells = false) : Is V b cs :=
  h.keep (S := fun k => row = some k) ⟨hg.os, hg.tape, hg.output, hg.size, fun k hk hn => hg.block k hk (fun e => hn e.symm)⟩ (fun q => by
    obtain ⟨T, hT⟩ := h
    obtain ⟨o, h1, h2⟩ := hr _ q
    rw [hT] at h1; cases h1; cases h2)
/-- What a loop keeps: boxes, and what was there. -/
structure Fr (w : World) (bs : List (Nat × Array Value)) (W : World) : Prop where
  below : Below w.heap.size w W
  boxes : ∀ r ∈ bs, Is W r.1 r.2
theorem Fr.off {w W V : World} {bs : List (Nat × Array Value)} {B : Nat} (h : Fr w bs W) (hB : w.heap.size ≤ B) {row : Option Nat} (hg : W.grownBy V row) (hr : ∀ r, row = some r → B ≤ r ∧ ∃ o : Obj, W.heap[r]? = some o ∧ o.isCells = false) : Fr w bs V :=
  ⟨h.below.grown hg h.below.size (fun k q => Nat.le_trans hB (hr k q).1), fun r hr' => is_off (h.boxes r hr') hg (fun q e => (hr q e).2)⟩
theorem Fr.cell {w W : World} {bs : List (Nat × Array Value)} (h : Fr w bs W) {b : Nat} {c : Array Value} (hb : (b, c) ∈ bs) (i : Nat) {v : Value} (hv : c[i]? = some v) : W.cell? ⟨b, i, none⟩ = some v ∧ W.frozen? ⟨b, i, none⟩ = false := ⟨(h.boxes _ hb).cell i hv, (h.boxes _ hb).frozen i⟩
theorem Fr.one {w W : World} {bs : List (Nat × Array Value)} (h : Fr w bs W) {b : Nat} {v : Value} (hb : (b, #[v]) ∈ bs) : W.cell? ⟨b, 0, none⟩ = some v ∧ W.frozen? ⟨b, 0, none⟩ = false := h.cell hb 0 rfl
theorem Fr.keep {w W V : World} {bs : List (Nat × Array Value)} (h : Fr w bs W) (hb : Below W.heap.size W V) : Fr w bs V := ⟨h.below.trans (hb.mono h.below.size), fun r hr => (h.boxes r hr).below hb⟩
theorem Fr.start (w : World) : Fr w [] w := ⟨Below.refl _ _, by simp⟩
theorem Fr.push {w W : World} {bs : List (Nat × Array Value)} (h : Fr w bs W) (cs : Array Value) (T : TypeId) {b : Nat} (hb : b = W.heap.size) : Fr w ((b, cs) :: bs) (W.alloc (.cells cs T)) :=
  ⟨h.below.alloc h.below.size _, fun r hr => by
    rcases List.mem_cons.1 hr with rfl | q
    · exact Is.made W cs T hb
    · exact (h.boxes r q).alloc _⟩
theorem Fr.sub {w W : World} {bs bs' : List (Nat × Array Value)} (h : Fr w bs W) (hs : ∀ r ∈ bs', r ∈ bs) : Fr w bs' W := ⟨h.below, fun r hr => h.boxes r (hs r hr)⟩
/-- A box is turned. -/
theorem Fr.set {w W : World} {bs : List (Nat × Array Value)} {b : Nat} {v u : Value} (h : Fr w ((b, #[v]) :: bs) W) (hb : w.heap.size ≤ b) (hn : ∀ r ∈ bs, r.1 ≠ b) : Fr w ((b, #[u]) :: bs) (W.setCell ⟨b, 0, none⟩ u) :=
  ⟨h.below.setCell (p := ⟨b, 0, none⟩) hb u, fun r hr => by
    rcases List.mem_cons.1 hr with rfl | q
    · exact (h.boxes (b, #[v]) (by simp)).set 0 u
    · exact (h.boxes r (List.mem_cons_of_mem _ q)).other (p := ⟨b, 0, none⟩) (Ne.symm (hn r q)) u⟩
theorem keeps_below {W W' : World} (B : Nat) (hb : Below W.heap.size W W') : KeepsFrom B W W' := ⟨hb.size, fun k o _ hk _ => (hb.block k (Array.getElem?_eq_some_iff.1 hk).1).trans hk⟩
end Go.Proofs.YtbljbhgelcakdaaDoor.Bit
