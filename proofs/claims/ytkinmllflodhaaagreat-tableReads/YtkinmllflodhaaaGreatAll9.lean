/- Joined out of the texts SetCmp, SetRow, SetMake, SetList, TabNoteR, in that order. -/
import Derived.Test.YtkinmllflodhaaaGreatAll4
import Derived.Test.YtkinmllflodhaaaGreatAll8
import Derived.Test.YtkinmllflodhaaaGreatAll5
import Derived.Test.YtkinmllflodhaaaGreatAll1
import Derived.Sort.Grow
import Derived.Lib.SlicesCompact
import Derived.Laws.MakeOwn
import Derived.Deep.DeepMust
/- How lists of numbers stand: the program's Compare and Same, the document's Compare and Has. -/
namespace Go.Proofs.YtkinmllflodhaaaGreat.Sets
open Go.RowKit Go.Proofs.YtkinmllflodhaaaGreat.Dig Go.Proofs.YtkinmllflodhaaaGreat.Mem
set_option linter.unusedVariables false
set_option linter.unusedSimpArgs false

/-- A slice value that reads a list of numbers. -/
structure RowV (w : World) (a : Option Addr) (c : Nat) (l : List Int) : Prop where
  cap : l.length ≤ c
  rd : Rd .i64 w a l.length (fun i => l.getD i 0)
  nil : a = none → c = 0
theorem RowV.keep {w w' : World} {a : Option Addr} {c : Nat} {l : List Int} (h : RowV w a c l) (hb : Below w.heap.size w w') : RowV w' a c l := ⟨h.cap, h.rd.keep hb, h.nil⟩
theorem RowV.at {w : World} {a : Option Addr} {c : Nat} {l : List Int} (h : RowV w a c l) {i : Nat} (hi : i < l.length) : ∃ b off, a = some ⟨b, off, none⟩ ∧ w.cell? ⟨b, off + i, none⟩ = some (.int .i64 (l.getD i 0)) := by
  obtain ⟨b, off, e, hc, _⟩ := h.rd.2 i hi
  exact ⟨b, off, e, hc⟩
theorem drop_at {l : List Int} {i : Nat} (h : i < l.length) : l.drop i = l.getD i 0 :: l.drop (i + 1) := by
  rw [List.drop_eq_getElem_cons h]; simp [List.getD_eq_getElem?_getD, List.getElem?_eq_getElem h]

theorem ccmp_any (x y : Int) (w : World) : Calls Tryz.prog 66 #[.int .i64 x, .int .i64 y] w fun e w' => e = .returned (.int .i64 (cmpI x y)) ∧ w' = w := by
  have h := Tryz.cmp_Compare_int x y w
  have e : Lib.compareInt x y = cmpI x y := by unfold Lib.compareInt cmpI; rfl
  rw [e] at h
  exact h
theorem cmpI_lt {x y : Int} (h : x < y) : cmpI x y = -1 := by simp [cmpI, h]
theorem cmpI_gt {x y : Int} (h : y < x) : cmpI x y = 1 := by simp [cmpI, h, show ¬ x < y by omega]
theorem cmpI_eq {x y : Int} (h : x = y) : cmpI x y = 0 := by simp [cmpI, h]
theorem lexI_cons (x y : Int) (a b : List Int) : lexL ltI (x :: a) (y :: b) = if cmpI x y = 0 then lexL ltI a b else cmpI x y := by
  rw [lexL]
  generalize lexL ltI a b = r
  unfold cmpI ltI
  by_cases h1 : x < y
  · simp [h1]
  · by_cases h2 : y < x
    · simp [h1, h2]
    · simp [h1, h2]
theorem lexI_step {a b : List Int} {i : Nat} (ha : i < a.length) (hb : i < b.length) :
    lexL ltI (a.drop i) (b.drop i) = if cmpI (a.getD i 0) (b.getD i 0) = 0 then lexL ltI (a.drop (i + 1)) (b.drop (i + 1)) else cmpI (a.getD i 0) (b.getD i 0) := by
  rw [drop_at ha, drop_at hb, lexI_cons]
theorem lexI_end {a b : List Int} {i : Nat} (ha : a.length ≤ i) : lexL ltI (a.drop i) (b.drop i) = 0 := by
  rw [List.drop_eq_nil_of_le ha]; simp [lexL]
def LRel2 (a b : List Int) (i : Value) : Prop := ∃ k : Nat, k ≤ a.length ∧ i = .int .i64 (k : Int) ∧ Hid (lexL ltI (a.drop k) (b.drop k) = lexL ltI a b)
/-- The document's Same of two rows that read one list. -/
theorem same_rows (x y : Option Addr) (c d : Nat) (a b : List Int) (w : World) (ha : RowV w x c a) (hb : RowV w y d b) (h : a = b) :
    Calls Tryz.prog 18 #[.slice x a.length c, .slice y b.length d] w fun e w' => e = .returned (.bool true) ∧ Below w.heap.size w w' := by
  subst h
  exact same_yes x y a.length c d _ w ha.rd hb.rd
/-- The document's Has. -/
theorem rhas_any (x : Option Addr) (c : Nat) (a : List Int) (v : Int) (w : World) (ha : RowV w x c a) :
    Calls Tryz.prog 90 #[.slice x a.length c, .int .i64 v] w fun e w' => e = .returned (.bool (decide (v ∈ a))) ∧ w' = w := by
  have hlen := ha.rd.le
  have HA := hide ha
  obtain ⟨n, hn⟩ : ∃ n, n = a.length := ⟨_, rfl⟩
  rw [← hn] at hlen ⊢
  have HN : Hid (n = a.length) := hn
  clear hn ha
  go_enter Tryz.func90, Tryz.ntmps90
  go_wp2
  go_loopw [5] (fun i wr => (∃ k : Nat, k ≤ n ∧ i = .int .i64 (k : Int) ∧ ∀ j, j < k → a.getD j 0 ≠ v) ∧ wr = w) (fun i _ => n - (intOf i).toNat)
  case atStart => exact ⟨⟨0, by omega, rfl, by omega⟩, rfl⟩
  case round =>
    obtain ⟨⟨k, hk, rfl, hx⟩, rfl⟩ := hrel
    have HX := hide hx
    clear hx
    by_cases hlt : k < n
    · obtain ⟨b1, o1, rfl, hc1⟩ := HA.out.at (show k < a.length by rw [← HN.out]; exact hlt)
      obtain ⟨p, hp⟩ : ∃ p, p = a.getD k 0 := ⟨_, rfl⟩
      rw [← hp] at hc1
      have HP : Hid (p = a.getD k 0) := hp
      clear hp
      by_cases he : p = v
      · have g1 : (p == v) = true := by simp [he]
        have HM : Hid (decide (v ∈ a) = true) := by
          show _ = _
          rw [decide_eq_true_eq, ← he, HP.out, List.getD_eq_getElem?_getD, List.getElem?_eq_getElem (by rw [← HN.out]; exact hlt)]
          exact List.getElem_mem _
        clear he
        go_wp2
        go_ret
        rw [HM.out]
        exact ⟨rfl, rfl⟩
      · have g1 : (p == v) = false := by simpa using he
        have HE : Hid (a.getD k 0 ≠ v) := by rw [← HP.out]; exact he
        clear he
        go_wp2
        go_roundw
        case rel => exact ⟨⟨k + 1, by omega, by go_num, fun j hj => by
          by_cases e : j = k
          · rw [e]; exact HE.out
          · exact HX.out j (by omega)⟩, trivial⟩
        case measure => simp [intOf]; omega
    · have HM : Hid (decide (v ∈ a) = false) := by
        show _ = _
        rw [decide_eq_false_iff_not]
        intro hm
        obtain ⟨j, hj, e⟩ := List.getElem_of_mem hm
        exact HX.out j (by rw [← HN.out] at hj; omega) (by rw [List.getD_eq_getElem?_getD, List.getElem?_eq_getElem hj]; exact e)
      go_wp2
      go_ret
      rw [HM.out]
      exact ⟨rfl, rfl⟩
end Go.Proofs.YtkinmllflodhaaaGreat.Sets

/- Rows of one cell an element: what a block holds, behind the shelf's sort and compact; the encoding may be whatever. -/
namespace Go.Proofs.YtkinmllflodhaaaGreat.Sets
open Go.RowKit Go.Proofs.YtkinmllflodhaaaGreat.Dig Go.Proofs.YtkinmllflodhaaaGreat.Mem Go.Sort
set_option linter.unusedVariables false
set_option linter.unusedSimpArgs false

section
variable {α : Type} [Inhabited α] {enc : α → Value}
theorem is_putRow {w : World} {b q : Nat} {cs : Array Value} {d : Array α} (h : Is w b cs) (hs : cs.size = d.size) : Is (putRow enc (Sort.ahead w q) b 0 d) b (d.map enc) := by
  obtain ⟨T, h⟩ := h
  refine ⟨T, ?_⟩
  have e : putCells enc 0 d cs = d.map enc := by
    apply Array.ext
    · simp [putCells, hs]
    · intro i h1 h2
      have hi : i < d.size := by simpa using h2
      simp [putCells, hi, getElem!_pos]
  simp [putRow, mapBlock, Sort.ahead, Array.getElem?_modify, h, onCells, e]
theorem only_putRow {S : Nat → Prop} {w : World} {b q : Nat} {d : Array α} (hb : S b) : Only S w (putRow enc (Sort.ahead w q) b 0 d) :=
  ⟨rfl, rfl, rfl, by simp [putRow, mapBlock, Sort.ahead], fun k _ hk => by
    simp [putRow, mapBlock, Sort.ahead, Array.getElem?_modify, show b ≠ k from fun e => hk (e ▸ hb)]⟩
theorem is_grow {w : World} {b : Nat} {cs : Array Value} {os : Array Obj} (h : Is w b cs) : Is (grow w os) b cs := by
  have hl := h.lt
  obtain ⟨T, h⟩ := h
  exact ⟨T, by rw [heap_grow_old w os hl]; exact h⟩
theorem only_grow {S : Nat → Prop} {w : World} {os : Array Obj} : Only S w (grow w os) :=
  ⟨rfl, rfl, rfl, by simp, fun k hk _ => heap_grow_old w os hk⟩
theorem holds_is {w : World} {b : Nat} {d : Array α} (h : Is w b (d.map enc)) : Holds enc w b 0 d := fun j hj => by
  refine ⟨h.cell _ ?_, h.frozen _⟩
  simp [hj, getElem!_pos]
end
section
variable {α : Type} {enc : α → Value}
/-- The first k of a row laid, zero values behind. -/
def fillZ (enc : α → Value) (z : Value) (l : List α) (n k : Nat) : Array Value := ((l.take k).map enc ++ List.replicate (n - k) z).toArray
theorem fillZ_size {z : Value} {l : List α} {n k : Nat} (hl : l.length = n) (hk : k ≤ n) : (fillZ enc z l n k).size = n := by simp [fillZ]; omega
theorem fillZ_zero {z : Value} {l : List α} {n : Nat} : fillZ enc z l n 0 = (List.replicate n z).toArray := by simp [fillZ]
theorem fillZ_all {z : Value} {l : List α} {n : Nat} (hl : l.length = n) : fillZ enc z l n n = l.toArray.map enc := by subst hl; simp [fillZ]
theorem fillZ_set {z : Value} {l : List α} {n k : Nat} {x : α} (hl : l.length = n) (hk : k < n) (hx : l[k]? = some x) : (fillZ enc z l n k).setIfInBounds k (enc x) = fillZ enc z l n (k + 1) := by
  unfold fillZ
  obtain ⟨r, hr⟩ : ∃ r, n - k = r + 1 := ⟨n - k - 1, by omega⟩
  have e : n - (k + 1) = r := by omega
  have e2 : ((l.take k).map enc).length = k := by simp; omega
  rw [hr, e, List.setIfInBounds_toArray, List.set_append_right _ _ (by omega), e2, Nat.sub_self, List.replicate_succ (n := r), List.set_cons_zero, List.take_add_one, hx]
  simp
theorem fillZ_get {z : Value} {l : List α} {n k : Nat} (hl : l.length = n) (hk : k < n) : (fillZ enc z l n k)[k]? = some z := by
  unfold fillZ
  have e2 : ((l.take k).map enc).length = k := by simp; omega
  rw [List.getElem?_toArray, List.getElem?_append_right (by omega), e2, Nat.sub_self, List.getElem?_replicate, if_pos (by omega)]
end
theorem compactUpTo_le {α : Type} [Inhabited α] [DecidableEq α] (d : Array α) (m : Nat) : (Lib.compactUpTo d m).length ≤ m := by
  unfold Lib.compactUpTo
  rw [List.length_map]
  exact Nat.le_trans (List.length_filter_le _ _) (by simp)
theorem compact_le {α : Type} [Inhabited α] [DecidableEq α] (zs : List α) : (Lib.compact zs).length ≤ zs.length := compactUpTo_le _ _
theorem madeCells_one (z : Value) (hz : z.cells = #[z]) (n : Nat) : madeCells z.cells n = (List.replicate n z).toArray := by
  rw [hz]
  apply Array.ext
  · simp [madeCells]
  · intro i h1 h2
    simp [madeCells, Nat.mod_one]
end Go.Proofs.YtkinmllflodhaaaGreat.Sets

/- The set of some numbers: the program's Of. -/
namespace Go.Proofs.YtkinmllflodhaaaGreat.Sets
open Go.RowKit Go.Proofs.YtkinmllflodhaaaGreat.Dig Go.Proofs.YtkinmllflodhaaaGreat.Mem Go.Sort
set_option linter.unusedVariables false
set_option linter.unusedSimpArgs false

def encN (x : Int) : Value := .int .i64 x
theorem Tryz.infoSetInt : (Tryz.prog.info? 3).map (fun i => (i.zero, i.size, i.bytes)) = some (some (.int .i64 0), 1, 8) := by kernel_rfl
theorem mk_ints (n : Nat) (hn : n ≤ 1000000) : ∀ w : World, (Instr.makeSlice 36 (.int .i64 (n : Int)) (.int .i64 (n : Int))).run Tryz.prog w = .ok (.slice (some ⟨w.heap.size, 0, none⟩) n n) (w.alloc (.cells (List.replicate n (Value.int .i64 0)).toArray 3)) := by
  intro w
  obtain ⟨i0, hi, hz0, hz1, hz2⟩ := info_parts Tryz.infoSetInt
  have hr := run_makeSlice (P := Tryz.prog) w 36 3 i0 (.int .i64 0) Tryz.underlying36 hi hz0 .i64 .i64 (n : Int) (n : Int) (by omega) (Int.le_refl _) (by rw [hz1]; simp; omega) (by rw [hz2]; omega) (by omega)
  simp only [Int.toNat_natCast] at hr
  rw [hz1, Nat.mul_one, madeCells_one _ rfl] at hr
  exact hr
/-- A block that holds a list reads it. -/
theorem is_rowv {w : World} {b c : Nat} {l : List Int} {cs : Array Value} (h : Is w b cs) (hc : ∀ i, i < l.length → cs[i]? = some (.int .i64 (l.getD i 0))) (hl : l.length ≤ c) (hm : l.length ≤ 1000000000000) (hw : ∀ n ∈ l, (Lit.int .i64 n).wf = true) : RowV w (some ⟨b, 0, none⟩) c l :=
  ⟨hl, ⟨hm, fun i hi => ⟨b, 0, rfl, h.cell _ (by rw [Nat.zero_add]; exact hc i hi), by
    show (Lit.int .i64 (l.getD i 0)).wf = true
    rw [List.getD_eq_getElem?_getD, List.getElem?_eq_getElem hi]
    exact hw _ (List.getElem_mem hi)⟩⟩, fun e => by cases e⟩
theorem sort_at (b n cap : Nat) (l : List Int) (w : World) (h : Is w b (l.toArray.map encN)) (hn : l.length = n) (hm : n ≤ 1000000) :
    Calls Tryz.prog 70 #[.slice (some ⟨b, 0, none⟩) n cap] w fun e w' => e = .returned (.tuple #[]) ∧ Is w' b ((l.mergeSort fun x y => decide (x ≤ y)).toArray.map encN) ∧ Only (fun k => k = b) w w' := by
  subst hn
  refine (Tryz.slices_Sort_int b 0 cap l w (holds_is h) h.lt (by omega)).mono ?_
  rintro e w' ⟨rfl, n, os, rfl⟩
  exact ⟨rfl, is_grow (is_putRow h (by simp)), (only_putRow (S := fun k => k = b) rfl).trans only_grow⟩
theorem compact_at (b n cap : Nat) (l : List Int) (w : World) (h : Is w b (l.toArray.map encN)) (hn : l.length = n) (hm : n ≤ 1000000) (hc : n ≤ cap) :
    Calls Tryz.prog 71 #[.slice (some ⟨b, 0, none⟩) n cap] w fun e w' => e = .returned (.slice (some ⟨b, 0, none⟩) (Lib.compact l).length cap) ∧ (∃ r : List Int, Is w' b ((Lib.compact l ++ r).toArray.map encN)) ∧ Only (fun k => k = b) w w' := by
  subst hn
  have hl : (Lib.compact l).length ≤ l.length := compact_le l
  refine (Tryz.slices_Compact_int b 0 cap l w (holds_is h) (by omega) hc).mono ?_
  rintro e w' ⟨rfl, q, rfl⟩
  exact ⟨rfl, ⟨_, is_putRow h (by simp; omega)⟩, only_putRow (S := fun k => k = b) rfl⟩
def FillR (w : World) (l : List Int) (n : Nat) (i : Value) (wr : World) : Prop :=
  ∃ k : Nat, k ≤ n ∧ i = .int .i64 (k : Int) ∧ Hid (Is wr (w.heap.size + 1) (fillZ encN (.int .i64 0) l n k)) ∧ Hid (Is wr w.heap.size #[.slice none 0 0]) ∧ Hid (Below w.heap.size w wr)
/-- A set as a value. -/
def SetV (w : World) (v : Value) (s : List Int) : Prop := ∃ a c, v = .agg #[.slice a s.length c] ∧ RowV w a c s
theorem SetV.keep {w w' : World} {v : Value} {s : List Int} (h : SetV w v s) (hb : Below w.heap.size w w') : SetV w' v s := by
  obtain ⟨a, c, e, h⟩ := h
  exact ⟨a, c, e, h.keep hb⟩
theorem RowV.wf {w : World} {a : Option Addr} {c : Nat} {l : List Int} (h : RowV w a c l) : ∀ n ∈ l, (Lit.int .i64 n).wf = true := fun n hn => by
  obtain ⟨i, hi, e⟩ := List.getElem_of_mem hn
  obtain ⟨_, _, _, _, hw⟩ := h.rd.2 i hi
  have : (fun i => l.getD i 0) i = n := by show l.getD i 0 = n; rw [List.getD_eq_getElem?_getD, List.getElem?_eq_getElem hi]; exact e
  rw [this] at hw
  exact hw
/-- A set whose things, if there are any, lie in a block that is not older than B. -/
def FreshV (B : Nat) (v : Value) : Prop := ∀ b o sp n c, v = .agg #[.slice (some ⟨b, o, sp⟩) n c] → 0 < n → B ≤ b
theorem RowV.put {w : World} {a : Option Addr} {c B : Nat} {l : List Int} (h : RowV w a c l) (hB : ∀ b o sp, a = some ⟨b, o, sp⟩ → 0 < l.length → b ≠ B) (u : Value) : RowV (w.setCell ⟨B, 0, none⟩ u) a c l :=
  ⟨h.cap, h.rd.only' (S := fun k => k = B) ((Only.refl _ _).put 0 u) (fun hl x e => hB x.block x.off x.spot (by rw [e]) hl), h.nil⟩
theorem of_done {w w1 : World} {l : List Int} {n : Nat} (hw : ∀ x ∈ l, (Lit.int .i64 x).wf = true) (hn : l.length = n) (hm : n ≤ 1000000) {s : List Int} (hs : s = setL ltI l) {r : List Int} (h : Is w1 (w.heap.size + 1) ((s ++ r).toArray.map encN)) : RowV w1 (some ⟨w.heap.size + 1, 0, none⟩) n s := by
  have h1 := setL_length (lt := ltI) l
  rw [← hs] at h1
  refine is_rowv h (fun i hi => ?_) (by omega) (by omega) (fun x hx => hw x (by rw [hs] at hx; exact (mem_setL totI l x).1 hx))
  have hi2 : i < s.length + r.length := by omega
  simp [hi, List.getElem?_append_left, encN]
set_option maxHeartbeats 1000000 in
/-- The program's Of. -/
theorem of_any (a : Option Addr) (c : Nat) (l : List Int) (w : World) (h : RowV w a c l) (hm : l.length ≤ 1000000) :
    Calls Tryz.prog 39 #[.slice a l.length c] w fun e w' => ∃ v, e = .returned v ∧ SetV w' v (setL ltI l) ∧ FreshV w.heap.size v ∧ Below w.heap.size w w' := by
  have HW := hide h.wf
  have HA := hide h
  obtain ⟨n, hn⟩ : ∃ n, l.length = n := ⟨_, rfl⟩
  rw [hn] at hm ⊢
  have hmk := mk_ints n hm
  have HN : Hid (l.length = n) := hn
  have HM : Hid (n ≤ 1000000) := hm
  have R0 : ∀ (w1 : World), Hid (w1 = (w.alloc (.cells #[.slice none 0 0] 90)).alloc (.cells (List.replicate n (Value.int .i64 0)).toArray 3)) → Hid (FillR w l n (.int .i64 0) w1) := by
    intro w1 e
    have e := e.out
    subst e
    exact ⟨0, by omega, rfl, by rw [fillZ_zero]; exact Is.made _ _ _ (by simp), (Is.made _ _ _ rfl).alloc _, ((Below.refl _ _).alloc (Nat.le_refl _) _).alloc (by simp) _⟩
  clear hn h
  go_enter Tryz.func39, Tryz.ntmps39
  go_wp2
  go_loopw [12] (fun i wr => FillR w l n i wr) (fun i _ => n - (intOf i).toNat)
  case atStart => exact (R0 _ rfl).out
  case round =>
    obtain ⟨k, hk, rfl, hI, hC, hB⟩ := hrel
    by_cases hlt : k < n
    · obtain ⟨b1, o1, rfl, hc1⟩ := (HA.out.keep (hB.out.mono (Nat.le_refl _))).at (show k < l.length by rw [HN.out]; exact hlt)
      have hz : l[k]? = some (l.getD k 0) := by rw [List.getD_eq_getElem?_getD, List.getElem?_eq_getElem (by rw [HN.out]; exact hlt)]; rfl
      have hwx := HW.out (l.getD k 0) (List.mem_of_getElem? hz)
      obtain ⟨x, hx⟩ : ∃ x, x = l.getD k 0 := ⟨_, rfl⟩
      rw [← hx] at hc1 hz hwx
      have HZ := hide hz
      have hb1 := bounds_i64 hwx
      obtain ⟨q1, q2⟩ := hb1
      have hcell := hI.out.cell k (fillZ_get HN.out hlt)
      have hfz := hI.out.frozen k
      clear hx hz hwx
      go_wp2
      go_roundw
      case rel => exact ⟨k + 1, by omega, by go_num, by rw [← fillZ_set HN.out hlt HZ.out]; exact hI.out.set k _, hC.out.other (by simp) _, hB.out.setCell (p := ⟨w.heap.size + 1, k, none⟩) (by simp) _⟩
      case measure => simp [intOf]; omega
    · obtain rfl : k = n := by omega
      have HI1 : Hid (Is wr (w.heap.size + 1) (l.toArray.map encN)) := by have := hI.out; rw [fillZ_all HN.out] at this; exact this
      have hMl : (l.mergeSort fun x y => decide (x ≤ y)).length = k := by rw [List.length_mergeSort]; exact HN.out
      have HS : Hid (Lib.compact (l.mergeSort fun x y => decide (x ≤ y)) = setL ltI l) := sort_set_int l
      have HML := hide hMl
      clear hI hMl hmk R0
      go_wp2_with (first | (go_at_call 70; go_must ((with_reducible refine (sort_at (w.heap.size + 1) k k l _ HI1.out HN.out HM.out).mono ?_); rintro e w2 ⟨rfl, hs2, ho2⟩; have HI2 := hide hs2; have HC2 := hide (hC.out.keep ho2 (by omega)); have HB2 := hide (hB.out.only ho2 (fun i q => by omega) hB.out.size); clear hs2 ho2 HI1 hC hB)) | (go_at_call 71; go_must ((with_reducible refine (compact_at (w.heap.size + 1) k k _ _ HI2.out HML.out HM.out (Nat.le_refl _)).mono ?_); rintro e w3 ⟨rfl, ⟨r3, hs3⟩, ho3⟩; have HI3 := hide hs3; have HC3 := hide (HC2.out.keep ho3 (by omega)); have HB3 := hide (HB2.out.only ho3 (fun i q => by omega) HB2.out.size); have hc3 : w3.cell? ⟨w.heap.size, 0, none⟩ = some (.slice none 0 0) := HC3.out.cell 0 rfl; have hf3 := HC3.out.frozen 0; clear hs3 ho3 HI2 HC2 HB2)))
      obtain ⟨S, hS⟩ : ∃ S, S = Lib.compact (l.mergeSort fun x y => decide (x ≤ y)) := ⟨_, rfl⟩
      have hS2 : S = setL ltI l := hS.trans HS.out
      have hI4 := HI3.out
      rw [← hS] at hI4
      have hV := of_done (w := w) HW.out HN.out HM.out hS2 (hI4.other (p := ⟨w.heap.size, 0, none⟩) (by simp) (.slice (some ⟨w.heap.size + 1, 0, none⟩) S.length k))
      have hb4 := HB3.out.setCell (p := ⟨w.heap.size, 0, none⟩) (Nat.le_refl _) (.slice (some ⟨w.heap.size + 1, 0, none⟩) S.length k)
      have hc4 : (w3.setCell ⟨w.heap.size, 0, none⟩ (.slice (some ⟨w.heap.size + 1, 0, none⟩) S.length k)).cell? ⟨w.heap.size, 0, none⟩ = some (.slice (some ⟨w.heap.size + 1, 0, none⟩) S.length k) := (HC3.out.set 0 _).cell 0 rfl
      rw [← hS]
      exact bodyPost_ret (v := .agg #[.slice (some ⟨w.heap.size + 1, 0, none⟩) S.length k]) (by simp [results, Tryz.results39, go_sem, hc4]) rfl ⟨_, rfl, ⟨_, _, by rw [← hS2], by rw [← hS2]; exact hV⟩, fun b o sp n c e _ => by injection e with e; injection e with e; simp at e; omega, hb4⟩
end Go.Proofs.YtkinmllflodhaaaGreat.Sets

/- What a set answers of itself: its list, how many there are, whether something is in it. -/
namespace Go.Proofs.YtkinmllflodhaaaGreat.Sets
open Go.RowKit Go.Proofs.YtkinmllflodhaaaGreat.Dig Go.Proofs.YtkinmllflodhaaaGreat.Mem Go.Sort
set_option linter.unusedVariables false
set_option linter.unusedSimpArgs false

/-- A row of the call's own, as a row that is read. -/
theorem own_rowv {w : World} {base : Nat} {v : Value} {l : List Int} (h : w.ownsRow base 3 1 v l.length (l.map (Value.int .i64))) (hl : l.length ≤ 1000000000000) (hw : ∀ n ∈ l, (Lit.int .i64 n).wf = true) :
    ∃ a cap, v = .slice a l.length cap ∧ RowV w a cap l := by
  obtain ⟨a, cap, e, h1, h2⟩ := Rd.own h hl hw
  refine ⟨a, cap, e, h1, h2, fun q => ?_⟩
  subst q
  rcases h.2 with ⟨hv, _⟩ | ⟨g, cap', cur, hv, _⟩
  · rw [hv] at e; injection e with e1 e2 e3; exact e3.symm
  · rw [hv] at e; injection e with e1; cases e1
theorem clone_fresh (a : Option Addr) (c : Nat) (l : List Int) (w : World) (h : RowV w a c l) (hm : l.length ≤ 1000000) :
    Calls Tryz.prog 44 #[.slice a l.length c] w fun e w' => (∃ a' c', e = .returned (.slice a' l.length c') ∧ RowV w' a' c' l ∧ ∀ x, a' = some x → w.heap.size ≤ x.block) ∧ Below w.heap.size w w' := by
  cases a with
  | none =>
    have hl0 : l = [] := by
      cases l with
      | nil => rfl
      | cons x l => obtain ⟨b, off, e, _⟩ := h.at (i := 0) (by simp); cases e
    subst hl0
    refine (Tryz.slices_Clone_int_nil 0 c w).mono ?_
    rintro e w' ⟨rfl, rfl⟩
    exact ⟨⟨none, 0, rfl, ⟨by simp, ⟨by simp, by simp⟩, fun _ => rfl⟩, fun x e => by cases e⟩, Below.refl _ _⟩
  | some ad =>
    by_cases h0 : l = []
    · subst h0
      refine (Tryz.slices_Clone_int_zero ad c w).mono ?_
      rintro e w' ⟨v', rfl, hown, _, hb⟩
      obtain ⟨a', c', rfl, hr⟩ := own_rowv (l := []) hown (by simp) (by simp)
      exact ⟨⟨_, _, rfl, hr, fun x e => by subst e; exact (World.ownsRow.lt hown x.block rfl).1⟩, hb⟩
    · obtain ⟨b, off, e, _⟩ := h.at (i := 0) (by cases l with
        | nil => exact absurd rfl h0
        | cons x l => simp)
      cases e
      refine (Tryz.slices_Clone_int b off l.length c l w (Nat.le_refl _) (by omega) (fun j hj => ?_)).mono ?_
      · obtain ⟨b', off', e, hc⟩ := h.at hj
        cases e
        exact hc
      · rintro e w' ⟨v', rfl, hown, _, hb⟩
        rw [List.take_length] at hown
        obtain ⟨a', c', rfl, hr⟩ := own_rowv hown (by omega) h.wf
        exact ⟨⟨_, _, rfl, hr, fun x e => by subst e; exact (World.ownsRow.lt hown x.block rfl).1⟩, hb⟩
theorem clone_any (a : Option Addr) (c : Nat) (l : List Int) (w : World) (h : RowV w a c l) (hm : l.length ≤ 1000000) :
    Calls Tryz.prog 44 #[.slice a l.length c] w fun e w' => (∃ a' c', e = .returned (.slice a' l.length c') ∧ RowV w' a' c' l) ∧ Below w.heap.size w w' := by
  refine (clone_fresh a c l w h hm).mono ?_
  rintro e w' ⟨⟨a', c', rfl, h1, _⟩, h2⟩
  exact ⟨⟨a', c', rfl, h1⟩, h2⟩
theorem bs_any (a : Option Addr) (c : Nat) (l : List Int) (x : Int) (w : World) (h : RowV w a c l) (hm : l.length ≤ 1000000) (hs : Rising ltI l) :
    Calls Tryz.prog 58 #[.slice a l.length c, .int .i64 x] w fun e w' => e = .returned (.tuple #[.int .i64 (l.countP fun y => ltI y x : Nat), .bool (decide (x ∈ l))]) ∧ Below w.heap.size w w' := by
  by_cases h0 : l = []
  · subst h0
    refine (Tryz.slices_BinarySearch_int_empty a c x w).mono ?_
    rintro e w' ⟨rfl, rfl⟩
    exact ⟨rfl, Below.refl _ _⟩
  · obtain ⟨b, off, rfl, _⟩ := h.at (i := 0) (by cases l with
      | nil => exact absurd rfl h0
      | cons x l => simp)
    refine (Tryz.slices_BinarySearch_int b off l.length c l x w (Nat.le_refl _) (by omega) (fun j hj => ?_) ?_).mono ?_
    · obtain ⟨b', off', e, hc⟩ := h.at hj
      cases e
      exact hc
    · rw [List.take_length]
      exact List.Pairwise.imp (fun q => by simp [ltI] at q; omega) hs
    · rintro e w' ⟨rfl, q, rfl⟩
      rw [List.take_length]
      refine ⟨?_, ⟨rfl, rfl, rfl, Nat.le_refl _, fun _ _ => rfl⟩⟩
      have e1 : (l.countP fun y => decide (y < x)) = l.countP fun y => ltI y x := rfl
      rw [e1]
      simp
theorem list_any (v : Value) (s : List Int) (w : World) (h : SetV w v s) (hm : s.length ≤ 1000000) :
    Calls Tryz.prog 40 #[v] w fun e w' => (∃ a c, e = .returned (.slice a s.length c) ∧ RowV w' a c s) ∧ Below w.heap.size w w' := by
  obtain ⟨a, c, rfl, hr⟩ := h
  have H0 : Hid (∀ T : TypeId, Calls Tryz.prog 44 #[.slice a s.length c] (w.alloc (.cells #[.slice a s.length c] T)) fun e w' => (∃ a' c', e = .returned (.slice a' s.length c') ∧ RowV w' a' c' s) ∧ Below (w.alloc (.cells #[.slice a s.length c] T)).heap.size (w.alloc (.cells #[.slice a s.length c] T)) w') :=
    fun T => clone_any a c s _ (hr.keep ((Below.refl _ _).alloc (Nat.le_refl _) _)) hm
  obtain ⟨n, hn⟩ : ∃ n, n = s.length := ⟨_, rfl⟩
  rw [← hn] at H0 ⊢
  clear hn hr hm
  go_enter Tryz.func40, Tryz.ntmps40
  go_wp2_with (go_at_call 44; go_must ((with_reducible refine (H0.out _).mono ?_); rintro e w9 ⟨⟨a9, c9, rfl, hr9⟩, hb9⟩; have HR := hide hr9; have HB := hide hb9; clear hr9 hb9))
  go_ret
  exact ⟨⟨_, _, rfl, HR.out⟩, ((Below.refl _ _).alloc (Nat.le_refl _) _).trans (HB.out.mono (by simp))⟩
end Go.Proofs.YtkinmllflodhaaaGreat.Sets

/- An operation is noted: a read. -/
namespace Go.Proofs.YtkinmllflodhaaaGreat.Tab
open Go.RowKit Go.Proofs.YtkinmllflodhaaaGreat.Dig Go.Proofs.YtkinmllflodhaaaGreat.Mem Go.Proofs.YtkinmllflodhaaaGreat.Keys Go.Proofs.YtkinmllflodhaaaGreat.Own Go.Proofs.YtkinmllflodhaaaGreat.Thing Go.Proofs.YtkinmllflodhaaaGreat.Sets Go.Maps Go.MapKept Go.ChangeMaps
set_option linter.unusedVariables false
set_option linter.unusedSimpArgs false

def Tb.read (s : Tb) (r : RdM) : Tb := { s with rd := upd s.rd r.key (s.rd r.key ++ [r]) }
theorem RdAt.of_row {G : Nat → Nat → Prop} {w : World} {a : Option Addr} {c : Nat} {l : List Int} (h : RowV w a c l) (hG : ∀ b off, a = some ⟨b, off, none⟩ → 0 < l.length → G b (off + l.length)) : RdAt G w (.slice a l.length c) l := by
  refine ⟨a, c, rfl, h.cap, h.nil, h.wf, fun i x hi => ?_⟩
  have hlt : i < l.length := by
    rcases Nat.lt_or_ge i l.length with q | q
    · exact q
    · rw [List.getElem?_eq_none q] at hi; cases hi
  obtain ⟨b, off, e, hc, _⟩ := h.rd.2 i hlt
  refine ⟨b, off, e, hG b off e (by omega), ?_⟩
  rw [hc]
  simp [List.getD_eq_getElem?_getD, hi]
theorem RdAt.keep {G : Nat → Nat → Prop} {w w' : World} {v : Value} {l : List Int} (h : RdAt G w v l) (hb : Below w.heap.size w w') : RdAt G w' v l := h.only fun b off i u hG hi hc => ⟨(hb.cell (p := ⟨b, off + i, none⟩) (lt_of_cell hc)).trans hc, hG⟩
theorem RdAt.slice {G : Nat → Nat → Prop} {w : World} {v : Value} {l : List Int} (h : RdAt G w v l) : ∃ a c, v = .slice a l.length c := let ⟨a, c, e, _⟩ := h; ⟨a, c, e⟩
theorem RdAt.row {G : Nat → Nat → Prop} {w : World} {a : Option Addr} {n c : Nat} {l : List Int} (h : RdAt G w (.slice a n c) l) (hl : l.length ≤ 1000000000000) : n = l.length ∧ RowV w a c l := by
  obtain ⟨a', c', e, h1, h2, h3, h4⟩ := h
  cases e
  refine ⟨rfl, h1, ⟨hl, fun i hi => ?_⟩, h2⟩
  obtain ⟨b, off, e, _, hc⟩ := h4 i l[i] (List.getElem?_eq_getElem hi)
  have e2 : l.getD i 0 = l[i] := by simp [List.getD_eq_getElem?_getD, List.getElem?_eq_getElem hi]
  refine ⟨b, off, e, ?_, ?_⟩
  · show _ = some (Value.int .i64 (l.getD i 0)); rw [e2]; exact hc
  · show (Lit.int .i64 (l.getD i 0)).wf = true; rw [e2]; exact h3 _ (List.getElem_mem hi)
/-- The reads of a key. -/
theorem TabAt.put2 {base n : Nat} {d : TD} {s : Tb} {w w2 : World} {r : RdM} {c : List Value} {v : Value} (h : TabAt base d s n w) (hk : (Lit.int .i64 r.key).wf = true) (hn : n ≤ 100000) (hc : ReadAt (d.free s) w c r)
    (hv : w2.ownsRow base 38 5 v ((s.rd r.key).length + 1) ((d.cR r.key).flatten ++ c)) (hg : w.grownBy w2 (d.vR r.key).ownBlock) (hat : v.ownBlock = (d.vR r.key).ownBlock ∨ v.ownBlock = some w.heap.size) :
    ∃ w3, (Instr.mapUpdate 77 (.map (some d.b2)) (.int .i64 r.key) v).run Tryz.prog w2 = .ok () w3 ∧ TabAt base { d with fR := upd d.fR r.key (some v), cR := upd d.cR r.key (d.cR r.key ++ [c]) } (s.read r) (n + 1) w3 ∧ Only (fun k => k = d.b2 ∨ (d.vR r.key).ownBlock = some k) w w3 := by
  have hne : ∀ g, (d.vR r.key).ownBlock = some g → ¬ g = d.b2 := fun g hg e => own_ne_map (h.rr r.key) h.m2 (by rw [hg, e])
  have m2 : MapAt 3 idV idL nameOk w2 d.b2 n d.fR := h.m2.block (hg.block _ h.m2.lt (fun e => hne _ e.symm rfl))
  obtain ⟨w3, k1, k2, k3⟩ := map_put m2 (T := 77) idIs Tryz.underlying77 (x := r.key) hk (by unfold maxLen; omega) v
  have hat2 : v.ownBlock = (d.vR r.key).ownBlock ∨ ∃ g, v.ownBlock = some g ∧ w.heap.size ≤ g := by
    rcases hat with q | q
    · exact .inl q
    · exact .inr ⟨_, q, Nat.le_refl _⟩
  have ho12 : Only (fun k => k = d.b2 ∨ (d.vR r.key).ownBlock = some k) w w2 := ⟨hg.os, hg.tape, hg.output, hg.size, fun k hk hn => hg.block k hk (fun e => hn (.inr e.symm))⟩
  have ho : Only (fun k => k = d.b2 ∨ (d.vR r.key).ownBlock = some k) w w3 := ho12.trans (k3.mono fun _ e => .inl e)
  refine ⟨w3, k1, h.push2 ho k2 (Nat.lt_succ_self _) (own_keep hv k3 fun g hg e => ?_) hc hat2, ho⟩
  rcases hat2 with q | ⟨g', q, hg'⟩
  · exact hne g (by rw [← q]; exact hg) e
  · rw [hg] at q
    have := Option.some.inj q
    have := h.m2.lt
    omega
set_option maxRecDepth 100000 in
set_option maxHeartbeats 4000000 in
/-- A read, whose list may lie wherever, and whose Own is what the table has. -/
theorem noter_any {base n bT : Nat} {d : TD} {s : Tb} (i0 i1 : Value) (r : RdM) (la : Option Addr) (lc : Nat) (ov : Value) (w : World) (h : TabAt base d s n w) (hT : Is w bT (tabBox i0 i1 d)) (hf : ¬ d.F bT) (hbase : base ≤ w.heap.size) (hn : n ≤ 10000)
    (hk : (Lit.int .i64 r.key).wf = true) (hl : RowV w la lc r.list) (hll : r.list.length ≤ 100000) (ho : RdAt (d.free s) w ov r.own) (hoF : ∀ a m cap, ov = .slice (some a) m cap → 0 < m → d.F a.block) :
    Calls Tryz.prog 69 #[.pointer (some ⟨bT, 0, none⟩), .agg #[.int .i64 r.txn, .int .i64 (r.op : Int), .int .i64 r.key, .slice la r.list.length lc, ov]] w fun e w' => e = .returned (.tuple #[]) ∧ ∃ d', TabAt base d' (s.read r) (n + 1) w' ∧ Only d.T w w' ∧ (∀ k, d'.F k → d.F k ∨ w.heap.size ≤ k) ∧ tabBox i0 i1 d' = tabBox i0 i1 d := by
  obtain ⟨oa, oc, rfl⟩ := ho.slice
  have HT := hide hT
  have HF := hide hf
  have HH := hide h
  have HB := hide hbase
  have W2 := hide hk
  have HL := hide hl
  have HO := hide ho
  have HOF := hide hoF
  have hbl : bT < w.heap.size := hT.lt
  have hne : ¬ bT = w.heap.size := by omega
  obtain ⟨ln, hln⟩ : ∃ ln, ln = r.list.length := ⟨_, rfl⟩
  have HLN := hide hln
  rw [← hln]
  clear h hT hf hbase hk hl ho hoF hln
  go_enter Tryz.func69, Tryz.ntmps69
  have CL : Hid (∀ W, Below w.heap.size w W → Calls Tryz.prog 44 #[.slice la ln lc] W fun e w' => ∃ a' c', e = .returned (.slice a' ln c') ∧ Hid (RowV w' a' c' r.list ∧ (∀ x, a' = some x → W.heap.size ≤ x.block) ∧ Below W.heap.size W w')) := hide fun W hW => by
    have := clone_fresh la lc r.list W (HL.out.keep hW) (by omega)
    rw [← HLN.out] at this
    refine this.mono ?_
    rintro e w' ⟨⟨a', c', rfl, h1, h2⟩, h3⟩
    exact ⟨a', c', rfl, h1, h2, h3⟩
  have hb0 : Below w.heap.size w (w.alloc (.cells #[.int .i64 r.txn, .int .i64 (r.op : Int), .int .i64 r.key, .slice la ln lc, .slice oa r.own.length oc] 38)) := (Below.refl _ _).alloc (Nat.le_refl _) _
  go_upto_region 2 with (go_at_call 44; go_must ((with_reducible refine (Hid.out CL _ hb0).mono ?_); rintro e w1 ⟨a', c', rfl, hR⟩; have X1 := (Is.made w #[.int .i64 r.txn, .int .i64 (r.op : Int), .int .i64 r.key, .slice la ln lc, .slice oa r.own.length oc] 38 rfl).below hR.out.2.2; have x3 := X1.cell 3 rfl; have xf := X1.frozen 3))
  obtain ⟨w5, hw5⟩ : ∃ w5, w5 = w1.setCell ⟨w.heap.size, 3, none⟩ (.slice a' ln c') := ⟨_, rfl⟩
  rw [← hw5]
  have B1 : Below w.heap.size w w1 := hb0.trans (hR.out.2.2.mono (by simp))
  have hzw1 := B1.size
  have B5 : Below w.heap.size w w5 := by rw [hw5]; exact B1.setCell (p := ⟨w.heap.size, 3, none⟩) (Nat.le_refl _) _
  have X5 : Is w5 w.heap.size #[.int .i64 r.txn, .int .i64 (r.op : Int), .int .i64 r.key, .slice a' ln c', .slice oa r.own.length oc] := by rw [hw5]; exact (X1.set 3 _).eq rfl
  have T5 : Is w5 bT (tabBox i0 i1 d) := HT.out.below B5
  have R5 : TabAt base d s n w5 := HH.out.keep (Only.of_below (S := fun _ => False) B5) (fun _ _ q => q)
  have hfresh : ∀ x, a' = some x → w.heap.size < x.block := fun x e => by
    have := hR.out.2.1 x e
    simp at this
    omega
  have free5 : ∀ b m, w.heap.size < b → d.free s b m := fun b m hb => ⟨fun p hp => absurd (own_lt (HH.out.ra p) hp) (by omega), fun k hp => absurd (own_lt (HH.out.rr k) hp) (by omega), fun k hp => absurd (own_lt (HH.out.rw k) hp) (by omega)⟩
  have L5 : RdAt (d.free s) w5 (.slice a' ln c') r.list := by
    have h1 : RdAt (fun b m => w.heap.size < b) w1 (.slice a' r.list.length c') r.list := RdAt.of_row hR.out.1 (fun b off e _ => hfresh _ e)
    rw [← HLN.out] at h1
    refine h1.only fun b off i u hG hi hc => ⟨?_, free5 _ _ hG⟩
    rw [hw5, World.cell?_setCell_other _ _ _ _ (by intro e; simp only [Addr.mk.injEq, and_true] at e; omega)]
    exact hc
  have C5 : ReadAt (d.free s) w5 [.int .i64 r.txn, .int .i64 (r.op : Int), .int .i64 r.key, .slice a' ln c', .slice oa r.own.length oc] r := ⟨_, _, rfl, L5, HO.out.keep B5⟩
  have hfr : ∀ a m cap, Value.slice (some a) m cap ∈ [Value.int .i64 r.txn, .int .i64 (r.op : Int), .int .i64 r.key, .slice a' ln c', .slice oa r.own.length oc] → 0 < m → d.F a.block ∨ w.heap.size ≤ a.block := fun a m cap hm hpos => by
    simp only [List.mem_cons, List.not_mem_nil, or_false, reduceCtorEq, false_or] at hm
    rcases hm with q | q
    · cases q; exact .inr (Nat.le_of_lt (hfresh _ rfl))
    · exact .inl (HOF.out a m cap q.symm hpos)
  have HX5 := hide X5
  have HT5 := hide T5
  have HR5 := hide R5
  have HB5 := hide B5
  have HC5 := hide C5
  have HFR := hide hfr
  clear hw5 B1 B5 X5 T5 R5 hfresh free5 L5 C5 hfr X1 x3 xf hR CL hb0 HLN HL HO HOF hzw1
  go_upto_region 2 with fail
  obtain ⟨WD5, hWD⟩ : ∃ WD5, WD5 = w5.drew := ⟨_, rfl⟩
  have BD : Below w5.heap.size w5 WD5 := by rw [hWD]; exact (Below.refl _ _).drew
  have RD := HR5.out.keep (Only.of_below (S := fun _ => False) BD) (fun _ _ q => q)
  have TD5 := HT5.out.below BD
  have XD5 := HX5.out.below BD
  have hzD := BD.size
  have hz5 := HB5.out.size
  obtain ⟨cv, hcv⟩ : ∃ cv, cv = d.vR r.key := ⟨_, rfl⟩
  have look : ∀ W, W.heap[d.b2]? = WD5.heap[d.b2]? → (Instr.lookup 77 (.map (some d.b2)) (.int .i64 r.key) false).run Tryz.prog W = .ok cv W := fun W hW => by
    have hm := (RD.m2.block hW).look (T := 77) (E := 94) idIs Tryz.underlying77 (zeroR W) (x := r.key) W2.out
    rw [hcv]
    exact hm
  have hb3w : d.b2 < w.heap.size := HH.out.m2.lt
  have hTb3 : ¬ bT = d.b2 := fun e => HF.out (.inr (.inr (.inl e)))
  obtain ⟨WB5, hWB⟩ : ∃ WB5, WB5 = WD5.alloc (.cells #[.int .i64 r.txn, .int .i64 (r.op : Int), .int .i64 r.key, .slice a' ln c', .slice oa r.own.length oc] 38) := ⟨_, rfl⟩
  have BB : Below WD5.heap.size WD5 WB5 := by rw [hWB]; exact (Below.refl _ _).alloc (Nat.le_refl _) _
  have EB : Is WB5 WD5.heap.size #[.int .i64 r.txn, .int .i64 (r.op : Int), .int .i64 r.key, .slice a' ln c', .slice oa r.own.length oc] := by rw [hWB]; exact Is.made WD5 _ 38 rfl
  have RB := RD.keep (Only.of_below (S := fun _ => False) BB) (fun _ _ q => q)
  have hb3D : d.b2 < WD5.heap.size := by have := RD.m2.lt; exact this
  have CB : ReadAt (d.free s) WB5 [.int .i64 r.txn, .int .i64 (r.op : Int), .int .i64 r.key, .slice a' ln c', .slice oa r.own.length oc] r := by
    obtain ⟨lv, ov, e, h1, h2⟩ := HC5.out
    exact ⟨lv, ov, e, (h1.keep BD).keep BB, (h2.keep BD).keep BB⟩
  refine Last.region_last (k := 16) (S := fun w' : World => w'.cell? ⟨bT, 4, none⟩ = some (.map (some d.b2)) ∧ w'.cell? ⟨w.heap.size, 0, none⟩ = some (.int .i64 r.txn) ∧ w'.cell? ⟨w.heap.size, 1, none⟩ = some (.int .i64 (r.op : Int)) ∧ w'.cell? ⟨w.heap.size, 2, none⟩ = some (.int .i64 r.key) ∧ w'.cell? ⟨w.heap.size, 3, none⟩ = some (.slice a' ln c') ∧ w'.cell? ⟨w.heap.size, 4, none⟩ = some (.slice oa r.own.length oc) ∧ (Instr.lookup 77 (.map (some d.b2)) (.int .i64 r.key) false).run Tryz.prog w' = .ok cv w') (by kernel_rfl) rfl rfl (by kernel_rfl) (by kernel_rfl) ?_
  rw [← hWD]
  clear hWD
  have SD : WD5.cell? ⟨bT, 4, none⟩ = some (.map (some d.b2)) ∧ WD5.cell? ⟨w.heap.size, 0, none⟩ = some (.int .i64 r.txn) ∧ WD5.cell? ⟨w.heap.size, 1, none⟩ = some (.int .i64 (r.op : Int)) ∧ WD5.cell? ⟨w.heap.size, 2, none⟩ = some (.int .i64 r.key) ∧ WD5.cell? ⟨w.heap.size, 3, none⟩ = some (.slice a' ln c') ∧ WD5.cell? ⟨w.heap.size, 4, none⟩ = some (.slice oa r.own.length oc) ∧ (Instr.lookup 77 (.map (some d.b2)) (.int .i64 r.key) false).run Tryz.prog WD5 = .ok cv WD5 := ⟨TD5.cell 4 rfl, XD5.cell 0 rfl, XD5.cell 1 rfl, XD5.cell 2 rfl, XD5.cell 3 rfl, XD5.cell 4 rfl, look _ rfl⟩
  have SB : WB5.cell? ⟨bT, 4, none⟩ = some (.map (some d.b2)) ∧ WB5.cell? ⟨w.heap.size, 0, none⟩ = some (.int .i64 r.txn) ∧ WB5.cell? ⟨w.heap.size, 1, none⟩ = some (.int .i64 (r.op : Int)) ∧ WB5.cell? ⟨w.heap.size, 2, none⟩ = some (.int .i64 r.key) ∧ WB5.cell? ⟨w.heap.size, 3, none⟩ = some (.slice a' ln c') ∧ WB5.cell? ⟨w.heap.size, 4, none⟩ = some (.slice oa r.own.length oc) ∧ (Instr.lookup 77 (.map (some d.b2)) (.int .i64 r.key) false).run Tryz.prog WB5 = .ok cv WB5 := ⟨(TD5.below BB).cell 4 rfl, (XD5.below BB).cell 0 rfl, (XD5.below BB).cell 1 rfl, (XD5.below BB).cell 2 rfl, (XD5.below BB).cell 3 rfl, (XD5.below BB).cell 4 rfl, look _ (BB.block _ hb3D)⟩
  have HRB := hide RB
  have HEB := hide EB
  have HLK := hide look
  have HCV := hide hcv
  have HBB5 := hide BB
  have HBD5 := hide BD
  have HD3 := hide hb3D
  have HCB := hide CB
  clear RD TD5 XD5 look RB EB hcv BB BD hb3D CB
  refine wpAnyH_take (i := 0) (v := ?_) rfl (by kernel_rfl) (by kernel_rfl) (by kernel_rfl) (fun _ _ _ h => h) (Or.inl ⟨by rfl, ?_⟩) (by assumption) ?_
  rotate_left
  · (intro w hSw; (try dsimp only at hSw); go_simp; try with_reducible rfl)
  try simp only [List.getElem_toArray, List.getElem_cons_succ, List.getElem_cons_zero, Act.put, List.setIfInBounds_toArray, List.set_cons_zero, List.set_cons_succ]
  refine wpAnyH_take (i := 1) (v := ?_) rfl (by kernel_rfl) (by kernel_rfl) (by kernel_rfl) (fun _ _ _ h => h) (Or.inl ⟨by rfl, ?_⟩) (by assumption) ?_
  rotate_left
  · (intro w hSw; (try dsimp only at hSw); go_simp; try with_reducible rfl)
  try simp only [List.getElem_toArray, List.getElem_cons_succ, List.getElem_cons_zero, Act.put, List.setIfInBounds_toArray, List.set_cons_zero, List.set_cons_succ]
  refine wpAnyH_take (i := 2) (v := ?_) rfl (by kernel_rfl) (by kernel_rfl) (by kernel_rfl) (fun _ _ _ h => h) (Or.inl ⟨by rfl, ?_⟩) (by assumption) ?_
  rotate_left
  · (intro w hSw; (try dsimp only at hSw); go_simp; try with_reducible rfl)
  try simp only [List.getElem_toArray, List.getElem_cons_succ, List.getElem_cons_zero, Act.put, List.setIfInBounds_toArray, List.set_cons_zero, List.set_cons_succ]
  refine wpAnyH_take (i := 3) (v := ?_) rfl (by kernel_rfl) (by kernel_rfl) (by kernel_rfl) (fun _ _ _ h => h) (Or.inl ⟨by rfl, ?_⟩) (by assumption) ?_
  rotate_left
  · (intro w hSw; (try dsimp only at hSw); go_simp; try with_reducible rfl)
  try simp only [List.getElem_toArray, List.getElem_cons_succ, List.getElem_cons_zero, Act.put, List.setIfInBounds_toArray, List.set_cons_zero, List.set_cons_succ]
  refine wpAnyH_take (i := 4) (v := ?_) rfl (by kernel_rfl) (by kernel_rfl) (by kernel_rfl) (fun _ _ _ h => h) (Or.inl ⟨by rfl, ?_⟩) (by assumption) ?_
  rotate_left
  · (intro w hSw; (try dsimp only at hSw); go_simp; try with_reducible rfl)
  try simp only [List.getElem_toArray, List.getElem_cons_succ, List.getElem_cons_zero, Act.put, List.setIfInBounds_toArray, List.set_cons_zero, List.set_cons_succ]
  refine wpAnyH_take (i := 5) (v := ?_) rfl (by kernel_rfl) (by kernel_rfl) (by kernel_rfl) (fun _ _ _ h => h) (Or.inl ⟨by rfl, ?_⟩) (by assumption) ?_
  rotate_left
  · (intro w hSw; (try dsimp only at hSw); go_simp; try with_reducible rfl)
  try simp only [List.getElem_toArray, List.getElem_cons_succ, List.getElem_cons_zero, Act.put, List.setIfInBounds_toArray, List.set_cons_zero, List.set_cons_succ]
  refine wpAnyH_take (i := 6) (v := ?_) rfl (by kernel_rfl) (by kernel_rfl) (by kernel_rfl) (fun _ _ _ h => h) (Or.inl ⟨by rfl, ?_⟩) (by assumption) ?_
  rotate_left
  · (intro w hSw; (try dsimp only at hSw); go_simp; try with_reducible rfl)
  try simp only [List.getElem_toArray, List.getElem_cons_succ, List.getElem_cons_zero, Act.put, List.setIfInBounds_toArray, List.set_cons_zero, List.set_cons_succ]
  refine wpAnyH_take (i := 7) (v := ?_) rfl (by kernel_rfl) (by kernel_rfl) (by kernel_rfl) (fun _ _ _ h => h) (Or.inl ⟨by rfl, ?_⟩) (by assumption) ?_
  rotate_left
  · (intro w hSw; (try dsimp only at hSw); go_simp; try with_reducible rfl)
  try simp only [List.getElem_toArray, List.getElem_cons_succ, List.getElem_cons_zero, Act.put, List.setIfInBounds_toArray, List.set_cons_zero, List.set_cons_succ]
  refine wpAnyH_take (i := 8) (v := ?_) rfl (by kernel_rfl) (by kernel_rfl) (by kernel_rfl) (fun _ _ _ h => h) (Or.inl ⟨by rfl, ?_⟩) (by assumption) ?_
  rotate_left
  · (intro w hSw; (try dsimp only at hSw); go_simp; try with_reducible rfl)
  try simp only [List.getElem_toArray, List.getElem_cons_succ, List.getElem_cons_zero, Act.put, List.setIfInBounds_toArray, List.set_cons_zero, List.set_cons_succ]
  refine wpAnyH_take (i := 9) (v := ?_) rfl (by kernel_rfl) (by kernel_rfl) (by kernel_rfl) (fun _ _ _ h => h) (Or.inl ⟨by rfl, ?_⟩) (by assumption) ?_
  rotate_left
  · (intro w hSw; (try dsimp only at hSw); go_simp; try with_reducible rfl)
  try simp only [List.getElem_toArray, List.getElem_cons_succ, List.getElem_cons_zero, Act.put, List.setIfInBounds_toArray, List.set_cons_zero, List.set_cons_succ]
  refine wpAnyH_take (i := 10) (v := ?_) rfl (by kernel_rfl) (by kernel_rfl) (by kernel_rfl) (fun _ _ _ h => h) (Or.inl ⟨by rfl, ?_⟩) (by assumption) ?_
  rotate_left
  · (intro w hSw; (try dsimp only at hSw); go_simp; try with_reducible rfl)
  try simp only [List.getElem_toArray, List.getElem_cons_succ, List.getElem_cons_zero, Act.put, List.setIfInBounds_toArray, List.set_cons_zero, List.set_cons_succ]
  refine wpAnyH_take (i := 11) (v := ?_) rfl (by kernel_rfl) (by kernel_rfl) (by kernel_rfl) (fun _ _ _ h => h) (Or.inl ⟨by rfl, ?_⟩) (by assumption) ?_
  rotate_left
  · (intro w hSw; (try dsimp only at hSw); go_simp; try with_reducible rfl)
  try simp only [List.getElem_toArray, List.getElem_cons_succ, List.getElem_cons_zero, Act.put, List.setIfInBounds_toArray, List.set_cons_zero, List.set_cons_succ]
  refine wpAnyH_take (i := 12) (v := ?_) rfl (by kernel_rfl) (by kernel_rfl) (by kernel_rfl) (fun _ _ _ h => h) (Or.inl ⟨by rfl, ?_⟩) (by assumption) ?_
  rotate_left
  · (intro w hSw; (try dsimp only at hSw); go_simp; try with_reducible rfl)
  try simp only [List.getElem_toArray, List.getElem_cons_succ, List.getElem_cons_zero, Act.put, List.setIfInBounds_toArray, List.set_cons_zero, List.set_cons_succ]
  refine wpAnyH_take (i := 13) (v := ?_) rfl (by kernel_rfl) (by kernel_rfl) (by kernel_rfl) (fun _ _ _ h => h) (Or.inl ⟨by rfl, ?_⟩) (by assumption) ?_
  rotate_left
  · (intro w hSw; (try dsimp only at hSw); go_simp; try with_reducible rfl)
  try simp only [List.getElem_toArray, List.getElem_cons_succ, List.getElem_cons_zero, Act.put, List.setIfInBounds_toArray, List.set_cons_zero, List.set_cons_succ]
  refine wpAnyH_ready (rs := [14]) (by kernel_rfl) (by simp) ?_
  refine AllReadyH.cons (by rfl) (fun KK hKK => ?_) AllReadyH.nil
  simp only [List.getElem_toArray, List.getElem_cons_succ, List.getElem_cons_zero]
  go_simp
  rw [← hWB]
  clear hWB SD
  refine hKK.out _ _ SB (fun hH1 => ?_)
  clear hKK KK
  try simp only [List.getElem_toArray, List.getElem_cons_succ, List.getElem_cons_zero, Act.put, List.setIfInBounds_toArray, List.set_cons_zero, List.set_cons_succ]
  clear SB
  obtain ⟨xs, hxs⟩ : ∃ xs, xs = (d.cR r.key).flatten := ⟨_, rfl⟩
  have hown : WB5.ownsRow base 38 5 cv (s.rd r.key).length xs := by rw [HCV.out, hxs]; exact HRB.out.rr r.key
  have hsz : base ≤ WB5.heap.size := by have := HB.out; have := HBB5.out.size; have := HBD5.out.size; omega
  have hnews : ∀ j u, [Value.int .i64 r.txn, .int .i64 (r.op : Int), .int .i64 r.key, .slice a' ln c', .slice oa r.own.length oc][j]? = some u → WB5.cell? ⟨WD5.heap.size, j, none⟩ = some u := fun j u hu => HEB.out.cell j (by simpa using hu)
  have HXS := hide hxs
  clear hxs
  refine wpAnyH_ready (rs := [15]) (by kernel_rfl) (by simp) ?_
  refine AllReadyH.cons (by rfl) (fun KK hKK => ?_) AllReadyH.nil
  refine step_app Tryz.underlying94 Tryz.infoTR rfl (by decide) (by decide) (by rfl) (.tmp 20) (.tmp 22) (by rfl) base cv (s.rd r.key).length xs (by rfl) hown WD5.heap.size [.int .i64 r.txn, .int .i64 (r.op : Int), .int .i64 r.key, .slice a' ln c', .slice oa r.own.length oc] (by rfl) rfl hnews (fun u hu => by simp at hu; rcases hu with rfl | rfl | rfl | rfl | rfl <;> rfl) (by have := HRB.out.lr r.key; omega) hsz ?_
  intro v6 w6 hown6 hg6 hat6 hpre6
  rw [HXS.out] at hown6
  rw [HCV.out] at hg6 hat6
  obtain ⟨w7, hput7, R7a, O7⟩ := HRB.out.put2 (r := r) W2.out (by omega) HCB.out hown6 hg6 hat6
  have hat2 : v6.ownBlock = (d.vR r.key).ownBlock ∨ ∃ g, v6.ownBlock = some g ∧ w.heap.size ≤ g := by
    rcases hat6 with q | q
    · exact .inl q
    · exact .inr ⟨_, q, by have := HBB5.out.size; have := HBD5.out.size; omega⟩
  obtain ⟨d7, hd7, R7, F7⟩ : ∃ d7 : TD, tabBox i0 i1 d7 = tabBox i0 i1 d ∧ TabAt base d7 (s.read r) (n + 1) w7 ∧ ∀ k, d7.F k → d.F k ∨ w.heap.size ≤ k := ⟨{ d with fR := upd d.fR r.key (some v6), cR := upd d.cR r.key (d.cR r.key ++ [[.int .i64 r.txn, .int .i64 (r.op : Int), .int .i64 r.key, .slice a' ln c', .slice oa r.own.length oc]]) }, rfl, R7a, F_push2 hat2 HFR.out⟩
  clear R7a hat2
  have hvWb : ∀ g, (d.vR r.key).ownBlock = some g → g < w.heap.size ∧ ¬ g = bT := fun g hg => ⟨own_lt (HH.out.rr _) hg, fun e => HF.out (.inr (.inr (.inr (.inr (.inr (.inl ⟨r.key, by rw [hg, e]⟩))))))⟩
  have ne3 : ∀ g, (d.vR r.key).ownBlock = some g → ¬ g = d.b2 := fun g hg e => own_ne_map (HRB.out.rr r.key) HRB.out.m2 (by rw [hg, e])
  have keep6 : ∀ {g i : Nat} {u : Value}, WB5.cell? ⟨g, i, none⟩ = some u → (g = bT ∨ w.heap.size ≤ g) → w6.cell? ⟨g, i, none⟩ = some u := fun {g i u} hc hgg => by
    refine (Only.cell (S := fun k => (d.vR r.key).ownBlock = some k) ⟨hg6.os, hg6.tape, hg6.output, hg6.size, fun k hk hn => hg6.block k hk (fun e => hn e.symm)⟩ hc fun e => ?_)
    obtain ⟨h1, h2⟩ := hvWb g e
    omega
  have look6 : (Instr.lookup 77 (.map (some d.b2)) (.int .i64 r.key) false).run Tryz.prog w6 = .ok cv w6 := HLK.out w6 ((hg6.block _ (by have := HBB5.out.size; have := HD3.out; omega) (fun e => ne3 _ e.symm rfl)).trans (HBB5.out.block _ HD3.out))
  have S6 : w6.cell? ⟨bT, 4, none⟩ = some (.map (some d.b2)) ∧ w6.cell? ⟨w.heap.size, 0, none⟩ = some (.int .i64 r.txn) ∧ w6.cell? ⟨w.heap.size, 1, none⟩ = some (.int .i64 (r.op : Int)) ∧ w6.cell? ⟨w.heap.size, 2, none⟩ = some (.int .i64 r.key) ∧ w6.cell? ⟨w.heap.size, 3, none⟩ = some (.slice a' ln c') ∧ w6.cell? ⟨w.heap.size, 4, none⟩ = some (.slice oa r.own.length oc) ∧ (Instr.lookup 77 (.map (some d.b2)) (.int .i64 r.key) false).run Tryz.prog w6 = .ok cv w6 := ⟨keep6 hH1.1 (.inl rfl), keep6 hH1.2.1 (.inr (Nat.le_refl _)), keep6 hH1.2.2.1 (.inr (Nat.le_refl _)), keep6 hH1.2.2.2.1 (.inr (Nat.le_refl _)), keep6 hH1.2.2.2.2.1 (.inr (Nat.le_refl _)), keep6 hH1.2.2.2.2.2.1 (.inr (Nat.le_refl _)), look6⟩
  obtain ⟨a6, c6, rfl⟩ := Own.own_form (z := 5) hown6
  have HR7 := hide R7
  have HO7 := hide O7
  have HF7 := hide F7
  clear hown6 hg6 hat6 hpre6 keep6 hvWb ne3 R7 O7 F7 hown hnews look6
  refine hKK.out _ _ S6 (fun hH3 => ?_)
  clear hKK KK
  try simp only [List.getElem_toArray, List.getElem_cons_succ, List.getElem_cons_zero, Act.put, List.setIfInBounds_toArray, List.set_cons_zero, List.set_cons_succ]
  clear S6
  refine wpAnyH_done (by kernel_rfl) ?_ _
  refine Last.done_last ?_
  refine wpOp_step rfl (fun KK hKK => ?_)
  simp only [List.getElem_toArray, List.getElem_cons_succ, List.getElem_cons_zero]
  go_simp
  refine hKK _ _ ?_
  clear hKK
  go_simp
  go_wp2
  go_end0
  refine ⟨rfl, d7, HR7.out, ?_, HF7.out, hd7⟩
  have h1 : Only d.T w WB5 := ((Only.of_below HB5.out).trans (Only.of_below HBD5.out)).trans (Only.of_below HBB5.out)
  exact h1.trans (HO7.out.mono fun k e => by
    rcases e with e | e
    · exact .inr (.inr (.inl e))
    · exact .inr (.inr (.inr (.inr (.inr (.inl ⟨_, e⟩))))))
end Go.Proofs.YtkinmllflodhaaaGreat.Tab
