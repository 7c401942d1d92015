/- How lists of numbers stand: the program's Compare and Same, the document's Compare and Has. -/
import Derived.Test.YtjdcmeclmaljeaaSetPlain
import Derived.Test.YtjdcmeclmaljeaaShelfI
import Derived.Test.YtjdcmeclmaljeaaApp
import Derived.Test.YtjdcmeclmaljeaaMem
namespace Go.Proofs.Ytjdcmeclmaljeaa.Sets
open Go.RowKit Go.Proofs.Ytjdcmeclmaljeaa.Dig Go.Proofs.Ytjdcmeclmaljeaa.Mem
set_option linter.unusedVariables false
set_option linter.unusedSimpArgs false

/-- A slice value that reads a list of numbers. -/
structure RowV (w : World) (a : Option Addr) (c : Nat) (l : List Int) : Prop where
  cap : l.length ≤ c
  rd : Rd .i64 w a l.length (fun i => l.getD i 0)
  nil : a = none → c = 0
theorem RowV.keep {w w' : World} {a : Option Addr} {c : Nat} {l : List Int} (h : RowV w a c l) (hb : Below w.heap.size w w') : RowV w' a c l := ⟨h.cap, h.rd.keep hb, h.nil⟩
theorem RowV.at {w : World} {a : Option Addr} {c : Nat} {l : List Int} (h : RowV w a c l) {i : Nat} (hi : i < l.length) : ∃ b off, a = some ⟨b, off, none⟩ ∧ w.cell? ⟨b, off + i, none⟩ = some (.int .i64 (l.getD i 0)) := by
  obtain ⟨b, off, e, hc, _⟩ := h.rd.2 i hi
  exact ⟨b, off, e, hc⟩
theorem drop_at {l : List Int} {i : Nat} (h : i < l.length) : l.drop i = l.getD i 0 :: l.drop (i + 1) := by
  rw [List.drop_eq_getElem_cons h]; simp [List.getD_eq_getElem?_getD, List.getElem?_eq_getElem h]

theorem cmpI_lt {x y : Int} (h : x < y) : cmpI x y = -1 := by simp [cmpI, h]
theorem cmpI_gt {x y : Int} (h : y < x) : cmpI x y = 1 := by simp [cmpI, h, show ¬ x < y by omega]
theorem cmpI_eq {x y : Int} (h : x = y) : cmpI x y = 0 := by simp [cmpI, h]
theorem lexI_cons (x y : Int) (a b : List Int) : lexL ltI (x :: a) (y :: b) = if cmpI x y = 0 then lexL ltI a b else cmpI x y := by
  rw [lexL]
  generalize lexL ltI a b = r
  unfold cmpI ltI
  by_cases h1 : x < y
  · simp [h1]
  · by_cases h2 : y < x
    · simp [h1, h2]
    · simp [h1, h2]
theorem lexI_step {a b : List Int} {i : Nat} (ha : i < a.length) (hb : i < b.length) :
    lexL ltI (a.drop i) (b.drop i) = if cmpI (a.getD i 0) (b.getD i 0) = 0 then lexL ltI (a.drop (i + 1)) (b.drop (i + 1)) else cmpI (a.getD i 0) (b.getD i 0) := by
  rw [drop_at ha, drop_at hb, lexI_cons]
theorem lexI_end {a b : List Int} {i : Nat} (ha : a.length ≤ i) : lexL ltI (a.drop i) (b.drop i) = 0 := by
  rw [List.drop_eq_nil_of_le ha]; simp [lexL]
def LRel2 (a b : List Int) (i : Value) : Prop := ∃ k : Nat, k ≤ a.length ∧ i = .int .i64 (k : Int) ∧ Hid (lexL ltI (a.drop k) (b.drop k) = lexL ltI a b)
/-- The document's Has. -/
theorem rhas_any (x : Option Addr) (c : Nat) (a : List Int) (v : Int) (w : World) (ha : RowV w x c a) :
    Calls Try.prog 15 #[.slice x a.length c, .int .i64 v] w fun e w' => e = .returned (.bool (decide (v ∈ a))) ∧ w' = w := by
  have hlen := ha.rd.le
  have HA := hide ha
  obtain ⟨n, hn⟩ : ∃ n, n = a.length := ⟨_, rfl⟩
  rw [← hn] at hlen ⊢
  have HN : Hid (n = a.length) := hn
  clear hn ha
  go_enter Try.func15, Try.ntmps15
  go_wp2
  go_loopw [5] (fun i wr => (∃ k : Nat, k ≤ n ∧ i = .int .i64 (k : Int) ∧ ∀ j, j < k → a.getD j 0 ≠ v) ∧ wr = w) (fun i _ => n - (intOf i).toNat)
  case atStart => exact ⟨⟨0, by omega, rfl, by omega⟩, rfl⟩
  case round =>
    obtain ⟨⟨k, hk, rfl, hx⟩, rfl⟩ := hrel
    have HX := hide hx
    clear hx
    by_cases hlt : k < n
    · obtain ⟨b1, o1, rfl, hc1⟩ := HA.out.at (show k < a.length by rw [← HN.out]; exact hlt)
      obtain ⟨p, hp⟩ : ∃ p, p = a.getD k 0 := ⟨_, rfl⟩
      rw [← hp] at hc1
      have HP : Hid (p = a.getD k 0) := hp
      clear hp
      by_cases he : p = v
      · have g1 : (p == v) = true := by simp [he]
        have HM : Hid (decide (v ∈ a) = true) := by
          show _ = _
          rw [decide_eq_true_eq, ← he, HP.out, List.getD_eq_getElem?_getD, List.getElem?_eq_getElem (by rw [← HN.out]; exact hlt)]
          exact List.getElem_mem _
        clear he
        go_wp2
        go_ret
        rw [HM.out]
        exact ⟨rfl, rfl⟩
      · have g1 : (p == v) = false := by simpa using he
        have HE : Hid (a.getD k 0 ≠ v) := by rw [← HP.out]; exact he
        clear he
        go_wp2
        go_roundw
        case rel => exact ⟨⟨k + 1, by omega, by go_num, fun j hj => by
          by_cases e : j = k
          · rw [e]; exact HE.out
          · exact HX.out j (by omega)⟩, trivial⟩
        case measure => simp [intOf]; omega
    · have HM : Hid (decide (v ∈ a) = false) := by
        show _ = _
        rw [decide_eq_false_iff_not]
        intro hm
        obtain ⟨j, hj, e⟩ := List.getElem_of_mem hm
        exact HX.out j (by rw [← HN.out] at hj; omega) (by rw [List.getD_eq_getElem?_getD, List.getElem?_eq_getElem hj]; exact e)
      go_wp2
      go_ret
      rw [HM.out]
      exact ⟨rfl, rfl⟩
end Go.Proofs.Ytjdcmeclmaljeaa.Sets
