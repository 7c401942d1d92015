/- A slice value that reads a list of texts, none of them long. -/
import Derived.Test.YtghdafgpdhbohaaSetPlain
import Derived.Test.YtghdafgpdhbohaaShelfS
import Derived.Test.YtghdafgpdhbohaaMem
import Derived.Deep.RegionHeld
namespace Go.Proofs.Ytghdafgpdhbohaa.SetsT
open Go.RowKit Go.Proofs.Ytghdafgpdhbohaa.Sets Go.Proofs.Ytghdafgpdhbohaa.Dig Go.Proofs.Ytghdafgpdhbohaa.Mem
set_option linter.unusedVariables false

structure RowT (w : World) (a : Option Addr) (c : Nat) (l : List (List UInt8)) : Prop where
  cap : l.length ≤ c
  le : l.length ≤ 1000000000000
  rd : ∀ i, i < l.length → ∃ b off, a = some ⟨b, off, none⟩ ∧ w.cell? ⟨b, off + i, none⟩ = some (.string ⟨(l.getD i []).toArray⟩)
  nil : a = none → c = 0
  wf : ∀ x ∈ l, x.length ≤ 1000
theorem RowT.keep {w w' : World} {a : Option Addr} {c : Nat} {l : List (List UInt8)} (h : RowT w a c l) (hb : Below w.heap.size w w') : RowT w' a c l :=
  ⟨h.cap, h.le, fun i hi => by
    obtain ⟨b, off, e, hc⟩ := h.rd i hi
    exact ⟨b, off, e, by rw [hb.cell (lt_of_cell hc)]; exact hc⟩, h.nil, h.wf⟩
theorem RowT.at {w : World} {a : Option Addr} {c : Nat} {l : List (List UInt8)} (h : RowT w a c l) {i : Nat} (hi : i < l.length) : ∃ b off, a = some ⟨b, off, none⟩ ∧ w.cell? ⟨b, off + i, none⟩ = some (.string ⟨(l.getD i []).toArray⟩) := h.rd i hi
theorem RowT.put {w : World} {a : Option Addr} {c B : Nat} {l : List (List UInt8)} (h : RowT w a c l) (hB : ∀ b o sp, a = some ⟨b, o, sp⟩ → 0 < l.length → b ≠ B) (u : Value) : RowT (w.setCell ⟨B, 0, none⟩ u) a c l :=
  ⟨h.cap, h.le, fun i hi => by
    obtain ⟨b, off, e, hc⟩ := h.rd i hi
    refine ⟨b, off, e, ?_⟩
    exact (World.cell?_setCell_far w ⟨B, 0, none⟩ ⟨b, off + i, none⟩ u (Ne.symm (hB b off none e (by omega)))).trans hc, h.nil, h.wf⟩
/-- .. how long its texts are being left open. -/
structure RowS (w : World) (a : Option Addr) (c : Nat) (l : List (List UInt8)) : Prop where
  cap : l.length ≤ c
  le : l.length ≤ 1000000000000
  rd : ∀ i, i < l.length → ∃ b off, a = some ⟨b, off, none⟩ ∧ w.cell? ⟨b, off + i, none⟩ = some (.string ⟨(l.getD i []).toArray⟩)
  nil : a = none → c = 0
theorem RowT.row {w : World} {a : Option Addr} {c : Nat} {l : List (List UInt8)} (h : RowT w a c l) : RowS w a c l := ⟨h.cap, h.le, h.rd, h.nil⟩
theorem RowS.short {w : World} {a : Option Addr} {c : Nat} {l : List (List UInt8)} (h : RowS w a c l) (k : ∀ x ∈ l, x.length ≤ 1000) : RowT w a c l := ⟨h.cap, h.le, h.rd, h.nil, k⟩
theorem RowS.keep {w w' : World} {a : Option Addr} {c : Nat} {l : List (List UInt8)} (h : RowS w a c l) (hb : Below w.heap.size w w') : RowS w' a c l :=
  ⟨h.cap, h.le, fun i hi => by
    obtain ⟨b, off, e, hc⟩ := h.rd i hi
    exact ⟨b, off, e, by rw [hb.cell (lt_of_cell hc)]; exact hc⟩, h.nil⟩
theorem RowS.at {w : World} {a : Option Addr} {c : Nat} {l : List (List UInt8)} (h : RowS w a c l) {i : Nat} (hi : i < l.length) : ∃ b off, a = some ⟨b, off, none⟩ ∧ w.cell? ⟨b, off + i, none⟩ = some (.string ⟨(l.getD i []).toArray⟩) := h.rd i hi
theorem drop_at {l : List (List UInt8)} {i : Nat} (h : i < l.length) : l.drop i = l.getD i [] :: l.drop (i + 1) := by
  rw [List.drop_eq_getElem_cons h]; simp [List.getD_eq_getElem?_getD, List.getElem?_eq_getElem h]
theorem getD_mem {l : List (List UInt8)} {i : Nat} (h : i < l.length) : l.getD i [] ∈ l := by
  rw [List.getD_eq_getElem?_getD, List.getElem?_eq_getElem h]; exact List.getElem_mem h
theorem bytes_less (x y : List UInt8) : Op.bytesLess x y = ltS x y := by
  rw [bytesLess_eq]; rfl
theorem gt_eq (x y : List UInt8) : (!Op.bytesLess x y && !(x == y)) = Op.bytesLess y x := by
  rw [bytes_less, bytes_less]
  cases h1 : ltS x y
  · cases h2 : ltS y x
    · have := totS.tot x y h1 h2
      subst this
      simp
    · have : x ≠ y := fun e => by subst e; rw [totS.irr] at h2; cases h2
      simp [this]
  · have := totS.asym h1
    simp [this]
@[go_sem] theorem binOp_gtr (t : TypeId) (x y : List UInt8) : binOp .gtr t (.string ⟨x.toArray⟩) (.string ⟨y.toArray⟩) = pure (.bool (Op.bytesLess y x)) := by
  rw [← gt_eq]
  simp [binOp, Op.stringOp, Lib.toList_data]
theorem str_eq (x y : List UInt8) : ((⟨x.toArray⟩ : ByteArray) = ⟨y.toArray⟩) ↔ x = y := by
  constructor
  · intro h; injection h with h; injection h
  · intro h; rw [h]
end Go.Proofs.Ytghdafgpdhbohaa.SetsT
