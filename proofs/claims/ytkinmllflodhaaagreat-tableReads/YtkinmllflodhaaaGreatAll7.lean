/- Joined out of the texts TabStep, Last, in that order. -/
import Derived.Test.YtkinmllflodhaaaGreatAll6
import Derived.WalkKit
import Derived.Deep.RegionHeld3
/- What a step leaves of a table: a value is put into the map of writers, a number, a read or a write is put behind a row. -/
namespace Go.Proofs.YtkinmllflodhaaaGreat.Tab
open Go.RowKit Go.Proofs.YtkinmllflodhaaaGreat.Dig Go.Proofs.YtkinmllflodhaaaGreat.Mem Go.Proofs.YtkinmllflodhaaaGreat.Keys Go.Proofs.YtkinmllflodhaaaGreat.Own Go.Proofs.YtkinmllflodhaaaGreat.Thing Go.Maps Go.MapKept Go.ChangeMaps
set_option linter.unusedVariables false
set_option linter.unusedSimpArgs false

def upd {ι β : Type} [DecidableEq ι] (f : ι → β) (a : ι) (b : β) : ι → β := fun q => if q = a then b else f q
theorem upd_same {ι β : Type} [DecidableEq ι] (f : ι → β) (a : ι) (b : β) : upd f a b a = b := if_pos rfl
theorem upd_other {ι β : Type} [DecidableEq ι] {f : ι → β} {a q : ι} {b : β} (h : q ≠ a) : upd f a b q = f q := if_neg h
section
variable {base n n' : Nat} {d : TD} {s : Tb} {w w' : World}
theorem TabAt.setWr {wr' : Int × Int → Option WrM} (h : TabAt base d s n w) (ho : Only (fun k => k = d.b0) w w') (hm : MapAt 115 appV appL appOk w' d.b0 n' (fun p => (wr' p).map wrV)) (hn : n ≤ n') : TabAt base d { s with wr := wr' } n' w' where
  n01 := h.n01
  n02 := h.n02
  n03 := h.n03
  n12 := h.n12
  n13 := h.n13
  n23 := h.n23
  m0 := hm
  m1 := (h.m1.keep ho (fun e => h.n01 e.symm)).mono hn
  m2 := (h.m2.keep ho (fun e => h.n02 e.symm)).mono hn
  m3 := (h.m3.keep ho (fun e => h.n03 e.symm)).mono hn
  ra p := own_keep (h.ra p) ho fun g hg e => own_ne_map (h.ra p) h.m0 (by rw [hg, e])
  aw := h.aw
  rr k := own_keep (h.rr k) ho fun g hg e => own_ne_map (h.rr k) h.m0 (by rw [hg, e])
  rs k := (h.rs k).mono fun c r ⟨lv, ov, e, h1, h2⟩ => ⟨lv, ov, e, h1.only fun b off i u hG hi hc => ⟨ho.cell hc (cell_ne_map hc h.m0), hG⟩, h2.only fun b off i u hG hi hc => ⟨ho.cell hc (cell_ne_map hc h.m0), hG⟩⟩
  rw k := own_keep (h.rw k) ho fun g hg e => own_ne_map (h.rw k) h.m0 (by rw [hg, e])
  da := h.da
  dr := h.dr
  dw := h.dw
  la p := Nat.le_trans (h.la p) hn
  lr p := Nat.le_trans (h.lr p) hn
  lw p := Nat.le_trans (h.lw p) hn
theorem apart_upd {ι : Type} [DecidableEq ι] {v : ι → Value} {p : ι} {u : Value} {m : Nat} (h : Apart v) (hv : ∀ q g, (v q).ownBlock = some g → g < m) (hat : u.ownBlock = (v p).ownBlock ∨ ∃ g, u.ownBlock = some g ∧ m ≤ g) : Apart (upd v p u) := by
  intro q r hqr
  by_cases hq : q = p
  · subst hq
    rw [upd_same, upd_other (fun e => hqr e.symm)]
    rcases hat with e | ⟨g, e, hg⟩
    · rw [e]; exact h q r hqr
    · exact .inr fun e2 => by
        have := hv r g (by rw [← e2, e])
        omega
  · rw [upd_other hq]
    by_cases hr : r = p
    · subst hr
      rw [upd_same]
      rcases hat with e | ⟨g, e, hg⟩
      · rw [e]; exact h q r hqr
      · exact .inr fun e2 => by
          have := hv q g (by rw [e2, e])
          omega
    · rw [upd_other hr]; exact h q r hqr
theorem getD_upd {ι : Type} [DecidableEq ι] (f : ι → Option Value) (p : ι) (v z : Value) : (fun q => (upd f p (some v) q).getD z) = upd (fun q => (f q).getD z) p v := by
  funext q
  by_cases e : q = p
  · subst e; simp [upd_same]
  · simp [upd_other e]
/-- A number is put behind what a transaction appends to a key. -/
theorem TabAt.push1 {p : Int × Int} {v' : Value} {x : Int} (h : TabAt base d s n w) (ho : Only (fun k => k = d.b1 ∨ (d.vA p).ownBlock = some k) w w') (hm : MapAt 118 appV appL appOk w' d.b1 n' (upd d.fA p (some v'))) (hn : n < n')
    (hr : w'.ownsRow base 3 1 v' ((s.ap p).length + 1) ((s.ap p).map (Value.int .i64) ++ [.int .i64 x])) (hx : (Lit.int .i64 x).wf = true)
    (hp : ∀ g i, (d.vA p).ownBlock = some g → i < (s.ap p).length → w'.cell? ⟨g, i, none⟩ = w.cell? ⟨g, i, none⟩) (hat : v'.ownBlock = (d.vA p).ownBlock ∨ ∃ g, v'.ownBlock = some g ∧ w.heap.size ≤ g) :
    TabAt base { d with fA := upd d.fA p (some v') } { s with ap := upd s.ap p (s.ap p ++ [x]) } n' w' := by
  have hvA : ({ d with fA := upd d.fA p (some v') } : TD).vA = upd d.vA p v' := getD_upd d.fA p v' _
  have free : ∀ b m, b < w.heap.size → d.free s b m → ({ d with fA := upd d.fA p (some v') } : TD).free { s with ap := upd s.ap p (s.ap p ++ [x]) } b m := fun b m hb hf => by
    refine ⟨fun q hq => ?_, hf.2.1, hf.2.2⟩
    rw [hvA] at hq
    by_cases e : q = p
    · subst e
      show m ≤ (upd s.ap q _ q).length
      rw [upd_same] at hq ⊢
      rw [List.length_append]
      rcases hat with e | ⟨g, e, hg⟩
      · exact Nat.le_trans (hf.1 q (by rw [← e, hq])) (Nat.le_add_right _ _)
      · rw [e] at hq
        have := Option.some.inj hq
        omega
    · show m ≤ (upd s.ap p _ q).length
      rw [upd_other e] at hq ⊢
      exact hf.1 q hq
  have rdk : ∀ v l, RdAt (d.free s) w v l → RdAt (({ d with fA := upd d.fA p (some v') } : TD).free { s with ap := upd s.ap p (s.ap p ++ [x]) }) w' v l := fun v l hl => hl.only fun b off i u hG hi hc => by
    refine ⟨?_, free b _ (lt_of_cell hc) hG⟩
    by_cases e : (d.vA p).ownBlock = some b
    · rw [hp b (off + i) e (by have := hG.1 p e; omega)]
      exact hc
    · exact ho.cell hc fun q => by
        rcases q with q | q
        · exact cell_ne_map hc h.m1 q
        · exact e q
  exact {
    n01 := h.n01
    n02 := h.n02
    n03 := h.n03
    n12 := h.n12
    n13 := h.n13
    n23 := h.n23
    m0 := (h.m0.keep ho (fun e => by rcases e with e | e; exact h.n01 e; exact own_ne_map (h.ra p) h.m0 e)).mono (by omega)
    m1 := hm
    m2 := (h.m2.keep ho (fun e => by rcases e with e | e; exact h.n12 e.symm; exact own_ne_map (h.ra p) h.m2 e)).mono (by omega)
    m3 := (h.m3.keep ho (fun e => by rcases e with e | e; exact h.n13 e.symm; exact own_ne_map (h.ra p) h.m3 e)).mono (by omega)
    ra := fun q => by
      rw [hvA]
      show w'.ownsRow base 3 1 _ (upd s.ap p _ q).length ((upd s.ap p _ q).map _)
      by_cases e : q = p
      · subst e
        rw [upd_same, upd_same, List.length_append, List.map_append]
        exact hr
      · rw [upd_other e, upd_other e]
        exact own_keep (h.ra q) ho fun g hg hS => by
          rcases hS with hS | hS
          · exact own_ne_map (h.ra q) h.m1 (by rw [hg, hS])
          · rcases h.da q p e with z | z
            · rw [hg] at z; cases z
            · exact z (by rw [hg, hS])
    aw := fun q y hy => by
      replace hy : y ∈ upd s.ap p (s.ap p ++ [x]) q := hy
      by_cases e : q = p
      · subst e
        rw [upd_same] at hy
        rcases List.mem_append.1 hy with z | z
        · exact h.aw q y z
        · simp at z; subst z; exact hx
      · rw [upd_other e] at hy; exact h.aw q y hy
    rr := fun k => own_keep (h.rr k) ho fun g hg hS => by
      replace hg : (d.vR k).ownBlock = some g := hg
      rcases hS with hS | hS
      · exact own_ne_map (h.rr k) h.m1 (by rw [hg, hS])
      · rcases own_ne_own (h.rr k) (h.ra p) (show (38 : Nat) ≠ 3 by decide) with z | z
        · rw [hg] at z; cases z
        · exact z (by rw [hg, hS])
    rs := fun k => (h.rs k).mono fun c r ⟨lv, ov, e, h1, h2⟩ => ⟨lv, ov, e, rdk _ _ h1, rdk _ _ h2⟩
    rw := fun k => own_keep (h.rw k) ho fun g hg hS => by
      replace hg : (d.vW k).ownBlock = some g := hg
      rcases hS with hS | hS
      · exact own_ne_map (h.rw k) h.m1 (by rw [hg, hS])
      · rcases own_ne_own (h.rw k) (h.ra p) (show (64 : Nat) ≠ 3 by decide) with z | z
        · rw [hg] at z; cases z
        · exact z (by rw [hg, hS])
    da := by rw [hvA]; exact apart_upd h.da (fun q g hg => own_lt (h.ra q) hg) hat
    dr := h.dr
    dw := h.dw
    la := fun q => by
      show (upd s.ap p _ q).length ≤ n'
      by_cases e : q = p
      · subst e; rw [upd_same, List.length_append, List.length_singleton]; have := h.la q; omega
      · rw [upd_other e]; have := h.la q; omega
    lr := fun q => Nat.le_trans (h.lr q) (by omega)
    lw := fun q => Nat.le_trans (h.lw q) (by omega) }
/-- A write is put behind those of a key. -/
theorem TabAt.push3 {p : Int} {v' : Value} {x : WrM} (h : TabAt base d s n w) (ho : Only (fun k => k = d.b3 ∨ (d.vW p).ownBlock = some k) w w') (hm : MapAt 3 idV idL nameOk w' d.b3 n' (upd d.fW p (some v'))) (hn : n < n')
    (hr : w'.ownsRow base 64 5 v' ((s.ws p).length + 1) ((s.ws p).flatMap wrC ++ wrC x)) (hat : v'.ownBlock = (d.vW p).ownBlock ∨ ∃ g, v'.ownBlock = some g ∧ w.heap.size ≤ g) :
    TabAt base { d with fW := upd d.fW p (some v') } { s with ws := upd s.ws p (s.ws p ++ [x]) } n' w' := by
  have hvW : ({ d with fW := upd d.fW p (some v') } : TD).vW = upd d.vW p v' := getD_upd d.fW p v' _
  have free : ∀ b m, b < w.heap.size → d.free s b m → ({ d with fW := upd d.fW p (some v') } : TD).free { s with ws := upd s.ws p (s.ws p ++ [x]) } b m := fun b m hb hf => by
    refine ⟨hf.1, hf.2.1, fun q hq => ?_⟩
    rw [hvW] at hq
    by_cases e : q = p
    · subst e
      rw [upd_same] at hq
      rcases hat with e | ⟨g, e, hg⟩
      · exact hf.2.2 q (by rw [← e, hq])
      · rw [e] at hq
        have := Option.some.inj hq
        omega
    · rw [upd_other e] at hq
      exact hf.2.2 q hq
  have rdk : ∀ v l, RdAt (d.free s) w v l → RdAt (({ d with fW := upd d.fW p (some v') } : TD).free { s with ws := upd s.ws p (s.ws p ++ [x]) }) w' v l := fun v l hl => hl.only fun b off i u hG hi hc => by
    refine ⟨ho.cell hc fun q => ?_, free b _ (lt_of_cell hc) hG⟩
    rcases q with q | q
    · exact cell_ne_map hc h.m3 q
    · exact hG.2.2 p q
  exact {
    n01 := h.n01
    n02 := h.n02
    n03 := h.n03
    n12 := h.n12
    n13 := h.n13
    n23 := h.n23
    m0 := (h.m0.keep ho (fun e => by rcases e with e | e; exact h.n03 e; exact own_ne_map (h.rw p) h.m0 e)).mono (by omega)
    m1 := (h.m1.keep ho (fun e => by rcases e with e | e; exact h.n13 e; exact own_ne_map (h.rw p) h.m1 e)).mono (by omega)
    m2 := (h.m2.keep ho (fun e => by rcases e with e | e; exact h.n23 e; exact own_ne_map (h.rw p) h.m2 e)).mono (by omega)
    m3 := hm
    ra := fun k => own_keep (h.ra k) ho fun g hg hS => by
      replace hg : (d.vA k).ownBlock = some g := hg
      rcases hS with hS | hS
      · exact own_ne_map (h.ra k) h.m3 (by rw [hg, hS])
      · rcases own_ne_own (h.ra k) (h.rw p) (show (3 : Nat) ≠ 64 by decide) with z | z
        · rw [hg] at z; cases z
        · exact z (by rw [hg, hS])
    aw := h.aw
    rr := fun k => own_keep (h.rr k) ho fun g hg hS => by
      replace hg : (d.vR k).ownBlock = some g := hg
      rcases hS with hS | hS
      · exact own_ne_map (h.rr k) h.m3 (by rw [hg, hS])
      · rcases own_ne_own (h.rr k) (h.rw p) (show (38 : Nat) ≠ 64 by decide) with z | z
        · rw [hg] at z; cases z
        · exact z (by rw [hg, hS])
    rs := fun k => (h.rs k).mono fun c r ⟨lv, ov, e, h1, h2⟩ => ⟨lv, ov, e, rdk _ _ h1, rdk _ _ h2⟩
    rw := fun q => by
      rw [hvW]
      show w'.ownsRow base 64 5 _ (upd s.ws p _ q).length ((upd s.ws p _ q).flatMap _)
      by_cases e : q = p
      · subst e
        rw [upd_same, upd_same, List.length_append, List.flatMap_append]
        simpa using hr
      · rw [upd_other e, upd_other e]
        exact own_keep (h.rw q) ho fun g hg hS => by
          rcases hS with hS | hS
          · exact own_ne_map (h.rw q) h.m3 (by rw [hg, hS])
          · rcases h.dw q p e with z | z
            · rw [hg] at z; cases z
            · exact z (by rw [hg, hS])
    da := h.da
    dr := h.dr
    dw := by rw [hvW]; exact apart_upd h.dw (fun q g hg => own_lt (h.rw q) hg) hat
    la := fun q => Nat.le_trans (h.la q) (by omega)
    lr := fun q => Nat.le_trans (h.lr q) (by omega)
    lw := fun q => by
      show (upd s.ws p _ q).length ≤ n'
      by_cases e : q = p
      · subst e; rw [upd_same, List.length_append, List.length_singleton]; have := h.lw q; omega
      · rw [upd_other e]; have := h.lw q; omega }
/-- A read is put behind those of a key. -/
theorem TabAt.push2 {p : Int} {v' : Value} {x : RdM} {c : List Value} (h : TabAt base d s n w) (ho : Only (fun k => k = d.b2 ∨ (d.vR p).ownBlock = some k) w w') (hm : MapAt 3 idV idL nameOk w' d.b2 n' (upd d.fR p (some v'))) (hn : n < n')
    (hr : w'.ownsRow base 38 5 v' ((s.rd p).length + 1) ((d.cR p).flatten ++ c)) (hc : ReadAt (d.free s) w c x) (hat : v'.ownBlock = (d.vR p).ownBlock ∨ ∃ g, v'.ownBlock = some g ∧ w.heap.size ≤ g) :
    TabAt base { d with fR := upd d.fR p (some v'), cR := upd d.cR p (d.cR p ++ [c]) } { s with rd := upd s.rd p (s.rd p ++ [x]) } n' w' := by
  have hvR : ({ d with fR := upd d.fR p (some v'), cR := upd d.cR p (d.cR p ++ [c]) } : TD).vR = upd d.vR p v' := getD_upd d.fR p v' _
  have free : ∀ b m, b < w.heap.size → d.free s b m → ({ d with fR := upd d.fR p (some v'), cR := upd d.cR p (d.cR p ++ [c]) } : TD).free { s with rd := upd s.rd p (s.rd p ++ [x]) } b m := fun b m hb hf => by
    refine ⟨hf.1, fun q hq => ?_, hf.2.2⟩
    rw [hvR] at hq
    by_cases e : q = p
    · subst e
      rw [upd_same] at hq
      rcases hat with e | ⟨g, e, hg⟩
      · exact hf.2.1 q (by rw [← e, hq])
      · rw [e] at hq
        have := Option.some.inj hq
        omega
    · rw [upd_other e] at hq
      exact hf.2.1 q hq
  have rdk : ∀ v l, RdAt (d.free s) w v l → RdAt (({ d with fR := upd d.fR p (some v'), cR := upd d.cR p (d.cR p ++ [c]) } : TD).free { s with rd := upd s.rd p (s.rd p ++ [x]) }) w' v l := fun v l hl => hl.only fun b off i u hG hi hc => by
    refine ⟨ho.cell hc fun q => ?_, free b _ (lt_of_cell hc) hG⟩
    rcases q with q | q
    · exact cell_ne_map hc h.m2 q
    · exact hG.2.1 p q
  have rak : ∀ c r, ReadAt (d.free s) w c r → ReadAt (({ d with fR := upd d.fR p (some v'), cR := upd d.cR p (d.cR p ++ [c]) } : TD).free { s with rd := upd s.rd p (s.rd p ++ [x]) }) w' c r := fun c r ⟨lv, ov, e, h1, h2⟩ => ⟨lv, ov, e, rdk _ _ h1, rdk _ _ h2⟩
  exact {
    n01 := h.n01
    n02 := h.n02
    n03 := h.n03
    n12 := h.n12
    n13 := h.n13
    n23 := h.n23
    m0 := (h.m0.keep ho (fun e => by rcases e with e | e; exact h.n02 e; exact own_ne_map (h.rr p) h.m0 e)).mono (by omega)
    m1 := (h.m1.keep ho (fun e => by rcases e with e | e; exact h.n12 e; exact own_ne_map (h.rr p) h.m1 e)).mono (by omega)
    m2 := hm
    m3 := (h.m3.keep ho (fun e => by rcases e with e | e; exact h.n23 e.symm; exact own_ne_map (h.rr p) h.m3 e)).mono (by omega)
    ra := fun k => own_keep (h.ra k) ho fun g hg hS => by
      replace hg : (d.vA k).ownBlock = some g := hg
      rcases hS with hS | hS
      · exact own_ne_map (h.ra k) h.m2 (by rw [hg, hS])
      · rcases own_ne_own (h.ra k) (h.rr p) (show (3 : Nat) ≠ 38 by decide) with z | z
        · rw [hg] at z; cases z
        · exact z (by rw [hg, hS])
    aw := h.aw
    rr := fun q => by
      rw [hvR]
      show w'.ownsRow base 38 5 _ (upd s.rd p _ q).length (upd d.cR p _ q).flatten
      by_cases e : q = p
      · subst e
        rw [upd_same, upd_same, upd_same, List.length_append, List.flatten_append]
        simpa using hr
      · rw [upd_other e, upd_other e, upd_other e]
        exact own_keep (h.rr q) ho fun g hg hS => by
          rcases hS with hS | hS
          · exact own_ne_map (h.rr q) h.m2 (by rw [hg, hS])
          · rcases h.dr q p e with z | z
            · rw [hg] at z; cases z
            · exact z (by rw [hg, hS])
    rs := fun q => by
      show AllAt _ (upd d.cR p _ q) (upd s.rd p _ q)
      by_cases e : q = p
      · subst e
        rw [upd_same, upd_same]
        exact ((h.rs q).mono rak).append (AllAt.one (rak _ _ hc))
      · rw [upd_other e, upd_other e]
        exact (h.rs q).mono rak
    rw := fun k => own_keep (h.rw k) ho fun g hg hS => by
      replace hg : (d.vW k).ownBlock = some g := hg
      rcases hS with hS | hS
      · exact own_ne_map (h.rw k) h.m2 (by rw [hg, hS])
      · rcases own_ne_own (h.rw k) (h.rr p) (show (64 : Nat) ≠ 38 by decide) with z | z
        · rw [hg] at z; cases z
        · exact z (by rw [hg, hS])
    da := h.da
    dr := by rw [hvR]; exact apart_upd h.dr (fun q g hg => own_lt (h.rr q) hg) hat
    dw := h.dw
    la := fun q => Nat.le_trans (h.la q) (by omega)
    lr := fun q => by
      show (upd s.rd p _ q).length ≤ n'
      by_cases e : q = p
      · subst e; rw [upd_same, List.length_append, List.length_singleton]; have := h.lr q; omega
      · rw [upd_other e]; have := h.lr q; omega
    lw := fun q => Nat.le_trans (h.lw q) (by omega) }
/-! ### Which blocks are a table's behind a step -/
theorem F_push1 {p : Int × Int} {v' : Value} (hat : v'.ownBlock = (d.vA p).ownBlock ∨ ∃ g, v'.ownBlock = some g ∧ w.heap.size ≤ g) : ∀ k, ({ d with fA := upd d.fA p (some v') } : TD).F k → d.F k ∨ w.heap.size ≤ k := by
  have hvA : ({ d with fA := upd d.fA p (some v') } : TD).vA = upd d.vA p v' := getD_upd d.fA p v' _
  intro k hk
  rcases hk with e | e | e | e | ⟨q, hq⟩ | e | e | e
  · exact .inl (.inl e)
  · exact .inl (.inr (.inl e))
  · exact .inl (.inr (.inr (.inl e)))
  · exact .inl (.inr (.inr (.inr (.inl e))))
  · rw [hvA] at hq
    by_cases e : q = p
    · subst e
      rw [upd_same] at hq
      rcases hat with e | ⟨g, e, hg⟩
      · exact .inl (.inr (.inr (.inr (.inr (.inl ⟨q, by rw [← e]; exact hq⟩)))))
      · rw [e] at hq; exact .inr (by have := Option.some.inj hq; omega)
    · rw [upd_other e] at hq
      exact .inl (.inr (.inr (.inr (.inr (.inl ⟨q, hq⟩)))))
  · exact .inl (.inr (.inr (.inr (.inr (.inr (.inl e))))))
  · exact .inl (.inr (.inr (.inr (.inr (.inr (.inr (.inl e)))))))
  · exact .inl (.inr (.inr (.inr (.inr (.inr (.inr (.inr e)))))))
theorem F_push3 {p : Int} {v' : Value} (hat : v'.ownBlock = (d.vW p).ownBlock ∨ ∃ g, v'.ownBlock = some g ∧ w.heap.size ≤ g) : ∀ k, ({ d with fW := upd d.fW p (some v') } : TD).F k → d.F k ∨ w.heap.size ≤ k := by
  have hvW : ({ d with fW := upd d.fW p (some v') } : TD).vW = upd d.vW p v' := getD_upd d.fW p v' _
  intro k hk
  rcases hk with e | e | e | e | e | e | ⟨q, hq⟩ | e
  · exact .inl (.inl e)
  · exact .inl (.inr (.inl e))
  · exact .inl (.inr (.inr (.inl e)))
  · exact .inl (.inr (.inr (.inr (.inl e))))
  · exact .inl (.inr (.inr (.inr (.inr (.inl e)))))
  · exact .inl (.inr (.inr (.inr (.inr (.inr (.inl e))))))
  · rw [hvW] at hq
    by_cases e : q = p
    · subst e
      rw [upd_same] at hq
      rcases hat with e | ⟨g, e, hg⟩
      · exact .inl (.inr (.inr (.inr (.inr (.inr (.inr (.inl ⟨q, by rw [← e]; exact hq⟩)))))))
      · rw [e] at hq; exact .inr (by have := Option.some.inj hq; omega)
    · rw [upd_other e] at hq
      exact .inl (.inr (.inr (.inr (.inr (.inr (.inr (.inl ⟨q, hq⟩)))))))
  · exact .inl (.inr (.inr (.inr (.inr (.inr (.inr (.inr e)))))))
theorem F_push2 {p : Int} {v' : Value} {c : List Value} (hat : v'.ownBlock = (d.vR p).ownBlock ∨ ∃ g, v'.ownBlock = some g ∧ w.heap.size ≤ g) (hc : ∀ a m cap, Value.slice (some a) m cap ∈ c → 0 < m → d.F a.block ∨ w.heap.size ≤ a.block) :
    ∀ k, ({ d with fR := upd d.fR p (some v'), cR := upd d.cR p (d.cR p ++ [c]) } : TD).F k → d.F k ∨ w.heap.size ≤ k := by
  have hvR : ({ d with fR := upd d.fR p (some v'), cR := upd d.cR p (d.cR p ++ [c]) } : TD).vR = upd d.vR p v' := getD_upd d.fR p v' _
  intro k hk
  rcases hk with e | e | e | e | e | ⟨q, hq⟩ | e | ⟨j, c', hc', a, m, cap, hs, hm, rfl⟩
  · exact .inl (.inl e)
  · exact .inl (.inr (.inl e))
  · exact .inl (.inr (.inr (.inl e)))
  · exact .inl (.inr (.inr (.inr (.inl e))))
  · exact .inl (.inr (.inr (.inr (.inr (.inl e)))))
  · rw [hvR] at hq
    by_cases e : q = p
    · subst e
      rw [upd_same] at hq
      rcases hat with e | ⟨g, e, hg⟩
      · exact .inl (.inr (.inr (.inr (.inr (.inr (.inl ⟨q, by rw [← e]; exact hq⟩))))))
      · rw [e] at hq; exact .inr (by have := Option.some.inj hq; omega)
    · rw [upd_other e] at hq
      exact .inl (.inr (.inr (.inr (.inr (.inr (.inl ⟨q, hq⟩))))))
  · exact .inl (.inr (.inr (.inr (.inr (.inr (.inr (.inl e)))))))
  · replace hc' : c' ∈ upd d.cR p (d.cR p ++ [c]) j := hc'
    have old : c' ∈ d.cR j → d.F a.block ∨ w.heap.size ≤ a.block := fun q => .inl (.inr (.inr (.inr (.inr (.inr (.inr (.inr ⟨j, c', q, a, m, cap, hs, hm, rfl⟩)))))))
    by_cases e : j = p
    · subst e
      rw [upd_same] at hc'
      rcases List.mem_append.1 hc' with z | z
      · exact old z
      · simp only [List.mem_singleton] at z
        subst z
        exact hc a m cap hs hm
    · rw [upd_other e] at hc'
      exact old hc'
end
/-! ### The map's entry, and what is put there -/
section
variable {α : Type} [DecidableEq α] {K T E : TypeId} {key : α → Value} {lit : α → Lit} {ok : α → Prop} {w w' : World} {b n : Nat} {f : α → Option Value} {z : Value}
theorem pair_one {l : List MapEntry} (h : l.Pairwise fun x y => x.key ≠ y.key) {x y : MapEntry} (hx : x ∈ l) (hy : y ∈ l) (e : x.key = y.key) : x = y := by
  obtain ⟨i, hi, rfl⟩ := List.mem_iff_getElem.1 hx
  obtain ⟨j, hj, rfl⟩ := List.mem_iff_getElem.1 hy
  have hp := List.pairwise_iff_getElem.1 h
  rcases Nat.lt_trichotomy i j with q | q | q
  · exact absurd e (hp i j hi hj q)
  · subst q; rfl
  · exact absurd e.symm (hp j i hj hi q)
theorem map_put (h : MapAt K key lit ok w b n f) (hk : KeyIs K key lit ok) (ht : Tryz.prog.underlying T = some (.map K E)) {x : α} (hx : ok x) (hn : n < maxLen) (v : Value) :
    ∃ w', (Instr.mapUpdate T (.map (some b)) (key x) v).run Tryz.prog w = .ok () w' ∧ MapAt K key lit ok w' b (n + 1) (upd f x (some v)) ∧ Only (fun k => k = b) w w' :=
  h.store hk ht hx hn v (upd_same _ _ _) (fun y _ hy => upd_other hy)
theorem map_entry (h : MapAt K key lit ok w b n f) (hk : KeyIs K key lit ok) (KL : WideMaps.KeyLaw Tryz.prog K) (ht : Tryz.prog.underlying T = some (.map K E)) (hz : ∀ u, (zeroValue E).run Tryz.prog u = .ok z u) {x : α} (hx : ok x) (hn : n < maxLen) :
    ∃ (st : Nat) (w1 : World), (Instr.mapEntry T (.map (some b)) (key x)).run Tryz.prog w = .ok (.tuple #[(f x).getD z, .int .i64 (st : Int)]) w1 ∧ Only (fun k => k = b) w w1 ∧
      ∀ (w2 : World) (v : Value), w2.heap[b]? = w1.heap[b]? → ∃ w3, (Instr.entryStore T (.map (some b)) (.int .i64 (st : Int)) v).run Tryz.prog w2 = .ok () w3 ∧ MapAt K key lit ok w3 b (n + 1) (upd f x (some v)) ∧ Only (fun k => k = b) w2 w3 := by
  have hlook := h.look hk ht (hz w) hx
  have hput := fun v => map_put h (T := T) hk ht hx hn v
  obtain ⟨D, ⟨es, clock, hb, F, hs, hD⟩, h2⟩ := h
  obtain ⟨v0, st, es1, clock1, hrun, hv0, hst⟩ := WideElems.entry_then_store KL ht hz hb F (hk.of x hx)
  have hpw := ((stamped_iff es clock).1 F.stamped).2.2
  have e0 : v0 = (f x).getD z := by
    rcases Maps.fit_look false hk.law ht (hz w) hb F (hk.of x hx) with ⟨r1, r2, _⟩ | ⟨e1, y, m1, m2, r1, _⟩
    · rw [hlook] at r1
      have e2 : (f x).getD z = z := by simpa using r1
      rcases hv0 with ⟨e', m', k', _⟩ | ⟨_, rfl⟩
      · exact absurd k' (r2 e' m')
      · exact e2.symm
    · rw [hlook] at r1
      have e2 : (f x).getD z = e1.val := by simpa using r1
      rcases hv0 with ⟨e', m', k', rfl⟩ | ⟨r2, _⟩
      · rw [e2, pair_one hpw m' m1 (k'.trans m2.symm)]
      · exact absurd m2 (r2 e1 m1)
  have osb : ∀ (u : World) (o : Obj) (q : ∃ es c, u.heap[b]? = some (.map es c)), Only (fun k => k = b) u (ChangeMaps.setBlock u b o) := fun u o ⟨_, _, q⟩ => ⟨rfl, rfl, rfl, by simp [ChangeMaps.setBlock], fun i _ hi => heap_setBlock_other q _ (fun e => hi e)⟩
  refine ⟨st, _, by rw [hrun, e0]; rfl, osb w _ ⟨_, _, hb⟩, fun w2 v hw2 => ?_⟩
  have hb2 : w2.heap[b]? = some (.map es1 clock1) := by rw [hw2]; exact heap_setBlock_same hb _
  obtain ⟨es', clock', g1, g2⟩ := hst w2 v hb2
  obtain ⟨w', k1, k2, _⟩ := hput v
  rw [g2] at k1
  simp only [Result.ok.injEq, true_and] at k1
  refine ⟨_, g1, k2.block ?_, osb w2 _ ⟨_, _, hb2⟩⟩
  rw [heap_setBlock_same hb2, ← k1, heap_setBlock_same hb]
end
/-! ### append -/
theorem run_app {w : World} {T e : TypeId} {z by_ : Nat} {zv : Value} (hT : Tryz.prog.underlying T = some (.slice e)) (hI : (Tryz.prog.info? e).map (fun i => (i.zero, i.size, i.bytes)) = some (some zv, z, by_)) (hzs : zv.cells.size = z) (hz0 : 0 < z) (hby : by_ ≤ 1000)
    (ty : TypeId) (base : Nat) (v : Value) (n : Nat) (xs : List Value) (hown : w.ownsRow base e z v n xs) (g : Nat) (news : List Value) (hl : news.length = z) (hnews : ∀ j u, news[j]? = some u → w.cell? ⟨g, j, none⟩ = some u) (h1 : ∀ u ∈ news, u.oneCell' = true) (hb : n ≤ 1000000) (hbase : base ≤ w.heap.size) :
    ∃ v' w', (Builtin.append_ #[T, T] ty #[v, .slice (some ⟨g, 0, none⟩) 1 1]).run Tryz.prog w = .ok v' w' ∧ w'.ownsRow base e z v' (n + 1) (xs ++ news) ∧ w.grownBy w' v.ownBlock ∧ (v'.ownBlock = v.ownBlock ∨ v'.ownBlock = some w.heap.size) ∧
      ∀ k i, v.ownBlock = some k → i < n * z → w'.cell? ⟨k, i, none⟩ = w.cell? ⟨k, i, none⟩ := by
  obtain ⟨i0, hi, hz, hsize, hbytes⟩ := info_parts hI
  have hnews' : ∀ j u, news[j]? = some u → w.cell? ((⟨g, 0, none⟩ : Addr).add j) = some u := fun j u hu => by rw [Addr.add_lit, Nat.zero_add]; exact hnews j u hu
  have hbb : (n + 1) * by_ ≤ 140737488355328 := Nat.le_trans (Nat.mul_le_mul (show n + 1 ≤ 1000001 by omega) hby) (by decide)
  obtain ⟨v', w', hr, h2, h3, h4, h5⟩ := run_append_own_at (P := Tryz.prog) w base T ty e i0 zv z by_ hT hi hz hsize hbytes hzs hz0 v n xs hown ⟨g, 0, none⟩ 1 1 news (by omega) hnews' h1 (by unfold maxLen; omega) hbb hbase
  refine ⟨v', w', hr, h2, h3, h5, fun k i hk hik => ?_⟩
  have hxl := hown.1
  have keep : v'.ownBlock = some k → w'.cell? ⟨k, i, none⟩ = w.cell? ⟨k, i, none⟩ := fun hk' => by
    obtain ⟨g1, c1, q1, q2, _⟩ := own_at (j := i) (show (ownN base e z v n xs).P w from hown) (List.getElem?_eq_getElem (by omega))
    obtain ⟨g2, c2, q3, q4, _⟩ := own_at (j := i) (show (ownN base e z v' (n + 1) (xs ++ news)).P w' from h2) (by rw [List.getElem?_append_left (by omega)]; exact List.getElem?_eq_getElem (by omega))
    subst q1
    subst q3
    cases hk
    cases hk'
    rw [q2, q4]
  rcases hown.2 with ⟨rfl, _⟩ | ⟨g', cap, cur, rfl, hbg, hg, hnc, hcm, hcs, htake⟩
  · cases hk
  · cases hk
    by_cases hroom : n + 1 ≤ cap
    · have hr2 := run_append_room (P := Tryz.prog) w T ty e i0 hT hi g' n cap cur hg ⟨g, 0, none⟩ 1 1 news (by rw [hsize]; omega) hnews' h1 hroom (by rw [hsize, hl, hcs]; have := Nat.mul_le_mul_right z hroom; rw [Nat.add_mul] at this; omega)
      rw [hr] at hr2
      simp only [Result.ok.injEq] at hr2
      exact keep (by rw [hr2.1]; rfl)
    · have holds : ∀ j u, xs[j]? = some u → w.cell? ((⟨g', 0, none⟩ : Addr).add j) = some u := hown.cells (g := g') rfl
      have hr2 := run_append_grow (P := Tryz.prog) w T ty e i0 zv hT hi hz ⟨g', 0, none⟩ n cap xs (by rw [hsize]; exact hxl) holds ⟨g, 0, none⟩ 1 1 news (by rw [hsize]; omega) hnews' (by omega) (by omega) (growslice_fits (by omega) (by rw [hbytes]; exact hbb))
      rw [hr] at hr2
      simp only [Result.ok.injEq] at hr2
      rw [hr2.2]
      have hlt : g' < w.heap.size := (Array.getElem?_eq_some_iff.1 hg).1
      exact (((Below.refl w.heap.size w).drew).alloc (Nat.le_refl _) _).cell (p := ⟨g', i, none⟩) hlt
theorem step_app {w : World} {ops : Array Oper} {o : Oper} {a : Act} {KK : Act → World → Prop} {Q : Exit → Act → World → Prop} {P : Prop} {T e : TypeId} {z by_ : Nat} {zv : Value} (hT : Tryz.prog.underlying T = some (.slice e)) (hI : (Tryz.prog.info? e).map (fun i => (i.zero, i.size, i.bytes)) = some (some zv, z, by_)) (hzs : zv.cells.size = z) (hz0 : 0 < z) (hby : by_ ≤ 1000)
    (hgd : o.guard = none) (s x : Operand) (ho : o.op = .call { callee := .builtin .append, args := #[s, x], argTypes := #[T, T] }) (base : Nat) (v : Value) (n : Nat) (xs : List Value) (hs : a.eval s = v) (hown : w.ownsRow base e z v n xs)
    (g : Nat) (news : List Value) (hx : a.eval x = .slice (some ⟨g, 0, none⟩) 1 1) (hl : news.length = z) (hnews : ∀ j u, news[j]? = some u → w.cell? ⟨g, j, none⟩ = some u) (h1 : ∀ u ∈ news, u.oneCell' = true) (hb : n ≤ 1000000) (hbase : base ≤ w.heap.size)
    (h : ∀ v' w', w'.ownsRow base e z v' (n + 1) (xs ++ news) → w.grownBy w' v.ownBlock → (v'.ownBlock = v.ownBlock ∨ v'.ownBlock = some w.heap.size) → (∀ k i, v.ownBlock = some k → i < n * z → w'.cell? ⟨k, i, none⟩ = w.cell? ⟨k, i, none⟩) → KK (a.put o.dst v') w') :
    if Region.wanted o (yielded ops a.tmps) = true then Oper.wp Tryz.prog o a w KK Q else P := by
  have hw : Region.wanted o (yielded ops a.tmps) = true := by simp [Region.wanted, hgd]
  rw [if_pos hw]
  obtain ⟨v', w', hr, h2, h3, h4, h5⟩ := run_app hT hI hzs hz0 hby o.type base v n xs hown g news hl hnews h1 hb hbase
  unfold Oper.wp execOp
  simp only [ho, resolve, invoke, builtin, Sem.run_bind, Sem.run_pure, Result.andThen_ok, List.map_toArray, List.map_cons, List.map_nil, hs, hx, hr]
  exact h v' w' h2 h3 h4 h5
end Go.Proofs.YtkinmllflodhaaaGreat.Tab

/- A region that draws its order, whose last operation waits for all others: it may be split off, so that what is held of the world need not outlast it. -/
namespace Go.Proofs.YtkinmllflodhaaaGreat.Last
open Go
set_option linter.unusedVariables false

section
variable {P : Program} {md : Region.Mode} {ops : Array Oper} {Q : Exit → Act → World → Prop} {S : World → Prop}
/-- What an operation comes to hangs on how the rest goes on, and on what is asked where it does not. -/
theorem upon_then {o : Oper} {a : Act} {next K K' : Act → World → Prop} (h : ∀ a w, K a w → K' a w) : ∀ {r : Result Next}, o.upon P a K (Exit.then next Q) r → o.upon P a K' Q r
  | .ok (.value v) w', hh => h _ _ hh
  | .ok .skip w', hh => h _ _ hh
  | .ok (.defer d) w', hh => h _ _ hh
  | .ok (.enter f args) w', hh => Calls.mono hh fun e w'' he => match e, he with
    | .returned v, he => h _ _ he
    | .panicked c, he => he
    | .outgrown, he => he
  | .ok (.row row args) w', hh => Rows.mono hh fun _ _ he => h _ _ he
  | .halt x w', hh => by cases x <;> first | exact hh | exact hh.elim
theorem wpOp_then {i : Nat} {a : Act} {w : World} {next K K' : Act → World → Prop} (h : ∀ a w, K a w → K' a w) (hh : wpOp P ops (Exit.then next Q) i K a w) : wpOp P ops Q i K' a w := by
  unfold wpOp at *
  cases ho : ops[i]? with
  | none => rw [ho] at hh; exact h _ _ hh
  | some o =>
    rw [ho] at hh
    simp only at hh ⊢
    split
    · rename_i hw
      rw [if_pos hw] at hh
      exact hh.imp (upon_then h) id
    · rename_i hw
      rw [if_neg hw] at hh
      exact h _ _ hh
theorem all_listed {listed : Array Bool} (hlt : ∀ i o, ops[i]? = some o → ∀ e ∈ o.after, Region.binds md e = true → e.on < i) (h : Region.ready md ops listed = []) : ∀ n i, i < n → i < ops.size → listed.getD i true = true
  | 0, i, hi, _ => by omega
  | n + 1, i, hi, hs => by
    cases hq : listed.getD i true with
    | true => rfl
    | false =>
      exfalso
      have : i ∈ Region.ready md ops listed := mem_ready.2 ⟨hq, ops[i], Array.getElem?_eq_getElem hs, fun e he hb => by
        have hl := hlt i _ (Array.getElem?_eq_getElem hs) e he hb
        have := all_listed hlt h n e.on (by omega) (by omega)
        rw [Array.getD_eq_getD_getElem?] at this ⊢
        cases hx : listed[e.on]? with
        | some b => rw [hx] at this; exact this
        | none =>
          exfalso
          have h1 : listed.size ≤ e.on := by
            rcases Nat.lt_or_ge e.on listed.size with q | q
            · rw [Array.getElem?_eq_getElem q] at hx; cases hx
            · exact q
          rw [Array.getD_eq_getD_getElem?, Array.getElem?_eq_none (by omega)] at hq
          cases hq⟩
      rw [h] at this
      cases this
theorem getD_true {listed : Array Bool} {i : Nat} (hi : i < listed.size) (h : listed.getD i true = true) : listed.getD i false = true := by
  rw [Array.getD_eq_getD_getElem?, Array.getElem?_eq_getElem hi] at *
  exact h
/-- Whoever is listed, those that it waits for are, too. -/
def Closed (md : Region.Mode) (ops : Array Oper) (listed : Array Bool) : Prop := ∀ i o, ops[i]? = some o → listed.getD i false = true → ∀ e ∈ o.after, Region.binds md e = true → listed.getD e.on false = true
theorem getD_set_le {listed : Array Bool} {i j : Nat} (h : listed.getD j false = true) : (listed.setIfInBounds i true).getD j false = true := by
  by_cases e : i = j
  · subst e
    rw [Array.getD_eq_getD_getElem?] at *
    have hl : i < listed.size := by
      rcases Nat.lt_or_ge i listed.size with q | q
      · exact q
      · rw [Array.getElem?_eq_none q] at h; cases h
    rw [Array.getElem?_setIfInBounds_self_of_lt hl]
    rfl
  · rw [Array.getD_eq_getD_getElem?, Array.getElem?_setIfInBounds_ne e, ← Array.getD_eq_getD_getElem?]
    exact h
theorem Closed.step {listed : Array Bool} {i : Nat} (h : Closed md ops listed) (hi : i ∈ Region.ready md ops listed) : Closed md ops (listed.setIfInBounds i true) := by
  intro j o ho hj e he hb
  obtain ⟨_, oi, hoi, hall⟩ := mem_ready.1 hi
  by_cases q : i = j
  · subst q
    rw [ho] at hoi
    obtain rfl := Option.some.inj hoi
    exact getD_set_le (hall e he hb)
  · rw [Array.getD_eq_getD_getElem?, Array.getElem?_setIfInBounds_ne q, ← Array.getD_eq_getD_getElem?] at hj
    exact getD_set_le (h j o ho hj e he hb)
theorem below_listed {listed : Array Bool} {k : Nat} {ok : Oper} (hk : ops[k]? = some ok) (hc : Closed md ops listed) (hkr : ∀ e ∈ ok.after, Region.binds md e = true → listed.getD e.on false = true)
    (hw : ∀ j, j < k → ∃ i o, i ≤ k ∧ ops[i]? = some o ∧ ∃ e ∈ o.after, Region.binds md e = true ∧ e.on = j) (hlt : ∀ i o, ops[i]? = some o → ∀ e ∈ o.after, Region.binds md e = true → e.on < i) : ∀ n j, k ≤ j + n → j < k → listed.getD j false = true
  | 0, j, h, hj => by omega
  | n + 1, j, h, hj => by
    obtain ⟨i, o, hi, ho, e, he, hb, hon⟩ := hw j hj
    have hji := hlt i o ho e he hb
    rcases Nat.eq_or_lt_of_le hi with q | q
    · subst q
      rw [hk] at ho
      obtain rfl := Option.some.inj ho
      rw [← hon]
      exact hkr e he hb
    · rw [← hon]
      exact hc i o ho (below_listed hk hc hkr hw hlt n i (by omega) q) e he hb
/-- The last one is split off. -/
theorem wpAny_last {k : Nat} {ok : Oper} (hs : k + 1 = ops.size) (hk : ops[k]? = some ok) (hw : ∀ j, j < k → ∃ i o, i ≤ k ∧ ops[i]? = some o ∧ ∃ e ∈ o.after, Region.binds md e = true ∧ e.on = j) (hlt : ∀ i o, ops[i]? = some o → ∀ e ∈ o.after, Region.binds md e = true → e.on < i) :
    ∀ (fuel : Nat) (listed : Array Bool) (a : Act) (w : World), listed.size = ops.size → Closed md ops listed → listed.getD k true = false →
      wpAnyH P md ops (Exit.then (fun a w => wpOp P ops Q k (Q .normal) a w) Q) S fuel (listed.setIfInBounds k true) a w → wpAny P md ops Q (fuel + 1) listed a w := by
  have hne : ∀ {j : Nat} {l : Array Bool}, j ∈ Region.ready md ops (l.setIfInBounds k true) → l.size = ops.size → j ≠ k := by
    intro j l hj hl q
    subst q
    have := (mem_ready.1 hj).1
    rw [Array.getD_eq_getD_getElem?, Array.getElem?_setIfInBounds_self_of_lt (by omega)] at this
    cases this
  have hback : ∀ {j : Nat} {l : Array Bool}, j ∈ Region.ready md ops (l.setIfInBounds k true) → l.size = ops.size → j ∈ Region.ready md ops l := by
    intro j l hj hl
    have hjk := hne hj hl
    obtain ⟨h1, o, h2, h3⟩ := mem_ready.1 hj
    have hjs : j < ops.size := by
      rcases Nat.lt_or_ge j ops.size with q | q
      · exact q
      · rw [Array.getElem?_eq_none q] at h2; cases h2
    refine mem_ready.2 ⟨by rw [Array.getD_eq_getD_getElem?, Array.getElem?_setIfInBounds_ne (Ne.symm hjk)] at h1; rw [Array.getD_eq_getD_getElem?]; exact h1, o, h2, fun e he hb => ?_⟩
    have h4 := h3 e he hb
    have h5 := hlt j o h2 e he hb
    rw [Array.getD_eq_getD_getElem?, Array.getElem?_setIfInBounds_ne (by omega)] at h4
    rw [Array.getD_eq_getD_getElem?]
    exact h4
  -- where nothing but the last one is left
  have hend : ∀ (fuel : Nat) (l : Array Bool) (a : Act) (w : World), Region.ready md ops (l.setIfInBounds k true) = [] → wpAnyH P md ops (Exit.then (fun a w => wpOp P ops Q k (Q .normal) a w) Q) S fuel (l.setIfInBounds k true) a w → wpOp P ops Q k (Q .normal) a w := by
    intro fuel l a w h0 H
    cases fuel with
    | zero => exact H.2
    | succ f => exact H.1 h0
  have hdone : ∀ (fuel : Nat) (l : Array Bool) (a : Act) (w : World), Region.ready md ops l = [] → Q .normal a w → wpAny P md ops Q fuel l a w := by
    intro fuel l a w h0 hq
    cases fuel with
    | zero => exact ⟨h0, hq⟩
    | succ f => exact ⟨fun _ => hq, by rw [h0]; simp⟩
  intro fuel
  induction fuel with
  | zero =>
    intro listed a w hls hcl hun H
    have h0 : Region.ready md ops (listed.setIfInBounds k true) = [] := H.1
    have hall := all_listed hlt h0 ops.size
    have hkr : k ∈ Region.ready md ops listed := mem_ready.2 ⟨hun, ok, hk, fun e he hb => by
      have h5 := hlt k ok hk e he hb
      have := hall e.on (by omega) (by omega)
      rw [Array.getD_eq_getD_getElem?, Array.getElem?_setIfInBounds_ne (by omega), ← Array.getD_eq_getD_getElem?] at this
      exact getD_true (by omega) this⟩
    refine ⟨fun q => (by rw [q] at hkr; cases hkr), fun i hi => ?_⟩
    by_cases hik : i = k
    · subst hik
      exact wpOp_mono (fun a w hq => hdone 0 _ a w h0 hq) (hend 0 listed a w h0 H)
    · have := ready_mono hi hik
      rw [h0] at this
      cases this
  | succ f ih =>
    intro listed a w hls hcl hun H
    by_cases h0 : Region.ready md ops (listed.setIfInBounds k true) = []
    · have hall := all_listed hlt h0 ops.size
      have hkr : k ∈ Region.ready md ops listed := mem_ready.2 ⟨hun, ok, hk, fun e he hb => by
        have h5 := hlt k ok hk e he hb
        have := hall e.on (by omega) (by omega)
        rw [Array.getD_eq_getD_getElem?, Array.getElem?_setIfInBounds_ne (by omega), ← Array.getD_eq_getD_getElem?] at this
        exact getD_true (by omega) this⟩
      refine ⟨fun q => (by rw [q] at hkr; cases hkr), fun i hi => ?_⟩
      by_cases hik : i = k
      · subst hik
        exact wpOp_mono (fun a w hq => hdone _ _ a w h0 hq) (hend _ listed a w h0 H)
      · have := ready_mono hi hik
        rw [h0] at this
        cases this
    · obtain ⟨j, hj⟩ := List.exists_mem_of_ne_nil _ h0
      have hjl := hback hj hls
      refine ⟨fun q => (by rw [q] at hjl; cases hjl), fun i hi => ?_⟩
      by_cases hik : i = k
      · exfalso
        subst hik
        obtain ⟨_, o, ho, hall⟩ := mem_ready.1 hi
        have hjk := hne hj hls
        obtain ⟨hj1, oj, hoj, _⟩ := mem_ready.1 hjl
        have hjs : j < ops.size := by
          rcases Nat.lt_or_ge j ops.size with q | q
          · exact q
          · rw [Array.getElem?_eq_none q] at hoj; cases hoj
        rw [hk] at ho
        obtain rfl := Option.some.inj ho
        have := below_listed hk hcl hall hw hlt i j (by omega) (by omega)
        rw [Array.getD_eq_getD_getElem?, Array.getElem?_eq_getElem (by omega)] at this hj1
        simp only [Option.getD_some] at this hj1
        rw [this] at hj1
        cases hj1
      · refine wpOp_then (fun a' w' h => ?_) (H.2 i (ready_mono hi hik))
        refine ih (listed.setIfInBounds i true) a' w' (by simpa using hls) (hcl.step hi) ?_ ?_
        · rw [Array.getD_eq_getD_getElem?, Array.getElem?_setIfInBounds_ne hik, ← Array.getD_eq_getD_getElem?]; exact hun
        · rw [Array.setIfInBounds_comm _ _ hik]
          exact h.2
theorem done_last {k : Nat} {a : Act} {w : World} (h : wpOp P ops Q k (Q .normal) a w) : Exit.then (fun a w => wpOp P ops Q k (Q .normal) a w) Q .normal a w := h
/-- The beginning. -/
theorem region_last {id k : Nat} {ok : Oper} {a : Act} {w : World} (hm : P.follows .mixedOrders = true) (hs : k + 1 = ops.size) (hk : ops[k]? = some ok) (hw : (List.range k).all (fun j => (List.range (k + 1)).any fun i => match ops[i]? with | none => false | some o => o.after.any fun e => Region.binds .any e && e.on == j) = true)
    (hlt : (List.range ops.size).all (fun i => match ops[i]? with | none => true | some o => o.after.all fun e => !Region.binds .any e || decide (e.on < i)) = true)
    (h : wpAnyH P .any ops (Exit.then (fun a w => wpOp P ops Q k (Q .normal) a w) Q) S k ((Array.replicate ops.size false).setIfInBounds k true) a w.drew) : (Code.region id ops true).wp P Q a w := by
  refine wp_region_any hm ?_
  rw [← hs]
  refine wpAny_last hs hk (fun i hi => ?_) (fun i o ho e he hb => ?_) k _ a _ (by simpa using hs) (fun i o ho hi => by rw [Array.getD_eq_getD_getElem?, Array.getElem?_replicate] at hi; split at hi <;> cases hi) (by rw [Array.getD_eq_getD_getElem?, Array.getElem?_replicate, if_pos (by omega)]; rfl) (by rw [← hs] at h; exact h)
  · have := List.all_eq_true.1 hw i (List.mem_range.2 hi)
    obtain ⟨n, hn, q⟩ := List.any_eq_true.1 this
    have hn' := List.mem_range.1 hn
    cases ho : ops[n]? with
    | none => rw [ho] at q; cases q
    | some o =>
      rw [ho] at q
      obtain ⟨m, hm, q⟩ := Array.any_eq_true.1 q
      simp at q
      exact ⟨n, o, by omega, ho, o.after[m], Array.getElem_mem hm, q.1, q.2⟩
  · have hi : i < ops.size := by
      rcases Nat.lt_or_ge i ops.size with q | q
      · exact q
      · rw [Array.getElem?_eq_none q] at ho; cases ho
    have := List.all_eq_true.1 hlt i (List.mem_range.2 hi)
    rw [ho] at this
    obtain ⟨j, hj, rfl⟩ := Array.mem_iff_getElem.1 he
    have := Array.all_eq_true.1 this j hj
    simp [hb] at this
    exact this
end
end Go.Proofs.YtkinmllflodhaaaGreat.Last
