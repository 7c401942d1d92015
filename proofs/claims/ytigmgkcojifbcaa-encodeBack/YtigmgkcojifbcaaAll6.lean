/- Joined out of the texts Grow, EncOp, EncSize, EncTxn, EncSizeH, in that order. -/
import Derived.Test.YtigmgkcojifbcaaAll2
import Derived.Laws.OwnMore
import Derived.Deep.AppendLies
import Derived.Test.YtigmgkcojifbcaaAll5
import Derived.Deep.DeepCutAuto
import Derived.Deep.RegionWith
import Derived.Deep.RegionHeld3
import Derived.Deep.DrawnRows
/- append to a row of the call's own, of another row, whatever its address and its length: at an operation, at a list of operations, at a step of a region that draws. And rows of n-celled elements that are read out of a block. -/
namespace Go.Proofs.Ytigmgkcojifbcaa.Mem
open Go.RowKit Go.Proofs.Ytigmgkcojifbcaa.Dig
set_option linter.unusedVariables false
set_option linter.unusedSimpArgs false

theorem run_app_row {P : Program} {w : World} (t ty e : TypeId) (i : TypeInfo) (z : Value) (size bytes : Nat) (ht : P.underlying t = some (.slice e)) (hi : P.info? e = some i) (hz : i.zero = some z) (hsize : i.size = size) (hby : i.bytes = bytes) (hzs : z.cells.size = size) (hsz : 0 < size) (hb8 : bytes ≤ 1000)
    (base : Nat) (v : Value) (cs : List (List Value)) (hown : OwnC e size base w v cs) (F : Nat → Prop) (vx : Value) (ds : List (List Value)) (hrow : RowAt F w size vx ds)
    (h1 : ∀ c ∈ ds, ∀ u ∈ c, u.oneCell' = true) (hb : cs.length + ds.length ≤ 1000000) (hbase : base ≤ w.heap.size) :
    ∃ v' w', (Builtin.append_ #[t, t] ty #[v, vx]).run P w = .ok v' w' ∧ OwnC e size base w' v' (cs ++ ds) ∧ Only (fun k => v.ownBlock = some k) w w' ∧ (v'.ownBlock = v.ownBlock ∨ v'.ownBlock = some w.heap.size) := by
  obtain ⟨ao, cap, rfl, hc1, hc2, hc3, hl, hcell⟩ := hrow
  cases ao with
  | none =>
    have hcap := hc3 rfl
    subst hcap
    have hd : ds = [] := List.eq_nil_of_length_eq_zero (by omega)
    subst hd
    exact ⟨v, w, run_append_owned_none (P := P) (w := w) base t ty e i size ht hi v cs.length cs.flatten hown.1, by simpa using hown, Only.refl _ _, .inl rfl⟩
  | some ad =>
    obtain ⟨v', w', hr, h2, h3, h4, h5⟩ := run_append_own_at (P := P) w base t ty e i z size bytes ht hi hz hsize hby hzs hsz v cs.length cs.flatten hown.1 ad ds.length cap ds.flatten (flatten_len size ds hl) (by
      intro j u hu
      have hj : j < ds.length * size := by
        rw [← flatten_len size ds hl]
        rcases Nat.lt_or_ge j ds.flatten.length with q | q
        · exact q
        · rw [List.getElem?_eq_none q] at hu; cases hu
      have hq : j / size < ds.length := Nat.div_lt_of_lt_mul (by rw [Nat.mul_comm]; exact hj)
      have hm : j % size < size := Nat.mod_lt _ hsz
      have e1 : j = (j / size) * size + j % size := by rw [Nat.mul_comm]; exact (Nat.div_add_mod j size).symm
      obtain ⟨b, off, hab, _, hc⟩ := hcell (j / size) ds[j / size] (List.getElem?_eq_getElem hq)
      obtain rfl := Option.some.inj hab
      rw [e1] at hu ⊢
      rw [flatten_get size ds hl _ _ (List.getElem?_eq_getElem hq) _ hm] at hu
      rw [addr_add]
      exact hc _ u hu) (by
      intro u hu
      obtain ⟨c, hc, huc⟩ := List.mem_flatten.1 hu
      exact h1 c hc u huc) (by unfold maxLen; omega) (by
      have : (cs.length + ds.length) * bytes ≤ 1000000 * 1000 := Nat.mul_le_mul hb hb8
      omega) hbase
    refine ⟨v', w', hr, ⟨?_, ?_⟩, ⟨h3.os, h3.tape, h3.output, h3.size, fun k hk hn => h3.block k hk (fun q => hn q.symm)⟩, h5⟩
    · rw [List.length_append, List.flatten_append]
      exact h2
    · intro c hc
      rcases List.mem_append.1 hc with q | q
      · exact hown.2 c q
      · exact hl c q

section
variable {P : Program} {w : World} {ops : Array Oper} {rest : List Oper} {o : Oper} {a : Act} {Q : Exit → Act → World → Prop} {K : Act → World → Prop} {E : Prop}
theorem wp_app_row (s x : Operand) (t : TypeId) (ho : o.op = .call { callee := .builtin .append, args := #[s, x], argTypes := #[t, t] })
    (e : TypeId) (i : TypeInfo) (z : Value) (size bytes : Nat) (ht : P.underlying t = some (.slice e)) (hi : P.info? e = some i) (hz : i.zero = some z) (hsize : i.size = size) (hby : i.bytes = bytes) (hzs : z.cells.size = size) (hsz : 0 < size) (hb8 : bytes ≤ 1000)
    (base : Nat) (v : Value) (cs : List (List Value)) (hs : a.eval s = v) (hown : OwnC e size base w v cs) (F : Nat → Prop) (vx : Value) (ds : List (List Value)) (hx : a.eval x = vx) (hrow : RowAt F w size vx ds)
    (h1 : ∀ c ∈ ds, ∀ u ∈ c, u.oneCell' = true) (hb : cs.length + ds.length ≤ 1000000) (hbase : base ≤ w.heap.size)
    (h : ∀ v' w', OwnC e size base w' v' (cs ++ ds) → Only (fun k => v.ownBlock = some k) w w' → (v'.ownBlock = v.ownBlock ∨ v'.ownBlock = some w.heap.size) → K (a.put o.dst v') w') : o.wp P a w K Q := by
  obtain ⟨v', w', hr, h2, h3, h4⟩ := run_app_row (P := P) t o.type e i z size bytes ht hi hz hsize hby hzs hsz hb8 base v cs hown F vx ds hrow h1 hb hbase
  unfold Oper.wp execOp
  simp only [ho, resolve, invoke, builtin, Sem.run_bind, Sem.run_pure, Result.andThen_ok, List.map_toArray, List.map_cons, List.map_nil, hs, hx, hr]
  exact h v' w' h2 h3 h4
theorem list_app_row (hgd : o.guard = none) (s x : Operand) (t : TypeId) (ho : o.op = .call { callee := .builtin .append, args := #[s, x], argTypes := #[t, t] })
    (e : TypeId) (i : TypeInfo) (z : Value) (size bytes : Nat) (ht : P.underlying t = some (.slice e)) (hi : P.info? e = some i) (hz : i.zero = some z) (hsize : i.size = size) (hby : i.bytes = bytes) (hzs : z.cells.size = size) (hsz : 0 < size) (hb8 : bytes ≤ 1000)
    (base : Nat) (v : Value) (cs : List (List Value)) (hs : a.eval s = v) (hown : OwnC e size base w v cs) (F : Nat → Prop) (vx : Value) (ds : List (List Value)) (hx : a.eval x = vx) (hrow : RowAt F w size vx ds)
    (h1 : ∀ c ∈ ds, ∀ u ∈ c, u.oneCell' = true) (hb : cs.length + ds.length ≤ 1000000) (hbase : base ≤ w.heap.size)
    (h : ∀ v' w', OwnC e size base w' v' (cs ++ ds) → Only (fun k => v.ownBlock = some k) w w' → (v'.ownBlock = v.ownBlock ∨ v'.ownBlock = some w.heap.size) → wpList P ops Q rest (a.put o.dst v') w') : wpList P ops Q (o :: rest) a w :=
  wpList_plain hgd fun _ hK => wp_app_row s x t ho e i z size bytes ht hi hz hsize hby hzs hsz hb8 base v cs hs hown F vx ds hx hrow h1 hb hbase fun v' w' h2 h3 h4 => hK _ _ (h v' w' h2 h3 h4)
theorem step_app_row (hgd : o.guard = none) (s x : Operand) (t : TypeId) (ho : o.op = .call { callee := .builtin .append, args := #[s, x], argTypes := #[t, t] })
    (e : TypeId) (i : TypeInfo) (z : Value) (size bytes : Nat) (ht : P.underlying t = some (.slice e)) (hi : P.info? e = some i) (hz : i.zero = some z) (hsize : i.size = size) (hby : i.bytes = bytes) (hzs : z.cells.size = size) (hsz : 0 < size) (hb8 : bytes ≤ 1000)
    (base : Nat) (v : Value) (cs : List (List Value)) (hs : a.eval s = v) (hown : OwnC e size base w v cs) (F : Nat → Prop) (vx : Value) (ds : List (List Value)) (hx : a.eval x = vx) (hrow : RowAt F w size vx ds)
    (h1 : ∀ c ∈ ds, ∀ u ∈ c, u.oneCell' = true) (hb : cs.length + ds.length ≤ 1000000) (hbase : base ≤ w.heap.size)
    (h : ∀ v' w', OwnC e size base w' v' (cs ++ ds) → Only (fun k => v.ownBlock = some k) w w' → (v'.ownBlock = v.ownBlock ∨ v'.ownBlock = some w.heap.size) → K (a.put o.dst v') w') :
    if Region.wanted o (yielded ops a.tmps) = true then Oper.wp P o a w K Q else E := by
  have hw : Region.wanted o (yielded ops a.tmps) = true := by simp [Region.wanted, hgd]
  rw [if_pos hw]
  exact wp_app_row s x t ho e i z size bytes ht hi hz hsize hby hzs hsz hb8 base v cs hs hown F vx ds hx hrow h1 hb hbase h
end
/-- A row that fills a block of its own. -/
theorem RowAt.block {w : World} {n b cap : Nat} {cs : List (List Value)} (hn : ∀ c ∈ cs, c.length = n) (h : Is w b cs.flatten.toArray) (hc : cs.length ≤ cap) (hm : cap ≤ maxLen) : RowAt (fun k => k = b) w n (.slice (some ⟨b, 0, none⟩) cs.length cap) cs := by
  refine ⟨some ⟨b, 0, none⟩, cap, rfl, hc, hm, by simp, hn, fun i d hd => ⟨b, 0, rfl, rfl, fun j u hu => ?_⟩⟩
  have hj : j < n := by
    have := hn d (List.mem_of_getElem? hd)
    rcases Nat.lt_or_ge j d.length with q | q
    · omega
    · rw [List.getElem?_eq_none q] at hu; cases hu
  rw [Nat.zero_add]
  exact h.cell _ (by rw [List.getElem?_toArray, flatten_get n cs hn i d hd j hj]; exact hu)
theorem own_some {e : TypeId} {n base : Nat} {w : World} {v : Value} {cs : List (List Value)} (h : OwnC e n base w v cs) (hl : 0 < cs.length) : ∃ g cap, v = .slice (some ⟨g, 0, none⟩) cs.length cap ∧ cs.length ≤ cap ∧ cap ≤ maxLen := by
  rcases h.1.2 with ⟨_, h0⟩ | ⟨g, cap, cur, hv, _, _, hc1, hc2, _⟩
  · omega
  · exact ⟨g, cap, hv, hc1, hc2⟩
theorem own_len {e : TypeId} {n base m : Nat} {w : World} {v : Value} {cs : List (List Value)} (h : OwnC e n base w v cs) (hl : cs.length = m + 1) : ∃ g cap, v = .slice (some ⟨g, 0, none⟩) (m + 1) cap ∧ m + 1 ≤ cap ∧ cap ≤ maxLen := by
  obtain ⟨g, cap, h1, h2, h3⟩ := own_some h (by omega)
  rw [hl] at h1 h2
  exact ⟨g, cap, h1, h2, h3⟩
theorem own_snoc_some {e : TypeId} {n base m : Nat} {w : World} {v : Value} {cs : List (List Value)} {c : List Value} (h : OwnC e n base w v (cs ++ [c])) (hl : cs.length = m) : ∃ g cap, v = .slice (some ⟨g, 0, none⟩) (m + 1) cap ∧ m + 1 ≤ cap ∧ cap ≤ maxLen := by
  obtain ⟨g, cap, h1, h2, h3⟩ := own_some h (by simp)
  rw [List.length_append, hl] at h1 h2
  exact ⟨g, cap, h1, h2, h3⟩
theorem own_frozen {e : TypeId} {n base : Nat} {w : World} {g len cap : Nat} {cs : List (List Value)} (h : OwnC e n base w (.slice (some ⟨g, 0, none⟩) len cap) cs) (i : Nat) : w.frozen? ⟨g, i, none⟩ = false := by
  rcases h.1.2 with ⟨e, _⟩ | ⟨g', cap', cur, e, _, hh, _⟩
  · simp at e
  · simp at e
    obtain ⟨rfl, _⟩ := e
    exact Is.frozen ⟨_, hh⟩ i
/-- A row of one element, in a block of its own. -/
theorem RowAt.one {w : World} {n b cap : Nat} {c : List Value} (hn : c.length = n) (h : Is w b c.toArray) (hc : 1 ≤ cap) (hm : cap ≤ maxLen) : RowAt (fun k => k = b) w n (.slice (some ⟨b, 0, none⟩) 1 cap) [c] := by
  refine ⟨some ⟨b, 0, none⟩, cap, rfl, hc, hm, by simp, by simp [hn], fun i d hd => ?_⟩
  cases i with
  | zero =>
    simp at hd
    subst hd
    refine ⟨b, 0, rfl, rfl, fun j u hu => ?_⟩
    have : (0 : Nat) + (0 * n + j) = j := by omega
    rw [this]
    exact h.cell j (by simpa using hu)
  | succ i => simp at hd
end Go.Proofs.Ytigmgkcojifbcaa.Mem

/- Contracts of opMayBe and met.op. -/
namespace Go.Proofs.Ytigmgkcojifbcaa.Hist
open Go.RowKit Go.Proofs.Ytigmgkcojifbcaa.Dig Go.Proofs.Ytigmgkcojifbcaa.Mem Go.Proofs.Ytigmgkcojifbcaa.Keys
set_option linter.unusedVariables false
set_option linter.unusedSimpArgs false

theorem ints_one {w : World} {b : Nat} {n : Int} (h : Is w b #[.int .i64 n]) (hn : (Lit.int .i64 n).wf = true) : IntsAt (fun k => k = b) w (.slice (some ⟨b, 0, none⟩) 1 1) [n] :=
  ⟨RowAt.block (n := 1) (cs := [[.int .i64 n]]) (by simp) (by simpa using h) (by simp) (by unfold maxLen; omega), by simpa using hn⟩
theorem ints_two {w : World} {b : Nat} {n m : Int} (h : Is w b #[.int .i64 n, .int .i64 m]) (hn : (Lit.int .i64 n).wf = true) (hm : (Lit.int .i64 m).wf = true) : IntsAt (fun k => k = b) w (.slice (some ⟨b, 0, none⟩) 2 2) [n, m] :=
  ⟨RowAt.block (n := 1) (cs := [[.int .i64 n], [.int .i64 m]]) (by simp) (by simpa using h) (by simp) (by unfold maxLen; omega), by simp; exact ⟨hn, hm⟩⟩
theorem maybe1 (n : Int) (b : Nat) (w : World) {r : Bool} (h : Is w b #[.int .i64 n]) (hn : (Lit.int .i64 n).wf = true) (hr : Hid (mayB n = r)) :
    Calls Try.prog 41 #[.slice (some ⟨b, 0, none⟩) 1 1] w fun e w' => e = .returned (.bool r) ∧ w' = w := by
  have := maybe_any _ _ [n] w (ints_one h hn) (by simp)
  rw [← hr.out]
  simpa using this
theorem maybe2 (n m : Int) (b : Nat) (w : World) {r : Bool} (h : Is w b #[.int .i64 n, .int .i64 m]) (hn : (Lit.int .i64 n).wf = true) (hm : (Lit.int .i64 m).wf = true) (hr : Hid ((mayB n && mayB m) = r)) :
    Calls Try.prog 41 #[.slice (some ⟨b, 0, none⟩) 2 2] w fun e w' => e = .returned (.bool r) ∧ w' = w := by
  have := maybe_any _ _ [n, m] w (ints_two h hn hm) (by simp)
  rw [← hr.out]
  simpa using this
set_option maxHeartbeats 1000000 in
theorem opmay_any (F : Nat → Prop) (o : OpM) (lv : Value) (w : World) (h : IntsAt F w lv o.list) (hl : o.list.length ≤ 1000000) (w1 : (Lit.int .i64 o.key).wf = true) (w2 : (Lit.int .i64 o.value).wf = true) :
    Calls Try.prog 57 #[.agg #[.bool o.read, .int .i64 o.key, .int .i64 o.value, lv]] w fun e w' => e = .returned (.bool (mayOpB o)) ∧ Below w.heap.size w w' := by
  obtain ⟨a, c, rfl, _, _⟩ := h.shape
  have H := hide h
  have W1 := hide w1
  have W2 := hide w2
  clear h w1 w2
  by_cases hr : o.read = true
  · have hT : mayOpB o = (mayB o.key && o.list.all mayB && o.value == 0) := by unfold mayOpB; rw [if_pos hr]
    obtain ⟨b1, hb1⟩ : ∃ b, mayB o.key = b := ⟨_, rfl⟩
    have B1 := hide hb1
    cases b1 with
    | false =>
      have T : Hid (mayOpB o = false) := hide (by rw [hT, hb1]; rfl)
      clear hT hb1
      go_enter Try.func57, Try.ntmps57
      go_wp2_with (first | (go_at_call 41; (with_reducible refine (maybe1 o.key _ _ (Is.made _ _ _ (by first | rfl | simp)) W1.out B1).mono ?_); rintro e w1 ⟨rfl, hq⟩; replace hq := hq.symm; subst hq))
      go_ret
      exact ⟨by rw [T.out]; rfl, by repeat (first | exact Below.refl _ _ | refine Below.alloc ?_ (by first | omega | (simp; done) | (simp; omega)) _)⟩
    | true =>
      obtain ⟨b2, hb2⟩ : ∃ b, o.list.all mayB = b := ⟨_, rfl⟩
      have B2 := hide hb2
      cases b2 with
      | false =>
        have T : Hid (mayOpB o = false) := hide (by rw [hT, hb1, hb2]; rfl)
        clear hT hb1 hb2
        go_enter Try.func57, Try.ntmps57
        go_wp2_with (first | (go_at_call 41; (with_reducible refine (maybe1 o.key _ _ (Is.made _ _ _ (by first | rfl | simp)) W1.out B1).mono ?_); rintro e w1 ⟨rfl, hq⟩; replace hq := hq.symm; subst hq) | (go_at_call 41; (with_reducible refine (maybe_any F _ o.list _ (H.out.keep (by repeat (first | exact Below.refl _ _ | refine Below.alloc ?_ (by first | omega | (simp; done) | (simp; omega)) _))) hl).mono ?_); rw [B2.out]; rintro e w2 ⟨rfl, hq⟩; replace hq := hq.symm; subst hq))
        go_ret
        exact ⟨by rw [T.out]; rfl, by repeat (first | exact Below.refl _ _ | refine Below.alloc ?_ (by first | omega | (simp; done) | (simp; omega)) _)⟩
      | true =>
        have T : Hid (mayOpB o = (o.value == 0)) := hide (by rw [hT, hb1, hb2]; rfl)
        clear hT hb1 hb2
        go_enter Try.func57, Try.ntmps57
        go_wp2_with (first | (go_at_call 41; (with_reducible refine (maybe1 o.key _ _ (Is.made _ _ _ (by first | rfl | simp)) W1.out B1).mono ?_); rintro e w1 ⟨rfl, hq⟩; replace hq := hq.symm; subst hq) | (go_at_call 41; (with_reducible refine (maybe_any F _ o.list _ (H.out.keep (by repeat (first | exact Below.refl _ _ | refine Below.alloc ?_ (by first | omega | (simp; done) | (simp; omega)) _))) hl).mono ?_); rw [B2.out]; rintro e w2 ⟨rfl, hq⟩; replace hq := hq.symm; subst hq))
        go_ret
        exact ⟨by rw [T.out]; rfl, by repeat (first | exact Below.refl _ _ | refine Below.alloc ?_ (by first | omega | (simp; done) | (simp; omega)) _)⟩
  · have hr' : o.read = false := by simpa using hr
    have hT : mayOpB o = (mayB o.key && mayB o.value && o.list.length == 0) := by unfold mayOpB; rw [if_neg hr]
    clear hr
    obtain ⟨b1, hb1⟩ : ∃ b, (mayB o.key && mayB o.value) = b := ⟨_, rfl⟩
    have B1 := hide hb1
    cases b1 with
    | false =>
      have T : Hid (mayOpB o = false) := hide (by rw [hT, hb1]; rfl)
      clear hT hb1
      go_enter Try.func57, Try.ntmps57
      go_wp2_with (first | (go_at_call 41; (with_reducible refine (maybe2 o.key o.value _ _ (Is.made _ _ _ (by first | rfl | simp)) W1.out W2.out B1).mono ?_); rintro e w1 ⟨rfl, hq⟩; replace hq := hq.symm; subst hq))
      go_ret
      exact ⟨by rw [T.out]; rfl, by repeat (first | exact Below.refl _ _ | refine Below.alloc ?_ (by first | omega | (simp; done) | (simp; omega)) _)⟩
    | true =>
      have T : Hid (mayOpB o = ((o.list.length : Int) == 0)) := hide (by rw [hT, hb1, Bool.true_and, Bool.eq_iff_iff]; simp)
      clear hT hb1
      go_enter Try.func57, Try.ntmps57
      go_wp2_with (first | (go_at_call 41; (with_reducible refine (maybe2 o.key o.value _ _ (Is.made _ _ _ (by first | rfl | simp)) W1.out W2.out B1).mono ?_); rintro e w1 ⟨rfl, hq⟩; replace hq := hq.symm; subst hq))
      go_ret
      exact ⟨by rw [T.out]; rfl, by repeat (first | exact Below.refl _ _ | refine Below.alloc ?_ (by first | omega | (simp; done) | (simp; omega)) _)⟩
theorem opmay_at (F : Nat → Prop) (o : OpM) (rd : Bool) (lv : Value) (w : World) (hrd : o.read = rd) (h : IntsAt F w lv o.list) (hl : o.list.length ≤ 1000000) (w1 : (Lit.int .i64 o.key).wf = true) (w2 : (Lit.int .i64 o.value).wf = true) :
    Calls Try.prog 57 #[.agg #[.bool rd, .int .i64 o.key, .int .i64 o.value, lv]] w fun e w' => e = .returned (.bool (mayOpB o)) ∧ Below w.heap.size w w' := by
  subst hrd
  exact opmay_any F o lv w h hl w1 w2
/-- An operation's first error, by a set. -/
def chkP (P : Int × Int → Bool) (o : OpM) : Int := if mayOpB o = false then 2 else if o.read = false ∧ P (o.key, o.value) = true then 6 else 0
theorem chkP_eq (pre : List TxnM) (o : OpM) : chkP (fun p => appB pre p.1 p.2) o = chkO pre o := rfl
def addP (P : Int × Int → Bool) (o : OpM) : Int × Int → Bool := fun p => P p || (!o.read && (o.key == p.1 && o.value == p.2))
theorem addP_eq (qs : List TxnM) (id : Int) (ab : Bool) (os : List OpM) (o : OpM) (p : Int × Int) : addP (fun p => appB (qs ++ [⟨id, ab, os⟩]) p.1 p.2) o p = appB (qs ++ [⟨id, ab, os ++ [o]⟩]) p.1 p.2 := by
  simp [addP, appB, Bool.or_assoc, Bool.and_assoc]
theorem metop_keep {w w1 : World} {bv n : Nat} {P : Int × Int → Bool} {o : OpM} (hr : o.read = true) (hv : EVals w bv n P) (hb : Below w.heap.size w w1) : Only (fun k => k = bv) w w1 ∧ (chkP P o = 0 → EVals w1 bv (n + 1) (addP P o)) :=
  ⟨Only.of_below hb, fun _ => ((SetAt.keep hv (Only.of_below (S := fun _ => False) hb) (fun q => q)).mono (by omega)).congr (fun p => by simp [addP, hr])⟩
set_option maxRecDepth 20000 in
set_option maxHeartbeats 1000000 in
theorem metop_any (F : Nat → Prop) (o : OpM) (lv : Value) (bi bv n : Nat) (P : Int × Int → Bool) (w : World) (hv : EVals w bv n P) (h : IntsAt F w lv o.list) (hl : o.list.length ≤ 1000000) (w1 : (Lit.int .i64 o.key).wf = true) (w2 : (Lit.int .i64 o.value).wf = true) (hn : n < 1000000) :
    Calls Try.prog 42 #[.agg #[.map (some bi), .map (some bv)], .agg #[.bool o.read, .int .i64 o.key, .int .i64 o.value, lv]] w fun e w' => e = .returned (.int .i64 (chkP P o)) ∧ Only (fun k => k = bv) w w' ∧ (chkP P o = 0 → EVals w' bv (n + 1) (addP P o)) := by
  obtain ⟨a, c, rfl, _, _⟩ := h.shape
  have H := hide h
  have V := hide hv
  have W1 := hide w1
  have W2 := hide w2
  clear h w1 w2 hv
  obtain ⟨b1, hb1⟩ : ∃ b, mayOpB o = b := ⟨_, rfl⟩
  have B1 := hide hb1
  cases b1 with
  | false =>
    have T : Hid (chkP P o = 2) := hide (by unfold chkP; rw [if_pos hb1])
    clear hb1
    go_enter Try.func42, Try.ntmps42
    go_wp2_with (first | (go_at_call 57; (with_reducible refine (opmay_at F o _ _ _ (by first | exact R.out | rfl) (H.out.keep (by repeat (first | exact Below.refl _ _ | refine Below.alloc ?_ (by first | omega | (simp; done) | (simp; omega)) _))) hl W1.out W2.out).mono ?_); rw [B1.out]; rintro e w1 ⟨rfl, hb1⟩; obtain ⟨x1, x2, hb, hz⟩ := two_boxes hb1; have X1 := hide x1; have X2 := hide x2; have HB := hide hb; have m1 : w1.cell? ⟨w.heap.size, 1, none⟩ = some (.map (some bv)) := x1.cell 1 rfl; obtain ⟨⟨d0, d1, d2, d3⟩, -⟩ := x2.four; clear x1 x2 hb hb1))
    go_ret
    exact ⟨by rw [T.out]; rfl, Only.of_below HB.out, fun q => by rw [T.out] at q; cases q⟩
  | true =>
    by_cases hr : o.read = true
    · have T : Hid (chkP P o = 0) := hide (by unfold chkP; rw [if_neg (by simp [hb1]), if_neg (by simp [hr])])
      have R := hide hr
      clear hb1
      go_enter Try.func42, Try.ntmps42
      go_wp2_with (first | (go_at_call 57; (with_reducible refine (opmay_at F o _ _ _ (by first | exact R.out | rfl) (H.out.keep (by repeat (first | exact Below.refl _ _ | refine Below.alloc ?_ (by first | omega | (simp; done) | (simp; omega)) _))) hl W1.out W2.out).mono ?_); rw [B1.out]; rintro e w1 ⟨rfl, hb1⟩; obtain ⟨x1, x2, hb, hz⟩ := two_boxes hb1; have X1 := hide x1; have X2 := hide x2; have HB := hide hb; have m1 : w1.cell? ⟨w.heap.size, 1, none⟩ = some (.map (some bv)) := x1.cell 1 rfl; obtain ⟨⟨d0, d1, d2, d3⟩, -⟩ := x2.four; clear x1 x2 hb hb1))
      go_ret
      exact ⟨by rw [T.out]; rfl, metop_keep R.out V.out HB.out⟩
    have hr' : o.read = false := by simpa using hr
    have R := hide hr'
    obtain ⟨b2, hb2⟩ : ∃ b, P (o.key, o.value) = b := ⟨_, rfl⟩
    have B2 := hide hb2
    have T0 := hide (show chkP P o = if b2 = true then 6 else 0 by unfold chkP; rw [if_neg (by simp [hb1]), hb2]; simp [hr'])
    clear hb1 hb2 hr
    cases b2 with
    | true =>
      have T : Hid (chkP P o = 6) := hide (by rw [T0.out]; rfl)
      clear T0
      go_enter Try.func42, Try.ntmps42
      go_upto_region 5 with (first | (go_at_call 57; (with_reducible refine (opmay_at F o _ _ _ (by first | exact R.out | rfl) (H.out.keep (by repeat (first | exact Below.refl _ _ | refine Below.alloc ?_ (by first | omega | (simp; done) | (simp; omega)) _))) hl W1.out W2.out).mono ?_); rw [B1.out]; rintro e w1 ⟨rfl, hb1⟩; obtain ⟨x1, x2, hb, hz⟩ := two_boxes hb1; have X1 := hide x1; have X2 := hide x2; have HB := hide hb; have m1 : w1.cell? ⟨w.heap.size, 1, none⟩ = some (.map (some bv)) := x1.cell 1 rfl; obtain ⟨⟨d0, d1, d2, d3⟩, -⟩ := x2.four; clear x1 x2 hb hb1))
      have hz0 : w.heap.size < w1.heap.size := by omega
      have L1 := EVals.look (SetAt.keep V.out (Only.of_below (S := fun _ => False) (HB.out.alloc (by have := HB.out.size; omega) (.cells #[.int .i64 o.key, .int .i64 o.value] 114))) (fun q => q)) W1.out W2.out
      rw [B2.out] at L1
      have HB5 := hide (HB.out.alloc (by have := HB.out.size; omega) (.cells #[.int .i64 o.key, .int .i64 o.value] 114))
      go_wp2
      go_ret
      exact ⟨by rw [T.out]; rfl, Only.of_below (HB5.out.alloc (by have := HB5.out.size; omega) _), fun q => by rw [T.out] at q; cases q⟩
    | false =>
      have T : Hid (chkP P o = 0) := hide (by rw [T0.out]; rfl)
      clear T0
      go_enter Try.func42, Try.ntmps42
      go_upto_region 5 with (first | (go_at_call 57; (with_reducible refine (opmay_at F o _ _ _ (by first | exact R.out | rfl) (H.out.keep (by repeat (first | exact Below.refl _ _ | refine Below.alloc ?_ (by first | omega | (simp; done) | (simp; omega)) _))) hl W1.out W2.out).mono ?_); rw [B1.out]; rintro e w1 ⟨rfl, hb1⟩; obtain ⟨x1, x2, hb, hz⟩ := two_boxes hb1; have X1 := hide x1; have X2 := hide x2; have HB := hide hb; have m1 : w1.cell? ⟨w.heap.size, 1, none⟩ = some (.map (some bv)) := x1.cell 1 rfl; obtain ⟨⟨d0, d1, d2, d3⟩, -⟩ := x2.four; clear x1 x2 hb hb1))
      have hz0 : w.heap.size < w1.heap.size := by omega
      have L1 := EVals.look (SetAt.keep V.out (Only.of_below (S := fun _ => False) (HB.out.alloc (by have := HB.out.size; omega) (.cells #[.int .i64 o.key, .int .i64 o.value] 114))) (fun q => q)) W1.out W2.out
      rw [B2.out] at L1
      have HB5 := hide (HB.out.alloc (by have := HB.out.size; omega) (.cells #[.int .i64 o.key, .int .i64 o.value] 114))
      have HB6 := hide (HB5.out.alloc (by have := HB5.out.size; omega) (.cells #[] 83))
      obtain ⟨w6, hput, hv6, ho6⟩ := EVals.store (SetAt.keep V.out (Only.of_below (S := fun _ => False) HB6.out) (fun q => q)) W1.out W2.out hn
      have HO6 := hide ((Only.of_below (S := fun k => k = bv) HB6.out).trans ho6)
      have HV6 : Hid (EVals w6 bv (n + 1) (addP P o)) := hide (SetAt.congr hv6 (fun p => by simp [addP, R.out]))
      clear hv6 ho6
      go_wp2
      go_ret
      exact ⟨by rw [T.out]; rfl, HO6.out, fun _ => HV6.out⟩
end Go.Proofs.Ytigmgkcojifbcaa.Hist

/- Contracts of opSize and size. -/
namespace Go.Proofs.Ytigmgkcojifbcaa.Hist
open Go.RowKit Go.Proofs.Ytigmgkcojifbcaa.Dig Go.Proofs.Ytigmgkcojifbcaa.Mem Go.Proofs.Ytigmgkcojifbcaa.Keys
set_option linter.unusedVariables false
set_option linter.unusedSimpArgs false

theorem sizeN_cons (x : Int) (l : List Int) : sizeN (x :: l) = (txt x.toNat).length + 1 + sizeN l := by simp [sizeN]
theorem flat8_len : ∀ l : List Int, (flat8 l).length = sizeN l
  | [] => rfl
  | x :: l => by
    have := flat8_len l
    simp only [flat8, sizeN, List.map_cons, List.flatten_cons, List.length_append, List.length_cons, List.sum_cons] at *
    omega
def sizeO (o : OpM) : Nat := if o.read = true then 2 + sizeN [o.key] + sizeN o.list else 2 + sizeN [o.key, o.value]
theorem sizeO_len (o : OpM) : (lineO8 o).length = sizeO o := by
  unfold lineO8 sizeO
  split
  · have := flat8_len o.list
    simp [sizeN_cons] at *
    rw [this]
    simp [sizeN]
    omega
  · simp [sizeN]
    omega
def sizeT (t : TxnM) : Nat := 2 + sizeN [t.id] + 2 + (t.ops.map sizeO).sum
theorem sizeT_len (t : TxnM) : (textT8 t).length = sizeT t := by
  have h : ∀ os : List OpM, (os.map lineO8).flatten.length = (os.map sizeO).sum := by
    intro os
    induction os with
    | nil => rfl
    | cons o os ih => simp [ih, sizeO_len]
  unfold textT8 sizeT
  rw [List.length_append, h]
  simp [lineT8, sizeN]
  omega
def sizeH (ts : List TxnM) : Nat := (ts.map sizeT).sum
theorem sizeH_len : ∀ ts : List TxnM, (textH8 ts).length = sizeH ts
  | [] => rfl
  | t :: ts => by
    have ih := sizeH_len ts
    simp only [textH8, sizeH, List.map_cons, List.flatten_cons, List.length_append, List.sum_cons, sizeT_len] at *
    rw [ih]
theorem textH8_take {ts : List TxnM} {k : Nat} (h : k < ts.length) : textH8 (ts.take (k + 1)) = textH8 (ts.take k) ++ textT8 ts[k] := by
  unfold textH8
  rw [List.take_succ_eq_append_getElem h, List.map_append, List.flatten_append]; simp
theorem linesO_take {os : List OpM} {k : Nat} (h : k < os.length) : ((os.take (k + 1)).map lineO8).flatten = ((os.take k).map lineO8).flatten ++ lineO8 os[k] := by
  rw [List.take_succ_eq_append_getElem h, List.map_append, List.flatten_append]; simp
theorem flat8_take {l : List Int} {k : Nat} (h : k < l.length) : flat8 (l.take (k + 1)) = flat8 (l.take k) ++ 32 :: txt l[k].toNat := by
  unfold flat8
  rw [List.take_succ_eq_append_getElem h, List.map_append, List.flatten_append]; simp
theorem linesO_len : ∀ os : List OpM, (os.map lineO8).flatten.length = (os.map sizeO).sum
  | [] => rfl
  | o :: os => by simp [linesO_len os, sizeO_len]
theorem nsize1 (n : Int) (b : Nat) (w : World) (h : Is w b #[.int .i64 n]) (hn : mayN n) :
    Calls Try.prog 37 #[.slice (some ⟨b, 0, none⟩) 1 1] w fun e w' => e = .returned (.int .i64 (sizeN [n] : Int)) ∧ w' = w :=
  nsize_any _ _ [n] w (ints_one h (wf_of_i64 hn.1 (by have := hn.2; omega))) (by simp) (by simpa using hn)
theorem nsize2 (n m : Int) (b : Nat) (w : World) (h : Is w b #[.int .i64 n, .int .i64 m]) (hn : mayN n) (hm : mayN m) :
    Calls Try.prog 37 #[.slice (some ⟨b, 0, none⟩) 2 2] w fun e w' => e = .returned (.int .i64 (sizeN [n, m] : Int)) ∧ w' = w :=
  nsize_any _ _ [n, m] w (ints_two h (wf_of_i64 hn.1 (by have := hn.2; omega)) (wf_of_i64 hm.1 (by have := hm.2; omega))) (by simp) (by simp; exact ⟨hn, hm⟩)
set_option maxHeartbeats 1000000 in
theorem opsize_any (F : Nat → Prop) (o : OpM) (lv : Value) (w : World) (h : IntsAt F w lv o.list) (hl : o.list.length ≤ 1000000) (hm : mayOpB o = true) :
    Calls Try.prog 38 #[.agg #[.bool o.read, .int .i64 o.key, .int .i64 o.value, lv]] w fun e w' => e = .returned (.int .i64 (sizeO o : Int)) ∧ Below w.heap.size w w' := by
  obtain ⟨a, c, rfl, _, _⟩ := h.shape
  have H := hide h
  clear h
  by_cases hr : o.read = true
  · obtain ⟨k1, k3, k0⟩ := mayOp_read hm hr
    have K1 := hide k1
    have K3 := hide k3
    obtain ⟨s1, h1⟩ : ∃ s, sizeN [o.key] = s := ⟨_, rfl⟩
    obtain ⟨s2, h2⟩ : ∃ s, sizeN o.list = s := ⟨_, rfl⟩
    have b1 := sizeN_le [o.key]
    have b2 := sizeN_le o.list
    rw [h1] at b1
    rw [h2] at b2
    simp at b1
    have T : Hid (sizeO o = 2 + s1 + s2) := hide (by unfold sizeO; rw [if_pos hr, h1, h2])
    have E1 := hide h1
    have E2 := hide h2
    clear h1 h2 k1 k3 k0 hm
    have q1 : IntKind.i64.wrap (2 + (s1 : Int)) = 2 + (s1 : Int) := by rw [IntKind.wrap_i64]; omega
    have q2 : IntKind.i64.wrap (2 + (s1 : Int) + (s2 : Int)) = 2 + (s1 : Int) + (s2 : Int) := by rw [IntKind.wrap_i64]; omega
    have Q1 := hide q1
    have Q2 := hide q2
    clear q1 q2
    go_enter Try.func38, Try.ntmps38
    go_upto_region 2 with fail
    go_region_with (first | (go_at_call 37; (with_reducible refine (nsize1 o.key _ _ (by first | exact Is.made _ _ _ (by first | rfl | simp) | exact Is.drew (Is.made _ _ _ (by first | rfl | simp)) | exact Is.drewN (Is.made _ _ _ (by first | rfl | simp)) _) K1.out).mono ?_); rw [E1.out]; rintro e w1 ⟨rfl, hq⟩; replace hq := hq.symm; subst hq) | (go_at_call 37; (with_reducible refine (nsize_any F _ o.list _ (H.out.keep (by repeat (first | exact Below.refl _ _ | refine Below.drew ?_ | refine Below.drewN ?_ _ | refine Below.alloc ?_ (by first | omega | (simp; done) | (simp; omega)) _))) hl K3.out).mono ?_); rw [E2.out]; rintro e w2 ⟨rfl, hq⟩; replace hq := hq.symm; subst hq))
    all_goals
      go_simp
      go_wp2
      go_ret
      exact ⟨by rw [Q1.out, Q2.out, T.out]; push_cast; rfl, (by repeat (first | exact Below.refl _ _ | refine Below.drew ?_ | refine Below.drewN ?_ _ | refine Below.alloc ?_ (by first | omega | (simp; done) | (simp; omega)) _))⟩
  · have hr' : o.read = false := by simpa using hr
    obtain ⟨k1, k2, k3⟩ := mayOp_app hm hr'
    have K1 := hide k1
    have K2 := hide k2
    obtain ⟨s1, h1⟩ : ∃ s, sizeN [o.key, o.value] = s := ⟨_, rfl⟩
    have b1 := sizeN_le [o.key, o.value]
    rw [h1] at b1
    simp at b1
    have T : Hid (sizeO o = 2 + s1) := hide (by unfold sizeO; rw [if_neg hr, h1])
    have E1 := hide h1
    clear h1 k1 k2 k3 hm hr
    go_enter Try.func38, Try.ntmps38
    go_wp2_with (first | (go_at_call 37; (with_reducible refine (nsize2 o.key o.value _ _ (by first | exact Is.made _ _ _ (by first | rfl | simp) | exact Is.drew (Is.made _ _ _ (by first | rfl | simp)) | exact Is.drewN (Is.made _ _ _ (by first | rfl | simp)) _) K1.out K2.out).mono ?_); rw [E1.out]; rintro e w1 ⟨rfl, hq⟩; replace hq := hq.symm; subst hq))
    go_ret
    exact ⟨by rw [T.out]; go_num, (by repeat (first | exact Below.refl _ _ | refine Below.drew ?_ | refine Below.drewN ?_ _ | refine Below.alloc ?_ (by first | omega | (simp; done) | (simp; omega)) _))⟩
end Go.Proofs.Ytigmgkcojifbcaa.Hist

/- The contract of met.txn. -/
namespace Go.Proofs.Ytigmgkcojifbcaa.Hist
open Go.RowKit Go.Proofs.Ytigmgkcojifbcaa.Dig Go.Proofs.Ytigmgkcojifbcaa.Mem Go.Proofs.Ytigmgkcojifbcaa.Keys
set_option linter.unusedVariables false
set_option linter.unusedSimpArgs false

theorem twinB_snoc (pre : List TxnM) (t : TxnM) (y : Int) : twinB (pre ++ [t]) y = (twinB pre y || t.id == y) := by simp [twinB]
theorem appB_snoc_nil (pre : List TxnM) (id : Int) (ab : Bool) (k v : Int) : appB (pre ++ [⟨id, ab, []⟩]) k v = appB pre k v := by simp [appB]
def OpsFew' (os : List OpM) : Prop := os.length ≤ 100000 ∧ ∀ o ∈ os, o.list.length ≤ 1000000
theorem OpsFew'.at {os : List OpM} (h : OpsFew' os) {j : Nat} (hj : j < os.length) : os[j].list.length ≤ 1000000 := h.2 _ (List.getElem_mem hj)
/-- The sets, and the box that names them, behind the transactions pre and so many operations. -/
structure MetS (w : World) (bi bv mb ni nv : Nat) (pre : List TxnM) (wr : World) : Prop where
  only : Only (fun k => k = bi ∨ k = bv) w wr
  ids : Ids wr bi ni (fun y => twinB pre y)
  vals : EVals wr bv nv (fun p => appB pre p.1 p.2)
  box : Is wr mb #[.map (some bi), .map (some bv)]
def TxRel (w : World) (bi bv ni nv : Nat) (pre : List TxnM) (t : TxnM) (i : Value) (wr : World) : Prop :=
  ∃ j : Nat, j ≤ t.ops.length ∧ i = .int .i64 (j : Int) ∧ Hid (chkOs (pre ++ [⟨t.id, t.ab, []⟩]) (t.ops.take j) = 0) ∧ Hid (MetS w bi bv w.heap.size (ni + 1) (nv + j) (pre ++ [⟨t.id, t.ab, t.ops.take j⟩]) wr)
theorem MetS.next {w wr w7 : World} {bi bv mb ni nv : Nat} {pre : List TxnM} {id : Int} {ab : Bool} {os : List OpM} {o : OpM} {T : TypeId} {C : Array Value} (h : MetS w bi bv mb ni nv (pre ++ [⟨id, ab, os⟩]) wr) (hne : bi ≠ bv) (hmb : mb ≠ bv)
    (ho : Only (fun k => k = bv) (wr.alloc (.cells C T)) w7) (hv : EVals w7 bv (nv + 1) (addP (fun p => appB (pre ++ [⟨id, ab, os⟩]) p.1 p.2) o)) : MetS w bi bv mb ni (nv + 1) (pre ++ [⟨id, ab, os ++ [o]⟩]) w7 := by
  have h1 : Only (fun k => k = bv) wr w7 := (Only.of_below (S := fun k => k = bv) ((Below.refl _ _).alloc (Nat.le_refl _) (.cells C T))).trans ho
  exact ⟨h.only.trans (h1.mono fun _ q => .inr q), (SetAt.keep h.ids h1 hne).congr (fun y => by simp [twinB]), SetAt.congr hv (fun p => (addP_eq pre id ab os o p).symm), h.box.keep h1 hmb⟩
theorem MetS.world {w wr : World} {bi bv mb ni nv : Nat} {pre : List TxnM} (h : MetS w bi bv mb ni nv pre wr) : Only (fun k => k = bi ∨ k = bv) w wr := h.only
theorem only_three {S : Nat → Prop} {w : World} (c d e : Array Value) (T U V : TypeId) : Only S w (((w.alloc (.cells c T)).alloc (.cells d U)).alloc (.cells e V)) := (((Only.refl S w).alloc _).alloc _).alloc _
set_option maxRecDepth 20000 in
set_option maxHeartbeats 1000000 in
theorem mettxn_any (F : Nat → Prop) (t : TxnM) (ov : Value) (bi bv ni nv : Nat) (pre : List TxnM) (w : World) (hi : Ids w bi ni (fun y => twinB pre y)) (hv : EVals w bv nv (fun p => appB pre p.1 p.2)) (hne : bi ≠ bv) (h : OpsAt F w ov t.ops) (hF : ∀ b, F b → b ≠ bi ∧ b ≠ bv)
    (hf : OpsFew' t.ops) (hid : (Lit.int .i64 t.id).wf = true) (hni : ni < 100000) (hnv : nv + t.ops.length < 1000000) :
    Calls Try.prog 24 #[.agg #[.map (some bi), .map (some bv)], .agg #[.int .i64 t.id, .bool t.ab, ov]] w fun e w' => e = .returned (.int .i64 (chkT pre t)) ∧ Only (fun k => k = bi ∨ k = bv) w w' ∧
      (chkT pre t = 0 → Ids w' bi (ni + 1) (fun y => twinB (pre ++ [t]) y) ∧ EVals w' bv (nv + t.ops.length) (fun p => appB (pre ++ [t]) p.1 p.2)) := by
  obtain ⟨a, c, rfl, _, _⟩ := h.shape
  have H := hide h
  have VI := hide hi
  have VV := hide hv
  have W1 := hide hid
  have FF := hide hF
  have FW := hide hf
  have hlen := hf.1
  have hbi := SetAt.lt hi
  have hbv := SetAt.lt hv
  clear h hi hv hid hF hf
  obtain ⟨b1, hb1⟩ : ∃ b, mayB t.id = b := ⟨_, rfl⟩
  have B1 := hide hb1
  cases b1 with
  | false =>
    have T : Hid (chkT pre t = 2) := hide (by unfold chkT; rw [if_pos hb1])
    clear hb1
    go_enter Try.func24, Try.ntmps24
    go_wp2_with (first | (go_at_call 41; (with_reducible refine (maybe1 t.id _ _ (Is.made _ _ _ (by first | rfl | simp)) W1.out B1).mono ?_); rintro e w1 ⟨rfl, hq⟩; replace hq := hq.symm; subst hq))
    go_ret
    exact ⟨by rw [T.out]; rfl, only_three _ _ _ _ _ _, fun q => by rw [T.out] at q; cases q⟩
  | true =>
  obtain ⟨b2, hb2⟩ : ∃ b, twinB pre t.id = b := ⟨_, rfl⟩
  have B2 := hide hb2
  have HO3 := fun (C D : Array Value) => only_three (S := fun _ => False) (w := w) C D #[.int .i64 t.id] 59 48 3
  cases b2 with
  | true =>
    have T : Hid (chkT pre t = 5) := hide (by unfold chkT; rw [if_neg (by simp [hb1]), if_pos hb2])
    clear hb1 hb2
    have L1 := Ids.look (SetAt.keep VI.out (HO3 #[.map (some bi), .map (some bv)] #[.int .i64 t.id, .bool t.ab, .slice a t.ops.length c]) (fun q => q)) W1.out
    rw [B2.out] at L1
    clear HO3
    go_enter Try.func24, Try.ntmps24
    go_wp2_with (first | (go_at_call 41; (with_reducible refine (maybe1 t.id _ _ (Is.made _ _ _ (by first | rfl | simp)) W1.out B1).mono ?_); rintro e w1 ⟨rfl, hq⟩; replace hq := hq.symm; subst hq))
    go_ret
    exact ⟨by rw [T.out]; rfl, (only_three _ _ _ _ _ _).alloc _, fun q => by rw [T.out] at q; cases q⟩
  | false =>
    have T : Hid (chkT pre t = chkOs (pre ++ [⟨t.id, t.ab, []⟩]) t.ops) := hide (by unfold chkT; rw [if_neg (by simp [hb1]), if_neg (by simp [hb2])])
    clear hb1 hb2
    have L1 := Ids.look (SetAt.keep VI.out (HO3 #[.map (some bi), .map (some bv)] #[.int .i64 t.id, .bool t.ab, .slice a t.ops.length c]) (fun q => q)) W1.out
    rw [B2.out] at L1
    have ho5 := (HO3 #[.map (some bi), .map (some bv)] #[.int .i64 t.id, .bool t.ab, .slice a t.ops.length c]).alloc (.cells #[] 83)
    obtain ⟨w6, hput, hi6, ho6⟩ := Ids.store (SetAt.keep VI.out ho5 (fun q => q)) W1.out (show ni < 1000000 by omega)
    have x1 : Is w6 w.heap.size #[.map (some bi), .map (some bv)] := (((Is.made w #[.map (some bi), .map (some bv)] 59 rfl).alloc _).alloc _).alloc (.cells #[] 83) |>.keep ho6 (by omega)
    have x2 : Is w6 (w.heap.size + 1) #[.int .i64 t.id, .bool t.ab, .slice a t.ops.length c] := (((Is.made (w.alloc (.cells #[.map (some bi), .map (some bv)] 59)) #[.int .i64 t.id, .bool t.ab, .slice a t.ops.length c] 48 (by simp)).alloc _).alloc (.cells #[] 83)).keep ho6 (by omega)
    have d2 : w6.cell? ⟨w.heap.size + 1, 2, none⟩ = some (.slice a t.ops.length c) := x2.cell 2 rfl
    have hz6 := x2.lt
    have M6 : Hid (MetS w bi bv w.heap.size (ni + 1) (nv + 0) (pre ++ [⟨t.id, t.ab, t.ops.take 0⟩]) w6) := hide ⟨(ho5.mono fun _ q => q.elim).trans (ho6.mono fun _ q => .inl q), SetAt.congr hi6 (fun y => by simp [twinB]), ((SetAt.keep VV.out ho5 (fun q => q)).keep ho6 (Ne.symm hne)).congr (fun p => by simp [appB]), x1⟩
    clear HO3 hi6 ho6 ho5 x1 x2
    go_enter Try.func24, Try.ntmps24
    go_wp2_with (first | (go_at_call 41; (with_reducible refine (maybe1 t.id _ _ (Is.made _ _ _ (by first | rfl | simp)) W1.out B1).mono ?_); rintro e w1 ⟨rfl, hq⟩; replace hq := hq.symm; subst hq))
    go_loopw [32] (fun i wr => TxRel w bi bv ni nv pre t i wr) (fun i _ => t.ops.length - (intOf i).toNat)
    case atStart => exact ⟨0, by omega, rfl, hide rfl, M6⟩
    case round =>
      obtain ⟨j, hj, rfl, hc0, hM⟩ := hrel
      by_cases hlt : j < t.ops.length
      · have hol := FW.out.at hlt
        have HR := hide (H.out.only hM.out.only (fun b q => by have := FF.out b q; omega))
        obtain ⟨b1, o1, l1, q1, rfl, hf1, hb1, c0, c1, c2, c3, hi1, wk, wv⟩ := HR.out.at hlt
        have HI := hide (hi1.keep ((Below.refl wr.heap.size wr).alloc (Nat.le_refl _) (.cells #[.bool t.ops[j].read, .int .i64 t.ops[j].key, .int .i64 t.ops[j].value, .slice l1 t.ops[j].list.length q1] 45)))
        have HV := hide (EVals.keep hM.out.vals (Only.of_below (S := fun _ => False) ((Below.refl wr.heap.size wr).alloc (Nat.le_refl _) (.cells #[.bool t.ops[j].read, .int .i64 t.ops[j].key, .int .i64 t.ops[j].value, .slice l1 t.ops[j].list.length q1] 45))) (fun q => q))
        have m0 : wr.cell? ⟨w.heap.size, 0, none⟩ = some (.map (some bi)) := hM.out.box.cell 0 rfl
        have m1 : wr.cell? ⟨w.heap.size, 1, none⟩ = some (.map (some bv)) := hM.out.box.cell 1 rfl
        have hz : w.heap.size < wr.heap.size := hM.out.box.lt
        have hnj : nv + j < 1000000 := by omega
        have hmb : w.heap.size ≠ bv := by omega
        have WK := hide wk
        have WV := hide wv
        clear hi1 wk wv
        have HT : Hid (chkOs (pre ++ [⟨t.id, t.ab, []⟩]) (t.ops.take (j + 1)) = chkO (pre ++ [⟨t.id, t.ab, t.ops.take j⟩]) t.ops[j]) := hide (chkOs_next hlt hc0.out)
        obtain ⟨e, he⟩ : ∃ e, chkO (pre ++ [⟨t.id, t.ab, t.ops.take j⟩]) t.ops[j] = e := ⟨_, rfl⟩
        have HE := hide he
        by_cases e0 : e = 0
        · subst e0
          clear he
          go_wp2_with (first | (go_at_call 42; go_must ((with_reducible refine (metop_any F t.ops[j] _ bi bv (nv + j) _ _ HV.out HI.out hol WK.out WV.out hnj).mono ?_); rw [chkP_eq, HE.out]; rintro e' w7 ⟨rfl, ho7, hv7⟩; have M7 := MetS.next hM.out hne hmb ho7 (hv7 rfl); replace M7 := hide M7; clear ho7 hv7)))
          go_roundw
          case rel => exact ⟨j + 1, by omega, by go_num, hide (HT.out.trans HE.out), by rw [List.take_succ_eq_append_getElem hlt]; exact M7⟩
          case measure => simp [intOf]; omega
        · have e1 : (e != 0) = true := by simpa using e0
          have TE : Hid (chkT pre t = e) := hide (by rw [T.out]; exact chkOs_stop (HT.out.trans he) e0)
          have HN0 := hide e0
          clear he e0
          go_wp2_with (first | (go_at_call 42; go_must ((with_reducible refine (metop_any F t.ops[j] _ bi bv (nv + j) _ _ HV.out HI.out hol WK.out WV.out hnj).mono ?_); rw [chkP_eq, HE.out]; rintro e' w7 ⟨rfl, ho7, hv7⟩; have O7 := hide (hM.out.only.trans ((((Only.refl (fun _ => False) wr).alloc _).mono (fun _ q => q.elim)).trans (ho7.mono fun _ q => .inr q))); clear ho7 hv7)))
          go_ret
          exact ⟨by rw [TE.out]; rfl, O7.out, fun q => by rw [TE.out] at q; exact absurd q HN0.out⟩
      · have e : j = t.ops.length := by omega
        subst e
        have TE : Hid (chkT pre t = 0) := hide (by rw [T.out]; have := hc0.out; rwa [List.take_length] at this)
        have M8 := hM.out
        rw [List.take_length] at M8
        have HM8 := hide M8
        clear M8
        go_wp2
        go_ret
        exact ⟨by rw [TE.out]; rfl, HM8.out.only, fun _ => ⟨HM8.out.ids, HM8.out.vals⟩⟩
end Go.Proofs.Ytigmgkcojifbcaa.Hist

/- The contract of size. -/
namespace Go.Proofs.Ytigmgkcojifbcaa.Hist
open Go.RowKit Go.Proofs.Ytigmgkcojifbcaa.Dig Go.Proofs.Ytigmgkcojifbcaa.Mem Go.Proofs.Ytigmgkcojifbcaa.Keys
set_option linter.unusedVariables false
set_option linter.unusedSimpArgs false

/-- Few enough lists for a sum. -/
def Few4 (ts : List TxnM) : Prop := ts.length ≤ 5000 ∧ opsN ts ≤ 5000 ∧ ∀ t ∈ ts, OpsFew' t.ops
theorem sizeO_le (o : OpM) (h : o.list.length ≤ 1000000) : sizeO o ≤ 11000100 := by
  unfold sizeO
  have := sizeN_le o.list
  have := sizeN_le [o.key]
  have := sizeN_le [o.key, o.value]
  simp at *
  split <;> omega
theorem sizeOs_le : ∀ (os : List OpM), (∀ o ∈ os, o.list.length ≤ 1000000) → (os.map sizeO).sum ≤ 11000100 * os.length
  | [], _ => by simp
  | o :: os, h => by
    have h1 := sizeO_le o (h o List.mem_cons_self)
    have h2 := sizeOs_le os (fun p hp => h p (List.mem_cons_of_mem _ hp))
    simp only [List.map_cons, List.sum_cons, List.length_cons]
    omega
theorem sizeH_le : ∀ (ts : List TxnM), (∀ t ∈ ts, ∀ o ∈ t.ops, o.list.length ≤ 1000000) → sizeH ts ≤ 15 * ts.length + 11000100 * opsN ts
  | [], _ => by simp [sizeH]
  | t :: ts, h => by
    have h1 := sizeOs_le t.ops (h t List.mem_cons_self)
    have h2 := sizeH_le ts (fun u hu => h u (List.mem_cons_of_mem _ hu))
    have h3 := sizeN_le [t.id]
    have h4 : opsN (t :: ts) = t.ops.length + opsN ts := by simp [opsN]
    rw [h4]
    simp only [sizeH, List.map_cons, List.sum_cons, List.length_cons, sizeT] at *
    simp at h3
    omega
theorem sizeH_take {ts : List TxnM} {k : Nat} (h : k < ts.length) : sizeH (ts.take (k + 1)) = sizeH (ts.take k) + sizeT ts[k] := by
  unfold sizeH
  rw [List.take_succ_eq_append_getElem h, List.map_append, List.sum_append]; simp
theorem sizeH_split (ts : List TxnM) (k : Nat) : sizeH (ts.take k) ≤ sizeH ts := by
  have h : ts.take k ++ ts.drop k = ts := List.take_append_drop k ts
  have e : sizeH ts = sizeH (ts.take k) + sizeH (ts.drop k) := by
    conv => lhs; rw [← h]
    simp only [sizeH, List.map_append, List.sum_append]
  omega
theorem sizeOs_take {os : List OpM} {k : Nat} (h : k < os.length) : ((os.take (k + 1)).map sizeO).sum = ((os.take k).map sizeO).sum + sizeO os[k] := by
  rw [List.take_succ_eq_append_getElem h, List.map_append, List.sum_append]; simp
theorem sizeOs_split (os : List OpM) (k : Nat) : ((os.take k).map sizeO).sum ≤ (os.map sizeO).sum := by
  have h : os.take k ++ os.drop k = os := List.take_append_drop k os
  have e : (os.map sizeO).sum = ((os.take k).map sizeO).sum + ((os.drop k).map sizeO).sum := by
    conv => lhs; rw [← h]
    simp only [List.map_append, List.sum_append]
  omega
def SzRel (w : World) (f : Nat → Nat) (m : Nat) (n i : Value) (wr : World) : Prop :=
  ∃ k s : Nat, k ≤ m ∧ i = .int .i64 (k : Int) ∧ n = .int .i64 (s : Int) ∧ Hid (s = f k) ∧ Below w.heap.size w wr
set_option maxRecDepth 20000 in
set_option maxHeartbeats 1000000 in
theorem size_any (F : Nat → Prop) (v : Value) (ts : List TxnM) (w : World) (h : TxnsAt F w v ts) (hf : Few4 ts) (hm : MayAll ts) :
    Calls Try.prog 18 #[.agg #[v]] w fun e w' => e = .returned (.int .i64 (sizeH ts : Int)) ∧ Below w.heap.size w w' := by
  obtain ⟨a, c, rfl, _, _⟩ := h.shape
  have H := hide h
  have FW := hide hf
  have M := hide hm
  have hlen := hf.1
  have LE := hide (show sizeH ts ≤ 60000000000 by have := sizeH_le ts (fun t ht => (hf.2.2 t ht).2); have := hf.2.1; omega)
  clear h hf hm
  go_enter Try.func18, Try.ntmps18
  go_wp2
  go_loopw [3, 11] (fun n i wr => SzRel w (fun k => sizeH (ts.take k)) ts.length n i wr) (fun _ i _ => ts.length - (intOf i).toNat)
  case atStart => exact ⟨0, 0, by omega, rfl, rfl, hide rfl, (Below.refl _ _).alloc (Nat.le_refl _) _⟩
  case round =>
    obtain ⟨k, s, hk, rfl, rfl, hs, hbel⟩ := hrel
    replace hs : Hid (s = sizeH (ts.take k)) := hs
    have hsb : s ≤ 60000000000 := by have q := hs.out; have := sizeH_split ts k; have := LE.out; omega
    by_cases hlt : k < ts.length
    · obtain ⟨b1, o1, l1, q1, rfl, _, hb1, c0, c1, c2, hi1, _⟩ := (H.out.keep hbel).at hlt
      have HO : Hid (OpsAt F wr (.slice l1 ts[k].ops.length q1) ts[k].ops) := hi1
      have KI := hide (M.out _ (List.getElem_mem hlt)).1
      have KM := hide (M.out _ (List.getElem_mem hlt)).2
      have FO := hide (FW.out.2.2 _ (List.getElem_mem hlt))
      have hol0 := (FW.out.2.2 _ (List.getElem_mem hlt)).1
      have HB := hide hbel
      obtain ⟨s1, h1⟩ : ∃ s, sizeN [ts[k].id] = s := ⟨_, rfl⟩
      have b1' := sizeN_le [ts[k].id]
      rw [h1] at b1'
      simp at b1'
      have E1 := hide h1
      have hz := hbel.size
      have ST : Hid (sizeH (ts.take (k + 1)) = s + (2 + s1 + 2 + (ts[k].ops.map sizeO).sum)) := hide (by have q := hs.out; rw [sizeH_take hlt, q]; unfold sizeT; rw [h1])
      have SB : Hid (sizeH (ts.take (k + 1)) ≤ 60000000000) := hide (Nat.le_trans (sizeH_split ts _) LE.out)
      clear h1 hi1 hbel
      go_wp2_with (first | (go_at_call 37; (with_reducible refine (nsize1 ts[k].id _ _ (by first | exact Is.made _ _ _ (by first | rfl | simp) | exact Is.drew (Is.made _ _ _ (by first | rfl | simp)) | exact Is.drewN (Is.made _ _ _ (by first | rfl | simp)) _) KI.out).mono ?_); rw [E1.out]; rintro e w1 ⟨rfl, hq⟩; replace hq := hq.symm; subst hq))
      go_loopw [3, 26] (fun n i wr' => SzRel wr (fun j => s + (2 + s1 + 2 + ((ts[k].ops.take j).map sizeO).sum)) ts[k].ops.length n i wr') (fun _ i _ => ts[k].ops.length - (intOf i).toNat)
      case atStart => exact ⟨0, s + (2 + s1 + 2), by omega, rfl, by go_num, hide (by simp), (by repeat (first | exact Below.refl _ _ | refine Below.drew ?_ | refine Below.drewN ?_ _ | refine Below.alloc ?_ (by first | omega | (simp; done) | (simp; omega)) _))⟩
      case round =>
        obtain ⟨j, s2, hj, rfl, rfl, hs2, hbel2⟩ := hrel
        replace hs2 : Hid (s2 = s + (2 + s1 + 2 + ((ts[k].ops.take j).map sizeO).sum)) := hs2
        have hsb2 : s2 ≤ 60000000000 := by have q := hs2.out; have q1 := sizeOs_split ts[k].ops j; have q2 := SB.out; have q3 := ST.out; omega
        have hz2 := hbel2.size
        by_cases hlt2 : j < ts[k].ops.length
        · obtain ⟨b3, o3, l3, q3, rfl, _, hb3, e0, e1, e2, e3, hi3, _⟩ := (HO.out.keep hbel2).at hlt2
          have hol := FO.out.at hlt2
          have KO := hide (KM.out _ (List.getElem_mem hlt2))
          have HI := hide hi3
          have HB3 := hide hbel2
          obtain ⟨s3, h3⟩ : ∃ s, sizeO ts[k].ops[j] = s := ⟨_, rfl⟩
          have b3' := sizeO_le ts[k].ops[j] hol
          rw [h3] at b3'
          have EO := hide h3
          have S3 : Hid (s2 + s3 = s + (2 + s1 + 2 + ((ts[k].ops.take (j + 1)).map sizeO).sum)) := hide (by have q := hs2.out; rw [q, sizeOs_take hlt2, h3]; omega)
          clear h3 hi3 hbel2 c0 c1 c2
          go_wp2_with (first | (go_at_call 38; go_must ((with_reducible refine (opsize_any F ts[k].ops[j] _ _ (HI.out.keep (by repeat (first | exact Below.refl _ _ | refine Below.drew ?_ | refine Below.drewN ?_ _ | refine Below.alloc ?_ (by first | omega | (simp; done) | (simp; omega)) _))) hol KO.out).mono ?_); rw [EO.out]; rintro e w2 ⟨rfl, hb2⟩; have HB2 := hide (((Below.refl _ _).alloc (Nat.le_refl _) _).trans (hb2.mono (by simp))); clear hb2)))
          go_roundw
          case rel => exact ⟨j + 1, s2 + s3, by omega, by go_num, by go_num, S3, HB3.out.trans (HB2.out.mono HB3.out.size)⟩
          case measure => simp [intOf]; omega
        · have e : j = ts[k].ops.length := by omega
          subst e
          have HB3 := hide hbel2
          have S3 : Hid (s2 = sizeH (ts.take (k + 1))) := hide (by have q := hs2.out; rw [q, ST.out, List.take_length])
          go_wp2
          go_roundw
          case rel => exact ⟨k + 1, s2, by omega, by go_num, rfl, S3, HB.out.trans (HB3.out.mono HB.out.size)⟩
          case measure => simp [intOf]; omega
    · have e : k = ts.length := by omega
      subst e
      have S3 : Hid (s = sizeH ts) := hide (by have q := hs.out; rw [q, List.take_length])
      go_wp2
      go_ret
      exact ⟨by rw [← S3.out]; rfl, hbel⟩
end Go.Proofs.Ytigmgkcojifbcaa.Hist
