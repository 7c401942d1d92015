/- Two sets together: the program's Or. -/
import Derived.Test.YtghdafgpdhbohaaSetPart
import Derived.Test.YtghdafgpdhbohaaSetFrom
namespace Go.Proofs.Ytghdafgpdhbohaa.Sets
open Go.RowKit Go.Proofs.Ytghdafgpdhbohaa.Dig Go.Proofs.Ytghdafgpdhbohaa.Mem Go.Shelf
set_option linter.unusedVariables false
set_option linter.unusedSimpArgs false
attribute [local go_sem] Oper.semAt_some

theorem less_any (x y : Int) (w : World) : Calls Try.prog 33 #[.int .i64 x, .int .i64 y] w fun e w' => e = .returned (.bool (decide (x < y))) ∧ w' = w := Try.cmp_Less_int2 x y w
/-- append in a region that draws, within a round, to a row of the call's own. -/
theorem stepIn_append_own {F : Fence} {n : Nat} {P : Program} (w : World) {ops : Array Oper} {o : Oper} {a : Act} {K : Act → World → Prop} {Q : Exit → Act → World → Prop} {E : Prop}
    (hg : o.guard = none) (s x : Operand) (t : TypeId) (hop : o.op = Op.call { callee := Callee.builtin Builtin.append, args := #[s, x], argTypes := #[t, t] })
    (base : Nat) (e : TypeId) (i : TypeInfo) (z : Value) (size bytes : Nat) (h1 : P.underlying t = some (.slice e)) (h2 : P.info? e = some i) (h3 : i.zero = some z) (h4 : i.size = size) (h5 : i.bytes = bytes) (h6 : z.cells.size = size) (h7 : 0 < size)
    (v : Value) (k : Nat) (xs : List Value) (hs : a.eval s = v) (hown : w.ownsRow base e size v k xs) (ad : Addr) (m c : Nat) (news : List Value) (hx : a.eval x = .slice (some ad) m c) (hn : news.length = m * size)
    (hc : ∀ j u, news[j]? = some u → w.cell? (ad.add j) = some u) (h1c : ∀ u ∈ news, u.oneCell' = true) (b1 : k + m ≤ maxLen) (b2 : (k + m) * bytes ≤ 140737488355328) (b3 : base ≤ w.heap.size)
    (hK : ∀ v' w', w'.ownsRow base e size v' (k + m) (xs ++ news) → w.grownBy w' v.ownBlock → K (a.put o.dst v') w') :
    if Region.wanted o (yielded ops a.tmps) = true then Oper.wpIn F n P o a w K Q else E := by
  have hw : Region.wanted o (yielded ops a.tmps) = true := by simp [Region.wanted, hg]
  rw [if_pos hw]
  obtain ⟨v', w', hrun, r1, r2, r3⟩ := run_append_own (P := P) w base t o.type e i z size bytes h1 h2 h3 h4 h5 h6 h7 v k xs hown ad m c news hn hc h1c b1 b2 b3
  unfold Oper.wpIn
  refine ⟨?_, ?_⟩
  · simp [Oper.about, hop, resolve, Target.leads, Sem.run_pure]
  · rw [Oper.semAt_plain F _ _ (by rw [hop]; intro c hc'; cases hc')]
    simp [execOp, hop, resolve, invoke, builtin, hs, hx, hrun, Result.andThen]
    exact hK v' w' r1 r2
theorem mk_room (n : Nat) (hn : n ≤ 1000000) : ∃ C : Array Value, ∀ (w : World), (Instr.makeSlice 22 (.int .i64 0) (.int .i64 (n : Int))).run Try.prog w = .ok (.slice (some ⟨w.heap.size, 0, none⟩) 0 n) (w.alloc (.cells C 3)) ∧ ∀ base, base ≤ w.heap.size → (w.alloc (.cells C 3)).ownsRow base 3 1 (.slice (some ⟨w.heap.size, 0, none⟩) 0 n) 0 [] := by
  obtain ⟨i0, hi, hz0, hz1, hz2⟩ := info_parts Try.infoSetInt
  refine ⟨madeCells (Value.int .i64 0).cells (n * i0.size), fun w => ?_⟩
  have hr := run_makeSlice (P := Try.prog) w 22 3 i0 (.int .i64 0) Try.underlying22 hi hz0 .i64 .i64 0 (n : Int) (Int.le_refl _) (by omega) (by rw [hz1]; simp; omega) (by rw [hz2]; omega) (by omega)
  simp only [Int.toNat_zero, Int.toNat_natCast] at hr
  refine ⟨hr, fun base hb => ?_⟩
  exact World.ownsRow_made (e := 3) (size := 1) w (madeCells (Value.int .i64 0).cells (n * i0.size)) n hb (by unfold maxLen; omega) (by rw [hz1]; have := size_madeCells (Value.int .i64 0).cells (n * 1); simpa using this)
theorem one_at {w : World} {n : Nat} {x : Value} {t : TypeId} (hn : n = w.heap.size) : ∀ j u, [x][j]? = some u → (w.alloc (.cells #[x] t)).cell? ((⟨n, 0, none⟩ : Addr).add j) = some u := by
  subst hn
  exact cell_one_new w x t
theorem slice_one {w : World} {a : Option Addr} {c : Nat} {r : Int} {rs : List Int} (h : RowV w a c (r :: rs)) :
    ∃ a2 c2, (∀ W : World, (Instr.slice 22 (.slice a (r :: rs).length c) (some (.int .i64 1)) none none).run Try.prog W = .ok (.slice a2 rs.length c2) W) ∧ RowV w a2 c2 rs := by
  obtain ⟨a2, c2, h1, h2⟩ := slice_from h 1 (by simp)
  exact ⟨a2, c2, h1, h2 w h⟩
theorem keeps_own {W W1 : World} {base e : TypeId} {v : Value} {n : Nat} {xs : List Value} (hown : W.ownsRow base e 1 v n xs) (hg : W.grownBy W1 v.ownBlock) : KeepsOthers W W1 := KeepsOthers.of_grownBy hg fun j o ej hj => by
  rcases hown.2 with ⟨rfl, _⟩ | ⟨g, cap, cur, rfl, _, hgb, _⟩
  · simp [Value.ownBlock] at ej
  · obtain rfl : g = j := by simpa [Value.ownBlock] using ej
    rw [hgb] at hj; cases hj; rfl
/-- append of a row that is read, whatever its address. -/
theorem appIn_row {F : Fence} {n : Nat} {w : World} {ops : Array Oper} {rest : List Oper} {o : Oper} {a : Act} {Q : Exit → Act → World → Prop} (hgd : o.guard = none) (s x : Operand)
    (ho : o.op = .call { callee := .builtin .append, args := #[s, x], argTypes := #[22, 22] }) (base : Nat) (v : Value) (l : List Int) (hs : a.eval s = v) (hown : w.ownsRow base 3 1 v l.length (l.map (Value.int .i64)))
    (ao : Option Addr) (c m : Nat) (r : List Int) (hx : a.eval x = .slice ao m c) (hm : m = r.length) (hr : RowV w ao c r) (hb : l.length + r.length ≤ 1000000) (hbase : base ≤ w.heap.size)
    (h : ∀ v' w', w'.ownsRow base 3 1 v' (l ++ r).length ((l ++ r).map (Value.int .i64)) → w.grownBy w' v.ownBlock → wpListIn F n Try.prog ops Q rest (a.put o.dst v') w') : wpListIn F n Try.prog ops Q (o :: rest) a w := by
  subst hm
  obtain ⟨i0, hi, hz0, hz1, hz2⟩ := info_parts Try.infoSetInt
  cases ao with
  | none =>
    have hr0 : r = [] := by
      cases r with
      | nil => rfl
      | cons y r => obtain ⟨b, off, e, _⟩ := hr.at (i := 0) (by simp); cases e
    subst hr0
    have hc : c = 0 := hr.nil rfl
    subst hc
    refine wpListIn_plain hgd fun K hK => ?_
    have hrun := run_append_owned_none (P := Try.prog) (w := w) base 22 o.type 3 i0 1 Try.underlying22 hi v l.length _ hown
    unfold Oper.wpIn
    refine ⟨?_, ?_⟩
    · simp [Oper.about, ho, resolve, Target.leads, Sem.run_pure]
    · rw [Oper.semAt_plain F _ _ (by rw [ho]; intro c hc'; cases hc')]
      simp only [List.length_nil] at hx
      simp [execOp, ho, resolve, invoke, builtin, hs, hx, hrun, Result.andThen]
      exact hK _ _ (h v w (by simpa using hown) ⟨rfl, rfl, rfl, Nat.le_refl _, fun _ _ _ => rfl⟩)
  | some ad =>
    refine wpListIn_append_own w hgd s x 22 ho base 3 i0 (.int .i64 0) 1 8 Try.underlying22 hi hz0 hz1 hz2 rfl (by decide) v l.length (l.map (Value.int .i64)) hs hown ad r.length c (r.map (Value.int .i64)) hx (by simp) ?_ ?_ (by unfold maxLen; omega) (by omega) hbase ?_
    · intro j u hu
      rw [List.getElem?_map] at hu
      have hj : j < r.length := by
        rcases Nat.lt_or_ge j r.length with q | q
        · exact q
        · rw [List.getElem?_eq_none q] at hu; simp at hu
      obtain ⟨b, off, hab, hc⟩ := hr.at hj
      obtain rfl := Option.some.inj hab
      rw [Addr.add_lit, hc, ← hu]
      simp [List.getD_eq_getElem?_getD, List.getElem?_eq_getElem hj]
    · intro u hu
      obtain ⟨n, _, rfl⟩ := List.mem_map.1 hu
      rfl
    · intro v' w' hown' hgrow _
      exact h v' w' (by rw [List.length_append, List.map_append]; exact hown') hgrow
def OB (w : World) (rv : Value) : List (Nat × TypeId × Value) := [(w.heap.size + 5, 22, rv), (w.heap.size + 2, 25, .slice none 0 0)]
/-- Between two rounds: what has been laid, and what is left of the other set. -/
def OrI (w : World) (t pre : List Int) (W : World) : Prop :=
  ∃ v a c, LI 3 22 (Value.int .i64) w (OB w (.slice a (orS ltI t pre).2.length c)) (w.heap.size + 4) v (orS ltI t pre).1 W ∧ RowV w a c (orS ltI t pre).2
/-- Within a round. -/
def OrL (w : World) (x : Int) (l0 r0 : List Int) (B : Nat) (W wr : World) : Prop :=
  ∃ (l rest : List Int) (v : Value) (a : Option Addr) (c : Nat), Hid (LI 3 22 (Value.int .i64) w (OB w (.slice a rest.length c)) (w.heap.size + 4) v l wr) ∧ Hid (RowV w a c rest) ∧ Hid (orIn ltI x l rest = orIn ltI x l0 r0) ∧ Hid (l.length + rest.length ≤ l0.length + r0.length) ∧ Hid (KeepsFrom B W wr) ∧ Hid (Below w.heap.size W wr)
def restLen (w : World) (wr : World) : Nat := match wr.cell? ⟨w.heap.size + 5, 0, none⟩ with
  | some (.slice _ n _) => n
  | _ => 0
theorem restLen_eq {w wr : World} {a : Option Addr} {n c : Nat} (h : wr.cell? ⟨w.heap.size + 5, 0, none⟩ = some (.slice a n c)) : restLen w wr = n := by simp [restLen, h]
theorem or_end {w W : World} {t pre l r l0 r0 : List Int} {x : Int} {v : Value} {a : Option Addr} {c : Nat} (hO : orS ltI t (pre ++ [x]) = orIn ltI x l0 r0) (hE : orIn ltI x l0 r0 = (l, r)) (hL : LI 3 22 (Value.int .i64) w (OB w (.slice a r.length c)) (w.heap.size + 4) v l W) (hr : RowV w a c r) : OrI w t (pre ++ [x]) W := by
  refine ⟨v, a, c, ?_, ?_⟩
  · rw [hO, hE]; exact hL
  · rw [hO, hE]; exact hr
theorem orIn_less {x r : Int} {l rs : List Int} (h : r < x) : orIn ltI x l (r :: rs) = orIn ltI x (l ++ [r]) rs := by rw [orIn, if_pos (by simp [ltI, h])]
theorem orIn_more {x r : Int} {l rs : List Int} (h : x < r) : orIn ltI x l (r :: rs) = (l ++ [x], r :: rs) := by rw [orIn, if_neg (by simp [ltI]; omega), if_pos (by simp [ltI, h])]
theorem orIn_same {x r : Int} {l rs : List Int} (h : r = x) : orIn ltI x l (r :: rs) = (l ++ [x], rs) := by rw [orIn, if_neg (by simp [ltI]; omega), if_neg (by simp [ltI]; omega)]
set_option maxRecDepth 100000 in
set_option maxHeartbeats 4000000 in
theorem or_any (v tv : Value) (s t : List Int) (w : World) (h : SetV w v s) (ht : SetV w tv t) (hs : s.length ≤ 400000) (htl : t.length ≤ 400000) (hrs : Rising ltI s) (hrt : Rising ltI t) :
    Calls Try.prog 10 #[v, tv] w fun e w' => ∃ v', e = .returned v' ∧ SetV w' v' (setL ltI (s ++ t)) ∧ FreshV w.heap.size v' ∧ Below w.heap.size w w' := by
  have HS := hide h
  have HT := hide ht
  obtain ⟨a, c, rfl, hr⟩ := h
  obtain ⟨a2, c2, rfl, hr2⟩ := ht
  have HW := hide hr.wf
  have HW2 := hide hr2.wf
  obtain ⟨i0, hi, hz0, hz1, hz2⟩ := info_parts Try.infoSetInt
  obtain ⟨n, hn⟩ : ∃ n, n = s.length := ⟨_, rfl⟩
  obtain ⟨m, hm⟩ : ∃ m, m = t.length := ⟨_, rfl⟩
  rw [← hn, ← hm]
  rw [← hn] at HS hs
  rw [← hm] at HT htl
  have hblk : ∀ b off, a = some ⟨b, off, none⟩ → 0 < s.length → b < w.heap.size := fun b off e hp => by
    obtain ⟨b', off', e', hc⟩ := hr.at hp
    rw [e] at e'
    cases e'
    exact lt_of_cell hc
  obtain ⟨C, hmk⟩ := mk_room (n + m) (by omega)
  have hmk1 : ∀ (w : World), (Instr.makeSlice 22 (.int .i64 0) (.int .i64 ((n : Int) + (m : Int)))).run Try.prog w = .ok (.slice (some ⟨w.heap.size, 0, none⟩) 0 (n + m)) (w.alloc (.cells C 3)) := fun w => by have := (hmk w).1; rw [Int.natCast_add] at this; exact this
  refine (callsIn_wide (n := 3)).1 ?_
  refine callsIn_of_wp_marks Try.func10 rfl trivial ?_ rfl
  simp only [Try.ntmps10, List.size_toArray, List.length_cons, List.length_nil, Nat.reduceAdd, Nat.reduceSub, Array.replicate_succ, Array.replicate_zero, List.push_toArray, List.append_toArray, List.nil_append, List.cons_append]
  have HN := hide hn
  have HM := hide hm
  have HR := hide hr
  have HR2 := hide hr2
  have HB := hide hblk
  have HRT := hide hrt
  have HRS := hide hrs
  have HMK := hide hmk
  clear hn hm hr hr2 hblk hrt hrs hmk
  gi_wp2_with (refine ⟨trivial, ?_⟩; gi_at_call 22; go_must ((with_reducible refine (callsIn_wide.2 (all_at _ _ _ _)).mono ?_); rintro e w9 ⟨B, hB9, rfl, hc9, hb9⟩; have HC9 := hide hc9; have HB9 := hide hb9; have HBB := hide hB9; clear hc9 hb9 hB9))
  obtain ⟨w3, hw3⟩ : ∃ w3, w3 = (((w.alloc (.cells #[.slice a n c] 25)).alloc (.cells #[.slice a2 m c2] 25)).alloc (.cells #[.slice none 0 0] 25)).alloc (.cells C 3) := ⟨_, rfl⟩
  obtain ⟨w6, hw6⟩ : ∃ w6, w6 = (w3.alloc (.cells #[.slice (some ⟨w.heap.size + 1 + 1 + 1, 0, none⟩) 0 (n + m)] 22)).alloc (.cells #[.slice a2 m c2] 22) := ⟨_, rfl⟩
  have hs3 : w3.heap.size = w.heap.size + 4 := by rw [hw3]; simp
  have hs6 : w6.heap.size = w.heap.size + 6 := by rw [hw6]; simp [hs3]
  have hb3 : Below w.heap.size w w3 := by rw [hw3]; exact ((((Below.refl _ _).alloc (Nat.le_refl _) _).alloc (by simp) _).alloc (by simp; omega) _).alloc (by simp; omega) _
  have hb6 : Below w.heap.size w w6 := by rw [hw6]; exact (hb3.alloc (by omega) _).alloc (by simp; omega) _
  have L0 : LI 3 22 (Value.int .i64) w (OB w (.slice a2 m c2)) (w.heap.size + 4) (.slice (some ⟨w.heap.size + 1 + 1 + 1, 0, none⟩) 0 (n + m)) [] w6 := by
    have b1 : Boxed w3 (w.heap.size + 2) 25 (.slice none 0 0) := by
      have := (Boxed.new ((w.alloc (.cells #[.slice a n c] 25)).alloc (.cells #[.slice a2 m c2] 25)) 25 (.slice none 0 0)).alloc (.cells C 3)
      simp only [World.size_alloc] at this
      rw [hw3]
      exact this
    have b2 := (Boxed.new w3 22 (.slice (some ⟨w.heap.size + 1 + 1 + 1, 0, none⟩) 0 (n + m))).alloc (.cells #[.slice a2 m c2] 22)
    have b3 := Boxed.new (w3.alloc (.cells #[.slice (some ⟨w.heap.size + 1 + 1 + 1, 0, none⟩) 0 (n + m)] 22)) 22 (.slice a2 m c2)
    rw [World.size_alloc] at b3
    have b1' := (b1.alloc (.cells #[.slice (some ⟨w.heap.size + 1 + 1 + 1, 0, none⟩) 0 (n + m)] 22)).alloc (.cells #[.slice a2 m c2] 22)
    have o3 : w3.ownsRow w.heap.size 3 1 (.slice (some ⟨w.heap.size + 1 + 1 + 1, 0, none⟩) 0 (n + m)) 0 [] := by
      have := (HMK.out (((w.alloc (.cells #[.slice a n c] 25)).alloc (.cells #[.slice a2 m c2] 25)).alloc (.cells #[.slice none 0 0] 25))).2 w.heap.size (by simp; omega)
      simp only [World.size_alloc] at this
      rw [hw3]
      exact this
    have o6 := (World.ownsRow.alloc (World.ownsRow.alloc o3 (.cells #[.slice (some ⟨w.heap.size + 1 + 1 + 1, 0, none⟩) 0 (n + m)] 22)) (.cells #[.slice a2 m c2] 22))
    rw [← hw6] at b1' b2 b3 o6
    rw [hs3] at b2 b3
    refine ⟨fun p hp => ?_, b2, o6, by decide, by omega, hb6⟩
    simp only [OB, List.mem_cons, List.not_mem_nil, or_false] at hp
    rcases hp with rfl | rfl
    · exact ⟨b3, show (22 : Nat) ≠ 3 by decide, by simp⟩
    · exact ⟨b1', show (25 : Nat) ≠ 3 by decide, by simp⟩
  rw [← hw3, ← hw6] at HB9 HBB
  have hL9 := L0.keep HB9.out
  rw [show Value.slice a2 m c2 = .slice a2 (orS ltI t []).2.length c2 by rw [HM.out]; rfl] at hL9
  have I9 : Hid (OrI w t [] w9) := ⟨_, a2, c2, hL9, HR2.out⟩
  clear hL9
  have hB5 := HBB.out
  have hIt : IterV w9 (.func (.func 49) #[] #[.pointer (some ⟨B, 0, none⟩)]) B s := ⟨rfl, a, c, by rw [HN.out] at HC9; exact HC9.out, (HR.out.keep hb6).keep HB9.out⟩
  have hS9 : w6.heap.size ≤ w9.heap.size := HB9.out.size
  have hst := vals_stops Fence.wide (3 - 1) trivial rfl (by omega) B w.heap.size _ s (by rw [← HN.out]; omega) w9 hIt (by omega) (fun b off ⟨c', hc'⟩ hp => HB.out b off (by
    have := HC9.out
    rw [hc'] at this
    cases this
    rfl) hp)
  clear hIt L0 hb3 hb6 hw6 hw3 hmk1 HMK
  have HST := hide hst
  clear hst
  refine wpIn_rangeFunc_ownG rfl (by omega) (gf := 49) (lb := #[.pointer (some ⟨B, 0, none⟩)]) rfl trivial (enters_of Try.func49 (by kernel_rfl) rfl) HST.out belowK_t (belowK_b (by omega)) (Below.refl _ _) (fun _ => rfl)
    (fun pre W => OrI w t pre W)
    (fun _ _ _ => False)
    (fun pre W W' row hs hg hr => by obtain ⟨v, a, c, hv, hrow⟩ := hs; exact ⟨v, a, c, hv.turn (by omega) hg hr, hrow⟩)
    (fun _ _ _ _ _ hs _ _ => hs)
    I9.out
    (fun x => { tmps := #[.agg #[.slice a n c], .agg #[.slice a2 m c2], .pointer (some ⟨w.heap.size, 0, none⟩), .pointer (some ⟨w.heap.size + 1, 0, none⟩), .pointer (some ⟨w.heap.size + 2, 0, none⟩), .pointer (some ⟨w.heap.size + 4, 0, none⟩), .pointer (some ⟨w.heap.size + 5, 0, none⟩), .int .i64 x, .pointer (some ⟨w.heap.size, 0, none⟩), .slice a n c, .int .i64 n, .pointer (some ⟨w.heap.size + 1, 0, none⟩), .slice a2 m c2, .int .i64 m, .int .i64 (n + m), .slice (some ⟨w.heap.size + 3, 0, none⟩) 0 (n + m), .pointer (some ⟨w.heap.size + 1, 0, none⟩), .slice a2 m c2, .agg #[.slice a n c], .func (.func 49) #[] #[.pointer (some ⟨B, 0, none⟩)], .int .i64 x, undef, undef, undef, undef, undef, undef, undef, undef, undef, undef, undef, undef, undef, undef, undef, undef, undef, undef, undef, undef, undef, undef, undef, undef, undef, undef, undef, undef, undef, undef, undef, undef, undef, undef, undef, undef, undef, undef, undef], defers := [] }) ?assign ?body ?done ?stop
  case assign =>
    intro l x W K hK
    gi_wp2
    exact hK
  case body =>
    rintro l pre x W ⟨v, a4, c4, hL, hrow⟩ hlt
    have hlen := orS_length (lt := ltI) t pre
    obtain ⟨l0, hl0⟩ : ∃ l0, l0 = (orS ltI t pre).1 := ⟨_, rfl⟩
    obtain ⟨r0, hr0⟩ : ∃ r0, r0 = (orS ltI t pre).2 := ⟨_, rfl⟩
    have HO : Hid (orS ltI t (pre ++ [x]) = orIn ltI x l0 r0) := by rw [hl0, hr0]; exact orS_snoc t pre x
    rw [← hl0, ← hr0] at hL hlen
    rw [← hr0] at hrow
    have HLEN : Hid (l0.length + r0.length < 800000) := hide (by have := HN.out; have := HM.out; omega)
    have R0 : Hid (OrL w x l0 r0 w9.heap.size W W) := ⟨l0, r0, v, a4, c4, hL, hrow, rfl, Nat.le_refl _, KeepsFrom.refl _ _, Below.refl _ _⟩
    clear hl0 hr0 hL hrow hlt hlen
    have hd : 1 ≤ 3 - 1 - 1 := by omega
    have hF1 : Fence.wide.fn 33 := trivial
    have hF2 : Fence.wide.fn 34 := trivial
    have hmx : Try.prog.follows .mixedOrders = true := by kernel_rfl
    gi_wp2
    gi_loopw [21] (fun _ wr => OrL w x l0 r0 w9.heap.size W wr) (fun _ wr => restLen w wr)
    case atStart => exact R0.out
    case round =>
      obtain ⟨ll, rest, v, a4, c4, hL, hR, hO, hB, hK, hBe⟩ := hrel
      have c5 := hL.out.box.cell
      have c6 := (hL.out.boxes (w.heap.size + 5, 22, .slice a4 rest.length c4) (by simp [OB])).1.cell
      cases rest with
      | nil =>
        simp only [List.length_nil] at c6
        have hrow := hL.out.own
        have hsz2 := hL.out.below.size
        have HE : Hid (orIn ltI x l0 r0 = (ll ++ [x], [])) := hO.out.symm.trans rfl
        obtain ⟨k, hk⟩ : ∃ k, k = ll.length := ⟨_, rfl⟩
        rw [← hk] at hrow
        have HKL := hide hk
        have HK2 : Hid (k < 800000) := hide (by have := hB.out; have := HLEN.out; simp at *; omega)
        clear hk
        gi_wp2_with (gi_at_builtin; refine wpListIn_append_own _ rfl _ _ 22 rfl w.heap.size 3 i0 (.int .i64 0) 1 8 Try.underlying22 hi hz0 hz1 hz2 rfl (by decide) _ _ _ rfl (hrow.alloc _) ⟨wr.heap.size, 0, none⟩ 1 1 [.int .i64 x] rfl rfl (one_at (w := wr) (by simp)) (by simp [Value.oneCell']) (by have := HK2.out; unfold maxLen; omega) (by have := HK2.out; omega) (by simp; omega) ?_; intro v' w3 hown' hgrow _; obtain ⟨g', cap', rfl⟩ := ownsRow_succ hown'; obtain ⟨hv1, hL3, hk3, hb3⟩ := hL.out.push (l' := ll ++ [x]) hown' (by rw [List.length_append, ← HKL.out]; rfl) (by simp) hgrow; have hc1 := hv1.cell; have hf1 := hv1.frozen; have HL3 := hide hL3; have HK3 := hide hk3; have HB3 := hide hb3; clear hL3 hk3 hb3 hown' hgrow hv1)
        exact ⟨hK.out.trans (HK3.out.from _), hBe.out.trans HB3.out, or_end HO.out HE.out HL3.out hR.out⟩
      | cons r rs =>
        obtain ⟨b4, o4, rfl, hc4⟩ := hR.out.at (i := 0) (by simp)
        have hc40 : wr.cell? ⟨b4, o4, none⟩ = some (.int .i64 r) := by
          rw [Nat.add_zero] at hc4
          rw [hL.out.below.cell (p := ⟨b4, o4, none⟩) (lt_of_cell hc4), hc4]
          rfl
        obtain ⟨a5, c5', hsl, hrow5⟩ := slice_one hR.out
        have HR5 := hide hrow5
        obtain ⟨k1, hk1⟩ : ∃ k1, k1 = (r :: rs).length := ⟨_, rfl⟩
        obtain ⟨k2, hk2⟩ : ∃ k2, k2 = rs.length := ⟨_, rfl⟩
        have hk12 : k1 = k2 + 1 := by rw [hk1, hk2]; rfl
        have hkp : 0 < k1 := by omega
        rw [← hk1] at c6 hsl
        rw [← hk2] at hsl
        have c6f := (hL.out.boxes (w.heap.size + 5, 22, .slice (some ⟨b4, o4, none⟩) (r :: rs).length c4) (by simp [OB])).1.frozen
        have HK1 := hide hk1
        have HKK2 := hide hk2
        have hrow := hL.out.own
        have hsz2 := hL.out.below.size
        have hsz5 := (hL.out.boxes (w.heap.size + 5, 22, .slice (some ⟨b4, o4, none⟩) (r :: rs).length c4) (by simp [OB])).1.lt
        obtain ⟨k, hk⟩ : ∃ k, k = ll.length := ⟨_, rfl⟩
        rw [← hk] at hrow
        have HKL := hide hk
        have HK2 : Hid (k < 800000) := hide (by have := hB.out; have := HLEN.out; simp at *; omega)
        have c5a := (hL.out.box.alloc (.cells #[.int .i64 r] 3)).cell
        have HLD := hide (hL.out.keep ((Below.refl _ _).drew))
        have HK12 := hide hk12
        clear hk hc4 hrow5 hk1 hk2 hk12
        by_cases h1 : r < x
        · have HST1 : Hid (orIn ltI x (ll ++ [r]) rs = orIn ltI x l0 r0) := by rw [← orIn_less h1]; exact hO.out
          gi_wp2_with (gi_at_call 33; go_must ((with_reducible refine (CallsIn.inRound l (callsIn_wide.2 (less_any _ _ _))).mono ?_); rintro e w8 ⟨rfl, hw8⟩; replace hw8 := hw8.symm; subst hw8))
          refine wpIn_region_any (by kernel_rfl) ?_
          change wpAnyIn _ _ _ _ _ _ _ _ _ (World.drew _)
          refine wpAnyIn_ready (rs := [0, 1]) (by kernel_rfl) (by simp) ?_
          refine AllReadyIn.cons rfl (fun K hK => ?_) (AllReadyIn.cons rfl (fun K hK => ?_) AllReadyIn.nil)
          ·
            go_simp
            refine hK _ _ ?_
            clear hK K
            refine wpAnyIn_ready (rs := [1]) (by kernel_rfl) (by simp) ?_
            refine AllReadyIn.cons rfl (fun K hK => ?_) AllReadyIn.nil
            go_simp
            refine hK _ _ ?_
            clear hK K
            refine wpAnyIn_ready (rs := [2]) (by kernel_rfl) (by simp) ?_
            refine AllReadyIn.cons rfl (fun K hK => ?_) AllReadyIn.nil
            go_simp
            refine hK _ _ ?_
            clear hK K
            refine wpAnyIn_ready (rs := [3]) (by kernel_rfl) (by simp) ?_
            refine AllReadyIn.cons rfl (fun K hK => ?_) AllReadyIn.nil
            go_simp
            refine hK _ _ ?_
            clear hK K
            refine wpAnyIn_ready (rs := [4]) (by kernel_rfl) (by simp) ?_
            refine AllReadyIn.cons rfl (fun K hK => ?_) AllReadyIn.nil
            go_simp
            refine hK _ _ ?_
            clear hK K
            refine wpAnyIn_ready (rs := [5]) (by kernel_rfl) (by simp) ?_
            refine AllReadyIn.cons rfl (fun K hK => ?_) AllReadyIn.nil
            refine stepIn_append_own _ rfl _ _ 22 rfl w.heap.size 3 i0 (.int .i64 0) 1 8 Try.underlying22 hi hz0 hz1 hz2 rfl (by decide) _ _ _ rfl (HLD.out.own.alloc _) ⟨wr.heap.size, 0, none⟩ 1 1 [.int .i64 r] rfl rfl (cell_one_new wr.drew _ _) (by simp [Value.oneCell']) (by have := HK2.out; rw [← HKL.out]; unfold maxLen; omega) (by have := HK2.out; rw [← HKL.out]; omega) (by simp; omega) ?_
            intro v' w3 hown' hgrow
            obtain ⟨g', cap', rfl⟩ := ownsRow_succ hown'
            obtain ⟨hv1, hL3, hk3, hb3⟩ := HLD.out.push (l' := ll ++ [r]) hown' (by simp) (by simp) hgrow
            have hc1 := hv1.cell
            have hf1 := hv1.frozen
            have c61 := (hL3.boxes (w.heap.size + 5, 22, .slice (some ⟨b4, o4, none⟩) (r :: rs).length c4) (by simp [OB])).1
            have c611 := c61.cell
            have c612 := c61.frozen
            rw [← HK1.out] at c611
            have HL3 := hide hL3
            have HK3 := hide hk3
            have HB3 := hide hb3
            rw [← HKL.out] at HL3 HK3 HB3 c611 c612
            rw [← HKL.out]
            clear hL3 hk3 hb3 hown' hgrow hv1 c61
            refine hK _ _ ?_
            clear hK K
            refine wpAnyIn_ready (rs := [6]) (by kernel_rfl) (by simp) ?_
            refine AllReadyIn.cons rfl (fun K hK => ?_) AllReadyIn.nil
            go_simp
            refine hK _ _ ?_
            clear hK K
            refine wpAnyIn_done (by kernel_rfl) ?_ _
            gi_wp2
            go_roundw
            case rel =>
              have hL4 := LI.store (B := w.heap.size + 5) HL3.out (by omega) (fun p hp => by simp only [List.mem_cons, List.not_mem_nil, or_false] at hp; subst hp; simp) (.slice a5 rs.length c5')
              rw [← HKK2.out] at hL4
              refine ⟨ll ++ [r], rs, _, a5, c5', by rw [← HKK2.out]; exact hL4, HR5.out, HST1.out, hide (by have := hB.out; simp at this ⊢; omega), hide ?_, hide ?_⟩
              · exact ((hK.out.trans (keepsFrom_below _ ((Below.refl _ _).drew))).trans (HK3.out.from _)).trans ((KeepsOthers.setCell _ _ _).from _)
              · exact (((hBe.out.trans ((Below.refl _ _).drew)).trans HB3.out).setCell (p := ⟨w.heap.size + 5, 0, none⟩) (by simp) _)
            case measure =>
              have hL4 := (LI.store (B := w.heap.size + 5) HL3.out (by omega) (fun p hp => by simp only [List.mem_cons, List.not_mem_nil, or_false] at hp; subst hp; simp) (.slice a5 k2 c5')).boxes (w.heap.size + 5, 22, .slice a5 k2 c5') (by simp)
              rw [restLen_eq hL4.1.cell, restLen_eq c6, HK12.out]
              omega
          ·
            go_simp
            refine hK _ _ ?_
            clear hK K
            refine wpAnyIn_ready (rs := [0, 2]) (by kernel_rfl) (by simp) ?_
            refine AllReadyIn.cons rfl (fun K hK => ?_) (AllReadyIn.cons rfl (fun K hK => ?_) AllReadyIn.nil)
            ·
              go_simp
              refine hK _ _ ?_
              clear hK K
              refine wpAnyIn_ready (rs := [2]) (by kernel_rfl) (by simp) ?_
              refine AllReadyIn.cons rfl (fun K hK => ?_) AllReadyIn.nil
              go_simp
              refine hK _ _ ?_
              clear hK K
              refine wpAnyIn_ready (rs := [3]) (by kernel_rfl) (by simp) ?_
              refine AllReadyIn.cons rfl (fun K hK => ?_) AllReadyIn.nil
              go_simp
              refine hK _ _ ?_
              clear hK K
              refine wpAnyIn_ready (rs := [4]) (by kernel_rfl) (by simp) ?_
              refine AllReadyIn.cons rfl (fun K hK => ?_) AllReadyIn.nil
              go_simp
              refine hK _ _ ?_
              clear hK K
              refine wpAnyIn_ready (rs := [5]) (by kernel_rfl) (by simp) ?_
              refine AllReadyIn.cons rfl (fun K hK => ?_) AllReadyIn.nil
              refine stepIn_append_own _ rfl _ _ 22 rfl w.heap.size 3 i0 (.int .i64 0) 1 8 Try.underlying22 hi hz0 hz1 hz2 rfl (by decide) _ _ _ rfl (HLD.out.own.alloc _) ⟨wr.heap.size, 0, none⟩ 1 1 [.int .i64 r] rfl rfl (cell_one_new wr.drew _ _) (by simp [Value.oneCell']) (by have := HK2.out; rw [← HKL.out]; unfold maxLen; omega) (by have := HK2.out; rw [← HKL.out]; omega) (by simp; omega) ?_
              intro v' w3 hown' hgrow
              obtain ⟨g', cap', rfl⟩ := ownsRow_succ hown'
              obtain ⟨hv1, hL3, hk3, hb3⟩ := HLD.out.push (l' := ll ++ [r]) hown' (by simp) (by simp) hgrow
              have hc1 := hv1.cell
              have hf1 := hv1.frozen
              have c61 := (hL3.boxes (w.heap.size + 5, 22, .slice (some ⟨b4, o4, none⟩) (r :: rs).length c4) (by simp [OB])).1
              have c611 := c61.cell
              have c612 := c61.frozen
              rw [← HK1.out] at c611
              have HL3 := hide hL3
              have HK3 := hide hk3
              have HB3 := hide hb3
              rw [← HKL.out] at HL3 HK3 HB3 c611 c612
              rw [← HKL.out]
              clear hL3 hk3 hb3 hown' hgrow hv1 c61
              refine hK _ _ ?_
              clear hK K
              refine wpAnyIn_ready (rs := [6]) (by kernel_rfl) (by simp) ?_
              refine AllReadyIn.cons rfl (fun K hK => ?_) AllReadyIn.nil
              go_simp
              refine hK _ _ ?_
              clear hK K
              refine wpAnyIn_done (by kernel_rfl) ?_ _
              gi_wp2
              go_roundw
              case rel =>
                have hL4 := LI.store (B := w.heap.size + 5) HL3.out (by omega) (fun p hp => by simp only [List.mem_cons, List.not_mem_nil, or_false] at hp; subst hp; simp) (.slice a5 rs.length c5')
                rw [← HKK2.out] at hL4
                refine ⟨ll ++ [r], rs, _, a5, c5', by rw [← HKK2.out]; exact hL4, HR5.out, HST1.out, hide (by have := hB.out; simp at this ⊢; omega), hide ?_, hide ?_⟩
                · exact ((hK.out.trans (keepsFrom_below _ ((Below.refl _ _).drew))).trans (HK3.out.from _)).trans ((KeepsOthers.setCell _ _ _).from _)
                · exact (((hBe.out.trans ((Below.refl _ _).drew)).trans HB3.out).setCell (p := ⟨w.heap.size + 5, 0, none⟩) (by simp) _)
              case measure =>
                have hL4 := (LI.store (B := w.heap.size + 5) HL3.out (by omega) (fun p hp => by simp only [List.mem_cons, List.not_mem_nil, or_false] at hp; subst hp; simp) (.slice a5 k2 c5')).boxes (w.heap.size + 5, 22, .slice a5 k2 c5') (by simp)
                rw [restLen_eq hL4.1.cell, restLen_eq c6, HK12.out]
                omega
            ·
              go_simp
              refine hK _ _ ?_
              clear hK K
              refine wpAnyIn_ready (rs := [0, 3]) (by kernel_rfl) (by simp) ?_
              refine AllReadyIn.cons rfl (fun K hK => ?_) (AllReadyIn.cons rfl (fun K hK => ?_) AllReadyIn.nil)
              ·
                go_simp
                refine hK _ _ ?_
                clear hK K
                refine wpAnyIn_ready (rs := [3]) (by kernel_rfl) (by simp) ?_
                refine AllReadyIn.cons rfl (fun K hK => ?_) AllReadyIn.nil
                go_simp
                refine hK _ _ ?_
                clear hK K
                refine wpAnyIn_ready (rs := [4]) (by kernel_rfl) (by simp) ?_
                refine AllReadyIn.cons rfl (fun K hK => ?_) AllReadyIn.nil
                go_simp
                refine hK _ _ ?_
                clear hK K
                refine wpAnyIn_ready (rs := [5]) (by kernel_rfl) (by simp) ?_
                refine AllReadyIn.cons rfl (fun K hK => ?_) AllReadyIn.nil
                refine stepIn_append_own _ rfl _ _ 22 rfl w.heap.size 3 i0 (.int .i64 0) 1 8 Try.underlying22 hi hz0 hz1 hz2 rfl (by decide) _ _ _ rfl (HLD.out.own.alloc _) ⟨wr.heap.size, 0, none⟩ 1 1 [.int .i64 r] rfl rfl (cell_one_new wr.drew _ _) (by simp [Value.oneCell']) (by have := HK2.out; rw [← HKL.out]; unfold maxLen; omega) (by have := HK2.out; rw [← HKL.out]; omega) (by simp; omega) ?_
                intro v' w3 hown' hgrow
                obtain ⟨g', cap', rfl⟩ := ownsRow_succ hown'
                obtain ⟨hv1, hL3, hk3, hb3⟩ := HLD.out.push (l' := ll ++ [r]) hown' (by simp) (by simp) hgrow
                have hc1 := hv1.cell
                have hf1 := hv1.frozen
                have c61 := (hL3.boxes (w.heap.size + 5, 22, .slice (some ⟨b4, o4, none⟩) (r :: rs).length c4) (by simp [OB])).1
                have c611 := c61.cell
                have c612 := c61.frozen
                rw [← HK1.out] at c611
                have HL3 := hide hL3
                have HK3 := hide hk3
                have HB3 := hide hb3
                rw [← HKL.out] at HL3 HK3 HB3 c611 c612
                rw [← HKL.out]
                clear hL3 hk3 hb3 hown' hgrow hv1 c61
                refine hK _ _ ?_
                clear hK K
                refine wpAnyIn_ready (rs := [6]) (by kernel_rfl) (by simp) ?_
                refine AllReadyIn.cons rfl (fun K hK => ?_) AllReadyIn.nil
                go_simp
                refine hK _ _ ?_
                clear hK K
                refine wpAnyIn_done (by kernel_rfl) ?_ _
                gi_wp2
                go_roundw
                case rel =>
                  have hL4 := LI.store (B := w.heap.size + 5) HL3.out (by omega) (fun p hp => by simp only [List.mem_cons, List.not_mem_nil, or_false] at hp; subst hp; simp) (.slice a5 rs.length c5')
                  rw [← HKK2.out] at hL4
                  refine ⟨ll ++ [r], rs, _, a5, c5', by rw [← HKK2.out]; exact hL4, HR5.out, HST1.out, hide (by have := hB.out; simp at this ⊢; omega), hide ?_, hide ?_⟩
                  · exact ((hK.out.trans (keepsFrom_below _ ((Below.refl _ _).drew))).trans (HK3.out.from _)).trans ((KeepsOthers.setCell _ _ _).from _)
                  · exact (((hBe.out.trans ((Below.refl _ _).drew)).trans HB3.out).setCell (p := ⟨w.heap.size + 5, 0, none⟩) (by simp) _)
                case measure =>
                  have hL4 := (LI.store (B := w.heap.size + 5) HL3.out (by omega) (fun p hp => by simp only [List.mem_cons, List.not_mem_nil, or_false] at hp; subst hp; simp) (.slice a5 k2 c5')).boxes (w.heap.size + 5, 22, .slice a5 k2 c5') (by simp)
                  rw [restLen_eq hL4.1.cell, restLen_eq c6, HK12.out]
                  omega
              ·
                go_simp
                refine hK _ _ ?_
                clear hK K
                refine wpAnyIn_ready (rs := [0, 4]) (by kernel_rfl) (by simp) ?_
                refine AllReadyIn.cons rfl (fun K hK => ?_) (AllReadyIn.cons rfl (fun K hK => ?_) AllReadyIn.nil)
                ·
                  go_simp
                  refine hK _ _ ?_
                  clear hK K
                  refine wpAnyIn_ready (rs := [4]) (by kernel_rfl) (by simp) ?_
                  refine AllReadyIn.cons rfl (fun K hK => ?_) AllReadyIn.nil
                  go_simp
                  refine hK _ _ ?_
                  clear hK K
                  refine wpAnyIn_ready (rs := [5]) (by kernel_rfl) (by simp) ?_
                  refine AllReadyIn.cons rfl (fun K hK => ?_) AllReadyIn.nil
                  refine stepIn_append_own _ rfl _ _ 22 rfl w.heap.size 3 i0 (.int .i64 0) 1 8 Try.underlying22 hi hz0 hz1 hz2 rfl (by decide) _ _ _ rfl (HLD.out.own.alloc _) ⟨wr.heap.size, 0, none⟩ 1 1 [.int .i64 r] rfl rfl (cell_one_new wr.drew _ _) (by simp [Value.oneCell']) (by have := HK2.out; rw [← HKL.out]; unfold maxLen; omega) (by have := HK2.out; rw [← HKL.out]; omega) (by simp; omega) ?_
                  intro v' w3 hown' hgrow
                  obtain ⟨g', cap', rfl⟩ := ownsRow_succ hown'
                  obtain ⟨hv1, hL3, hk3, hb3⟩ := HLD.out.push (l' := ll ++ [r]) hown' (by simp) (by simp) hgrow
                  have hc1 := hv1.cell
                  have hf1 := hv1.frozen
                  have c61 := (hL3.boxes (w.heap.size + 5, 22, .slice (some ⟨b4, o4, none⟩) (r :: rs).length c4) (by simp [OB])).1
                  have c611 := c61.cell
                  have c612 := c61.frozen
                  rw [← HK1.out] at c611
                  have HL3 := hide hL3
                  have HK3 := hide hk3
                  have HB3 := hide hb3
                  rw [← HKL.out] at HL3 HK3 HB3 c611 c612
                  rw [← HKL.out]
                  clear hL3 hk3 hb3 hown' hgrow hv1 c61
                  refine hK _ _ ?_
                  clear hK K
                  refine wpAnyIn_ready (rs := [6]) (by kernel_rfl) (by simp) ?_
                  refine AllReadyIn.cons rfl (fun K hK => ?_) AllReadyIn.nil
                  go_simp
                  refine hK _ _ ?_
                  clear hK K
                  refine wpAnyIn_done (by kernel_rfl) ?_ _
                  gi_wp2
                  go_roundw
                  case rel =>
                    have hL4 := LI.store (B := w.heap.size + 5) HL3.out (by omega) (fun p hp => by simp only [List.mem_cons, List.not_mem_nil, or_false] at hp; subst hp; simp) (.slice a5 rs.length c5')
                    rw [← HKK2.out] at hL4
                    refine ⟨ll ++ [r], rs, _, a5, c5', by rw [← HKK2.out]; exact hL4, HR5.out, HST1.out, hide (by have := hB.out; simp at this ⊢; omega), hide ?_, hide ?_⟩
                    · exact ((hK.out.trans (keepsFrom_below _ ((Below.refl _ _).drew))).trans (HK3.out.from _)).trans ((KeepsOthers.setCell _ _ _).from _)
                    · exact (((hBe.out.trans ((Below.refl _ _).drew)).trans HB3.out).setCell (p := ⟨w.heap.size + 5, 0, none⟩) (by simp) _)
                  case measure =>
                    have hL4 := (LI.store (B := w.heap.size + 5) HL3.out (by omega) (fun p hp => by simp only [List.mem_cons, List.not_mem_nil, or_false] at hp; subst hp; simp) (.slice a5 k2 c5')).boxes (w.heap.size + 5, 22, .slice a5 k2 c5') (by simp)
                    rw [restLen_eq hL4.1.cell, restLen_eq c6, HK12.out]
                    omega
                ·
                  go_simp
                  refine hK _ _ ?_
                  clear hK K
                  refine wpAnyIn_ready (rs := [0]) (by kernel_rfl) (by simp) ?_
                  refine AllReadyIn.cons rfl (fun K hK => ?_) AllReadyIn.nil
                  go_simp
                  refine hK _ _ ?_
                  clear hK K
                  refine wpAnyIn_ready (rs := [5]) (by kernel_rfl) (by simp) ?_
                  refine AllReadyIn.cons rfl (fun K hK => ?_) AllReadyIn.nil
                  refine stepIn_append_own _ rfl _ _ 22 rfl w.heap.size 3 i0 (.int .i64 0) 1 8 Try.underlying22 hi hz0 hz1 hz2 rfl (by decide) _ _ _ rfl (HLD.out.own.alloc _) ⟨wr.heap.size, 0, none⟩ 1 1 [.int .i64 r] rfl rfl (cell_one_new wr.drew _ _) (by simp [Value.oneCell']) (by have := HK2.out; rw [← HKL.out]; unfold maxLen; omega) (by have := HK2.out; rw [← HKL.out]; omega) (by simp; omega) ?_
                  intro v' w3 hown' hgrow
                  obtain ⟨g', cap', rfl⟩ := ownsRow_succ hown'
                  obtain ⟨hv1, hL3, hk3, hb3⟩ := HLD.out.push (l' := ll ++ [r]) hown' (by simp) (by simp) hgrow
                  have hc1 := hv1.cell
                  have hf1 := hv1.frozen
                  have c61 := (hL3.boxes (w.heap.size + 5, 22, .slice (some ⟨b4, o4, none⟩) (r :: rs).length c4) (by simp [OB])).1
                  have c611 := c61.cell
                  have c612 := c61.frozen
                  rw [← HK1.out] at c611
                  have HL3 := hide hL3
                  have HK3 := hide hk3
                  have HB3 := hide hb3
                  rw [← HKL.out] at HL3 HK3 HB3 c611 c612
                  rw [← HKL.out]
                  clear hL3 hk3 hb3 hown' hgrow hv1 c61
                  refine hK _ _ ?_
                  clear hK K
                  refine wpAnyIn_ready (rs := [6]) (by kernel_rfl) (by simp) ?_
                  refine AllReadyIn.cons rfl (fun K hK => ?_) AllReadyIn.nil
                  go_simp
                  refine hK _ _ ?_
                  clear hK K
                  refine wpAnyIn_done (by kernel_rfl) ?_ _
                  gi_wp2
                  go_roundw
                  case rel =>
                    have hL4 := LI.store (B := w.heap.size + 5) HL3.out (by omega) (fun p hp => by simp only [List.mem_cons, List.not_mem_nil, or_false] at hp; subst hp; simp) (.slice a5 rs.length c5')
                    rw [← HKK2.out] at hL4
                    refine ⟨ll ++ [r], rs, _, a5, c5', by rw [← HKK2.out]; exact hL4, HR5.out, HST1.out, hide (by have := hB.out; simp at this ⊢; omega), hide ?_, hide ?_⟩
                    · exact ((hK.out.trans (keepsFrom_below _ ((Below.refl _ _).drew))).trans (HK3.out.from _)).trans ((KeepsOthers.setCell _ _ _).from _)
                    · exact (((hBe.out.trans ((Below.refl _ _).drew)).trans HB3.out).setCell (p := ⟨w.heap.size + 5, 0, none⟩) (by simp) _)
                  case measure =>
                    have hL4 := (LI.store (B := w.heap.size + 5) HL3.out (by omega) (fun p hp => by simp only [List.mem_cons, List.not_mem_nil, or_false] at hp; subst hp; simp) (.slice a5 k2 c5')).boxes (w.heap.size + 5, 22, .slice a5 k2 c5') (by simp)
                    rw [restLen_eq hL4.1.cell, restLen_eq c6, HK12.out]
                    omega
        · by_cases h2 : x < r
          · have HE : Hid (orIn ltI x l0 r0 = (ll ++ [x], r :: rs)) := hO.out.symm.trans (orIn_more h2)
            have g0 : ((1 : Int) == 0) = false := by decide
            gi_wp2_with (first | (gi_at_call 33; go_must ((with_reducible refine (CallsIn.inRound l (callsIn_wide.2 (less_any _ _ _))).mono ?_); rintro e w8 ⟨rfl, hw8⟩; replace hw8 := hw8.symm; subst hw8)) | (gi_at_call 34; go_must ((refine (CallsIn.inRound l (callsIn_wide.2 (ccmp_any _ _ _))).mono ?_); rw [cmpI_gt h2]; rintro e w8 ⟨rfl, hw8⟩; replace hw8 := hw8.symm; subst hw8)) | (gi_at_builtin; refine wpListIn_append_own _ rfl _ _ 22 rfl w.heap.size 3 i0 (.int .i64 0) 1 8 Try.underlying22 hi hz0 hz1 hz2 rfl (by decide) _ _ _ rfl (hrow.alloc _) ⟨wr.heap.size, 0, none⟩ 1 1 [.int .i64 x] rfl rfl (one_at (w := wr) (by simp)) (by simp [Value.oneCell']) (by have := HK2.out; unfold maxLen; omega) (by have := HK2.out; omega) (by simp; omega) ?_; intro v' w3 hown' hgrow _; obtain ⟨g', cap', rfl⟩ := ownsRow_succ hown'; obtain ⟨hv1, hL3, hk3, hb3⟩ := hL.out.push (l' := ll ++ [x]) hown' (by rw [List.length_append, ← HKL.out]; rfl) (by simp) hgrow; have hc1 := hv1.cell; have hf1 := hv1.frozen; have HL3 := hide hL3; have HK3 := hide hk3; have HB3 := hide hb3; clear hL3 hk3 hb3 hown' hgrow hv1))
            exact ⟨hK.out.trans (HK3.out.from _), hBe.out.trans HB3.out, or_end HO.out HE.out HL3.out hR.out⟩
          · have HE : Hid (orIn ltI x l0 r0 = (ll ++ [x], rs)) := hO.out.symm.trans (orIn_same (by omega))
            have HEQ : Hid (r = x) := hide (by omega)
            have hL2 := LI.store (B := w.heap.size + 5) hL.out (by omega) (fun p hp => by simp only [List.mem_cons, List.not_mem_nil, or_false] at hp; subst hp; simp) (.slice a5 k2 c5')
            have cB := hL2.box.cell
            have hrow2 := hL2.own
            rw [← HKL.out] at hrow2
            have HL2 := hide hL2
            clear hL2
            gi_wp2_with (first | (gi_at_call 33; go_must ((with_reducible refine (CallsIn.inRound l (callsIn_wide.2 (less_any _ _ _))).mono ?_); rintro e w8 ⟨rfl, hw8⟩; replace hw8 := hw8.symm; subst hw8)) | (gi_at_call 34; go_must ((refine (CallsIn.inRound l (callsIn_wide.2 (ccmp_any _ _ _))).mono ?_); rw [cmpI_eq HEQ.out]; rintro e w8 ⟨rfl, hw8⟩; replace hw8 := hw8.symm; subst hw8)) | (gi_at_builtin; refine wpListIn_append_own _ rfl _ _ 22 rfl w.heap.size 3 i0 (.int .i64 0) 1 8 Try.underlying22 hi hz0 hz1 hz2 rfl (by decide) _ _ _ rfl (hrow2.alloc _) ⟨wr.heap.size, 0, none⟩ 1 1 [.int .i64 x] rfl rfl (one_at (w := (wr.setCell ⟨w.heap.size + 5, 0, none⟩ (.slice a5 k2 c5'))) (by simp)) (by simp [Value.oneCell']) (by have := HK2.out; unfold maxLen; omega) (by have := HK2.out; omega) (by simp; omega) ?_; intro v' w3 hown' hgrow _; obtain ⟨g', cap', rfl⟩ := ownsRow_succ hown'; obtain ⟨hv1, hL3, hk3, hb3⟩ := HL2.out.push (l' := ll ++ [x]) hown' (by rw [List.length_append, ← HKL.out]; rfl) (by simp) hgrow; have hc1 := hv1.cell; have hf1 := hv1.frozen; have HL3 := hide hL3; have HK3 := hide hk3; have HB3 := hide hb3; clear hL3 hk3 hb3 hown' hgrow hv1))
            exact ⟨(hK.out.trans ((KeepsOthers.setCell wr _ _).from _)).trans (HK3.out.from _), (hBe.out.setCell (p := ⟨w.heap.size + 5, 0, none⟩) (by simp) _).trans HB3.out, or_end HO.out HE.out (by rw [← HKK2.out]; exact HL3.out) HR5.out⟩
  case done =>
    rintro D ys W hD rfl ⟨v, a4, c4, hL, hrow⟩ hK
    have hlen := orS_length (lt := ltI) t ys
    have hOR := orL_eq totI HRS.out HRT.out
    obtain ⟨l, hl⟩ : ∃ l, l = (orS ltI t ys).1 := ⟨_, rfl⟩
    obtain ⟨r, hr⟩ : ∃ r, r = (orS ltI t ys).2 := ⟨_, rfl⟩
    have HE : Hid (l ++ r = setL ltI (ys ++ t)) := by rw [hl, hr]; exact hOR
    have HLEN : Hid (l.length + r.length ≤ 800000) := hide (by rw [hl, hr]; have := HN.out; have := HM.out; omega)
    rw [← hl, ← hr] at hL
    rw [← hr] at hrow
    have hsz2 := hL.below.size
    have h6 := hL.boxes (w.heap.size + 2, 25, .slice none 0 0) (by simp [OB])
    have c6 := (hL.boxes (w.heap.size + 5, 22, .slice a4 r.length c4) (by simp [OB])).1.cell
    have c5 := hL.box.cell
    obtain ⟨k, hk⟩ : ∃ k, k = r.length := ⟨_, rfl⟩
    rw [← hk] at c6
    have HK := hide hk
    have HL := hide hL
    have H6 := hide h6
    have HROW := hide (hrow.keep hL.below)
    clear hl hr hL h6 hrow hk hOR hlen
    gi_wp2_with (gi_at_builtin; refine appIn_row rfl _ _ rfl w.heap.size _ l rfl HL.out.own a4 c4 k r rfl HK.out HROW.out (by have := HLEN.out; omega) (by omega) ?_; intro v' w3 hown' hgrow; obtain ⟨a7, c7, rfl⟩ := own_form hown'; have h61 := H6.out.1.kept hgrow (H6.out.1.not_row H6.out.2.1 HL.out.own); have c61 := h61.cell; have f61 := h61.frozen; have H61 := hide h61; have HOWN := hide hown'; have HG := hide hgrow; clear h61 hown' hgrow)
    have hK1 := (keeps_own HL.out.own HG.out).same D _ hK rfl
    have hK' := (KeepsOthers.setCell w3 ⟨w.heap.size + 2, 0, none⟩ (.slice a7 (l.length + r.length) c7)).same D _ hK1 rfl
    refine ⟨by simp, .inl ⟨_, _, rfl, run_takeDeferred hK', ?_⟩⟩
    have hcell := World.cell?_setCell_same' w3 ⟨w.heap.size + 2, 0, none⟩ (.slice a7 (l.length + r.length) c7) (by rw [c61]; rfl)
    have hc5 := cell_kept hcell (grownBy_putObj' _ D (.deferred none)) (fun r e => by cases e; exact ⟨_, hK', rfl⟩)
    have hown := ownsRow_putObj (HOWN.out.kept (grownBy_setCell' w3 (w.heap.size + 2) (.slice a7 (l.length + r.length) c7)) (.inr (H61.out.not_row H6.out.2.1 HOWN.out).symm)) (.deferred none) hK' rfl
    have hrow := (rowv_of_own hown (by rw [List.length_append]; have := HLEN.out; omega) (fun z hz => by
      rw [HE.out, mem_setL totI, List.mem_append] at hz
      exact hz.elim (HW.out z) (HW2.out z))).2
    rw [HE.out] at hrow
    have hbel : Below w.heap.size w (w3.setCell ⟨w.heap.size + 2, 0, none⟩ (.slice a7 (l.length + r.length) c7)) := (HL.out.below.grown HG.out HL.out.below.size (fun b e => (World.ownsRow.lt HL.out.own b e).1)).setCell (p := ⟨w.heap.size + 2, 0, none⟩) (by simp) _
    exact ⟨.agg #[.slice a7 (l.length + r.length) c7], by simp [results, Try.f10, go_sem, hc5], _, rfl, ⟨a7, c7, by rw [← HE.out, List.length_append], hrow⟩, (by have := fresh_own (m := l.length + r.length) hown; exact this), hbel.trans (belowK_b (w := w) (Nat.le_refl _) _ D _ _ (by omega) hK' rfl rfl)⟩
  case stop =>
    rintro D c pre W _ _ h _
    exact h.elim
end Go.Proofs.Ytghdafgpdhbohaa.Sets
