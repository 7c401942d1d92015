/- Joined out of the texts DqTake, DqWork, in that order. -/
import Derived.Test.YtkjhamcmhijhgaaGreatAll11
import Derived.Test.YtkjhamcmhijhgaaGreatAll5
import Derived.Defers
/- A worker takes a job: its own row's last one, or the first one of another's row. -/
namespace Go.Proofs.YtkjhamcmhijhgaaGreat.DqI
open Go.RowKit Go.Proofs.YtkjhamcmhijhgaaGreat.Dig Go.Proofs.YtkjhamcmhijhgaaGreat.Mem Go.Proofs.YtkjhamcmhijhgaaGreat.Dq Go.Proofs.YtkjhamcmhijhgaaGreat.Bit Go.Proofs.YtkjhamcmhijhgaaGreat.Thing Go.Proofs.YtkjhamcmhijhgaaGreat.Pool Go.Shelf
set_option linter.unusedVariables false
set_option linter.unusedSimpArgs false
attribute [local go_sem] Oper.semAt_some

section
variable {w wx w' : World} {b p n sb nx dn st : Nat} {v : Value} {ks : List Wk} {ts : List Th} {k : Nat} {κ : Wk}
theorem keeps_only {S : Nat → Prop} (ho : Only S wx w') (hc : ∀ j, S j → ∃ o : Obj, wx.heap[j]? = some o ∧ o.isCells = true) : KeepsOthers wx w' :=
  ⟨ho.size, fun j o hj hno => (ho.block j (Array.getElem?_eq_some_iff.1 hj).1 (fun q => by
    obtain ⟨o', h1, h2⟩ := hc j q
    rw [hj] at h1
    cases h1
    rw [hno] at h2
    cases h2)).trans hj⟩
theorem keeps_drew {W V : World} (h : KeepsOthers W V) : KeepsOthers W V.drew := ⟨h.size, h.same⟩
theorem Kn.off {B : Nat} {row : Option Nat} {W V : World} (h : Kn w ts W) (hB : w.heap.size ≤ B) (hg : W.grownBy V row) (hr : ∀ q, row = some q → B ≤ q ∧ ∃ o : Obj, W.heap[q]? = some o ∧ o.isCells = false) (hc : ∀ t ∈ ts, t.P W → ∀ j, t.F j → j < B ∨ ∃ o : Obj, W.heap[j]? = some o ∧ o.isCells = true) : Kn w ts V := by
  have ho : Only (fun j => row = some j) W V := ⟨hg.os, hg.tape, hg.output, hg.size, fun k hk hn => hg.block k hk (fun e => hn e.symm)⟩
  refine ⟨h.below.grown hg h.below.size (fun q e => Nat.le_trans hB (hr q e).1), fun t ht => ⟨t.keep (h.has t ht).1 ho (fun j hj q => ?_), (h.has t ht).2⟩, h.sep⟩
  obtain ⟨h1, o, h2, h3⟩ := hr j q
  rcases hc t ht (h.has t ht).1 j hj with r | ⟨o', r1, r2⟩
  · omega
  · rw [h2] at r1
    cases r1
    rw [h3] at r2
    cases r2
theorem Kn.hd2 {a t : Th} (h : Kn w (a :: t :: ts) wx) : t.P wx := (h.has t (by simp)).1
theorem Kn.hd3 {a c t : Th} (h : Kn w (a :: c :: t :: ts) wx) : t.P wx := (h.has t (by simp)).1
theorem Kn.hd4 {a c d t : Th} (h : Kn w (a :: c :: d :: t :: ts) wx) : t.P wx := (h.has t (by simp)).1
theorem Kn.hd5 {a c d e t : Th} (h : Kn w (a :: c :: d :: e :: t :: ts) wx) : t.P wx := (h.has t (by simp)).1
theorem Kn.hd6 {a c d e f t : Th} (h : Kn w (a :: c :: d :: e :: f :: t :: ts) wx) : t.P wx := (h.has t (by simp)).1
/-- A thing in the middle is turned. -/
theorem Kn.turnAt {pre post : List Th} {t t' : Th} (h : Kn w (pre ++ t :: post) wx) (hp : t'.P w') (ho : Only t.F wx w') (hf : ∀ k, t'.F k → t.F k ∨ wx.heap.size ≤ k) : Kn w (pre ++ t' :: post) w' :=
  ((h.perm List.perm_middle).turn hp ho hf).perm List.perm_middle.symm
theorem Kn.sep2 {a t : Th} (h : Kn w (a :: t :: ts) wx) : Sep a t := (List.pairwise_cons.1 h.sep).1 t (by simp)
/-- Pop and Steal of a worker's row. -/
theorem popK (h : Hid (Kn w (wsT b ks :: ts) wx)) (hk : ks[k]? = some κ) {l : List Int} {x : Int} (hl : κ.l = l ++ [x]) :
    Calls Tryz.prog 56 #[.pointer (some ⟨b, k * 6, none⟩)] wx fun e w' => e = .returned (.tuple #[(Value.int .i64 x), .bool true]) ∧ ∃ r', Hid (Kn w (wsT b (ks.set k { κ with r := r', l := l }) :: ts) w') ∧ Hid (KeepsOthers wx w') := by
  obtain ⟨s1, s2, s3⟩ := h.out.hd.sh hk
  rw [hl] at s1
  refine (pop_sh s1 s2).mono ?_
  rintro e w' ⟨rfl, ht⟩
  obtain ⟨r', q1, q2, q3⟩ := h.out.hd.turn hk ht
  exact ⟨rfl, r', h.out.turn (t' := wsT b _) q1 q2 q3, keeps_only q2 (fun j hj => Ws.cells h.out.hd j hj)⟩
theorem popK_none (h : Hid (Kn w (wsT b ks :: ts) wx)) (hk : ks[k]? = some κ) (hl : κ.l = []) :
    Calls Tryz.prog 56 #[.pointer (some ⟨b, k * 6, none⟩)] wx fun e w' => e = .returned (.tuple #[(Value.int .i64 0), .bool false]) ∧ w' = wx := by
  obtain ⟨s1, s2, s3⟩ := h.out.hd.sh hk
  rw [hl] at s1
  have := pop_none s1
  rw [Sh.ptr_of s2] at this
  exact this
theorem stealK (h : Hid (Kn w (wsT b ks :: ts) wx)) (hk : ks[k]? = some κ) {l : List Int} {x : Int} (hl : κ.l = x :: l) :
    Calls Tryz.prog 58 #[.pointer (some ⟨b, k * 6, none⟩)] wx fun e w' => e = .returned (.tuple #[(Value.int .i64 x), .bool true]) ∧ ∃ r', Hid (Kn w (wsT b (ks.set k { κ with r := r', l := l }) :: ts) w') ∧ Hid (KeepsOthers wx w') := by
  obtain ⟨s1, s2, s3⟩ := h.out.hd.sh hk
  rw [hl] at s1
  refine (steal_sh s1 s2).mono ?_
  rintro e w' ⟨rfl, ht⟩
  obtain ⟨r', q1, q2, q3⟩ := h.out.hd.turn hk ht
  exact ⟨rfl, r', h.out.turn (t' := wsT b _) q1 q2 q3, keeps_only q2 (fun j hj => Ws.cells h.out.hd j hj)⟩
theorem stealK_none (h : Hid (Kn w (wsT b ks :: ts) wx)) (hk : ks[k]? = some κ) (hl : κ.l = []) :
    Calls Tryz.prog 58 #[.pointer (some ⟨b, k * 6, none⟩)] wx fun e w' => e = .returned (.tuple #[(Value.int .i64 0), .bool false]) ∧ w' = wx := by
  obtain ⟨s1, s2, s3⟩ := h.out.hd.sh hk
  rw [hl] at s1
  have := steal_none s1
  rw [Sh.ptr_of s2] at this
  exact this
/-- A worker's job, and whether it holds one, are laid. -/
theorem jobK (h : Kn w (wsT b ks :: ts) wx) (hk : ks[k]? = some κ) (x : Int) (t : Bool) : Kn w (wsT b (ks.set k { κ with x := x, h := t }) :: ts) ((wx.setCell ⟨b, k * 6 + 3, none⟩ (Value.int .i64 x)).setCell ⟨b, k * 6 + 4, none⟩ (.bool t)) := by
  have hlen := (List.getElem?_eq_some_iff.1 hk).1
  obtain ⟨q1, q2⟩ := h.hd.put hk { κ with x := x } (i := 3) (v := (Value.int .i64 x)) (by omega) rfl rfl rfl
  obtain ⟨q3, q4⟩ := q1.put (k := k) (κ := { κ with x := x }) (by simp [hlen]) { κ with x := x, h := t } (i := 4) (v := .bool t) (by omega) rfl rfl rfl
  rw [List.set_set] at q3 q4
  refine h.turn (t' := wsT b _) q3 ?_ (fun j hj => .inl (q2 j (q4 j hj)))
  exact ((Only.refl _ _).setCell (p := ⟨b, k * 6 + 3, none⟩) (.inl (.inl rfl)) _).setCell (p := ⟨b, k * 6 + 4, none⟩) (.inl (.inl rfl)) _
set_option maxHeartbeats 2000000 in
/-- It has one of its own. -/
theorem take_own (h : Hid (Kn w (wsT b ks :: boxT p (pcells b ks.length sb nx dn st v) :: ts) wx)) (hk : ks[k]? = some κ) {l : List Int} {x : Int} (hl : κ.l = l ++ [x]) (hn : ks.length ≤ 64) :
    Calls Tryz.prog 34 #[.pointer (some ⟨p, 0, none⟩), .int .i64 (k : Int)] wx fun e w' => e = .returned (.tuple #[]) ∧ ∃ r', Hid (Kn w (wsT b (ks.set k { κ with r := r', l := l, x := x, h := true }) :: boxT p (pcells b ks.length sb nx dn st v) :: ts) w') := by
  have hkl := (List.getElem?_eq_some_iff.1 hk).1
  obtain ⟨B1, hB1⟩ : ∃ B1, B1 = wx.heap.size + 1 := ⟨_, rfl⟩
  obtain ⟨W1, hW1⟩ : ∃ W1, W1 = (wx.alloc (.cells #[.pointer (some ⟨p, 0, none⟩)] 27)).alloc (.cells #[.pointer (some ⟨b, k * 6, none⟩)] 96) := ⟨_, rfl⟩
  have hb1 : Below wx.heap.size wx (wx.alloc (.cells #[.pointer (some ⟨p, 0, none⟩)] 27)) := (Below.refl _ _).alloc (Nat.le_refl _) _
  have K : Hid (Kn w (wsT b ks :: boxT B1 #[.pointer (some ⟨b, k * 6, none⟩)] :: boxT p (pcells b ks.length sb nx dn st v) :: ts) W1) := hide (by
    refine Kn.swap ((h.out.keep hb1).more (t' := boxT B1 #[.pointer (some ⟨b, k * 6, none⟩)]) (w' := W1) ?_ ?_ ?_)
    · rw [hW1]; exact (Below.refl _ _).alloc (Nat.le_refl _) _
    · rw [hW1]; exact Is.made _ _ _ (by simp [hB1])
    · intro j hj; cases hj; simp [hB1])
  obtain ⟨⟨c0, _⟩, _⟩ := six (Kn.hd2 h.out)
  have hpw := lt_of_cell c0
  have HGET : Hid (∀ κ', (ks.set k κ')[k]? = some κ') := hide (fun κ' => by simp [hkl])
  have HS : Hid (∀ r, (ks.set k { κ with r := r, l := l }).set k { κ with r := r, l := l, x := x, h := true } = ks.set k { κ with r := r, l := l, x := x, h := true }) := hide (fun r => by rw [List.set_set])
  have HPOP := hide (fun wy (q : Hid (Kn w (wsT b ks :: boxT B1 #[.pointer (some ⟨b, k * 6, none⟩)] :: boxT p (pcells b ks.length sb nx dn st v) :: ts) wy)) => popK q hk hl)
  have HFIN := hide (fun r wy (q : Kn w (wsT b (ks.set k { κ with r := r, l := l }) :: boxT B1 #[.pointer (some ⟨b, k * 6, none⟩)] :: boxT p (pcells b ks.length sb nx dn st v) :: ts) wy) => jobK q (k := k) (κ := { κ with r := r, l := l }) (by simp [hkl]) x true)
  have HWS : Hid (∀ r wy, Kn w (wsT b (ks.set k { κ with r := r, l := l }) :: boxT B1 #[.pointer (some ⟨b, k * 6, none⟩)] :: boxT p (pcells b ks.length sb nx dn st v) :: ts) wy → (∃ v3, wy.cell? ⟨b, k * 6 + 3, none⟩ = some v3) ∧ (∃ v4, wy.cell? ⟨b, k * 6 + 4, none⟩ = some v4) ∧ wy.frozen? ⟨b, k * 6 + 3, none⟩ = false ∧ wy.frozen? ⟨b, k * 6 + 4, none⟩ = false ∧ wy.cell? ⟨B1, 0, none⟩ = some (.pointer (some ⟨b, k * 6, none⟩)) ∧ ¬ b = B1) := hide (fun r wy q => by
    obtain ⟨⟨q3, q4, _⟩, q6⟩ := q.hd.at (k := k) (κ := { κ with r := r, l := l }) (by simp [hkl])
    exact ⟨⟨_, q3⟩, ⟨_, q4⟩, q6 _, q6 _, (Kn.hd2 q).cell 0 rfl, fun e => Kn.sep2 q b (.inl rfl) e⟩)
  have c1 : W1.cell? ⟨B1, 0, none⟩ = some (.pointer (some ⟨b, k * 6, none⟩)) := (Kn.hd2 K.out).cell 0 rfl
  have HB := hide hb1
  have hB1' : wx.heap.size + 1 = B1 := hB1.symm
  obtain ⟨m, hm⟩ : ∃ m, m = ks.length := ⟨_, rfl⟩
  rw [← hm] at c0 hkl hn K HPOP HFIN HWS ⊢
  have hki : (k : Int) < m := by omega
  clear h hk hl hB1 hb1 hm
  go_enter Tryz.func34, Tryz.ntmps34
  go_wp2
  rw [← hW1]
  clear hW1
  replace K := hide (K.out.keep (w' := W1.drew) (Below.refl _ _).drew)
  go_region_held3 (fun w' => w'.cell? ⟨B1, 0, none⟩ = some (.pointer (some ⟨b, k * 6, none⟩))) (first | assumption | go_keep)
    (first
    | (go_at_call 56; (with_reducible refine ((Hid.out HPOP) _ K).mono ?_); rintro e w5 ⟨rfl, r5, K5, -⟩; obtain ⟨⟨v3, d3⟩, ⟨v4, d4⟩, f3, f4, d1, hne⟩ := HWS.out _ _ K5.out; have HE := hide (HFIN.out _ _ K5.out)))
  go_simp
  have d1' : ((w5.setCell ⟨b, k * 6 + 3, none⟩ (Value.int .i64 x)).setCell ⟨b, k * 6 + 4, none⟩ (.bool true)).cell? ⟨B1, 0, none⟩ = some (.pointer (some ⟨b, k * 6, none⟩)) := (Kn.hd2 HE.out).cell 0 rfl
  have d4' := (HE.out.hd.at (k := k) (κ := { κ with r := r5, l := l, x := x, h := true }) (by rw [HS.out]; exact (HGET.out _))).1.2.1
  go_wp2
  refine bodyPost_ret (results_none rfl _ _ _) rfl ?_
  refine ⟨rfl, r5, ?_⟩
  have := HE.out
  rw [HS.out] at this
  exact this.sub (by simp)
/-- The state behind a look at its own row, in which there is nothing. -/
def gone (ks : List Wk) (k : Nat) (κ : Wk) : List Wk := ks.set k { κ with x := (0 : Int), h := false }
set_option maxRecDepth 100000 in
set_option maxHeartbeats 4000000 in
/-- It takes another's. -/
theorem take_steal (h : Hid (Kn w (wsT b ks :: boxT p (pcells b ks.length sb nx dn st v) :: ts) wx)) (hk : ks[k]? = some κ) (hl : κ.l = []) (hn : ks.length ≤ 64) (hst : st ≤ 1000000)
    {d : Nat} (hd : d + 1 < ks.length) {l : List Int} {x : Int} {κv : Wk} (h1 : ∀ j, j < d → Pool.rowAt (wl ks) ((k + (j + 1)) % ks.length) = []) (h2 : ks[(k + (d + 1)) % ks.length]? = some κv) (h3 : κv.l = x :: l) :
    Calls Tryz.prog 34 #[.pointer (some ⟨p, 0, none⟩), .int .i64 (k : Int)] wx fun e w' => e = .returned (.tuple #[]) ∧ ∃ r', Hid (Kn w (wsT b ((ks.set ((k + (d + 1)) % ks.length) { κv with r := r', l := l }).set k { κ with x := x, h := true }) :: boxT p (pcells b ks.length sb nx dn (st + 1) v) :: ts) w') := by
  have hkl := (List.getElem?_eq_some_iff.1 hk).1
  have hvk := mod_ne hkl hd
  obtain ⟨B1, hB1⟩ : ∃ B1, B1 = wx.heap.size + 1 := ⟨_, rfl⟩
  obtain ⟨W1, hW1⟩ : ∃ W1, W1 = (wx.alloc (.cells #[.pointer (some ⟨p, 0, none⟩)] 27)).alloc (.cells #[.pointer (some ⟨b, k * 6, none⟩)] 96) := ⟨_, rfl⟩
  have K : Hid (Kn w (wsT b ks :: boxT B1 #[.pointer (some ⟨b, k * 6, none⟩)] :: boxT wx.heap.size #[.pointer (some ⟨p, 0, none⟩)] :: boxT p (pcells b ks.length sb nx dn st v) :: ts) W1) := hide (by
    refine Kn.swap (Kn.more (wx := wx.alloc (.cells #[.pointer (some ⟨p, 0, none⟩)] 27)) (t' := boxT B1 #[.pointer (some ⟨b, k * 6, none⟩)]) (w' := W1) (Kn.swap (h.out.more (t' := boxT wx.heap.size #[.pointer (some ⟨p, 0, none⟩)]) ((Below.refl _ _).alloc (Nat.le_refl _) _) (Is.made _ _ _ rfl) (fun j hj => by cases hj; exact Nat.le_refl _))) ?_ ?_ ?_)
    · rw [hW1]; exact (Below.refl _ _).alloc (Nat.le_refl _) _
    · rw [hW1]; exact Is.made _ _ _ (by simp [hB1])
    · intro j hj; cases hj; simp [hB1])
  obtain ⟨⟨c0, _⟩, _⟩ := six (Kn.hd2 h.out)
  have hpw := lt_of_cell c0
  have HGET : Hid (∀ κ', (ks.set k κ')[k]? = some κ') := hide (fun κ' => by simp [hkl])
  have HPOP := hide (fun wy (q : Hid (Kn w (wsT b ks :: boxT B1 #[.pointer (some ⟨b, k * 6, none⟩)] :: boxT wx.heap.size #[.pointer (some ⟨p, 0, none⟩)] :: boxT p (pcells b ks.length sb nx dn st v) :: ts) wy)) => popK_none q hk hl)
  have HJ := hide (fun wy (q : Kn w (wsT b ks :: boxT B1 #[.pointer (some ⟨b, k * 6, none⟩)] :: boxT wx.heap.size #[.pointer (some ⟨p, 0, none⟩)] :: boxT p (pcells b ks.length sb nx dn st v) :: ts) wy) => jobK q hk (0 : Int) false)
  have HWS : Hid (∀ wy, Kn w (wsT b ks :: boxT B1 #[.pointer (some ⟨b, k * 6, none⟩)] :: boxT wx.heap.size #[.pointer (some ⟨p, 0, none⟩)] :: boxT p (pcells b ks.length sb nx dn st v) :: ts) wy → (∃ v3, wy.cell? ⟨b, k * 6 + 3, none⟩ = some v3) ∧ (∃ v4, wy.cell? ⟨b, k * 6 + 4, none⟩ = some v4) ∧ wy.frozen? ⟨b, k * 6 + 3, none⟩ = false ∧ wy.frozen? ⟨b, k * 6 + 4, none⟩ = false ∧ wy.cell? ⟨B1, 0, none⟩ = some (.pointer (some ⟨b, k * 6, none⟩)) ∧ ¬ b = B1) := hide (fun wy q => by
    obtain ⟨⟨q3, q4, _⟩, q6⟩ := q.hd.at hk
    exact ⟨⟨_, q3⟩, ⟨_, q4⟩, q6 _, q6 _, (Kn.hd2 q).cell 0 rfl, fun e => Kn.sep2 q b (.inl rfl) e⟩)
  have c1 : W1.cell? ⟨B1, 0, none⟩ = some (.pointer (some ⟨b, k * 6, none⟩)) := (Kn.hd2 K.out).cell 0 rfl
  have hB1' : wx.heap.size + 1 = B1 := hB1.symm
  obtain ⟨m, hm⟩ : ∃ m, m = ks.length := ⟨_, rfl⟩
  have HM := hide hm
  rw [← hm] at c0 hkl hn K HPOP HJ HWS h1 h2 hd hvk ⊢
  have hki : (k : Int) < m := by omega
  have H1 := hide h1
  have H2 := hide h2
  have H3 := hide h3
  have HK := hide hk
  have HLN := hide hl
  clear h hk hl hB1 hm h1 h2 h3
  refine (callsIn_wide (n := 3)).1 ?_
  refine callsIn_of_wp_marks Tryz.func34 rfl trivial ?_ rfl
  simp only [Tryz.ntmps34, List.size_toArray, List.length_cons, List.length_nil, Nat.reduceAdd, Nat.reduceSub, Array.replicate_succ, Array.replicate_zero, List.push_toArray, List.append_toArray, List.nil_append, List.cons_append]
  gi_wp2
  rw [← hW1]
  clear hW1
  obtain ⟨⟨v3, d3⟩, ⟨v4, d4⟩, f3, f4, d1, hne⟩ := HWS.out _ K.out
  replace K := hide (K.out.keep (w' := W1.drew) (Below.refl _ _).drew)
  have HE := hide (HJ.out _ K.out)
  refine wpIn_wide.2 ?_
  go_region_held3 (fun w' => w'.cell? ⟨B1, 0, none⟩ = some (.pointer (some ⟨b, k * 6, none⟩))) (first | assumption | go_keep)
    (first
    | (go_at_call 56; (with_reducible refine ((Hid.out HPOP) _ K).mono ?_); rintro e w5 ⟨rfl, rfl⟩))
  obtain ⟨W2, hW2⟩ : ∃ W2, W2 = ((W1.setCell ⟨b, k * 6 + 3, none⟩ (Value.int .i64 0)).setCell ⟨b, k * 6 + 4, none⟩ (.bool false)).drew := ⟨_, rfl⟩
  have HE2 : Hid (Kn w (wsT b (gone ks k κ) :: boxT B1 #[.pointer (some ⟨b, k * 6, none⟩)] :: boxT wx.heap.size #[.pointer (some ⟨p, 0, none⟩)] :: boxT p (pcells b m sb nx dn st v) :: ts) W2) := by rw [hW2]; exact HE
  have HGL : Hid ((gone ks k κ).length = m) := hide (by unfold gone; rw [List.length_set]; exact HM.out.symm)
  have HGK : Hid ((gone ks k κ)[k]? = some { κ with x := (0 : Int), h := false }) := hide (HGET.out _)
  have HGO : Hid (∀ j κj, j ≠ k → (gone ks k κ)[j]? = some κj → ks[j]? = some κj) := hide (fun j κj hj q => by unfold gone at q; rw [List.getElem?_set_ne (Ne.symm hj)] at q; exact q)
  have HGO2 : Hid (∀ j κj, j ≠ k → ks[j]? = some κj → (gone ks k κ)[j]? = some κj) := hide (fun j κj hj q => by unfold gone; rw [List.getElem?_set_ne (Ne.symm hj)]; exact q)
  have d4' : W2.cell? ⟨b, k * 6 + 4, none⟩ = some (.bool false) := (HE2.out.hd.at HGK.out).1.2.1
  have d1' : W2.cell? ⟨B1, 0, none⟩ = some (.pointer (some ⟨b, k * 6, none⟩)) := (Kn.hd2 HE2.out).cell 0 rfl
  have d0' : W2.cell? ⟨wx.heap.size, 0, none⟩ = some (.pointer (some ⟨p, 0, none⟩)) := (Kn.hd3 HE2.out).cell 0 rfl
  go_simp
  rw [← hW2]
  clear hW2 HE K HPOP HJ HWS c1 c0 d3 d4 f3 f4 d1 v3 v4
  gi_wp2_with (refine ⟨trivial, ?_⟩; gi_at_call 57; go_must ((with_reducible refine (callsIn_wide.2 (others_clo _ _ _)).mono ?_); rintro e w9 ⟨rfl, rfl⟩))
  obtain ⟨C, hC⟩ : ∃ C, C = W2.heap.size := ⟨_, rfl⟩
  obtain ⟨W3, hW3⟩ : ∃ W3, W3 = (W2.alloc (.cells #[.pointer (some ⟨p, 0, none⟩)] 27)).alloc (.cells #[.int .i64 (k : Int)] 3) := ⟨_, rfl⟩
  have HE3 : Hid (Kn w (wsT b (gone ks k κ) :: boxT (C + 1) #[.int .i64 (k : Int)] :: boxT C #[.pointer (some ⟨p, 0, none⟩)] :: boxT B1 #[.pointer (some ⟨b, k * 6, none⟩)] :: boxT wx.heap.size #[.pointer (some ⟨p, 0, none⟩)] :: boxT p (pcells b m sb nx dn st v) :: ts) W3) := hide (by
    refine Kn.swap (Kn.more (wx := W2.alloc (.cells #[.pointer (some ⟨p, 0, none⟩)] 27)) (t' := boxT (C + 1) #[.int .i64 (k : Int)]) (w' := W3) (Kn.swap (HE2.out.more (t' := boxT C #[.pointer (some ⟨p, 0, none⟩)]) ((Below.refl _ _).alloc (Nat.le_refl _) _) (Is.made _ _ _ hC) (fun j hj => by cases hj; omega))) ?_ ?_ ?_)
    · rw [hW3]; exact (Below.refl _ _).alloc (Nat.le_refl _) _
    · rw [hW3]; exact Is.made _ _ _ (by simp [hC])
    · intro j hj; cases hj; simp [hC])
  have HTS : Hid (∀ t ∈ ts, ∀ j, t.F j → j < W3.heap.size) := hide (fun t ht j hj => t.lt (HE3.out.get (t := t) (by simp [ht])) j hj)
  rw [← hW3, ← hC]
  clear hW3 hC
  let L := boxT (C + 1) #[.int .i64 (k : Int)] :: boxT C #[.pointer (some ⟨p, 0, none⟩)] :: boxT B1 #[.pointer (some ⟨b, k * 6, none⟩)] :: boxT wx.heap.size #[.pointer (some ⟨p, 0, none⟩)] :: boxT p (pcells b m sb nx dn st v) :: ts
  let L' := boxT (C + 1) #[.int .i64 (k : Int)] :: boxT C #[.pointer (some ⟨p, 0, none⟩)] :: boxT B1 #[.pointer (some ⟨b, k * 6, none⟩)] :: boxT wx.heap.size #[.pointer (some ⟨p, 0, none⟩)] :: boxT p (pcells b m sb nx dn (st + 1) v) :: ts
  have HOFF : Hid (∀ (ks' : List Wk) (st' : Nat) W V row, Kn w (wsT b ks' :: boxT (C + 1) #[.int .i64 (k : Int)] :: boxT C #[.pointer (some ⟨p, 0, none⟩)] :: boxT B1 #[.pointer (some ⟨b, k * 6, none⟩)] :: boxT wx.heap.size #[.pointer (some ⟨p, 0, none⟩)] :: boxT p (pcells b m sb nx dn st' v) :: ts) W → W.grownBy V row → (∀ q, row = some q → W3.heap.size ≤ q ∧ ∃ o : Obj, W.heap[q]? = some o ∧ o.isCells = false) → Kn w (wsT b ks' :: boxT (C + 1) #[.int .i64 (k : Int)] :: boxT C #[.pointer (some ⟨p, 0, none⟩)] :: boxT B1 #[.pointer (some ⟨b, k * 6, none⟩)] :: boxT wx.heap.size #[.pointer (some ⟨p, 0, none⟩)] :: boxT p (pcells b m sb nx dn st' v) :: ts) V) := hide (fun ks' st' W V row hK hg hr => by
    refine Kn.off hK HE3.out.below.size hg hr (fun t ht hP j hj => ?_)
    simp only [List.mem_cons] at ht
    rcases ht with rfl | rfl | rfl | rfl | rfl | rfl | ht
    · exact .inr (Ws.cells hP j hj)
    · cases hj; exact .inr (is_cells hP)
    · cases hj; exact .inr (is_cells hP)
    · cases hj; exact .inr (is_cells hP)
    · cases hj; exact .inr (is_cells hP)
    · cases hj; exact .inr (is_cells hP)
    · exact .inl (HTS.out t ht j hj))
  have hst := othersc_led C (C + 1) p b k m hkl hn (fun pre W => pre.length ≤ d ∧ Kn w (wsT b (gone ks k κ) :: L) W) (fun pre W h => ⟨(Kn.hd3 h.2).cell 0 rfl, (Kn.hd2 h.2).cell 0 rfl, (six (Kn.hd6 h.2)).1.1⟩)
  refine range_led (n := 3) rfl (by omega) rfl trivial (enters_of Tryz.func77 (by kernel_rfl) rfl) _ (fun c _ W => c = .ret ∧ ∃ r', Kn w (wsT b ((ks.set ((k + (d + 1)) % m) { κv with r := r', l := l }).set k { κ with x := x, h := true }) :: L') W) hst (fun _ => rfl) ?hI ?hIx ⟨Nat.zero_le _, HE3.out⟩
    (fun y => { tmps := #[.pointer (some ⟨p, 0, none⟩), .int .i64 (k : Int), .pointer (some ⟨wx.heap.size, 0, none⟩), undef, .pointer (some ⟨B1, 0, none⟩), .pointer (some ⟨b, ((k + (y.toNat + 1)) % m) * 6, none⟩), .pointer (some ⟨p, 0, none⟩), .pointer (some ⟨p, 0, none⟩), .pointer (some ⟨p, 0, none⟩), .slice (some ⟨b, 0, none⟩) m m, .int .i64 (k : Int), .pointer (some ⟨b, k * 6, none⟩), .tuple #[(Value.int .i64 0), .bool false], .pointer (some ⟨b, k * 6, none⟩), .pointer (some ⟨b, k * 6, none⟩), .pointer (some ⟨b, k * 6, none⟩), .pointer (some ⟨b, k * 6, none⟩), .pointer (some ⟨b, k * 6, none⟩), .tuple #[(Value.int .i64 0), .bool false], (Value.int .i64 0), .bool false, .pointer (some ⟨b, k * 6, none⟩), .pointer (some ⟨b, k * 6 + 3, none⟩), .pointer (some ⟨b, k * 6, none⟩), .pointer (some ⟨b, k * 6 + 4, none⟩), .pointer (some ⟨b, k * 6, none⟩), .pointer (some ⟨b, k * 6, none⟩), .pointer (some ⟨b, k * 6 + 4, none⟩), .bool false, .pointer (some ⟨p, 0, none⟩), .int .i64 (k : Int), .func (.func 77) #[] #[.pointer (some ⟨C, 0, none⟩), .pointer (some ⟨C + 1, 0, none⟩)], .pointer (some ⟨b, ((k + (y.toNat + 1)) % m) * 6, none⟩), undef, undef, undef, undef, undef, undef, undef, undef, undef, undef, undef, undef, undef, undef, undef, undef, undef, undef, undef, undef, undef, undef, undef, undef], defers := [] }) ?assign ?body ?done ?stop
  case hI =>
    rintro pre A V row ⟨h1, hK⟩ hg hr
    exact ⟨h1, HOFF.out _ _ _ _ _ hK hg hr⟩
  case hIx =>
    rintro c pre A V row ⟨h1, r', hK⟩ hg hr
    exact ⟨h1, r', HOFF.out _ _ _ _ _ hK hg hr⟩
  case assign =>
    intro f y W K hK
    simp only [encO]
    gi_wp2
    exact hK
  case body =>
    rintro f pre y W ⟨hpl, hK⟩ ⟨j, rfl, hj, rfl⟩
    rw [upTo_length] at hpl
    simp only [Int.toNat_natCast]
    have HK9 := hide hK
    have hvj := mod_ne hkl hj
    have HWC : Hid ((∃ v3, W.cell? ⟨b, k * 6 + 3, none⟩ = some v3) ∧ (∃ v4, W.cell? ⟨b, k * 6 + 4, none⟩ = some v4) ∧ W.frozen? ⟨b, k * 6 + 3, none⟩ = false ∧ W.frozen? ⟨b, k * 6 + 4, none⟩ = false ∧ W.cell? ⟨B1, 0, none⟩ = some (.pointer (some ⟨b, k * 6, none⟩))) := hide (by
      obtain ⟨⟨q3, q4, _⟩, q6⟩ := hK.hd.at HGK.out
      exact ⟨⟨_, q3⟩, ⟨_, q4⟩, q6 _, q6 _, (Kn.hd4 hK).cell 0 rfl⟩)
    have HUP : Hid ((upTo j ++ [(j : Int)]).length = j + 1) := hide (by rw [List.length_append, upTo_length]; rfl)
    obtain ⟨⟨v3, d3⟩, ⟨v4, d4⟩, f3, f4, d1⟩ := HWC.out
    by_cases hjd : j < d
    · have hrow := H1.out j hjd
      obtain ⟨q, hq⟩ : ∃ q, q = (k + (j + 1)) % m := ⟨_, rfl⟩
      have hqm : q < m := by rw [hq]; exact Nat.mod_lt _ (by omega)
      rw [← hq] at hrow hvj ⊢
      obtain ⟨κj, hκj⟩ : ∃ κj, ks[q]? = some κj := ⟨ks[q]'(by rw [← HM.out]; exact hqm), by simp [← HM.out, hqm]⟩
      have hlj : κj.l = [] := by
        unfold Pool.rowAt at hrow
        rw [wl_at hκj] at hrow
        exact hrow
      have HST := hide (fun wy (z : Hid (Kn w (wsT b (gone ks k κ) :: L) wy)) => stealK_none z (HGO2.out q κj hvj hκj) hlj)
      have KD : Hid (Kn w (wsT b (gone ks k κ) :: L) W.drew) := hide (hK.keep (Below.refl _ _).drew)
      have HFIN : Hid (Kn w (wsT b (gone ks k κ) :: L) ((W.setCell ⟨b, k * 6 + 3, none⟩ (Value.int .i64 0)).setCell ⟨b, k * 6 + 4, none⟩ (.bool false)).drew) := hide (by
        have := jobK KD.out HGK.out (0 : Int) false
        have e : (gone ks k κ).set k { κ with x := (0 : Int), h := false } = gone ks k κ := by unfold gone; rw [List.set_set]
        rw [← e]
        exact this)
      clear hK hq hqm hκj hlj hrow hvj HWC
      gi_wp2
      refine Round.wpIn_round_held (S := fun w' => w'.cell? ⟨B1, 0, none⟩ = some (.pointer (some ⟨b, k * 6, none⟩))) (by kernel_rfl) (by kernel_rfl) ?hno (by exact d1) (fun hHeld => ?_)
      case hno =>
        rintro ⟨a', w', z⟩
        exact z
      refine wpAnyH_take (i := 0) (v := ?_) rfl (by kernel_rfl) (by kernel_rfl) (by kernel_rfl) (fun _ _ _ h => h) (Or.inl ⟨by rfl, ?_⟩) (by assumption) ?_
      rotate_left
      · (intro w hSw; (try dsimp only at hSw); go_simp; try with_reducible rfl)
      try simp only [List.getElem_toArray, List.getElem_cons_succ, List.getElem_cons_zero, Act.put, List.setIfInBounds_toArray, List.set_cons_zero, List.set_cons_succ]
      refine wpAnyH_take (i := 1) (v := ?_) rfl (by kernel_rfl) (by kernel_rfl) (by kernel_rfl) (fun _ _ _ h => h) (Or.inl ⟨by rfl, ?_⟩) (by assumption) ?_
      rotate_left
      · (intro w hSw; (try dsimp only at hSw); go_simp; try with_reducible rfl)
      try simp only [List.getElem_toArray, List.getElem_cons_succ, List.getElem_cons_zero, Act.put, List.setIfInBounds_toArray, List.set_cons_zero, List.set_cons_succ]
      refine wpAnyH_take (i := 2) (v := ?_) rfl (by kernel_rfl) (by kernel_rfl) (by kernel_rfl) (fun _ _ _ h => h) (Or.inl ⟨by rfl, ?_⟩) (by assumption) ?_
      rotate_left
      · (intro w hSw; (try dsimp only at hSw); go_simp; try with_reducible rfl)
      try simp only [List.getElem_toArray, List.getElem_cons_succ, List.getElem_cons_zero, Act.put, List.setIfInBounds_toArray, List.set_cons_zero, List.set_cons_succ]
      refine wpAnyH_take (i := 3) (v := ?_) rfl (by kernel_rfl) (by kernel_rfl) (by kernel_rfl) (fun _ _ _ h => h) (Or.inl ⟨by rfl, ?_⟩) (by assumption) ?_
      rotate_left
      · (intro w hSw; (try dsimp only at hSw); go_simp; try with_reducible rfl)
      try simp only [List.getElem_toArray, List.getElem_cons_succ, List.getElem_cons_zero, Act.put, List.setIfInBounds_toArray, List.set_cons_zero, List.set_cons_succ]
      refine wpAnyH_take (i := 4) (v := ?_) rfl (by kernel_rfl) (by kernel_rfl) (by kernel_rfl) (fun _ _ _ h => h) (Or.inl ⟨by rfl, ?_⟩) (by assumption) ?_
      rotate_left
      · (intro w hSw; (try dsimp only at hSw); go_simp; try with_reducible rfl)
      try simp only [List.getElem_toArray, List.getElem_cons_succ, List.getElem_cons_zero, Act.put, List.setIfInBounds_toArray, List.set_cons_zero, List.set_cons_succ]
      refine wpAnyH_ready (rs := [5]) (by kernel_rfl) (by simp) ?_
      refine AllReadyH.cons (by rfl) (fun KK hKK => ?_) AllReadyH.nil
      simp only [List.getElem_toArray, List.getElem_cons_succ, List.getElem_cons_zero]
      go_simp
      go_at_call 58
      (with_reducible refine ((Hid.out HST) _ KD).mono ?_)
      rintro e w5 ⟨rfl, rfl⟩
      refine hKK.out _ _ (by exact hHeld) (fun hHeld2 => ?_)
      clear hKK KK hHeld2
      try simp only [List.getElem_toArray, List.getElem_cons_succ, List.getElem_cons_zero, Act.put, List.setIfInBounds_toArray, List.set_cons_zero, List.set_cons_succ]
      refine wpAnyH_take (i := 6) (v := ?_) rfl (by kernel_rfl) (by kernel_rfl) (by kernel_rfl) (fun _ _ _ h => h) (Or.inl ⟨by rfl, ?_⟩) (by assumption) ?_
      rotate_left
      · (intro w hSw; (try dsimp only at hSw); go_simp; try with_reducible rfl)
      try simp only [List.getElem_toArray, List.getElem_cons_succ, List.getElem_cons_zero, Act.put, List.setIfInBounds_toArray, List.set_cons_zero, List.set_cons_succ]
      refine wpAnyH_take (i := 7) (v := ?_) rfl (by kernel_rfl) (by kernel_rfl) (by kernel_rfl) (fun _ _ _ h => h) (Or.inl ⟨by rfl, ?_⟩) (by assumption) ?_
      rotate_left
      · (intro w hSw; (try dsimp only at hSw); go_simp; try with_reducible rfl)
      try simp only [List.getElem_toArray, List.getElem_cons_succ, List.getElem_cons_zero, Act.put, List.setIfInBounds_toArray, List.set_cons_zero, List.set_cons_succ]
      refine wpAnyH_take (i := 8) (v := ?_) rfl (by kernel_rfl) (by kernel_rfl) (by kernel_rfl) (fun _ _ _ h => h) (Or.inl ⟨by rfl, ?_⟩) (by assumption) ?_
      rotate_left
      · (intro w hSw; (try dsimp only at hSw); go_simp; try with_reducible rfl)
      try simp only [List.getElem_toArray, List.getElem_cons_succ, List.getElem_cons_zero, Act.put, List.setIfInBounds_toArray, List.set_cons_zero, List.set_cons_succ]
      refine wpAnyH_take (i := 9) (v := ?_) rfl (by kernel_rfl) (by kernel_rfl) (by kernel_rfl) (fun _ _ _ h => h) (Or.inl ⟨by rfl, ?_⟩) (by assumption) ?_
      rotate_left
      · (intro w hSw; (try dsimp only at hSw); go_simp; try with_reducible rfl)
      try simp only [List.getElem_toArray, List.getElem_cons_succ, List.getElem_cons_zero, Act.put, List.setIfInBounds_toArray, List.set_cons_zero, List.set_cons_succ]
      refine wpAnyH_take (i := 10) (v := ?_) rfl (by kernel_rfl) (by kernel_rfl) (by kernel_rfl) (fun _ _ _ h => h) (Or.inl ⟨by rfl, ?_⟩) (by assumption) ?_
      rotate_left
      · (intro w hSw; (try dsimp only at hSw); go_simp; try with_reducible rfl)
      try simp only [List.getElem_toArray, List.getElem_cons_succ, List.getElem_cons_zero, Act.put, List.setIfInBounds_toArray, List.set_cons_zero, List.set_cons_succ]
      refine wpAnyH_ready (rs := [11]) (by kernel_rfl) (by simp) ?_
      refine AllReadyH.cons (by rfl) (fun KK hKK => ?_) AllReadyH.nil
      simp only [List.getElem_toArray, List.getElem_cons_succ, List.getElem_cons_zero]
      go_simp
      refine hKK.out _ _ (by go_keep) (fun hHeld3 => ?_)
      clear hKK KK
      try simp only [List.getElem_toArray, List.getElem_cons_succ, List.getElem_cons_zero, Act.put, List.setIfInBounds_toArray, List.set_cons_zero, List.set_cons_succ]
      refine wpAnyH_take (i := 12) (v := ?_) rfl (by kernel_rfl) (by kernel_rfl) (by kernel_rfl) (fun _ _ _ h => h) (Or.inl ⟨by rfl, ?_⟩) (by assumption) ?_
      rotate_left
      · (intro w hSw; (try dsimp only at hSw); go_simp; try with_reducible rfl)
      try simp only [List.getElem_toArray, List.getElem_cons_succ, List.getElem_cons_zero, Act.put, List.setIfInBounds_toArray, List.set_cons_zero, List.set_cons_succ]
      refine wpAnyH_take (i := 13) (v := ?_) rfl (by kernel_rfl) (by kernel_rfl) (by kernel_rfl) (fun _ _ _ h => h) (Or.inl ⟨by rfl, ?_⟩) (by assumption) ?_
      rotate_left
      · (intro w hSw; (try dsimp only at hSw); go_simp; try with_reducible rfl)
      try simp only [List.getElem_toArray, List.getElem_cons_succ, List.getElem_cons_zero, Act.put, List.setIfInBounds_toArray, List.set_cons_zero, List.set_cons_succ]
      refine wpAnyH_ready (rs := [14]) (by kernel_rfl) (by simp) ?_
      refine AllReadyH.cons (by rfl) (fun KK hKK => ?_) AllReadyH.nil
      simp only [List.getElem_toArray, List.getElem_cons_succ, List.getElem_cons_zero]
      go_simp
      refine hKK.out _ _ (by go_keep) (fun hHeld4 => ?_)
      clear hKK KK
      try simp only [List.getElem_toArray, List.getElem_cons_succ, List.getElem_cons_zero, Act.put, List.setIfInBounds_toArray, List.set_cons_zero, List.set_cons_succ]
      refine wpAnyH_done (by kernel_rfl) ?_ _
      have HKV : Hid (KeepsOthers W ((W.setCell ⟨b, k * 6 + 3, none⟩ (Value.int .i64 0)).setCell ⟨b, k * 6 + 4, none⟩ (.bool false)).drew) := hide (keeps_drew ((KeepsOthers.setCell W _ _).trans (KeepsOthers.setCell _ _ _)))
      obtain ⟨V, hV⟩ : ∃ V, V = ((W.setCell ⟨b, k * 6 + 3, none⟩ (Value.int .i64 0)).setCell ⟨b, k * 6 + 4, none⟩ (.bool false)).drew := ⟨_, rfl⟩
      rw [← hV] at HFIN HKV
      have g4 : V.cell? ⟨b, k * 6 + 4, none⟩ = some (.bool false) := (HFIN.out.hd.at HGK.out).1.2.1
      have g1 : V.cell? ⟨B1, 0, none⟩ = some (.pointer (some ⟨b, k * 6, none⟩)) := (Kn.hd4 HFIN.out).cell 0 rfl
      go_simp
      rw [← hV]
      clear hV hHeld hHeld3 hHeld4 d3 d4 f3 f4 d1 KD HST
      gi_wp2
      exact ⟨HKV.out.from _, by rw [HUP.out]; omega, HFIN.out⟩
    · obtain rfl : j = d := by omega
      have h2 := H2.out
      obtain ⟨q, hq⟩ : ∃ q, q = (k + (j + 1)) % m := ⟨_, rfl⟩
      rw [← hq] at h2 hvj ⊢
      have HST := hide (fun wy (z : Hid (Kn w (wsT b (gone ks k κ) :: L) wy)) => stealK z (HGO2.out q κv hvj h2) H3.out)
      have KD : Hid (Kn w (wsT b (gone ks k κ) :: L) W.drew) := hide (hK.keep (Below.refl _ _).drew)
      have hKo : Hid (KeepsOthers W W.drew) := hide (keeps_drew (KeepsOthers.refl W))
      have hql : q < ks.length := (List.getElem?_eq_some_iff.1 h2).1
      have HG2 : Hid (∀ r, ((gone ks k κ).set q { κv with r := r, l := l })[k]? = some { κ with x := (0 : Int), h := false }) := hide (fun r => by rw [List.getElem?_set_ne hvj]; exact HGK.out)
      have HEQ : Hid (∀ r, ((gone ks k κ).set q { κv with r := r, l := l }).set k { κ with x := x, h := true } = (ks.set q { κv with r := r, l := l }).set k { κ with x := x, h := true }) := hide (fun r => by
        unfold gone
        rw [List.set_comm _ _ hvj.symm, List.set_set])
      have HJ2 := hide (fun r wy (z : Kn w (wsT b ((gone ks k κ).set q { κv with r := r, l := l }) :: L) wy) => jobK z (HG2.out r) x true)
      have HWC2 : Hid (∀ r wy, Kn w (wsT b ((gone ks k κ).set q { κv with r := r, l := l }) :: L) wy → (∃ v3, wy.cell? ⟨b, k * 6 + 3, none⟩ = some v3) ∧ (∃ v4, wy.cell? ⟨b, k * 6 + 4, none⟩ = some v4) ∧ wy.frozen? ⟨b, k * 6 + 3, none⟩ = false ∧ wy.frozen? ⟨b, k * 6 + 4, none⟩ = false ∧ wy.cell? ⟨B1, 0, none⟩ = some (.pointer (some ⟨b, k * 6, none⟩))) := hide (fun r wy z => by
        obtain ⟨⟨q3, q4, _⟩, q6⟩ := z.hd.at (HG2.out r)
        exact ⟨⟨_, q3⟩, ⟨_, q4⟩, q6 _, q6 _, (Kn.hd4 z).cell 0 rfl⟩)
      clear hK hq hvj HWC h2 hql d3 d4 f3 f4 v3 v4
      gi_wp2
      refine Round.wpIn_round_held (S := fun w' => w'.cell? ⟨B1, 0, none⟩ = some (.pointer (some ⟨b, k * 6, none⟩))) (by kernel_rfl) (by kernel_rfl) ?hno (by exact d1) (fun hHeld => ?_)
      case hno =>
        rintro ⟨a', w', z⟩
        exact z
      refine wpAnyH_take (i := 0) (v := ?_) rfl (by kernel_rfl) (by kernel_rfl) (by kernel_rfl) (fun _ _ _ h => h) (Or.inl ⟨by rfl, ?_⟩) (by assumption) ?_
      rotate_left
      · (intro w hSw; (try dsimp only at hSw); go_simp; try with_reducible rfl)
      try simp only [List.getElem_toArray, List.getElem_cons_succ, List.getElem_cons_zero, Act.put, List.setIfInBounds_toArray, List.set_cons_zero, List.set_cons_succ]
      refine wpAnyH_take (i := 1) (v := ?_) rfl (by kernel_rfl) (by kernel_rfl) (by kernel_rfl) (fun _ _ _ h => h) (Or.inl ⟨by rfl, ?_⟩) (by assumption) ?_
      rotate_left
      · (intro w hSw; (try dsimp only at hSw); go_simp; try with_reducible rfl)
      try simp only [List.getElem_toArray, List.getElem_cons_succ, List.getElem_cons_zero, Act.put, List.setIfInBounds_toArray, List.set_cons_zero, List.set_cons_succ]
      refine wpAnyH_take (i := 2) (v := ?_) rfl (by kernel_rfl) (by kernel_rfl) (by kernel_rfl) (fun _ _ _ h => h) (Or.inl ⟨by rfl, ?_⟩) (by assumption) ?_
      rotate_left
      · (intro w hSw; (try dsimp only at hSw); go_simp; try with_reducible rfl)
      try simp only [List.getElem_toArray, List.getElem_cons_succ, List.getElem_cons_zero, Act.put, List.setIfInBounds_toArray, List.set_cons_zero, List.set_cons_succ]
      refine wpAnyH_take (i := 3) (v := ?_) rfl (by kernel_rfl) (by kernel_rfl) (by kernel_rfl) (fun _ _ _ h => h) (Or.inl ⟨by rfl, ?_⟩) (by assumption) ?_
      rotate_left
      · (intro w hSw; (try dsimp only at hSw); go_simp; try with_reducible rfl)
      try simp only [List.getElem_toArray, List.getElem_cons_succ, List.getElem_cons_zero, Act.put, List.setIfInBounds_toArray, List.set_cons_zero, List.set_cons_succ]
      refine wpAnyH_take (i := 4) (v := ?_) rfl (by kernel_rfl) (by kernel_rfl) (by kernel_rfl) (fun _ _ _ h => h) (Or.inl ⟨by rfl, ?_⟩) (by assumption) ?_
      rotate_left
      · (intro w hSw; (try dsimp only at hSw); go_simp; try with_reducible rfl)
      try simp only [List.getElem_toArray, List.getElem_cons_succ, List.getElem_cons_zero, Act.put, List.setIfInBounds_toArray, List.set_cons_zero, List.set_cons_succ]
      refine wpAnyH_ready (rs := [5]) (by kernel_rfl) (by simp) ?_
      refine AllReadyH.cons (by rfl) (fun KK hKK => ?_) AllReadyH.nil
      simp only [List.getElem_toArray, List.getElem_cons_succ, List.getElem_cons_zero]
      go_simp
      go_at_call 58
      (with_reducible refine ((Hid.out HST) _ KD).mono ?_)
      rintro e w5 ⟨rfl, r5, K5, O5⟩
      obtain ⟨⟨v3, d3⟩, ⟨v4, d4⟩, f3, f4, e1⟩ := HWC2.out _ _ K5.out
      have HFIN := hide (HJ2.out _ _ K5.out)
      rw [HEQ.out] at HFIN
      replace O5 := hide (hKo.out.trans O5.out)
      refine hKK.out _ _ (by exact e1) (fun hHeld2 => ?_)
      clear hKK KK hHeld
      try simp only [List.getElem_toArray, List.getElem_cons_succ, List.getElem_cons_zero, Act.put, List.setIfInBounds_toArray, List.set_cons_zero, List.set_cons_succ]
      refine wpAnyH_take (i := 6) (v := ?_) rfl (by kernel_rfl) (by kernel_rfl) (by kernel_rfl) (fun _ _ _ h => h) (Or.inl ⟨by rfl, ?_⟩) (by assumption) ?_
      rotate_left
      · (intro w hSw; (try dsimp only at hSw); go_simp; try with_reducible rfl)
      try simp only [List.getElem_toArray, List.getElem_cons_succ, List.getElem_cons_zero, Act.put, List.setIfInBounds_toArray, List.set_cons_zero, List.set_cons_succ]
      refine wpAnyH_take (i := 7) (v := ?_) rfl (by kernel_rfl) (by kernel_rfl) (by kernel_rfl) (fun _ _ _ h => h) (Or.inl ⟨by rfl, ?_⟩) (by assumption) ?_
      rotate_left
      · (intro w hSw; (try dsimp only at hSw); go_simp; try with_reducible rfl)
      try simp only [List.getElem_toArray, List.getElem_cons_succ, List.getElem_cons_zero, Act.put, List.setIfInBounds_toArray, List.set_cons_zero, List.set_cons_succ]
      refine wpAnyH_take (i := 8) (v := ?_) rfl (by kernel_rfl) (by kernel_rfl) (by kernel_rfl) (fun _ _ _ h => h) (Or.inl ⟨by rfl, ?_⟩) (by assumption) ?_
      rotate_left
      · (intro w hSw; (try dsimp only at hSw); go_simp; try with_reducible rfl)
      try simp only [List.getElem_toArray, List.getElem_cons_succ, List.getElem_cons_zero, Act.put, List.setIfInBounds_toArray, List.set_cons_zero, List.set_cons_succ]
      refine wpAnyH_take (i := 9) (v := ?_) rfl (by kernel_rfl) (by kernel_rfl) (by kernel_rfl) (fun _ _ _ h => h) (Or.inl ⟨by rfl, ?_⟩) (by assumption) ?_
      rotate_left
      · (intro w hSw; (try dsimp only at hSw); go_simp; try with_reducible rfl)
      try simp only [List.getElem_toArray, List.getElem_cons_succ, List.getElem_cons_zero, Act.put, List.setIfInBounds_toArray, List.set_cons_zero, List.set_cons_succ]
      refine wpAnyH_take (i := 10) (v := ?_) rfl (by kernel_rfl) (by kernel_rfl) (by kernel_rfl) (fun _ _ _ h => h) (Or.inl ⟨by rfl, ?_⟩) (by assumption) ?_
      rotate_left
      · (intro w hSw; (try dsimp only at hSw); go_simp; try with_reducible rfl)
      try simp only [List.getElem_toArray, List.getElem_cons_succ, List.getElem_cons_zero, Act.put, List.setIfInBounds_toArray, List.set_cons_zero, List.set_cons_succ]
      refine wpAnyH_ready (rs := [11]) (by kernel_rfl) (by simp) ?_
      refine AllReadyH.cons (by rfl) (fun KK hKK => ?_) AllReadyH.nil
      simp only [List.getElem_toArray, List.getElem_cons_succ, List.getElem_cons_zero]
      go_simp
      refine hKK.out _ _ (by go_keep) (fun hHeld3 => ?_)
      clear hKK KK
      try simp only [List.getElem_toArray, List.getElem_cons_succ, List.getElem_cons_zero, Act.put, List.setIfInBounds_toArray, List.set_cons_zero, List.set_cons_succ]
      refine wpAnyH_take (i := 12) (v := ?_) rfl (by kernel_rfl) (by kernel_rfl) (by kernel_rfl) (fun _ _ _ h => h) (Or.inl ⟨by rfl, ?_⟩) (by assumption) ?_
      rotate_left
      · (intro w hSw; (try dsimp only at hSw); go_simp; try with_reducible rfl)
      try simp only [List.getElem_toArray, List.getElem_cons_succ, List.getElem_cons_zero, Act.put, List.setIfInBounds_toArray, List.set_cons_zero, List.set_cons_succ]
      refine wpAnyH_take (i := 13) (v := ?_) rfl (by kernel_rfl) (by kernel_rfl) (by kernel_rfl) (fun _ _ _ h => h) (Or.inl ⟨by rfl, ?_⟩) (by assumption) ?_
      rotate_left
      · (intro w hSw; (try dsimp only at hSw); go_simp; try with_reducible rfl)
      try simp only [List.getElem_toArray, List.getElem_cons_succ, List.getElem_cons_zero, Act.put, List.setIfInBounds_toArray, List.set_cons_zero, List.set_cons_succ]
      refine wpAnyH_ready (rs := [14]) (by kernel_rfl) (by simp) ?_
      refine AllReadyH.cons (by rfl) (fun KK hKK => ?_) AllReadyH.nil
      simp only [List.getElem_toArray, List.getElem_cons_succ, List.getElem_cons_zero]
      go_simp
      refine hKK.out _ _ (by go_keep) (fun hHeld4 => ?_)
      clear hKK KK
      try simp only [List.getElem_toArray, List.getElem_cons_succ, List.getElem_cons_zero, Act.put, List.setIfInBounds_toArray, List.set_cons_zero, List.set_cons_succ]
      refine wpAnyH_done (by kernel_rfl) ?_ _
      have HKV : Hid (KeepsOthers W ((w5.setCell ⟨b, k * 6 + 3, none⟩ (Value.int .i64 x)).setCell ⟨b, k * 6 + 4, none⟩ (.bool true))) := hide (O5.out.trans ((KeepsOthers.setCell w5 _ _).trans (KeepsOthers.setCell _ _ _)))
      obtain ⟨V, hV⟩ : ∃ V, V = ((w5.setCell ⟨b, k * 6 + 3, none⟩ (Value.int .i64 x)).setCell ⟨b, k * 6 + 4, none⟩ (.bool true)) := ⟨_, rfl⟩
      rw [← hV] at HFIN HKV
      have g4 : V.cell? ⟨b, k * 6 + 4, none⟩ = some (.bool true) := (HFIN.out.hd.at (k := k) (κ := { κ with x := x, h := true }) (by rw [List.getElem?_set_self (by rw [List.length_set, ← HM.out]; exact hkl)])).1.2.1
      have g1 : V.cell? ⟨B1, 0, none⟩ = some (.pointer (some ⟨b, k * 6, none⟩)) := (Kn.hd4 HFIN.out).cell 0 rfl
      have g0 : V.cell? ⟨wx.heap.size, 0, none⟩ = some (.pointer (some ⟨p, 0, none⟩)) := (Kn.hd5 HFIN.out).cell 0 rfl
      have gp : V.cell? ⟨p, 4, none⟩ = some (.int .i64 (st : Int)) := (Kn.hd6 HFIN.out).cell 4 rfl
      have gf := (Kn.hd6 HFIN.out).frozen 4
      go_simp
      rw [← hV]
      clear hV hHeld2 hHeld3 hHeld4 d3 d4 f3 f4 e1 d1 KD HST K5
      gi_wp2
      refine ⟨((HKV.out.trans (KeepsOthers.setCell V _ _))).from _, rfl, r5, ?_⟩
      refine Kn.turnAt (pre := [_, _, _, _, _]) (t := boxT p (pcells b m sb nx dn st v)) (t' := boxT p (pcells b m sb nx dn (st + 1) v)) HFIN.out ?_ ((Only.refl _ _).put 4 _) (fun _ e => .inl e)
      have := (Kn.hd6 HFIN.out).set 4 (.int .i64 ((st : Int) + 1))
      refine this.eq ?_
      simp [pcells]
  case done =>
    rintro D xs W hD rfl ⟨h1, _⟩ _
    rw [upTo_length] at h1
    omega
  case stop =>
    rintro D cc pre W hD _ ⟨rfl, r', hK⟩ hM
    have HK8 := hide hK
    have HM8 := hide hM
    clear hK hM
    gi_wp2
    refine ⟨by simp, .inl ⟨_, _, rfl, run_takeDeferred HM8.out, ?_⟩⟩
    refine ⟨_, results_none rfl _ _ _, rfl, r', ?_⟩
    have := HOFF.out _ _ _ _ _ HK8.out (grownBy_putObj' W D (.deferred none)) (fun q e => by cases e; exact ⟨hD, _, HM8.out, rfl⟩)
    exact this.sub (.cons_cons _ (.cons _ (.cons _ (.cons _ (.cons _ (List.Sublist.refl _))))))
end
end Go.Proofs.YtkjhamcmhijhgaaGreat.DqI

/- A worker does its job. -/
namespace Go.Proofs.YtkjhamcmhijhgaaGreat.DqI
open Go.RowKit Go.Proofs.YtkjhamcmhijhgaaGreat.Dig Go.Proofs.YtkjhamcmhijhgaaGreat.Mem Go.Proofs.YtkjhamcmhijhgaaGreat.Dq Go.Proofs.YtkjhamcmhijhgaaGreat.Bit Go.Proofs.YtkjhamcmhijhgaaGreat.Thing Go.Proofs.YtkjhamcmhijhgaaGreat.Pool Go.Shelf
set_option linter.unusedVariables false
set_option linter.unusedSimpArgs false

@[go_sem] theorem eqGuard_nilFn (t : TypeId) (x y : Operand) (v : Value) : eqGuard .neq t x y v .nilFunc = pure () := by
  cases v <;> rfl
theorem neq_nilFn (W : World) : (binOp .neq 41 .nilFunc .nilFunc).run Tryz.prog W = .ok (.bool false) W := by kernel_rfl
theorem neq_someFn (f : Nat) (lb : Array Value) (W : World) : (binOp .neq 41 (.func (.func f) #[] lb) .nilFunc).run Tryz.prog W = .ok (.bool true) W := by kernel_rfl
/-- A row of jobs that is read. -/
def RowE (w : World) (a : Option Addr) (l : List Int) : Prop := ∀ i, i < l.length → ∃ b off, a = some ⟨b, off, none⟩ ∧ w.cell? ⟨b, off + i, none⟩ = some (Value.int .i64 (l.getD i (0 : Int)))
def rowE (a : Option Addr) (l : List Int) : Th where
  P w := RowE w a l
  F k := 0 < l.length ∧ ∃ x, a = some x ∧ x.block = k
  keep h ho hs := fun i hi => by
    obtain ⟨b, off, e, hc⟩ := h i hi
    exact ⟨b, off, e, ho.cell hc (hs b ⟨by omega, _, e, rfl⟩)⟩
  lt h k hk := by
    obtain ⟨hl, x, e, rfl⟩ := hk
    obtain ⟨b, off, e2, hc⟩ := h 0 hl
    rw [e2] at e
    cases e
    exact lt_of_cell hc
section
variable {w wx w' : World} {b p n sb nx dn st : Nat} {v : Value} {ks : List Wk} {ts : List Th} {k : Nat} {κ : Wk}
theorem busyK (h : Kn w (wsT b ks :: ts) wx) (hk : ks[k]? = some κ) (u : Bool) : Kn w (wsT b (ks.set k { κ with u := u }) :: ts) (wx.setCell ⟨b, k * 6 + 5, none⟩ (.bool u)) := by
  obtain ⟨q1, q2⟩ := h.hd.put hk { κ with u := u } (i := 5) (v := .bool u) (by omega) rfl rfl rfl
  exact h.turn (t' := wsT b _) q1 ((Only.refl _ _).setCell (p := ⟨b, k * 6 + 5, none⟩) (.inl (.inl rfl)) _) (fun j hj => .inl (q2 j hj))
/-- The deferred function. -/
theorem workc_d (B : Nat) (u : FrameMode) (w : World) (h1 : w.cell? ⟨B, 0, none⟩ = some (.pointer (some ⟨b, k * 6, none⟩))) {v5 : Value} (h2 : w.cell? ⟨b, k * 6 + 5, none⟩ = some v5) (h3 : w.frozen? ⟨b, k * 6 + 5, none⟩ = false) :
    CallsD Tryz.prog 55 #[.pointer (some ⟨B, 0, none⟩)] u w fun e u' w' => u' = u ∧ (e = .returned (.tuple #[]) ∧ w' = w.setCell ⟨b, k * 6 + 5, none⟩ (.bool false)) := by
  go_enter_d Tryz.func55, Tryz.ntmps55
  go_wp2
  go_end0
  exact ⟨rfl, rfl⟩
/-- What is known of the cells that the job's end turns. -/
theorem endC {B1 : Nat} (h : Kn w (wsT b ks :: boxT B1 #[.pointer (some ⟨b, k * 6, none⟩)] :: boxT p (pcells b n sb nx dn st v) :: ts) wx) (hk : ks[k]? = some κ) :
    (∃ v3, wx.cell? ⟨b, k * 6 + 3, none⟩ = some v3) ∧ (∃ v4, wx.cell? ⟨b, k * 6 + 4, none⟩ = some v4) ∧ (∃ v5, wx.cell? ⟨b, k * 6 + 5, none⟩ = some v5) ∧ (∀ i, wx.frozen? ⟨b, i, none⟩ = false) ∧ wx.cell? ⟨B1, 0, none⟩ = some (.pointer (some ⟨b, k * 6, none⟩)) ∧ wx.cell? ⟨p, 3, none⟩ = some (.int .i64 (dn : Int)) ∧ wx.frozen? ⟨p, 3, none⟩ = false ∧ ¬ b = B1 ∧ ¬ b = p ∧ ¬ B1 = p := by
  obtain ⟨⟨q3, q4, q5⟩, q6⟩ := h.hd.at hk
  have s1 := List.pairwise_cons.1 h.sep
  have s2 := List.pairwise_cons.1 s1.2
  exact ⟨⟨_, q3⟩, ⟨_, q4⟩, ⟨_, q5⟩, q6, (Kn.hd2 h).cell 0 rfl, (Kn.hd3 h).cell 3 rfl, (Kn.hd3 h).frozen 3, fun e => s1.1 (boxT B1 _) (by simp; exact .inl rfl) b (.inl rfl) e, fun e => s1.1 (boxT p _) (by simp; exact .inr (.inl rfl)) b (.inl rfl) e, fun e => s2.1 (boxT p _) (by simp; exact .inl rfl) B1 rfl e⟩
/-- The job's end, but for the busy bit. -/
theorem endK {B1 : Nat} (h : Kn w (wsT b ks :: boxT B1 #[.pointer (some ⟨b, k * 6, none⟩)] :: boxT p (pcells b n sb nx dn st v) :: ts) wx) (hk : ks[k]? = some κ) :
    Kn w (wsT b (ks.set k { κ with x := (0 : Int), h := false }) :: boxT B1 #[.pointer (some ⟨b, k * 6, none⟩)] :: boxT p (pcells b n sb nx (dn + 1) st v) :: ts) (((wx.setCell ⟨b, k * 6 + 3, none⟩ (Value.int .i64 0)).setCell ⟨b, k * 6 + 4, none⟩ (.bool false)).setCell ⟨p, 3, none⟩ (.int .i64 ((dn : Int) + 1))) := by
  have h1 := jobK h hk (0 : Int) false
  refine Kn.turnAt (pre := [_, _]) (t := boxT p (pcells b n sb nx dn st v)) (t' := boxT p (pcells b n sb nx (dn + 1) st v)) h1 ?_ ((Only.refl _ _).put 3 _) (fun _ e => .inl e)
  have := (Kn.hd3 h1).set 3 (.int .i64 ((dn : Int) + 1))
  refine this.eq ?_
  simp [pcells]
theorem endB {B1 : Nat} (h : Kn w (wsT b (ks.set k { κ with x := (0 : Int), h := false }) :: boxT B1 #[.pointer (some ⟨b, k * 6, none⟩)] :: boxT p (pcells b n sb nx dn st v) :: ts) wx) (hk : ks[k]? = some κ) :
    Kn w (wsT b (ks.set k { κ with x := (0 : Int), h := false, u := false }) :: boxT p (pcells b n sb nx dn st v) :: ts) (wx.setCell ⟨b, k * 6 + 5, none⟩ (.bool false)) := by
  have hlen := (List.getElem?_eq_some_iff.1 hk).1
  have h3 := busyK h (k := k) (κ := { κ with x := (0 : Int), h := false }) (by simp [hlen]) false
  rw [List.set_set] at h3
  exact h3.sub (.cons_cons _ (.cons _ (List.Sublist.refl _)))
set_option maxHeartbeats 4000000 in
/-- Nothing comes of it. -/
theorem work_nil (h : Hid (Kn w (wsT b ks :: boxT p (pcells b ks.length sb nx dn st v) :: ts) wx)) (hk : ks[k]? = some κ) (hn : ks.length ≤ 64) (hdn : dn ≤ 1000000) :
    Calls Tryz.prog 33 #[.pointer (some ⟨p, 0, none⟩), .int .i64 (k : Int), .nilFunc] wx fun e w' => e = .returned (.tuple #[]) ∧ Hid (Kn w (wsT b (ks.set k { κ with x := (0 : Int), h := false, u := false }) :: boxT p (pcells b ks.length sb nx (dn + 1) st v) :: ts) w') := by
  have hkl := (List.getElem?_eq_some_iff.1 hk).1
  have hneq := neq_nilFn
  have K0 := busyK h.out hk true
  obtain ⟨⟨c0, _⟩, _⟩ := six (Kn.hd2 h.out)
  have hpw := lt_of_cell c0
  obtain ⟨⟨_, _, c5⟩, f5⟩ := h.out.hd.at hk
  replace f5 := f5 (k * 6 + 5)
  have hb5 := lt_of_cell c5
  obtain ⟨B1, hB1⟩ : ∃ B1, B1 = wx.heap.size := ⟨_, rfl⟩
  obtain ⟨W1, hW1⟩ : ∃ W1, W1 = (wx.setCell ⟨b, k * 6 + 5, none⟩ (.bool true)).alloc (.cells #[.pointer (some ⟨b, k * 6, none⟩)] 96) := ⟨_, rfl⟩
  have KE : Hid (Kn w (wsT b (ks.set k { κ with u := true }) :: boxT B1 #[.pointer (some ⟨b, k * 6, none⟩)] :: boxT p (pcells b ks.length sb nx dn st v) :: ts) W1) := hide (by
    refine Kn.swap (K0.more (t' := boxT B1 #[.pointer (some ⟨b, k * 6, none⟩)]) (w' := W1) ?_ ?_ ?_)
    · rw [hW1]; exact (Below.refl _ _).alloc (Nat.le_refl _) _
    · rw [hW1]; exact Is.made _ _ _ (by simp [hB1])
    · intro j hj; cases hj; simp [hB1])
  have HKE : Hid ((ks.set k { κ with u := true })[k]? = some { κ with u := true }) := hide (by simp [hkl])
  have HEQ : Hid ((ks.set k { κ with u := true }).set k { κ with x := (0 : Int), h := false, u := false } = ks.set k { κ with x := (0 : Int), h := false, u := false }) := hide (by rw [List.set_set])
  have hki : (k : Int) < ks.length := by omega
  obtain ⟨m, hm⟩ : ∃ m, m = ks.length := ⟨_, rfl⟩
  rw [← hm] at c0 hkl hki KE ⊢
  clear h hk hm hn K0
  go_enter_defers Tryz.func33, Tryz.ntmps33
  go_wp2
  rw [← hW1, ← hB1]
  clear hW1 hB1 c5 f5 hb5 c0 hpw
  obtain ⟨⟨v3, d3⟩, ⟨v4, d4⟩, ⟨v5, d5⟩, fz, d1, dp, fp, n1, n2, n3⟩ := endC KE.out HKE.out
  have f3 := fz (k * 6 + 3)
  have f4 := fz (k * 6 + 4)
  have f5 := fz (k * 6 + 5)
  have HX := hide (endK (KE.out.keep (w' := W1.drew) (Below.refl _ _).drew) HKE.out)
  have HXL := (List.getElem?_eq_some_iff.1 HKE.out).1
  obtain ⟨⟨_, _, x5⟩, xf⟩ := HX.out.hd.at (k := k) (List.getElem?_set_self HXL)
  replace xf := xf (k * 6 + 5)
  have x1 := (Kn.hd2 HX.out).cell 0 rfl
  have HFIN := hide (endB HX.out HKE.out)
  have HX5 := hide x5
  have HXF := hide xf
  have HX1 := hide x1
  clear fz x5 xf x1 HXL
  go_region_held3 (fun w' => w'.cell? ⟨B1, 0, none⟩ = some (.pointer (some ⟨b, k * 6, none⟩))) (first | assumption | go_keep) (fail)
  go_wp2
  refine leaves_cons (f := 55) (args := #[.pointer (some ⟨B1, 0, none⟩)]) (by simp) (by simp [go_sem]) ?_
  refine (workc_d (b := b) (k := k) B1 .returning _ HX1.out HX5.out HXF.out).mono ?_
  rintro e u' w'' ⟨rfl, rfl, rfl⟩
  refine ⟨_, results_none rfl _ _ _, rfl, ?_⟩
  rw [HEQ.out] at HFIN
  exact HFIN
theorem pushK (h : Hid (Kn w (wsT b ks :: ts) wx)) (hk : ks[k]? = some κ) (x : Int) (hl : κ.l.length ≤ 400000) :
    Calls Tryz.prog 31 #[.pointer (some ⟨b, k * 6, none⟩), (Value.int .i64 x)] wx fun e w' => e = .returned (.tuple #[]) ∧ ∃ r', Hid (Kn w (wsT b (ks.set k { κ with r := r', l := κ.l ++ [x] }) :: ts) w') := by
  obtain ⟨s1, s2, s3⟩ := h.out.hd.sh hk
  refine (push_sh s1 s2 x hl).mono ?_
  rintro e w' ⟨rfl, ht⟩
  obtain ⟨r', q1, q2, q3⟩ := h.out.hd.turn hk ht
  exact ⟨rfl, r', h.out.turn (t' := wsT b _) q1 q2 q3⟩
set_option maxHeartbeats 8000000 in
/-- Jobs come of it. -/
theorem work_do {f : Nat} {lb : Array Value} {o : List Int} {D : Th} {Q : Th → Prop} (h : Hid (Kn w (wsT b ks :: boxT p (pcells b ks.length sb nx dn st v) :: D :: ts) wx)) (hk : ks[k]? = some κ) (hn : ks.length ≤ 64) (hdn : dn ≤ 1000000) (ho : o.length ≤ 1000) (hl : κ.l.length ≤ 300000)
    (henter : ∀ args w, (callFunc f args).run Tryz.prog w = .ok (.enter f args) w)
    (hdo : ∀ ts wy, Hid (Kn w (D :: ts) wy) → Calls Tryz.prog f (#[.int .i64 (k : Int), (Value.int .i64 (κ.x))] ++ lb) wy fun e w' => ∃ a c D', e = .returned (.slice a o.length c) ∧ Hid (Kn w (rowE a o :: D' :: ts) w') ∧ Q D') :
    Calls Tryz.prog 33 #[.pointer (some ⟨p, 0, none⟩), .int .i64 (k : Int), .func (.func f) #[] lb] wx fun e w' => e = .returned (.tuple #[]) ∧ ∃ r' D', Hid (Kn w (wsT b (ks.set k { κ with r := r', l := κ.l ++ o, x := (0 : Int), h := false, u := false }) :: boxT p (pcells b ks.length sb nx (dn + 1) st v) :: D' :: ts) w') ∧ Q D' := by
  have hkl := (List.getElem?_eq_some_iff.1 hk).1
  have hneq := neq_someFn f lb
  have K0 := busyK h.out hk true
  obtain ⟨⟨c0, _⟩, _⟩ := six (Kn.hd2 h.out)
  have hpw := lt_of_cell c0
  obtain ⟨⟨c3, _, c5⟩, f5⟩ := h.out.hd.at hk
  replace f5 := f5 (k * 6 + 5)
  have hb5 := lt_of_cell c5
  obtain ⟨B1, hB1⟩ : ∃ B1, B1 = wx.heap.size := ⟨_, rfl⟩
  obtain ⟨W1, hW1⟩ : ∃ W1, W1 = (wx.setCell ⟨b, k * 6 + 5, none⟩ (.bool true)).alloc (.cells #[.pointer (some ⟨b, k * 6, none⟩)] 96) := ⟨_, rfl⟩
  have KE : Hid (Kn w (D :: wsT b (ks.set k { κ with u := true }) :: boxT B1 #[.pointer (some ⟨b, k * 6, none⟩)] :: boxT p (pcells b ks.length sb nx dn st v) :: ts) W1) := hide (by
    refine Kn.perm (Kn.swap (K0.more (t' := boxT B1 #[.pointer (some ⟨b, k * 6, none⟩)]) (w' := W1) ?_ ?_ ?_)) (List.perm_middle (l₁ := [_, _, _]))
    · rw [hW1]; exact (Below.refl _ _).alloc (Nat.le_refl _) _
    · rw [hW1]; exact Is.made _ _ _ (by simp [hB1])
    · intro j hj; cases hj; simp [hB1])
  have HGK : Hid (∀ κ', (ks.set k κ')[k]? = some κ') := hide (fun κ' => by simp [hkl])
  have HDO := hide (hdo _ _ KE)
  have hki : (k : Int) < ks.length := by omega
  obtain ⟨m, hm⟩ : ∃ m, m = ks.length := ⟨_, rfl⟩
  rw [← hm] at c0 hkl hki KE HDO ⊢
  have HDN := hide hdn
  have HO := hide ho
  have HL := hide hl
  clear h hk hm hn K0 hdo ho hl
  go_enter_defers Tryz.func33, Tryz.ntmps33
  go_wp2_with fail
  rw [← hW1, ← hB1]
  clear hW1 c5 f5 c0 c3 hneq
  (with_reducible refine (Hid.out HDO).mono ?_)
  rintro e w5 ⟨a, c, D', rfl, K5, hQ⟩
  have HQ := hide hQ
  clear hQ
  have K6 : Hid (Kn w (wsT b (ks.set k { κ with u := true }) :: rowE a o :: boxT B1 #[.pointer (some ⟨b, k * 6, none⟩)] :: boxT p (pcells b m sb nx dn st v) :: D' :: ts) w5) := hide ((K5.out.perm (List.perm_middle (l₁ := [_, _]))).perm (.cons _ (.cons _ (List.perm_middle (l₁ := [_, _])).symm)))
  clear K5 KE HDO
  obtain ⟨n, hn⟩ : ∃ n, n = o.length := ⟨_, rfl⟩
  have HN := hide hn
  rw [← hn] at HO ⊢
  clear hn
  have hn1000 : n ≤ 1000 := HO.out
  go_wp2_with fail
  have hB1' : wx.heap.size = B1 := hB1.symm
  simp only [hB1']
  clear hB1 hB1'
  go_loopw [30] (fun i wr => ∃ j : Nat, j ≤ n ∧ i = .int .i64 (j : Int) ∧ ∃ r', Kn w (wsT b (ks.set k { κ with r := r', l := κ.l ++ o.take j, u := true }) :: rowE a o :: boxT B1 #[.pointer (some ⟨b, k * 6, none⟩)] :: boxT p (pcells b m sb nx dn st v) :: D' :: ts) wr) (fun i _ => n - (intOf i).toNat)
  case atStart => exact ⟨0, Nat.zero_le _, rfl, κ.r, by simpa using K6.out⟩
  case round =>
    obtain ⟨j, hj, rfl, r1, hK⟩ := hrel
    have hx1 := (Kn.hd3 hK).cell 0 rfl
    by_cases hlt : j < n
    · obtain ⟨bo, off, rfl, hc⟩ := (show RowE wr a o from Kn.hd2 hK) j (by rw [← HN.out]; exact hlt)
      have HP := hide (pushK (hide hK) (HGK.out _) (o.getD j (0 : Int)) (by
        have h1 := HL.out
        have h2 := HO.out
        have h3 := HN.out
        simp only [List.length_append, List.length_take]
        omega))
      obtain ⟨x, hx⟩ : ∃ x, x = o.getD j (0 : Int) := ⟨_, rfl⟩
      rw [← hx] at hc HP
      have HT : Hid (κ.l ++ o.take (j + 1) = κ.l ++ o.take j ++ [x]) := hide (by
        rw [List.take_add_one, hx, List.getD_eq_getElem?_getD, List.getElem?_eq_getElem (by rw [← HN.out]; exact hlt), List.append_assoc]
        rfl)
      have hli : (j : Int) < n := by omega
      clear hK hx
      go_wp2_with (go_at_call 31; go_must ((with_reducible refine (Hid.out HP).mono ?_); rintro e w7 ⟨rfl, r7, K7⟩))
      go_roundw
      case rel =>
        refine ⟨j + 1, by omega, by simp, r7, ?_⟩
        rw [HT.out]
        have := K7.out
        rw [List.set_set] at this
        exact this
      case measure => simp [intOf]; omega
    · obtain rfl : j = n := by omega
      have hli : ¬ (j : Int) < j := by omega
      rw [List.take_of_length_le (by rw [HN.out]; exact Nat.le_refl _)] at hK
      have KE := hide (hK.sub (.cons_cons _ (.cons _ (List.Sublist.refl _))))
      have HKE := HGK.out { κ with r := r1, l := κ.l ++ o, u := true }
      replace HKE := hide HKE
      have HEQ : Hid ((ks.set k { κ with r := r1, l := κ.l ++ o, u := true }).set k { κ with r := r1, l := κ.l ++ o, x := (0 : Int), h := false, u := false } = ks.set k { κ with r := r1, l := κ.l ++ o, x := (0 : Int), h := false, u := false }) := hide (by rw [List.set_set])
      have hdn := HDN.out
      clear hK
      go_wp2
      obtain ⟨⟨v3, d3⟩, ⟨v4, d4⟩, ⟨v5, d5⟩, fz, d1, dp, fp, n1, n2, n3⟩ := endC KE.out HKE.out
      have f3 := fz (k * 6 + 3)
      have f4 := fz (k * 6 + 4)
      have f5 := fz (k * 6 + 5)
      have HX := hide (endK (KE.out.keep (w' := wr.drew) (Below.refl _ _).drew) HKE.out)
      have HXL := (List.getElem?_eq_some_iff.1 HKE.out).1
      obtain ⟨⟨_, _, x5⟩, xf⟩ := HX.out.hd.at (k := k) (List.getElem?_set_self HXL)
      replace xf := xf (k * 6 + 5)
      have x1 := (Kn.hd2 HX.out).cell 0 rfl
      have HFIN := hide (endB HX.out HKE.out)
      have HX5 := hide x5
      have HXF := hide xf
      have HX1 := hide x1
      clear fz x5 xf x1 HXL
      go_region_held3 (fun w' => w'.cell? ⟨B1, 0, none⟩ = some (.pointer (some ⟨b, k * 6, none⟩))) (first | assumption | go_keep) (fail)
      go_wp2
      refine leaves_cons (f := 55) (args := #[.pointer (some ⟨B1, 0, none⟩)]) (by simp) (by simp [go_sem]) ?_
      refine (workc_d (b := b) (k := k) B1 .returning _ HX1.out HX5.out HXF.out).mono ?_
      rintro e u' w'' ⟨rfl, rfl, rfl⟩
      refine ⟨_, results_none rfl _ _ _, rfl, r1, D', ?_, HQ.out⟩
      rw [HEQ.out] at HFIN
      exact HFIN
end
end Go.Proofs.YtkjhamcmhijhgaaGreat.DqI
