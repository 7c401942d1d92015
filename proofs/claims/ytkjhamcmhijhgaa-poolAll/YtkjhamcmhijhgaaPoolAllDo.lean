/- A pool's jobs are halved by a function that keeps what is done in a row of the caller's. -/
import Derived.Test.YtkjhamcmhijhgaaAll14
import Derived.Maps.AppendAt
namespace Go.Proofs.Ytkjhamcmhijhgaa.Pool
open Go.RowKit Go.Proofs.Ytkjhamcmhijhgaa.Dig Go.Proofs.Ytkjhamcmhijhgaa.Mem Go.Proofs.Ytkjhamcmhijhgaa.Dq Go.Proofs.Ytkjhamcmhijhgaa.Thing Go.Proofs.Ytkjhamcmhijhgaa.Pick Go.Proofs.Ytkjhamcmhijhgaa.Sets Go.Shelf
set_option linter.unusedVariables false
set_option linter.unusedSimpArgs false

/-- Two things that share no block, as one. -/
def joinT (x y : Th) : Th where
  P w := x.P w ∧ y.P w ∧ Sep x y
  F k := x.F k ∨ y.F k
  keep h ho hs := ⟨x.keep h.1 ho (fun k q => hs k (.inl q)), y.keep h.2.1 ho (fun k q => hs k (.inr q)), h.2.2⟩
  lt h k hk := hk.elim (x.lt h.1 k) (y.lt h.2.1 k)
section
variable {w w' W : World} {x y : Th} {ts : List Th}
theorem Kn.join (h : Kn w (x :: y :: ts) W) : Kn w (joinT x y :: ts) W := by
  obtain ⟨s1, s2⟩ := List.pairwise_cons.1 h.sep
  obtain ⟨s3, s4⟩ := List.pairwise_cons.1 s2
  have hx := h.has x (by simp)
  have hy := h.has y (by simp)
  refine ⟨h.below, fun t ht => ?_, List.pairwise_cons.2 ⟨fun t ht k hk => ?_, s4⟩⟩
  · rcases List.mem_cons.1 ht with rfl | q
    · exact ⟨⟨hx.1, hy.1, s1 y (by simp)⟩, fun k hk => hk.elim (hx.2 k) (hy.2 k)⟩
    · exact h.has t (by simp [q])
  · rcases hk with q | q
    · exact s1 t (by simp [ht]) k q
    · exact s3 t ht k q
theorem Kn.split (h : Kn w (joinT x y :: ts) W) : Kn w (x :: y :: ts) W := by
  obtain ⟨s1, s2⟩ := List.pairwise_cons.1 h.sep
  have hj := h.has (joinT x y) (by simp)
  refine ⟨h.below, fun t ht => ?_, List.pairwise_cons.2 ⟨fun t ht => ?_, List.pairwise_cons.2 ⟨fun t ht k hk => s1 t ht k (.inr hk), s2⟩⟩⟩
  · rcases List.mem_cons.1 ht with rfl | q
    · exact ⟨hj.1.1, fun k hk => hj.2 k (.inl hk)⟩
    · rcases List.mem_cons.1 q with rfl | q
      · exact ⟨hj.1.2.1, fun k hk => hj.2 k (.inr hk)⟩
      · exact h.has t (by simp [q])
  · rcases List.mem_cons.1 ht with rfl | q
    · exact hj.1.2.2
    · intro k hk
      exact s1 t q k (.inl hk)
/-- The row behind a box grows. -/
theorem Kn.grow2 {t : Th} {base m m' : Nat} {e : TypeId} {v v' : Value} {xs xs' : List Value} (h : Kn w (t :: ownT base e v m xs :: ts) W) (ho : w'.ownsRow base e 1 v' m' xs') (hg : W.grownBy w' v.ownBlock) (hat : v'.ownBlock = v.ownBlock ∨ v'.ownBlock = some W.heap.size) :
    Kn w (t :: ownT base e v' m' xs' :: ts) w' :=
  DqI.Kn.turnAt (pre := [_]) (t := ownT base e v m xs) (t' := ownT base e v' m' xs') h ho ⟨hg.os, hg.tape, hg.output, hg.size, fun k hk hn => hg.block k hk (fun e => hn e.symm)⟩ (fun k hk => by
    have hk' : v'.ownBlock = some k := hk
    rcases hat with q | q
    · exact .inl (by show v.ownBlock = some k; rw [← q]; exact hk')
    · rw [q] at hk'
      exact .inr (Nat.le_of_eq (Option.some.inj hk')))
theorem Kn.grow1 {base m m' : Nat} {e : TypeId} {v v' : Value} {xs xs' : List Value} (h : Kn w (ownT base e v m xs :: ts) W) (ho : w'.ownsRow base e 1 v' m' xs') (hg : W.grownBy w' v.ownBlock) (hat : v'.ownBlock = v.ownBlock ∨ v'.ownBlock = some W.heap.size) :
    Kn w (ownT base e v' m' xs' :: ts) w' :=
  h.turn (t := ownT base e v m xs) (t' := ownT base e v' m' xs') ho ⟨hg.os, hg.tape, hg.output, hg.size, fun k hk hn => hg.block k hk (fun e => hn e.symm)⟩ (fun k hk => by
    have hk' : v'.ownBlock = some k := hk
    rcases hat with q | q
    · exact .inl (by show v.ownBlock = some k; rw [← q]; exact hk')
    · rw [q] at hk'
      exact .inr (Nat.le_of_eq (Option.some.inj hk')))
theorem Kn.put1 {b : Nat} {v : Value} (h : Kn w (boxT b #[v] :: ts) W) (v' : Value) : Kn w (boxT b #[v'] :: ts) (W.setCell ⟨b, 0, none⟩ v') :=
  h.turn (t' := boxT b #[v']) ((h.hd.set 0 v').eq (by simp)) ((Only.refl _ _).put 0 _) (fun _ e => .inl e)
end
/-- What is done so far. -/
def doneT (base db : Nat) (v : Value) (dn : List Int) : Th := joinT (boxT db #[v]) (ownT base 3 v dn.length (dn.map (Value.int .i64)))
set_option maxRecDepth 20000 in
theorem clos_any {w wy : World} {x : Int} (hx : SmallJ x) {db : Nat} {v : Value} {dn : List Int} {ts : List Th} (h : Hid (Kn w (boxT db #[v] :: ownT w.heap.size 3 v dn.length (dn.map (Value.int .i64)) :: ts) wy)) (hdn : dn.length ≤ 1000000) (k : Int) :
    Calls Try.prog 12 #[.int .i64 k, .int .i64 x, .pointer (some ⟨db, 0, none⟩)] wy fun e w' => ∃ a c v', e = .returned (.slice a (halfL x).length c) ∧ Hid (Kn w (DqI.rowE a (halfL x) :: boxT db #[v'] :: ownT w.heap.size 3 v' (dn ++ [x]).length ((dn ++ [x]).map (Value.int .i64)) :: ts) w') := by
  obtain ⟨i0, hi, hz0, hz1, hz2⟩ := info_parts Try.infoInt
  obtain ⟨a0, c0, rfl⟩ := Dq.own_form (DqI.Kn.hd2 h.out)
  have d0 : wy.cell? ⟨db, 0, none⟩ = some (.slice a0 dn.length c0) := (Kn.hd h.out).cell 0 rfl
  have HO := hide (fun W => rof_any10 hx W)
  have hbz := h.out.below.size
  have HF : Hid (∀ v' : Value, ∀ W W' a c, Kn w (boxT db #[v'] :: ownT w.heap.size 3 v' (dn.length + 1) (dn.map (Value.int .i64) ++ [.int .i64 x]) :: ts) W → RowI W' a c (halfL x) → (∀ z, a = some z → W.heap.size ≤ z.block) → Below W.heap.size W W' → Kn w (DqI.rowE a (halfL x) :: boxT db #[v'] :: ownT w.heap.size 3 v' (dn ++ [x]).length ((dn ++ [x]).map (Value.int .i64)) :: ts) W') := hide (fun v' W W' a c hK hR hA hB => by
    have e1 : (dn ++ [x]).length = dn.length + 1 := by simp
    have e2 : (dn ++ [x]).map (Value.int .i64) = dn.map (Value.int .i64) ++ [.int .i64 x] := by simp
    rw [e1, e2]
    exact hK.more hB (rowE_of hR) (fun j ⟨_, z, e, ej⟩ => by subst ej; exact hA z e))
  obtain ⟨o, ho⟩ : ∃ o, o = halfL x := ⟨_, rfl⟩
  rw [← ho] at HO HF ⊢
  obtain ⟨m, hm⟩ : ∃ m, m = o.length := ⟨_, rfl⟩
  rw [← hm] at HO ⊢
  obtain ⟨ln, hln⟩ : ∃ ln, ln = dn.length := ⟨_, rfl⟩
  rw [← hln] at h d0 hdn
  have HLN := hide hln
  clear hx ho hm hln
  go_enter Try.func12, Try.ntmps12
  go_wp2_with (first
    | (at_builtin; go_must ((refine wpList_append_own_at _ rfl _ _ 22 rfl w.heap.size 3 i0 (.int .i64 0) 1 8 Try.underlying22 hi hz0 hz1 hz2 rfl (by decide) (.slice a0 ln c0) ln (dn.map (Value.int .i64)) rfl (World.ownsRow.alloc (DqI.Kn.hd2 h.out) _) ⟨wy.heap.size, 0, none⟩ 1 1 [.int .i64 x] rfl rfl (cell_one_new _ _ _) (by simp [Value.oneCell']) (by unfold maxLen; omega) (by omega) (by simp; omega) ?_); intro v6 w6 hown6 hg6 _ hat6; obtain ⟨a6, c6, rfl⟩ := Dq.own_form hown6; have KA := hide (Kn.grow2 (h.out.keep (w' := wy.alloc (.cells #[.int .i64 x] 3)) ((Below.refl _ _).alloc (Nat.le_refl _) _)) hown6 hg6 hat6); have a5 : w6.cell? ⟨db, 0, none⟩ = some (.slice a0 ln c0) := (Kn.hd KA.out).cell 0 rfl; have af5 := (Kn.hd KA.out).frozen 0; have KB := hide (Kn.put1 KA.out (.slice a6 (ln + 1) c6)); clear hown6 hg6 hat6))
    | (go_at_call 13; go_must ((with_reducible refine (Hid.out HO _).mono ?_); rintro e w9 ⟨⟨a, c, rfl, h1, h2⟩, h3⟩; have H9 := hide (And.intro h1 (And.intro h2 h3)); clear h1 h2 h3)))
  go_ret
  exact ⟨a, c, .slice a6 (ln + 1) c6, rfl, hide (HF.out (.slice a6 (ln + 1) c6) _ _ a c (by rw [← HLN.out]; exact KB.out) H9.out.1 H9.out.2.1 H9.out.2.2)⟩
theorem does_all {w : World} (p db : Nat) : DqI.Does w p (.func (.func 12) #[] #[.pointer (some ⟨db, 0, none⟩)]) halfL SmallJ (fun dn t => ∃ v, t = doneT w.heap.size db v dn) := by
  intro dn t ts ks b sb nx st v k κ wy hd h hk hg hn hdn hl
  have hlen := halfL_length κ.x
  obtain ⟨u, rfl⟩ := hd
  refine (DqI.work_do (Q := fun t' => ∃ v', t' = doneT w.heap.size db v' (dn ++ [κ.x])) (o := halfL κ.x) h hk hn hdn (by omega) hl (enters_of Try.func12 (by kernel_rfl) rfl) (fun ts wy z => ?_)).mono ?_
  · have e : (#[.int .i64 (k : Int), .int .i64 κ.x] ++ #[.pointer (some ⟨db, 0, none⟩)] : Array Value) = #[.int .i64 (k : Int), .int .i64 κ.x, .pointer (some ⟨db, 0, none⟩)] := by simp
    rw [e]
    refine (clos_any hg (hide (Kn.split z.out)) hdn (k : Int)).mono ?_
    rintro e w' ⟨a, c, v', rfl, h1⟩
    exact ⟨a, c, _, rfl, hide ((Kn.join (h1.out.perm (List.perm_middle (l₁ := [_, _])).symm)).perm (List.Perm.swap _ _ _)), v', rfl⟩
  · rintro e w' ⟨rfl, r', t', K, q⟩
    exact ⟨rfl, r', t', K, q⟩
end Go.Proofs.Ytkjhamcmhijhgaa.Pool
