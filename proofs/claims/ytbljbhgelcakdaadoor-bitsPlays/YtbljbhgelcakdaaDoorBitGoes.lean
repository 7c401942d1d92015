/- BitsGoes, over open contracts. -/
import Derived.Test.YtbljbhgelcakdaaDoorBitMove
import Derived.Test.YtbljbhgelcakdaaDoorBitGo
import Derived.Maps.OwnIn
import Derived.Shelf.Abstract
import Derived.Shelf.RegionOpen
import Derived.WalkKit
import Derived.OwnWalkIn
import Derived.TacticsInMore
import Derived.LoopNIn
import Derived.LoopIn
namespace Go.Proofs.YtbljbhgelcakdaaDoor.Bit
open Go.RowKit Go.Proofs.YtbljbhgelcakdaaDoor.Dig Go.Proofs.YtbljbhgelcakdaaDoor.Mem Go.Shelf
set_option linter.unusedVariables false
set_option linter.unusedSimpArgs false
attribute [local go_sem] Oper.semAt_some

/-- The contract of All, left open: what is gone through is, at each step, the next number of the set as it is then. -/
structure IterApi (At : World → Value → (Nat → Prop) → List Bool → Prop) : Prop where
  cells : ∀ {w p F m}, At w p F m → ∀ k, F k → ∃ o : Obj, w.heap[k]? = some o ∧ o.isCells = true
  iter : ∀ {w p F m}, Tab w → At w p F m → Calls Tryd.prog 23 #[p] w fun e w' => ∃ (gf : Nat) (lb : Array Value) (pv : List (Nat × Array Value)), e = .returned (.func (.func gf) #[] lb) ∧ (∀ args w, (callFunc gf args).run Tryd.prog w = .ok (.enter gf args) w) ∧ (∀ W : World, (binOp .eql 44 (.func (.func gf) #[] lb) .nilFunc).run Tryd.prog W = .ok (.bool false) W) ∧ Below w.heap.size w w' ∧ (∀ r ∈ pv, Is w' r.1 r.2 ∧ w.heap.size ≤ r.1) ∧
    ∀ (I : List Int → World → Prop) (mOf : List Int → List Bool), (∀ pre W, I pre W → (∀ r ∈ pv, Is W r.1 r.2) ∧ Tab W ∧ ∃ F', At W p F' (mOf pre)) → Led Fence.wide 2 Tryd.prog gf lb (fun x => #[.int .i64 x]) I (fun pre x => nextB (mOf pre) (lastG pre + 1) = x ∧ x ≠ -1) (fun xs => nextB (mOf xs) (lastG xs + 1) = -1) (fun _ => True)
theorem exit_normal {Q : Exit → Act → World → Prop} {a : Act} {w : World} (h : Exit.inBlock 0 Q .normal a w) : Exit.inBlock 0 Q (.exit 0) a w := by
  simp only [Exit.inBlock, if_true] at h ⊢
  exact h
theorem owns_block {W V : World} {e base : TypeId} {v : Value} {n : Nat} {xs : List Value} (h : W.ownsRow base e 1 v n xs) (hb : ∀ g, v.ownBlock = some g → V.heap[g]? = W.heap[g]?) : V.ownsRow base e 1 v n xs := by
  refine ⟨h.1, ?_⟩
  rcases h.2 with hn | ⟨g, cap, cur, rfl, hg, hh, r⟩
  · exact .inl hn
  · exact .inr ⟨g, cap, cur, rfl, hg, by rw [hb g rfl]; exact hh, r⟩
section
variable {At : World → Value → (Nat → Prop) → List Bool → Prop} {w wx w' : World} {os : List (Value × List Bool)} {ns : List (Option Addr × Nat × List Int)} {bs : List (Option Addr × Nat × List Bool)} {cs : List (Nat × Array Value)} {p : Value} {m m3 : List Bool} {a : Option Addr} {c n : Nat} {l : List Int}
theorem Env.boxes_new (h : Env At w os ns bs cs wx) (A : Api At) (hb : Below wx.heap.size wx w') (pv : List (Nat × Array Value)) (hp : ∀ r ∈ pv, Is w' r.1 r.2 ∧ wx.heap.size ≤ r.1) : Env At w os ns bs (pv ++ cs) w' := by
  obtain ⟨F, h1, h2, h3, h4, h5⟩ := h.sets
  have h' := h.read A hb
  refine ⟨h'.tab, h'.below, ⟨F, fun i hi => ⟨A.keep (h1 i hi).1 (Only.of_below (S := fun _ => False) hb) (fun k _ q => q), (h1 i hi).2⟩, h2, h3, h4, fun r hr => ?_⟩, h'.nums, h'.bools, fun r hr => ?_⟩
  · rcases List.mem_append.1 hr with q | q
    · intro i hi hF
      have := A.lt (h1 i hi).1 _ hF
      have := (hp r q).2
      omega
    · exact h5 r q
  · rcases List.mem_append.1 hr with q | q
    · exact (hp r q).1
    · exact h'.boxes r q
theorem iterE (A : Api At) (T : IterApi At) (i : Nat) (h : Hid (Env At w os ns bs cs wx)) (hi : os[i]? = some (p, m)) :
    Calls Tryd.prog 23 #[p] wx fun e w' => ∃ (gf : Nat) (lb : Array Value) (pv : List (Nat × Array Value)), e = .returned (.func (.func gf) #[] lb) ∧ (∀ args w, (callFunc gf args).run Tryd.prog w = .ok (.enter gf args) w) ∧ (∀ W : World, (binOp .eql 44 (.func (.func gf) #[] lb) .nilFunc).run Tryd.prog W = .ok (.bool false) W) ∧ Hid (Env At w os ns bs (pv ++ cs) w') ∧
      Hid (∀ (I : List Int → World → Prop) (mOf : List Int → List Bool), (∀ pre W, I pre W → (∀ r ∈ pv, Is W r.1 r.2) ∧ Tab W ∧ ∃ F', At W p F' (mOf pre)) → Led Fence.wide 2 Tryd.prog gf lb (fun x => #[.int .i64 x]) I (fun pre x => nextB (mOf pre) (lastG pre + 1) = x ∧ x ≠ -1) (fun xs => nextB (mOf xs) (lastG xs + 1) = -1) (fun _ => True)) := by
  obtain ⟨F, hp⟩ := h.out.at i hi
  refine (T.iter h.out.tabx hp).mono ?_
  rintro e w' ⟨gf, lb, pv, rfl, h1, h2, hb, h3, h4⟩
  exact ⟨gf, lb, pv, rfl, h1, h2, h.out.boxes_new A hb pv h3, h4⟩
/-- The one set is turned; rows of numbers lie as they lay. -/
theorem putG (A : Api At) (T : IterApi At) (h : Hid (Env At w [(p, m)] ns bs cs wx)) (hr : (a, c, l) ∈ ns) (hn : n = l.length) (hl : l.length ≤ 1000) (hm : setB m l true = m3) :
    Calls Tryd.prog 21 #[p, .slice a n c] wx fun e w' => e = .returned (.tuple #[]) ∧ Hid (Env At w [(p, m3)] ns bs cs w') ∧ Hid (∀ r ∈ ns, 0 < r.2.2.length → ∀ x, r.1 = some x → w'.heap[x.block]? = wx.heap[x.block]?) ∧ Hid (KeepsOthers wx w') := by
  subst hn; subst hm
  obtain ⟨F, h1, h2, h3, h4, h5⟩ := h.out.sets
  have hp := (h1 0 (by simp)).1
  refine (A.put a c l hp (h.out.nums _ hr) hl (fun hl x ex => h3 _ hr hl x ex 0 (by simp))).mono ?_
  rintro e w' ⟨rfl, F', g1, g2, g3⟩
  exact ⟨rfl, turnF h.out A 0 (by simp) (setB m l true) F h1 h2 h3 h4 h5 F' g1 g2 g3, fun r hr' hl' x ex => g3.block x.block ((h.out.nums r hr').lt hl' x ex) (fun q => h3 r hr' hl' x ex 0 (by simp) q), ⟨g3.size, fun k o hk ho => (g3.block k (Array.getElem?_eq_some_iff.1 hk).1 (fun hF => by obtain ⟨o', k1, k2⟩ := T.cells hp k hF; rw [hk] at k1; cases k1; rw [ho] at k2; cases k2)).trans hk⟩⟩
theorem dropG (A : Api At) (T : IterApi At) (h : Hid (Env At w [(p, m)] ns bs cs wx)) (hr : (a, c, l) ∈ ns) (hn : n = l.length) (hl : l.length ≤ 1000) (hm : setB m l false = m3) :
    Calls Tryd.prog 24 #[p, .slice a n c] wx fun e w' => e = .returned (.tuple #[]) ∧ Hid (Env At w [(p, m3)] ns bs cs w') ∧ Hid (∀ r ∈ ns, 0 < r.2.2.length → ∀ x, r.1 = some x → w'.heap[x.block]? = wx.heap[x.block]?) ∧ Hid (KeepsOthers wx w') := by
  subst hn; subst hm
  obtain ⟨F, h1, h2, h3, h4, h5⟩ := h.out.sets
  have hp := (h1 0 (by simp)).1
  refine (A.drop a c l hp (h.out.nums _ hr) hl (fun hl x ex => h3 _ hr hl x ex 0 (by simp))).mono ?_
  rintro e w' ⟨rfl, F', g1, g2, g3⟩
  exact ⟨rfl, turnF h.out A 0 (by simp) (setB m l false) F h1 h2 h3 h4 h5 F' g1 g2 g3, fun r hr' hl' x ex => g3.block x.block ((h.out.nums r hr').lt hl' x ex) (fun q => h3 r hr' hl' x ex 0 (by simp) q), ⟨g3.size, fun k o hk ho => (g3.block k (Array.getElem?_eq_some_iff.1 hk).1 (fun hF => by obtain ⟨o', k1, k2⟩ := T.cells hp k hF; rw [hk] at k1; cases k1; rw [ho] at k2; cases k2)).trans hk⟩⟩
theorem keeps_own {W W1 : World} {base e : TypeId} {v : Value} {n : Nat} {xs : List Value} (hown : W.ownsRow base e 1 v n xs) (hg : W.grownBy W1 v.ownBlock) : KeepsOthers W W1 := KeepsOthers.of_grownBy hg fun j o ej hj => by
  rcases hown.2 with ⟨rfl, _⟩ | ⟨g, cap, cur, rfl, _, hgb, _⟩
  · simp [Value.ownBlock] at ej
  · obtain rfl : g = j := by simpa [Value.ownBlock] using ej
    rw [hgb] at hj; cases hj; rfl
theorem one_at {w : World} {n : Nat} {x : Value} {t : TypeId} (hn : n = w.heap.size) : ∀ j u, [x][j]? = some u → (w.alloc (.cells #[x] t)).cell? ((⟨n, 0, none⟩ : Addr).add j) = some u := by
  subst hn
  exact cell_one_new w x t
/-- The document's loop: what it has, between two rounds. -/
def WantI (W : World) (m m' : List Bool) (M : Nat) (at_ : Int) (mv wv lv kv : Value) (wr : World) : Prop :=
  ∃ (pre : List Int) (a : Option Addr) (c : Nat), kv = .int .i64 (pre.length : Int) ∧ lv = .int .i64 (lastG pre) ∧ mv = .slice a M c ∧ Hid (GoSeq m m' at_ pre) ∧ Hid (pre ≠ [] → lastG pre ≠ at_) ∧ Hid (RowB wr a c (mG m m' pre)) ∧ Hid (Below W.heap.size W wr) ∧ Hid (wr.ownsRow W.heap.size 3 1 wv pre.length (pre.map (Value.int .i64))) ∧
    Hid (∀ y, a = some y → 0 < (mG m m' pre).length → ∀ g, wv.ownBlock = some g → y.block ≠ g)
theorem row_one {x : Int} {b : Nat} (w : World) (T : TypeId) (hb : b = w.heap.size) (hw : (Lit.int .i64 x).wf = true) : RowI (w.alloc (.cells #[.int .i64 x] T)) (some ⟨b, 0, none⟩) 1 [x] := by
  refine ⟨by simp, ⟨by simp, fun i hi => ?_⟩, fun e => by cases e⟩
  obtain rfl : i = 0 := by simpa using hi
  exact ⟨b, 0, rfl, (Is.made w _ T hb).cell 0 rfl, hw⟩
/-- The document's two calls of the third round. -/
theorem put_pl {w3 X : World} {ar : Option Addr} {cr M : Nat} {m : List Bool} {put : Int} (hr : RowB w3 ar cr m) (hw : (Lit.int .i64 put).wf = true) (hM : M = m.length) (hm : m.length ≤ 1000) (Np : Nat) (hX : Below w3.heap.size w3 X) (hp : RowI X (some ⟨Np, 0, none⟩) 1 [put]) :
    Calls Tryd.prog 22 #[.slice ar M cr, .slice (some ⟨Np, 0, none⟩) 1 1, .bool true] X fun e w' => ∃ a c, e = .returned (.slice a M c) ∧ Hid (RowB w' a c (setB m [put] true)) ∧ Hid (Below X.heap.size X w') ∧ Hid (Below w3.heap.size w3 w') ∧ Hid (Fresh w3.heap.size a) := by
  subst hM
  refine (rset_any ar cr m (some ⟨Np, 0, none⟩) 1 [put] true X (hr.keep hX) hp (by omega)).mono ?_
  rintro e w' ⟨⟨a, c, rfl, h1, h2⟩, hb⟩
  exact ⟨a, c, rfl, h1, hb, hX.trans (hb.mono hX.size), fun x e => Nat.le_trans hX.size (h2 x e)⟩
theorem drop_pl {w3 X : World} {a5 : Option Addr} {c5 M Nd : Nat} {m m' : List Bool} {put drop : Int} (hm' : m' = setB (setB m [put] true) [drop] false) (hM : M = m.length) (hm : m.length ≤ 1000) (hr : RowB X a5 c5 (setB m [put] true)) (hX : Below w3.heap.size w3 X) (hd : RowI X (some ⟨Nd, 0, none⟩) 1 [drop]) :
    Calls Tryd.prog 22 #[.slice a5 M c5, .slice (some ⟨Nd, 0, none⟩) 1 1, .bool false] X fun e w' => ∃ a c, e = .returned (.slice a M c) ∧ Hid (RowB w' a c m') ∧ Hid (Below w3.heap.size w3 w') ∧ Hid (Fresh w3.heap.size a) := by
  have hl : M = (setB m [put] true).length := by rw [setB_length]; exact hM
  subst hm'
  rw [hl]
  refine (rset_any a5 c5 (setB m [put] true) (some ⟨Nd, 0, none⟩) 1 [drop] false X hr hd (by rw [setB_length]; omega)).mono ?_
  rintro e w' ⟨⟨a, c, rfl, h1, h2⟩, hb⟩
  exact ⟨a, c, rfl, h1, hX.trans (hb.mono hX.size), fun x e => Nat.le_trans hX.size (h2 x e)⟩
/-- What is known between two rounds. -/
structure GoI (At : World → Value → (Nat → Prop) → List Bool → Prop) (w : World) (p : Value) (m m' : List Bool) (am : Option Addr) (cm : Nat) (cs : List (Nat × Array Value)) (B base : Nat) (at_ : Int) (pre : List Int) (W : World) : Prop where
  seq : GoSeq m m' at_ pre
  row : ∃ a c, Env At w [(p, mG m m' pre)] [(a, c, pre)] [(am, cm, m)] ((B, #[.slice a pre.length c]) :: cs) W ∧ W.ownsRow base 3 1 (.slice a pre.length c) pre.length (pre.map (Value.int .i64)) ∧ Sep a [(am, cm, m)] cs ∧ (a ≠ none → 0 < pre.length)
theorem GoI.off (A : Api At) (T : IterApi At) {m' : List Bool} {am : Option Addr} {cm B base : Nat} {at_ : Int} {pre : List Int} {W V : World} (h : GoI At w p m m' am cm cs B base at_ pre W) {row : Option Nat} (hg : W.grownBy V row) (hr : ∀ r, row = some r → w.heap.size ≤ r ∧ ∃ o : Obj, W.heap[r]? = some o ∧ o.isCells = false) : GoI At w p m m' am cm cs B base at_ pre V := by
  obtain ⟨h1, a, c, h2, h3, h4, h5⟩ := h
  refine ⟨h1, a, c, h2.off A T.cells hg hr, h3.kept hg ?_, h4, h5⟩
  rcases h3.2 with ⟨hv, _⟩ | ⟨g, cap, cur, hv, _, hgb, _⟩
  · exact .inl (by rw [hv]; rfl)
  · refine .inr fun e' => ?_
    rw [hv] at e'
    obtain ⟨_, o, ho, hc⟩ := hr g (by simpa [Value.ownBlock] using e'.symm)
    rw [hgb] at ho; cases ho; cases hc
set_option maxRecDepth 100000 in
set_option maxHeartbeats 4000000 in
theorem goes_yes (A : Api At) (T : IterApi At) (w : World) (HT : Hid (Tab w)) (n at_ put drop : Int) (a0 : Option Addr) (n0 c0 : Nat) (la : List Int) (hwn : (Lit.int .i64 n).wf = true) (hwa : (Lit.int .i64 at_).wf = true) (hwp : (Lit.int .i64 put).wf = true) (hwd : (Lit.int .i64 drop).wf = true) (ha : RowI w a0 c0 la) (hn0 : n0 = la.length) (e1 : n ≤ 300) (b0 : n0 ≤ 300) :
    Calls Tryd.prog 4 #[.int .i64 n, .slice a0 n0 c0, .int .i64 at_, .int .i64 put, .int .i64 drop] w fun e w' => e = .returned (.bool true) ∧ Below w.heap.size w w' := by
  obtain ⟨w0, hw0⟩ : ∃ w0, w0 = ((w.alloc (.cells #[.int .i64 at_] 3)).alloc (.cells #[.int .i64 put] 3)).alloc (.cells #[.int .i64 drop] 3) := ⟨_, rfl⟩
  have H0 : Hid (Env At w [] [(a0, c0, la)] [] [(w.heap.size + 1 + 1, #[.int .i64 drop]), (w.heap.size + 1, #[.int .i64 put]), (w.heap.size, #[.int .i64 at_])] w0) := by
    rw [hw0]
    exact (((((Env.start w HT.out).num A a0 c0 la ha (fun F _ _ x _ i hi => by simp at hi)).box A _ _ rfl).box A _ _ (by simp)).box A _ _ (by simp))
  obtain ⟨m, hm⟩ : ∃ m, setB (newB n false) la true = m := ⟨_, rfl⟩
  obtain ⟨M, hM⟩ : ∃ M, M = m.length := ⟨_, rfl⟩
  have KM := hide hM
  have Km := hide hm
  have KML : Hid (m.length = (newB n false).length) := hide (by rw [← hm, setB_length])
  have KN : Hid (M = (newB n false).length) := hide (by rw [hM, KML.out])
  have KL : Hid ((newB n false).length ≤ 300) := hide (by rw [newB_length]; omega)
  have K0 := hide hn0
  have K1 : Hid (la.length ≤ 1000) := hide (by omega)
  have W1 := hide hwn
  have WA := hide hwa
  have WP := hide hwp
  have WD := hide hwd
  have g0 : ¬ (300 : Int) < n0 := by omega
  have g1 : ¬ (300 : Int) < n := by omega
  have HW0 : Hid (w.heap.size + 3 = w0.heap.size) := hide (by rw [hw0]; simp)
  clear hm hM hwn hwa hwp hwd ha hn0 b0
  refine (callsIn_wide (n := 3)).1 ?_
  refine callsIn_of_wp_marks Tryd.func4 rfl trivial ?_ rfl
  simp only [Tryd.ntmps4, List.size_toArray, List.length_cons, List.length_nil, Nat.reduceAdd, Nat.reduceSub, Array.replicate_succ, Array.replicate_zero, List.push_toArray, List.append_toArray, List.nil_append, List.cons_append]
  gi_wp2_with (first
    | (refine ⟨trivial, ?_⟩; gi_at_call 7; go_must ((refine (callsIn_wide.2 (works6_any A _ (by rw [← hw0]; exact H0.out.tabx))).mono ?_); rintro e w1 ⟨rfl, hb1⟩; rw [← hw0] at hb1; have H1 := hide (H0.out.read A hb1); clear hb1 hw0))
    | (refine ⟨trivial, ?_⟩; gi_at_call 8; go_must ((refine (callsIn_wide.2 (newE A n (m := newB n false) H1 W1.out rfl)).mono ?_); rintro e w2 ⟨p, rfl, H2⟩; obtain ⟨Fp, hFp⟩ := H2.out.at 0 (p := p) (m := newB n false) rfl; obtain ⟨pq, hpq⟩ := A.ptr hFp; subst hpq; clear hFp; have H3 := hide (H2.out.box A #[.pointer pq] 24 (b := w2.heap.size) rfl); have k11 := Env.cell H3.out (b := w2.heap.size) (c := #[.pointer pq]) (by simp) 0 (v := .pointer pq) rfl))
    | (refine ⟨trivial, ?_⟩; gi_at_call 21; go_must ((refine (callsIn_wide.2 (putE A 0 (p := .pointer pq) (m := newB n false) (m3 := m) (l := la) (n := n0) (a := a0) (c := c0) H3 rfl (by simp) K0.out K1.out Km.out)).mono ?_); rintro e w4 ⟨rfl, H4⟩))
    | (refine ⟨trivial, ?_⟩; gi_at_call 10; go_must ((refine (callsIn_wide.2 (rnewE A n false (m := newB n false) (n := M) H4 W1.out rfl KN.out)).mono ?_); rintro e w5 ⟨a5, c5, rfl, H5⟩))
    | (refine ⟨trivial, ?_⟩; gi_at_call 22; go_must ((refine (callsIn_wide.2 (rsetE A true (a := a5) (c := c5) (a2 := a0) (c2 := c0) (m := newB n false) (l := la) (m3 := m) (n := M) (n2 := n0) H5 (by simp) (by simp) KN.out K0.out (by have := KL.out; omega) Km.out)).mono ?_); rintro e w6 ⟨am, cm, rfl, H6⟩; clear k11; have k11 := Env.cell H6.out (b := w2.heap.size) (c := #[.pointer pq]) (by simp) 0 (v := .pointer pq) rfl))
    | (refine ⟨trivial, ?_⟩; gi_at_call 23; go_must ((refine (callsIn_wide.2 (iterE A T 0 (p := .pointer pq) (m := m) H6 rfl)).mono ?_); rintro e w7 ⟨gf, lb, pv, rfl, hent, heq, H7, HLED⟩; clear k11)))
  obtain ⟨m', hm'⟩ : ∃ m', m' = setB (setB m [put] true) [drop] false := ⟨_, rfl⟩
  have KM' := hide hm'
  have KL' : Hid (m'.length = m.length) := hide (by rw [hm', setB_length, setB_length])
  obtain ⟨CS, hCS⟩ : ∃ CS, CS = pv ++ [(w2.heap.size, #[.pointer pq]), (w.heap.size + 1 + 1, #[.int .i64 drop]), (w.heap.size + 1, #[.int .i64 put]), (w.heap.size, #[.int .i64 at_])] := ⟨_, rfl⟩
  have C11 : (w2.heap.size, #[Value.pointer pq]) ∈ CS := by rw [hCS]; simp
  have C9 : (w.heap.size + 1 + 1, #[Value.int .i64 drop]) ∈ CS := by rw [hCS]; simp
  have C8 : (w.heap.size + 1, #[Value.int .i64 put]) ∈ CS := by rw [hCS]; simp
  have C7 : (w.heap.size, #[Value.int .i64 at_]) ∈ CS := by rw [hCS]; simp
  have CPV : ∀ r ∈ pv, r ∈ CS := fun r hr => by rw [hCS]; simp [hr]
  have H7' : Env At w [(.pointer pq, m)] [] [(am, cm, m)] CS w7 := by rw [hCS]; exact H7.out.sub 1 rfl (by simp) (by simp) (fun r hr => hr)
  have HCLT : Hid (∀ b ∈ CS, b.1 < w7.heap.size) := hide (fun b hb => (H7'.boxes b hb).lt)
  have H8 : Hid (Env At w [(.pointer pq, m)] [(none, 0, [])] [(am, cm, m)] ((w7.heap.size, #[.slice none 0 0]) :: CS) (w7.alloc (.cells #[.slice none 0 0] 28))) :=
    (H7'.box A #[.slice none 0 0] 28 rfl).num A none 0 [] ⟨by simp, ⟨by simp, fun i hi => by simp at hi⟩, fun _ => rfl⟩ (fun F _ _ x e => by cases e)
  have HB7 : Hid (w.heap.size ≤ w7.heap.size) := H7'.size
  clear H7' hm' hCS
  have D11 := hide C11
  have D9 := hide C9
  have D8 := hide C8
  have D7 := hide C7
  have DPV := hide CPV
  clear C11 C9 C8 C7 CPV
  obtain ⟨i0, hi, hz0, hz1, hz2⟩ := info_parts Tryd.infoInt
  have HI0 : Hid (GoI At w (.pointer pq) m m' am cm CS w7.heap.size w.heap.size at_ [] (w7.alloc (.cells #[.slice none 0 0] 28))) := ⟨.nil, none, 0, H8.out, World.ownsRow_nil _ _ _ _, Sep.nil _ _, fun h => absurd rfl h⟩
  have HLE := HLED.out (fun pre W => GoI At w (.pointer pq) m m' am cm CS w7.heap.size w.heap.size at_ pre W ∧ (pre ≠ [] → lastG pre ≠ at_)) (mG m m') (fun pre W h => by
    obtain ⟨⟨_, a, c, hE, _⟩, _⟩ := h
    exact ⟨fun r hr => hE.boxes r (List.mem_cons_of_mem _ (DPV.out r hr)), hE.tabx, hE.at 0 rfl⟩)
  generalize hB : w7.heap.size = B at *
  have HB8 : Hid ((w7.alloc (.cells #[.slice none 0 0] 28)).heap.size = B + 1) := hide (by simp [hB])
  apply merge
  · intro key
    refine range_led rfl (by omega) rfl trivial hent _ (fun c pre W => c = .exit 0 ∧ GoI At w (.pointer pq) m m' am cm CS B w.heap.size at_ pre W ∧ pre ≠ [] ∧ lastG pre = at_) HLE (fun _ => rfl) ?hI ?hIx ⟨HI0.out, fun h => absurd rfl h⟩
      (fun x => { tmps := #[Value.int IntKind.i64 n, Value.slice a0 n0 c0, Value.int IntKind.i64 at_, Value.int IntKind.i64 put,
          Value.int IntKind.i64 drop, undef, undef, Value.pointer (some { block := w.heap.size, off := 0 }),
          Value.pointer (some { block := w.heap.size + 1, off := 0 }),
          Value.pointer (some { block := w.heap.size + 1 + 1, off := 0 }), Value.bool false,
          Value.pointer (some { block := w2.heap.size, off := 0 }), Value.slice am M cm, Value.func (Fn.func gf) #[] lb,
          Value.pointer (some { block := B, off := 0 }), Value.slice none 0 0, Value.int .i64 x, undef, undef,
          Value.int IntKind.i64 n, Value.bool false, Value.bool false, Value.slice a0 n0 c0, Value.int IntKind.i64 n0,
          Value.bool false, Value.bool false, Value.bool false, Value.bool true, Value.bool false, Value.bool false,
          undef, Value.int IntKind.i64 n, Value.pointer pq, Value.pointer pq, Value.slice a0 n0 c0, Value.tuple #[],
          Value.int IntKind.i64 n, Value.slice a5 M c5, Value.slice a0 n0 c0, Value.slice am M cm, Value.pointer pq,
          Value.func (Fn.func gf) #[] lb, Value.func (Fn.func gf) #[] lb, Value.bool false,
          Value.func (Fn.func gf) #[] lb, Value.int .i64 x, undef, undef, undef, undef, undef, undef, undef, undef, undef, undef,
          undef, undef, undef, undef, undef, undef, undef, undef, undef, undef, undef, undef, undef, undef, undef,
          undef, undef, undef, undef, undef, undef, undef, undef, undef, undef, undef, undef, undef, undef, undef,
          undef, undef, undef, undef, undef, undef, undef, undef], defers := [] }) ?assign ?body ?done ?stop
    case hI =>
      intro pre W W' row hs hg hr
      exact ⟨hs.1.off A T hg (fun r e => ⟨by have := (hr r e).1; have := HB8.out; have := HB7.out; omega, (hr r e).2⟩), hs.2⟩
    case hIx =>
      intro c pre W W' row hs hg hr
      exact ⟨hs.1, hs.2.1.off A T hg (fun r e => ⟨by have := (hr r e).1; have := HB8.out; have := HB7.out; omega, (hr r e).2⟩), hs.2.2⟩
    case assign =>
      intro l x W K hK
      gi_wp2
      exact hK
    case body =>
      rintro l pre x W ⟨⟨hseq, a, c, hE, hown, hsep, hne⟩, hlast⟩ ⟨hok, hx1⟩
      have hle := hseq.le KL'.out
      obtain ⟨q, hq⟩ : ∃ q, q = pre.length := ⟨_, rfl⟩
      have hq300 : q ≤ 300 := by rw [hq]; have := KL.out; have := KML.out; omega
      have k14 := Env.cell hE (b := B) (c := #[.slice a pre.length c]) (by simp) 0 (v := .slice a pre.length c) rfl
      have hxm : 0 ≤ x ∧ x < 300 := by
        have := (nextB_cases (mG m m' pre) (lastG pre + 1)).resolve_left (by rw [hok]; exact hx1)
        rw [hok] at this
        have e : (mG m m' pre).length = m.length := by unfold mG; split <;> simp [KL'.out]
        rw [e] at this
        have := KL.out
        have := KML.out
        omega
      have hwf : ∀ y ∈ pre ++ [x], (Lit.int .i64 y).wf = true := fun y hy => by
        rcases List.mem_append.1 hy with r | r
        · exact (hE.nums (a, c, pre) (by simp)).wf y r
        · rw [List.mem_singleton.1 r]; exact WalkArith.wf_i64 ⟨by omega, by omega⟩
      have hseq2 : GoSeq m m' at_ (pre ++ [x]) := by
        have := GoSeq.snoc hseq (by rw [hok]; exact hx1) hlast
        rw [hok] at this
        exact this
      rw [← hq] at k14 hE hown
      have HE := hide hE
      have HOWN := hide hown
      have HQ := hide hq
      have HSEQ := hide hseq2
      have HSEP := hide hsep
      have HNE := hide hne
      have HWF := hide hwf
      have hsz := hE.size
      have hd : 1 ≤ 3 - 1 - 1 := by omega
      clear hE hq hseq hseq2 hlast hsep hne hwf hok hx1 hxm hle
      by_cases h3 : q = 2
      · have g3 : ((q : Int) + 1 == 3) = true := by rw [h3]; rfl
        have HMG : Hid (mG m m' pre = m) := hide (by unfold mG; rw [if_neg (by rw [← HQ.out]; omega)])
        have HMG2 : Hid (mG m m' (pre ++ [x]) = m') := hide (by unfold mG; rw [if_pos (by rw [List.length_append, ← HQ.out]; simp; omega)])
        have HE1 : Hid (Env At w [(.pointer pq, m)] [(a, c, pre)] [(am, cm, m)] ((B, #[.slice a q c]) :: CS) W) := by have := HE.out; rw [HMG.out] at this; exact this
        clear h3
        by_cases hxa : x = at_
        · have g7 : (x == at_) = true := by simp [hxa]
          have HXA := hide hxa
          clear hxa
          gi_wp2_with (first | (gi_at_builtin; go_must ((refine wpListIn_append_own_at _ rfl _ _ 28 rfl w.heap.size 3 i0 (.int .i64 0) 1 8 Tryd.underlying28 hi hz0 hz1 hz2 rfl (by decide) _ _ _ rfl (World.ownsRow.alloc HOWN.out _) ⟨W.heap.size, 0, none⟩ 1 1 [.int .i64 x] rfl rfl (one_at rfl) (by simp [Value.oneCell']) (by unfold maxLen; omega) (by omega) (by simp; omega) ?_); intro v' w3 hown' hgrow _ hat; obtain ⟨g', cap', rfl⟩ := ownsRow_succ hown'; obtain ⟨hE4, hown4, hsep4, hc1, hf1⟩ := Env.app A (l' := pre ++ [x]) (n3 := q + 1) HE1.out HQ.out (by rw [List.length_append, ← HQ.out]; rfl) HOWN.out (Nat.le_refl _) HB7.out HNE.out HSEP.out (fun b hb => by have := HCLT.out b hb; omega) hgrow (by rw [List.map_append]; exact hown') hat HWF.out (by rw [List.length_append, ← HQ.out]; simp; omega); have HE4 := hide hE4; have HOWN4 := hide hown4; have HSEP4 := hide hsep4; have HKO4 := hide (((KeepsOthers.alloc W _).trans (keeps_own (World.ownsRow.alloc HOWN.out _) hgrow)).trans (KeepsOthers.setCell w3 ⟨B, 0, none⟩ (.slice (some ⟨g', 0, none⟩) (q + 1) cap'))); have j14 := Env.cell hE4 (b := B) (c := #[.slice (some ⟨g', 0, none⟩) (q + 1) cap']) (by simp) 0 (v := .slice (some ⟨g', 0, none⟩) (q + 1) cap') rfl; have j11 := Env.cell hE4 (List.mem_cons_of_mem _ D11.out) 0 (v := .pointer pq) rfl; have j8 := Env.cell hE4 (List.mem_cons_of_mem _ D8.out) 0 (v := .int .i64 put) rfl; have j7 := Env.cell hE4 (List.mem_cons_of_mem _ D7.out) 0 (v := .int .i64 at_) rfl; clear hE4 hown4 hsep4 hown' hgrow hat)) | (refine ⟨trivial, ?_⟩; gi_at_call 21; go_must (have L5 := hide (HE4.out.lay A [put] 3 (b := w3.heap.size) (n := 1) (by simp) rfl (by simp) (by simpa using WP.out)); (refine (CallsIn.inRound l (callsIn_wide.2 (putG A T (p := .pointer pq) (m := m) (m3 := setB m [put] true) (l := [put]) (n := 1) (a := some ⟨w3.heap.size, 0, none⟩) (c := 1) L5 (by simp) rfl (by simp) rfl))).mono ?_); rintro e w6 ⟨rfl, H6d, HK6, KO6⟩; have j11 := Env.cell H6d.out (List.mem_cons_of_mem _ D11.out) 0 (v := .pointer pq) rfl; have j9 := Env.cell H6d.out (List.mem_cons_of_mem _ D9.out) 0 (v := .int .i64 drop) rfl)) | (refine ⟨trivial, ?_⟩; gi_at_call 24; go_must (have L7 := hide (H6d.out.lay A [drop] 3 (b := w6.heap.size) (n := 1) rfl rfl (by simp) (by simpa using WD.out)); (refine (CallsIn.inRound l (callsIn_wide.2 (dropG A T (p := .pointer pq) (m := setB m [put] true) (m3 := m') (l := [drop]) (n := 1) (a := some ⟨w6.heap.size, 0, none⟩) (c := 1) L7 (by simp) rfl (by simp) KM'.out.symm))).mono ?_); rintro e w8 ⟨rfl, H8d, HK8, KO8⟩; have j7 := Env.cell H8d.out (List.mem_cons_of_mem _ D7.out) 0 (v := .int .i64 at_) rfl)))
          have HKO : Hid (KeepsOthers W w8) := hide ((((HKO4.out.trans (KeepsOthers.alloc _ _)).trans KO6.out).trans (KeepsOthers.alloc _ _)).trans KO8.out)
          have HF : Hid (Env At w [(.pointer pq, mG m m' (pre ++ [x]))] [(some ⟨g', 0, none⟩, cap', pre ++ [x])] [(am, cm, m)] ((B, #[.slice (some ⟨g', 0, none⟩) (pre ++ [x]).length cap']) :: CS) w8 ∧ w8.ownsRow w.heap.size 3 1 (.slice (some ⟨g', 0, none⟩) (pre ++ [x]).length cap') (pre ++ [x]).length ((pre ++ [x]).map (Value.int .i64))) := by
            have e : (pre ++ [x]).length = q + 1 := by rw [List.length_append, ← HQ.out]; rfl
            rw [HMG2.out, e]
            refine ⟨H8d.out.sub 1 rfl (by simp) (by simp) (fun r hr => hr), ?_⟩
            have o5 := World.ownsRow.alloc HOWN4.out (.cells ([put].map (Value.int .i64)).toArray 3)
            have o6 := owns_block o5 (fun g e => by cases e; exact HK6.out (some ⟨g', 0, none⟩, cap', pre ++ [x]) (by simp) (by simp) ⟨g', 0, none⟩ rfl)
            have o7 := World.ownsRow.alloc o6 (.cells ([drop].map (Value.int .i64)).toArray 3)
            exact owns_block o7 (fun g e => by cases e; exact HK8.out (some ⟨g', 0, none⟩, cap', pre ++ [x]) (by simp) (by simp) ⟨g', 0, none⟩ rfl)
          exact ⟨HKO.out.from _, rfl, ⟨HSEQ.out, _, _, HF.out.1, HF.out.2, HSEP4.out, fun _ => by simp⟩, by simp, by rw [lastG_snoc]; exact HXA.out⟩
        · have g7 : (x == at_) = false := by simpa using hxa
          have HXA := hide hxa
          clear hxa
          gi_wp2_with (first | (gi_at_builtin; go_must ((refine wpListIn_append_own_at _ rfl _ _ 28 rfl w.heap.size 3 i0 (.int .i64 0) 1 8 Tryd.underlying28 hi hz0 hz1 hz2 rfl (by decide) _ _ _ rfl (World.ownsRow.alloc HOWN.out _) ⟨W.heap.size, 0, none⟩ 1 1 [.int .i64 x] rfl rfl (one_at rfl) (by simp [Value.oneCell']) (by unfold maxLen; omega) (by omega) (by simp; omega) ?_); intro v' w3 hown' hgrow _ hat; obtain ⟨g', cap', rfl⟩ := ownsRow_succ hown'; obtain ⟨hE4, hown4, hsep4, hc1, hf1⟩ := Env.app A (l' := pre ++ [x]) (n3 := q + 1) HE1.out HQ.out (by rw [List.length_append, ← HQ.out]; rfl) HOWN.out (Nat.le_refl _) HB7.out HNE.out HSEP.out (fun b hb => by have := HCLT.out b hb; omega) hgrow (by rw [List.map_append]; exact hown') hat HWF.out (by rw [List.length_append, ← HQ.out]; simp; omega); have HE4 := hide hE4; have HOWN4 := hide hown4; have HSEP4 := hide hsep4; have HKO4 := hide (((KeepsOthers.alloc W _).trans (keeps_own (World.ownsRow.alloc HOWN.out _) hgrow)).trans (KeepsOthers.setCell w3 ⟨B, 0, none⟩ (.slice (some ⟨g', 0, none⟩) (q + 1) cap'))); have j14 := Env.cell hE4 (b := B) (c := #[.slice (some ⟨g', 0, none⟩) (q + 1) cap']) (by simp) 0 (v := .slice (some ⟨g', 0, none⟩) (q + 1) cap') rfl; have j11 := Env.cell hE4 (List.mem_cons_of_mem _ D11.out) 0 (v := .pointer pq) rfl; have j8 := Env.cell hE4 (List.mem_cons_of_mem _ D8.out) 0 (v := .int .i64 put) rfl; have j7 := Env.cell hE4 (List.mem_cons_of_mem _ D7.out) 0 (v := .int .i64 at_) rfl; clear hE4 hown4 hsep4 hown' hgrow hat)) | (refine ⟨trivial, ?_⟩; gi_at_call 21; go_must (have L5 := hide (HE4.out.lay A [put] 3 (b := w3.heap.size) (n := 1) (by simp) rfl (by simp) (by simpa using WP.out)); (refine (CallsIn.inRound l (callsIn_wide.2 (putG A T (p := .pointer pq) (m := m) (m3 := setB m [put] true) (l := [put]) (n := 1) (a := some ⟨w3.heap.size, 0, none⟩) (c := 1) L5 (by simp) rfl (by simp) rfl))).mono ?_); rintro e w6 ⟨rfl, H6d, HK6, KO6⟩; have j11 := Env.cell H6d.out (List.mem_cons_of_mem _ D11.out) 0 (v := .pointer pq) rfl; have j9 := Env.cell H6d.out (List.mem_cons_of_mem _ D9.out) 0 (v := .int .i64 drop) rfl)) | (refine ⟨trivial, ?_⟩; gi_at_call 24; go_must (have L7 := hide (H6d.out.lay A [drop] 3 (b := w6.heap.size) (n := 1) rfl rfl (by simp) (by simpa using WD.out)); (refine (CallsIn.inRound l (callsIn_wide.2 (dropG A T (p := .pointer pq) (m := setB m [put] true) (m3 := m') (l := [drop]) (n := 1) (a := some ⟨w6.heap.size, 0, none⟩) (c := 1) L7 (by simp) rfl (by simp) KM'.out.symm))).mono ?_); rintro e w8 ⟨rfl, H8d, HK8, KO8⟩; have j7 := Env.cell H8d.out (List.mem_cons_of_mem _ D7.out) 0 (v := .int .i64 at_) rfl)))
          have HKO : Hid (KeepsOthers W w8) := hide ((((HKO4.out.trans (KeepsOthers.alloc _ _)).trans KO6.out).trans (KeepsOthers.alloc _ _)).trans KO8.out)
          have HF : Hid (Env At w [(.pointer pq, mG m m' (pre ++ [x]))] [(some ⟨g', 0, none⟩, cap', pre ++ [x])] [(am, cm, m)] ((B, #[.slice (some ⟨g', 0, none⟩) (pre ++ [x]).length cap']) :: CS) w8 ∧ w8.ownsRow w.heap.size 3 1 (.slice (some ⟨g', 0, none⟩) (pre ++ [x]).length cap') (pre ++ [x]).length ((pre ++ [x]).map (Value.int .i64))) := by
            have e : (pre ++ [x]).length = q + 1 := by rw [List.length_append, ← HQ.out]; rfl
            rw [HMG2.out, e]
            refine ⟨H8d.out.sub 1 rfl (by simp) (by simp) (fun r hr => hr), ?_⟩
            have o5 := World.ownsRow.alloc HOWN4.out (.cells ([put].map (Value.int .i64)).toArray 3)
            have o6 := owns_block o5 (fun g e => by cases e; exact HK6.out (some ⟨g', 0, none⟩, cap', pre ++ [x]) (by simp) (by simp) ⟨g', 0, none⟩ rfl)
            have o7 := World.ownsRow.alloc o6 (.cells ([drop].map (Value.int .i64)).toArray 3)
            exact owns_block o7 (fun g e => by cases e; exact HK8.out (some ⟨g', 0, none⟩, cap', pre ++ [x]) (by simp) (by simp) ⟨g', 0, none⟩ rfl)
          exact ⟨HKO.out.from _, ⟨HSEQ.out, _, _, HF.out.1, HF.out.2, HSEP4.out, fun _ => by simp⟩, fun _ => by rw [lastG_snoc]; exact HXA.out⟩
      · have g3 : ((q : Int) + 1 == 3) = false := by simp; omega
        have HMG2 : Hid (mG m m' (pre ++ [x]) = mG m m' pre) := hide (by
          unfold mG
          rw [List.length_append, ← HQ.out, List.length_singleton]
          by_cases h4 : 3 ≤ q
          · rw [if_pos h4, if_pos (by omega)]
          · rw [if_neg h4, if_neg (by omega)])
        have HE1 := HE
        clear h3
        by_cases hxa : x = at_
        · have g7 : (x == at_) = true := by simp [hxa]
          have HXA := hide hxa
          clear hxa
          gi_wp2_with (first | (gi_at_builtin; go_must ((refine wpListIn_append_own_at _ rfl _ _ 28 rfl w.heap.size 3 i0 (.int .i64 0) 1 8 Tryd.underlying28 hi hz0 hz1 hz2 rfl (by decide) _ _ _ rfl (World.ownsRow.alloc HOWN.out _) ⟨W.heap.size, 0, none⟩ 1 1 [.int .i64 x] rfl rfl (one_at rfl) (by simp [Value.oneCell']) (by unfold maxLen; omega) (by omega) (by simp; omega) ?_); intro v' w3 hown' hgrow _ hat; obtain ⟨g', cap', rfl⟩ := ownsRow_succ hown'; obtain ⟨hE4, hown4, hsep4, hc1, hf1⟩ := Env.app A (l' := pre ++ [x]) (n3 := q + 1) HE1.out HQ.out (by rw [List.length_append, ← HQ.out]; rfl) HOWN.out (Nat.le_refl _) HB7.out HNE.out HSEP.out (fun b hb => by have := HCLT.out b hb; omega) hgrow (by rw [List.map_append]; exact hown') hat HWF.out (by rw [List.length_append, ← HQ.out]; simp; omega); have HE4 := hide hE4; have HOWN4 := hide hown4; have HSEP4 := hide hsep4; have HKO4 := hide (((KeepsOthers.alloc W _).trans (keeps_own (World.ownsRow.alloc HOWN.out _) hgrow)).trans (KeepsOthers.setCell w3 ⟨B, 0, none⟩ (.slice (some ⟨g', 0, none⟩) (q + 1) cap'))); have j14 := Env.cell hE4 (b := B) (c := #[.slice (some ⟨g', 0, none⟩) (q + 1) cap']) (by simp) 0 (v := .slice (some ⟨g', 0, none⟩) (q + 1) cap') rfl; have j11 := Env.cell hE4 (List.mem_cons_of_mem _ D11.out) 0 (v := .pointer pq) rfl; have j8 := Env.cell hE4 (List.mem_cons_of_mem _ D8.out) 0 (v := .int .i64 put) rfl; have j7 := Env.cell hE4 (List.mem_cons_of_mem _ D7.out) 0 (v := .int .i64 at_) rfl; clear hE4 hown4 hsep4 hown' hgrow hat)))
          have HF : Hid (Env At w [(.pointer pq, mG m m' (pre ++ [x]))] [(some ⟨g', 0, none⟩, cap', pre ++ [x])] [(am, cm, m)] ((B, #[.slice (some ⟨g', 0, none⟩) (pre ++ [x]).length cap']) :: CS) (w3.setCell ⟨B, 0, none⟩ (.slice (some ⟨g', 0, none⟩) (q + 1) cap')) ∧ (w3.setCell ⟨B, 0, none⟩ (.slice (some ⟨g', 0, none⟩) (q + 1) cap')).ownsRow w.heap.size 3 1 (.slice (some ⟨g', 0, none⟩) (pre ++ [x]).length cap') (pre ++ [x]).length ((pre ++ [x]).map (Value.int .i64))) := by
            have e : (pre ++ [x]).length = q + 1 := by rw [List.length_append, ← HQ.out]; rfl
            rw [HMG2.out, e]
            exact ⟨HE4.out, HOWN4.out⟩
          exact ⟨HKO4.out.from _, rfl, ⟨HSEQ.out, _, _, HF.out.1, HF.out.2, HSEP4.out, fun _ => by simp⟩, by simp, by rw [lastG_snoc]; exact HXA.out⟩
        · have g7 : (x == at_) = false := by simpa using hxa
          have HXA := hide hxa
          clear hxa
          gi_wp2_with (first | (gi_at_builtin; go_must ((refine wpListIn_append_own_at _ rfl _ _ 28 rfl w.heap.size 3 i0 (.int .i64 0) 1 8 Tryd.underlying28 hi hz0 hz1 hz2 rfl (by decide) _ _ _ rfl (World.ownsRow.alloc HOWN.out _) ⟨W.heap.size, 0, none⟩ 1 1 [.int .i64 x] rfl rfl (one_at rfl) (by simp [Value.oneCell']) (by unfold maxLen; omega) (by omega) (by simp; omega) ?_); intro v' w3 hown' hgrow _ hat; obtain ⟨g', cap', rfl⟩ := ownsRow_succ hown'; obtain ⟨hE4, hown4, hsep4, hc1, hf1⟩ := Env.app A (l' := pre ++ [x]) (n3 := q + 1) HE1.out HQ.out (by rw [List.length_append, ← HQ.out]; rfl) HOWN.out (Nat.le_refl _) HB7.out HNE.out HSEP.out (fun b hb => by have := HCLT.out b hb; omega) hgrow (by rw [List.map_append]; exact hown') hat HWF.out (by rw [List.length_append, ← HQ.out]; simp; omega); have HE4 := hide hE4; have HOWN4 := hide hown4; have HSEP4 := hide hsep4; have HKO4 := hide (((KeepsOthers.alloc W _).trans (keeps_own (World.ownsRow.alloc HOWN.out _) hgrow)).trans (KeepsOthers.setCell w3 ⟨B, 0, none⟩ (.slice (some ⟨g', 0, none⟩) (q + 1) cap'))); have j14 := Env.cell hE4 (b := B) (c := #[.slice (some ⟨g', 0, none⟩) (q + 1) cap']) (by simp) 0 (v := .slice (some ⟨g', 0, none⟩) (q + 1) cap') rfl; have j11 := Env.cell hE4 (List.mem_cons_of_mem _ D11.out) 0 (v := .pointer pq) rfl; have j8 := Env.cell hE4 (List.mem_cons_of_mem _ D8.out) 0 (v := .int .i64 put) rfl; have j7 := Env.cell hE4 (List.mem_cons_of_mem _ D7.out) 0 (v := .int .i64 at_) rfl; clear hE4 hown4 hsep4 hown' hgrow hat)))
          have HF : Hid (Env At w [(.pointer pq, mG m m' (pre ++ [x]))] [(some ⟨g', 0, none⟩, cap', pre ++ [x])] [(am, cm, m)] ((B, #[.slice (some ⟨g', 0, none⟩) (pre ++ [x]).length cap']) :: CS) (w3.setCell ⟨B, 0, none⟩ (.slice (some ⟨g', 0, none⟩) (q + 1) cap')) ∧ (w3.setCell ⟨B, 0, none⟩ (.slice (some ⟨g', 0, none⟩) (q + 1) cap')).ownsRow w.heap.size 3 1 (.slice (some ⟨g', 0, none⟩) (pre ++ [x]).length cap') (pre ++ [x]).length ((pre ++ [x]).map (Value.int .i64))) := by
            have e : (pre ++ [x]).length = q + 1 := by rw [List.length_append, ← HQ.out]; rfl
            rw [HMG2.out, e]
            exact ⟨HE4.out, HOWN4.out⟩
          exact ⟨HKO4.out.from _, ⟨HSEQ.out, _, _, HF.out.1, HF.out.2, HSEP4.out, fun _ => by simp⟩, fun _ => by rw [lastG_snoc]; exact HXA.out⟩
    case done =>
      rintro D xs W hD hS ⟨⟨hseq, a, c, hE, hown, hsep, hne⟩, hlast⟩ hK
      have hgd : GoDone m m' at_ xs := .inl hS
      have HSEQ := hide hseq
      have HGD := hide hgd
      have HE := hide hE
      have HOWN := hide hown
      have HK := hide hK
      have HD := hide hD
      clear hseq hgd hE hown hK hD hS hsep hne hlast
      revert HSEQ HGD HE HOWN HK HD
      revert a c
      revert D xs W
      exact key.out
    case stop =>
      rintro D cc pre W hD - ⟨rfl, ⟨hseq, a, c, hE, hown, hsep, hne0⟩, hne, hlast⟩ hK
      have hgd : GoDone m m' at_ pre := .inr ⟨hne, hlast⟩
      have HSEQ := hide hseq
      have HGD := hide hgd
      have HE := hide hE
      have HOWN := hide hown
      have HK := hide hK
      have HD := hide hD
      clear hseq hgd hE hown hK hD hne hlast hsep hne0
      refine wpIn_exit (exit_normal ?_)
      exact key.out D pre W a c HSEQ HGD HE HOWN HK HD
  intro D got W a c HSEQ HGD HE HOWN HK HD
  obtain ⟨x, hx⟩ : ∃ x, x = got.length := ⟨_, rfl⟩
  have HX := hide hx
  have k14 := Env.cell HE.out (b := B) (c := #[.slice a got.length c]) (by simp) 0 (v := .slice a got.length c) rfl
  rw [← hx] at k14
  have R0 : Hid (WantI W m m' M at_ (.slice am M cm) (.slice none 0 0) (.int .i64 (-1)) (.int .i64 0) W) := ⟨[], am, cm, rfl, rfl, rfl, .nil, fun h => absurd rfl h, hide (by have := HE.out.bools (am, cm, m) (by simp); exact this), Below.refl _ _, World.ownsRow_nil _ _ _ _, hide (fun y _ _ g e => by simp [Value.ownBlock] at e)⟩
  clear hx
  have HWFP : Hid (∀ l, GoSeq m m' at_ l → ∀ y ∈ l, (Lit.int .i64 y).wf = true) := hide (fun l hl y hy => by
    have := hl.mem KL'.out y hy
    have k1 := KL.out
    have k2 := KML.out
    exact WalkArith.wf_i64 ⟨by omega, by omega⟩)
  gi_wp2
  gi_loopw [12, 15, 17, 18] (fun mv wv lv kv wr => WantI W m m' M at_ mv wv lv kv wr) (fun _ _ _ kv _ => 400 - (intOf kv).toNat)
  case atStart => exact R0.out
  case round =>
    obtain ⟨pre, ar, cr, rfl, rfl, rfl, hseq, hlast, hR, hbel, hown, hsep⟩ := hrel
    obtain ⟨V, hV⟩ : ∃ V, V = wr := ⟨_, rfl⟩
    subst hV
    have hle := hseq.out.le KL'.out
    obtain ⟨q, hq⟩ : ∃ q, q = pre.length := ⟨_, rfl⟩
    have hq300 : q ≤ 300 := by rw [hq]; have := KL.out; have := KML.out; omega
    have hq300i : (q : Int) ≤ 300 := by omega
    obtain ⟨L, hL⟩ : ∃ L, L = lastG pre := ⟨_, rfl⟩
    have hLb : -1 ≤ L ∧ L < 300 := by
      have k1 := KL.out
      have k2 := KML.out
      rcases hseq.out.short KL'.out with r | r
      · omega
      · subst r; rw [hL]; simp [lastG]
    obtain ⟨hL1, hL2⟩ := hLb
    have hMG : (mG m m' pre).length = m.length := by unfold mG; split <;> simp [KL'.out]
    have HMGL : Hid (M = (mG m m' pre).length) := hide (by rw [hMG]; exact KM.out)
    obtain ⟨r, hr⟩ : ∃ r, nextB (mG m m' pre) (L + 1) = r := ⟨_, rfl⟩
    have CN : Hid (Calls Tryd.prog 20 #[.slice ar M cr, .int .i64 (L + 1)] V fun e w' => e = .returned (.int .i64 r) ∧ w' = V) := by
      rw [HMGL.out, ← hr]
      exact rnext_any ar cr _ (L + 1) V hR.out (WalkArith.wf_i64 ⟨by omega, by omega⟩)
    have HV := hide (HE.out.read A (hbel.out.mono (Nat.le_refl _)))
    have k14 := Env.cell HV.out (b := B) (c := #[.slice a got.length c]) (by simp) 0 (v := .slice a got.length c) rfl
    rw [← HX.out] at k14
    have k7 := Env.cell HV.out (List.mem_cons_of_mem _ D7.out) 0 (v := .int .i64 at_) rfl
    have k8 := Env.cell HV.out (List.mem_cons_of_mem _ D8.out) 0 (v := .int .i64 put) rfl
    have k9 := Env.cell HV.out (List.mem_cons_of_mem _ D9.out) 0 (v := .int .i64 drop) rfl
    rw [← hq] at hown
    obtain ⟨aw, cw, rfl⟩ := own_form hown.out
    have HQ := hide hq
    have HLL := hide hL
    have HRR := hide hr
    rw [← hq, ← hL]
    rcases nextB_cases (mG m m' pre) (L + 1) with hn | hn
    · rw [hr] at hn
      have hneg : r < 0 := by omega
      have HSEQ2 := hseq
      have HGD2 : Hid (GoDone m m' at_ pre) := hide (.inl (by rw [← hL, hr]; exact hn))
      have HBV := hbel
      have HWR : Hid (RowI V aw cw pre ∧ q = pre.length) := by
        have ho := hown.out
        obtain ⟨a', c', e, hrw, _⟩ := OwnI.row (l := pre) (base := W.heap.size) (v := .slice aw q cw) (w := V) (by unfold OwnI; rw [← hq]; exact ho) (by omega) (HWFP.out pre hseq.out)
        injection e with e1 e2 e3
        subst e1 e3
        exact ⟨hrw, hq⟩
      have EQ : Hid (pre = got) := hide (GoSeq.one HSEQ2.out HSEQ.out HGD2.out HGD.out)
      have CS2 : Hid (Calls Tryd.prog 13 #[.slice a x c, .slice aw q cw] V fun e w' => e = .returned (.bool true) ∧ Hid (Below V.heap.size V w')) := by
        have e : q = got.length := by rw [HWR.out.2, EQ.out]
        rw [HX.out, e]
        refine hide ((same_is a aw c cw got got V ((HE.out.nums (a, c, got) (by simp)).keep (HBV.out.mono (Nat.le_refl _))) (by rw [← EQ.out]; exact HWR.out.1)).mono ?_)
        rintro e w' ⟨rfl, hb⟩
        exact ⟨by simp, hb⟩
      have HFIN : Hid (∀ w9, Below V.heap.size V w9 → w9.heap[D]? = some (.deferred (some [])) ∧ Below w.heap.size w (w9.putObj D (.deferred none))) := hide (fun w9 hb9 => by
        have hDW : D < W.heap.size := (Array.getElem?_eq_some_iff.1 HK.out).1
        have h2 : V.heap[D]? = some (.deferred (some [])) := (HBV.out.block D hDW).trans HK.out
        have h9 := (hb9.block D (Nat.lt_of_lt_of_le hDW HBV.out.size)).trans h2
        have s1 := HE.out.size
        have s2 := HBV.out.size
        have b1 : Below w.heap.size w w9 := (HE.out.below.trans (HBV.out.mono s1)).trans (hb9.mono (by omega))
        exact ⟨h9, b1.trans (belowK_b (w := w) (Nat.le_refl _) _ D _ _ (by have := HD.out; have := HB8.out; have := HB7.out; omega) h9 rfl rfl)⟩)
      clear hq hL hr hle hMG hn
      gi_wp2_with (first | (refine ⟨trivial, ?_⟩; gi_at_call 20; go_must ((with_reducible refine (callsIn_wide.2 (Hid.out CN)).mono ?_); rintro e wn ⟨rfl, hwn⟩; replace hwn := hwn.symm; subst hwn)) | (refine ⟨trivial, ?_⟩; gi_at_call 13; go_must ((with_reducible refine (callsIn_wide.2 (Hid.out CS2)).mono ?_); rintro e w9 ⟨rfl, HB9⟩)))
      have hfin := HFIN.out w9 HB9.out
      refine ⟨by simp, .inl ⟨_, _, rfl, run_takeDeferred hfin.1, ?_⟩⟩
      exact ⟨.bool true, by simp [results, Tryd.f4, go_sem], rfl, hfin.2⟩
    · rw [hr] at hn
      have hpos : ¬ r < 0 := by omega
      have hr300 : r < 300 := by
        have k1 := KL.out
        have k2 := KML.out
        have := hn.2.2.1
        rw [hMG] at this
        omega
      have hrne : r ≠ -1 := by omega
      have HSEQ2 : Hid (GoSeq m m' at_ (pre ++ [r])) := by
        have := GoSeq.snoc hseq.out (by rw [← hL, hr]; exact hrne) hlast.out
        rw [← hL, hr] at this
        exact this
      have HLEN : Hid ((pre ++ [r]).length = q + 1) := hide (by rw [List.length_append, ← hq]; rfl)
      clear hq hL hr hle hMG hn
      by_cases h3 : q = 2
      · have g3 : ((q : Int) + 1 == 3) = true := by rw [h3]; rfl
        have HMG : Hid (mG m m' pre = m) := hide (by unfold mG; rw [if_neg (by rw [← HQ.out]; omega)])
        have HMG2 : Hid (mG m m' (pre ++ [r]) = m') := hide (by unfold mG; rw [HLEN.out, if_pos (by omega)])
        clear h3
        gi_wp2_with (first | (refine ⟨trivial, ?_⟩; gi_at_call 20; go_must ((with_reducible refine (callsIn_wide.2 (Hid.out CN)).mono ?_); rintro e wn ⟨rfl, hwn⟩; replace hwn := hwn.symm; subst hwn)) | (gi_at_builtin; go_must ((refine wpListIn_append_own_at _ rfl _ _ 28 rfl W.heap.size 3 i0 (.int .i64 0) 1 8 Tryd.underlying28 hi hz0 hz1 hz2 rfl (by decide) _ _ _ rfl (World.ownsRow.alloc hown.out _) ⟨V.heap.size, 0, none⟩ 1 1 [.int .i64 r] rfl rfl (one_at rfl) (by simp [Value.oneCell']) (by unfold maxLen; omega) (by omega) (by have := hbel.out.size; simp; omega) ?_); intro v' w3 hown' hgrow _ hat; obtain ⟨g', cap', rfl⟩ := ownsRow_succ hown'; have HOWN3 : Hid (w3.ownsRow W.heap.size 3 1 (.slice (some ⟨g', 0, none⟩) (q + 1) cap') (q + 1) ((pre ++ [r]).map (Value.int .i64))) := (by rw [List.map_append]; exact hown'); have HB3 : Hid (Below W.heap.size W w3) := hide ((hbel.out.alloc hbel.out.size (.cells #[.int .i64 r] 3)).grown hgrow (by have := hbel.out.size; simp; omega) (fun q e => (World.ownsRow.lt hown.out q e).1)); have HR3 : Hid (RowB w3 ar cr (mG m m' pre)) := hide (hR.out.only (S := fun k => (Value.slice aw q cw).ownBlock = some k) ((Only.of_below ((Below.refl _ _).alloc (Nat.le_refl _) _)).trans (only_grown hgrow)) (fun hl y e g => hsep.out y e hl _ g rfl)); have HSEP3 : Hid (∀ y, ar = some y → 0 < (mG m m' pre).length → ∀ g, (Value.slice (some ⟨g', 0, none⟩) (q + 1) cap').ownBlock = some g → y.block ≠ g) := hide (fun y e hl g eg => hat.elim (fun t => hsep.out y e hl g (t ▸ eg)) (fun t => by rw [t] at eg; have z := hR.out.lt hl y e; have z2 := Option.some.inj eg; rw [← z2]; simp; omega)); have HV3 := hide (HE.out.read A (HB3.out.mono (Nat.le_refl _))); have k14 := Env.cell HV3.out (b := B) (c := #[.slice a got.length c]) (by simp) 0 (v := .slice a got.length c) rfl; rw [← HX.out] at k14; have k7 := Env.cell HV3.out (List.mem_cons_of_mem _ D7.out) 0 (v := .int .i64 at_) rfl; have k8 := Env.cell HV3.out (List.mem_cons_of_mem _ D8.out) 0 (v := .int .i64 put) rfl; have k9 := Env.cell HV3.out (List.mem_cons_of_mem _ D9.out) 0 (v := .int .i64 drop) rfl; clear hown' hgrow hat)))
        have HRM : Hid (RowB w3 ar cr m) := by have := HR3.out; rw [HMG.out] at this; exact this
        have HPL := hide (fun X => put_pl (w3 := w3) (X := X) HRM.out WP.out KM.out (by have := KL.out; have := KML.out; omega))
        have HDL := hide (fun X a5 c5 Nd => drop_pl (w3 := w3) (X := X) (a5 := a5) (c5 := c5) (Nd := Nd) (m := m) (put := put) (drop := drop) (m' := m') (M := M) KM'.out KM.out (by have := KL.out; have := KML.out; omega))
        have RP1 := hide ((row_one (x := put) w3 3 (b := w3.heap.size) rfl WP.out).keep (w' := (w3.alloc (.cells #[.int .i64 put] 3)).drew) (Below.refl _ _).drew)
        have RD2 := hide ((row_one (x := drop) (w3.alloc (.cells #[.int .i64 put] 3)) 3 (b := w3.heap.size + 1) (by simp) WD.out).keep (w' := ((w3.alloc (.cells #[.int .i64 put] 3)).alloc (.cells #[.int .i64 drop] 3)).drew) (Below.refl _ _).drew)
        have RP2 := hide ((row_one (x := put) w3 3 (b := w3.heap.size) rfl WP.out).keep (w' := ((w3.alloc (.cells #[.int .i64 put] 3)).alloc (.cells #[.int .i64 drop] 3)).drew) ((Below.refl _ _).alloc (Nat.le_refl _) _).drew)
        have RD3b := hide ((row_one (x := drop) w3 3 (b := w3.heap.size) rfl WD.out).keep (w' := ((w3.alloc (.cells #[.int .i64 drop] 3)).alloc (.cells #[.int .i64 put] 3)).drew) ((Below.refl _ _).alloc (Nat.le_refl _) _).drew)
        have RP3 := hide ((row_one (x := put) (w3.alloc (.cells #[.int .i64 drop] 3)) 3 (b := w3.heap.size + 1) (by simp) WP.out).keep (w' := ((w3.alloc (.cells #[.int .i64 drop] 3)).alloc (.cells #[.int .i64 put] 3)).drew) (Below.refl _ _).drew)
        have BX1 : Hid (Below w3.heap.size w3 (w3.alloc (.cells #[.int .i64 put] 3)).drew) := ((Below.refl w3.heap.size w3).alloc (Nat.le_refl _) _).drew
        have BX2 : Hid (Below w3.heap.size w3 ((w3.alloc (.cells #[.int .i64 put] 3)).alloc (.cells #[.int .i64 drop] 3)).drew) := (((Below.refl w3.heap.size w3).alloc (Nat.le_refl _) _).alloc (by simp) _).drew
        have BX3 : Hid (Below w3.heap.size w3 ((w3.alloc (.cells #[.int .i64 drop] 3)).alloc (.cells #[.int .i64 put] 3)).drew) := (((Below.refl w3.heap.size w3).alloc (Nat.le_refl _) _).alloc (by simp) _).drew
        have CP1 := hide (HPL.out _ w3.heap.size BX1.out RP1.out)
        have CP2 := hide (HPL.out _ w3.heap.size BX2.out RP2.out)
        have CP3 := hide (HPL.out _ (w3.heap.size + 1) BX3.out RP3.out)
        have HCELL : Hid (∀ W5, Below w3.heap.size w3 W5 → W5.cell? ⟨w.heap.size + 1, 0, none⟩ = some (.int .i64 put) ∧ W5.cell? ⟨w.heap.size + 1 + 1, 0, none⟩ = some (.int .i64 drop)) := hide (fun W5 hb => by
          have h5 := HV3.out.read A hb
          exact ⟨Env.cell h5 (List.mem_cons_of_mem _ D8.out) 0 rfl, Env.cell h5 (List.mem_cons_of_mem _ D9.out) 0 rfl⟩)
        clear k7 k14
        apply merge
        · intro key
          refine wpIn_wide.2 ?_
          go_region_held3 (fun w' => w'.cell? ⟨w.heap.size + 1, 0, none⟩ = some (.int .i64 put) ∧ w'.cell? ⟨w.heap.size + 1 + 1, 0, none⟩ = some (.int .i64 drop)) (first | exact ⟨by assumption, by assumption⟩ | go_keep)
            (first
              | (go_at_call 22; (with_reducible refine (Hid.out CQ).mono ?_); go_must (clear CQ; rintro e w6 ⟨a6, c6, rfl, HR6, HB6, HF6⟩; obtain ⟨z8, z9⟩ := HCELL.out w6 HB6.out))
              | (go_at_call 22; (with_reducible refine (Hid.out CP1).mono ?_); go_must (rintro e w5 ⟨a5, c5, rfl, HR5, HB5x, HB5, HF5⟩; obtain ⟨z8, z9⟩ := HCELL.out w5 HB5.out; have CQ := hide (HDL.out (w5.alloc (.cells #[.int .i64 drop] 3)) a5 c5 w5.heap.size (HR5.out.keep ((Below.refl _ _).alloc (Nat.le_refl _) _)) (HB5.out.alloc HB5.out.size _) (row_one _ _ rfl WD.out))))
              | (go_at_call 22; (with_reducible refine (Hid.out CP2).mono ?_); go_must (rintro e w5 ⟨a5, c5, rfl, HR5, HB5x, HB5, HF5⟩; obtain ⟨z8, z9⟩ := HCELL.out w5 HB5.out; have CQ := hide (HDL.out w5 a5 c5 (w3.heap.size + 1) HR5.out HB5.out (RD2.out.keep HB5x.out))))
              | (go_at_call 22; (with_reducible refine (Hid.out CP3).mono ?_); go_must (rintro e w5 ⟨a5, c5, rfl, HR5, HB5x, HB5, HF5⟩; obtain ⟨z8, z9⟩ := HCELL.out w5 HB5.out; have CQ := hide (HDL.out w5 a5 c5 w3.heap.size HR5.out HB5.out (RD3b.out.keep HB5x.out)))))
          ·
            clear z8 z9
            try clear z8 z9
            clear HR5 HB5x HB5 HF5
            generalize w5.heap.size = b2
            generalize w3.heap.size = b1
            revert HR6 HB6 HF6; revert w6 c6 a6 c5 a5; revert b2; revert b1
            exact key.out
          ·
            clear z8 z9
            try clear z8 z9
            clear HR5 HB5x HB5 HF5
            generalize w3.heap.size + 1 = b2
            generalize w3.heap.size = b1
            revert HR6 HB6 HF6; revert w6 c6 a6 c5 a5; revert b2; revert b1
            exact key.out
          ·
            clear z8 z9
            try clear z8 z9
            clear HR5 HB5x HB5 HF5
            generalize w3.heap.size + 1 = b1
            generalize w3.heap.size = b2
            revert HR6 HB6 HF6; revert w6 c6 a6 c5 a5; revert b2; revert b1
            exact key.out
        intro b1 b2 a5x c5x w6 a6 c6 hS6 HR6 HB6 HF6
        clear hS6
        have HG3 : Hid (g' < w3.heap.size) := hide (World.ownsRow.lt HOWN3.out g' rfl).2
        have HOWN6 : Hid (w6.ownsRow W.heap.size 3 1 (.slice (some ⟨g', 0, none⟩) (q + 1) cap') (q + 1) ((pre ++ [r]).map (Value.int .i64))) := owns_block HOWN3.out (fun g e => by cases e; exact HB6.out.block g' HG3.out)
        have HB36 : Hid (Below W.heap.size W w6) := hide (HB3.out.trans (HB6.out.mono HB3.out.size))
        have HV6 := hide (HE.out.read A (HB36.out.mono (Nat.le_refl _)))
        have k14 := Env.cell HV6.out (b := B) (c := #[.slice a got.length c]) (by simp) 0 (v := .slice a got.length c) rfl
        rw [← HX.out] at k14
        have k7 := Env.cell HV6.out (List.mem_cons_of_mem _ D7.out) 0 (v := .int .i64 at_) rfl
        by_cases hxa : r = at_
        · have g7 : (r == at_) = true := by simp [hxa]
          have HGD2 : Hid (GoDone m m' at_ (pre ++ [r])) := hide (.inr ⟨by simp, by rw [lastG_snoc]; exact hxa⟩)
          have HOWN3 := HOWN6
          have HB3 := HB36
          clear hxa
          gi_wp2
          have HWR : Hid (RowI w6 (some ⟨g', 0, none⟩) cap' (pre ++ [r]) ∧ q + 1 = (pre ++ [r]).length) := by
            have ho := HOWN3.out
            obtain ⟨a', c', e, hrw, _⟩ := OwnI.row (l := pre ++ [r]) (base := W.heap.size) (v := .slice (some ⟨g', 0, none⟩) (q + 1) cap') (w := w6) (by unfold OwnI; rw [HLEN.out]; exact ho) (by rw [HLEN.out]; omega) (HWFP.out _ HSEQ2.out)
            injection e with e1 e2 e3
            subst e1 e3
            exact ⟨hrw, HLEN.out.symm⟩
          have HBV := HB3
          have EQ : Hid ((pre ++ [r]) = got) := hide (GoSeq.one HSEQ2.out HSEQ.out HGD2.out HGD.out)
          have CS2 : Hid (Calls Tryd.prog 13 #[.slice a x c, .slice (some ⟨g', 0, none⟩) (q + 1) cap'] w6 fun e w' => e = .returned (.bool true) ∧ Hid (Below w6.heap.size w6 w')) := by
            have e : (q + 1) = got.length := by rw [HWR.out.2, EQ.out]
            rw [HX.out, e]
            refine hide ((same_is a (some ⟨g', 0, none⟩) c cap' got got w6 ((HE.out.nums (a, c, got) (by simp)).keep (HBV.out.mono (Nat.le_refl _))) (by rw [← EQ.out]; exact HWR.out.1)).mono ?_)
            rintro e w' ⟨rfl, hb⟩
            exact ⟨by simp, hb⟩
          have HFIN : Hid (∀ w9, Below w6.heap.size w6 w9 → w9.heap[D]? = some (.deferred (some [])) ∧ Below w.heap.size w (w9.putObj D (.deferred none))) := hide (fun w9 hb9 => by
            have hDW : D < W.heap.size := (Array.getElem?_eq_some_iff.1 HK.out).1
            have h2 : w6.heap[D]? = some (.deferred (some [])) := (HBV.out.block D hDW).trans HK.out
            have h9 := (hb9.block D (Nat.lt_of_lt_of_le hDW HBV.out.size)).trans h2
            have s1 := HE.out.size
            have s2 := HBV.out.size
            have b1 : Below w.heap.size w w9 := (HE.out.below.trans (HBV.out.mono s1)).trans (hb9.mono (by omega))
            exact ⟨h9, b1.trans (belowK_b (w := w) (Nat.le_refl _) _ D _ _ (by have := HD.out; have := HB8.out; have := HB7.out; omega) h9 rfl rfl)⟩)
          gi_wp2_with (refine ⟨trivial, ?_⟩; gi_at_call 13; go_must ((with_reducible refine (callsIn_wide.2 (Hid.out CS2)).mono ?_); rintro e w9 ⟨rfl, HB9⟩))
          have hfin := HFIN.out w9 HB9.out
          refine ⟨by simp, .inl ⟨_, _, rfl, run_takeDeferred hfin.1, ?_⟩⟩
          exact ⟨.bool true, by simp [results, Tryd.f4, go_sem], rfl, hfin.2⟩
        · have g7 : (r == at_) = false := by simpa using hxa
          have HXA := hide hxa
          clear hxa
          gi_wp2
          go_roundw
          case rel => exact ⟨pre ++ [r], a6, c6, by rw [HLEN.out]; simp, by rw [lastG_snoc], rfl, HSEQ2, hide (fun _ => by rw [lastG_snoc]; exact HXA.out), by rw [HMG2.out]; exact HR6, HB36, by rw [HLEN.out]; exact HOWN6, hide (fun y e _ g eg => by have h1 := HF6.out y e; have h2 := HG3.out; have h3 : g' = g := (by simpa [Value.ownBlock] using eg); omega)⟩
          case measure => simp [intOf]; omega
      · have g3 : ((q : Int) + 1 == 3) = false := by simp; omega
        have HMG2 : Hid (mG m m' (pre ++ [r]) = mG m m' pre) := hide (by
          unfold mG
          rw [HLEN.out, ← HQ.out]
          by_cases h4 : 3 ≤ q
          · rw [if_pos h4, if_pos (by omega)]
          · rw [if_neg h4, if_neg (by omega)])
        clear h3
        by_cases hxa : r = at_
        · have g7 : (r == at_) = true := by simp [hxa]
          have HGD2 : Hid (GoDone m m' at_ (pre ++ [r])) := hide (.inr ⟨by simp, by rw [lastG_snoc]; exact hxa⟩)
          clear hxa
          gi_wp2_with (first | (refine ⟨trivial, ?_⟩; gi_at_call 20; go_must ((with_reducible refine (callsIn_wide.2 (Hid.out CN)).mono ?_); rintro e wn ⟨rfl, hwn⟩; replace hwn := hwn.symm; subst hwn)) | (gi_at_builtin; go_must ((refine wpListIn_append_own_at _ rfl _ _ 28 rfl W.heap.size 3 i0 (.int .i64 0) 1 8 Tryd.underlying28 hi hz0 hz1 hz2 rfl (by decide) _ _ _ rfl (World.ownsRow.alloc hown.out _) ⟨V.heap.size, 0, none⟩ 1 1 [.int .i64 r] rfl rfl (one_at rfl) (by simp [Value.oneCell']) (by unfold maxLen; omega) (by omega) (by have := hbel.out.size; simp; omega) ?_); intro v' w3 hown' hgrow _ hat; obtain ⟨g', cap', rfl⟩ := ownsRow_succ hown'; have HOWN3 : Hid (w3.ownsRow W.heap.size 3 1 (.slice (some ⟨g', 0, none⟩) (q + 1) cap') (q + 1) ((pre ++ [r]).map (Value.int .i64))) := (by rw [List.map_append]; exact hown'); have HB3 : Hid (Below W.heap.size W w3) := hide ((hbel.out.alloc hbel.out.size (.cells #[.int .i64 r] 3)).grown hgrow (by have := hbel.out.size; simp; omega) (fun q e => (World.ownsRow.lt hown.out q e).1)); have HR3 : Hid (RowB w3 ar cr (mG m m' pre)) := hide (hR.out.only (S := fun k => (Value.slice aw q cw).ownBlock = some k) ((Only.of_below ((Below.refl _ _).alloc (Nat.le_refl _) _)).trans (only_grown hgrow)) (fun hl y e g => hsep.out y e hl _ g rfl)); have HSEP3 : Hid (∀ y, ar = some y → 0 < (mG m m' pre).length → ∀ g, (Value.slice (some ⟨g', 0, none⟩) (q + 1) cap').ownBlock = some g → y.block ≠ g) := hide (fun y e hl g eg => hat.elim (fun t => hsep.out y e hl g (t ▸ eg)) (fun t => by rw [t] at eg; have z := hR.out.lt hl y e; have z2 := Option.some.inj eg; rw [← z2]; simp; omega)); have HV3 := hide (HE.out.read A (HB3.out.mono (Nat.le_refl _))); have k14 := Env.cell HV3.out (b := B) (c := #[.slice a got.length c]) (by simp) 0 (v := .slice a got.length c) rfl; rw [← HX.out] at k14; have k7 := Env.cell HV3.out (List.mem_cons_of_mem _ D7.out) 0 (v := .int .i64 at_) rfl; have k8 := Env.cell HV3.out (List.mem_cons_of_mem _ D8.out) 0 (v := .int .i64 put) rfl; have k9 := Env.cell HV3.out (List.mem_cons_of_mem _ D9.out) 0 (v := .int .i64 drop) rfl; clear hown' hgrow hat)))
          have HWR : Hid (RowI w3 (some ⟨g', 0, none⟩) cap' (pre ++ [r]) ∧ q + 1 = (pre ++ [r]).length) := by
            have ho := HOWN3.out
            obtain ⟨a', c', e, hrw, _⟩ := OwnI.row (l := pre ++ [r]) (base := W.heap.size) (v := .slice (some ⟨g', 0, none⟩) (q + 1) cap') (w := w3) (by unfold OwnI; rw [HLEN.out]; exact ho) (by rw [HLEN.out]; omega) (HWFP.out _ HSEQ2.out)
            injection e with e1 e2 e3
            subst e1 e3
            exact ⟨hrw, HLEN.out.symm⟩
          have HBV := HB3
          have EQ : Hid ((pre ++ [r]) = got) := hide (GoSeq.one HSEQ2.out HSEQ.out HGD2.out HGD.out)
          have CS2 : Hid (Calls Tryd.prog 13 #[.slice a x c, .slice (some ⟨g', 0, none⟩) (q + 1) cap'] w3 fun e w' => e = .returned (.bool true) ∧ Hid (Below w3.heap.size w3 w')) := by
            have e : (q + 1) = got.length := by rw [HWR.out.2, EQ.out]
            rw [HX.out, e]
            refine hide ((same_is a (some ⟨g', 0, none⟩) c cap' got got w3 ((HE.out.nums (a, c, got) (by simp)).keep (HBV.out.mono (Nat.le_refl _))) (by rw [← EQ.out]; exact HWR.out.1)).mono ?_)
            rintro e w' ⟨rfl, hb⟩
            exact ⟨by simp, hb⟩
          have HFIN : Hid (∀ w9, Below w3.heap.size w3 w9 → w9.heap[D]? = some (.deferred (some [])) ∧ Below w.heap.size w (w9.putObj D (.deferred none))) := hide (fun w9 hb9 => by
            have hDW : D < W.heap.size := (Array.getElem?_eq_some_iff.1 HK.out).1
            have h2 : w3.heap[D]? = some (.deferred (some [])) := (HBV.out.block D hDW).trans HK.out
            have h9 := (hb9.block D (Nat.lt_of_lt_of_le hDW HBV.out.size)).trans h2
            have s1 := HE.out.size
            have s2 := HBV.out.size
            have b1 : Below w.heap.size w w9 := (HE.out.below.trans (HBV.out.mono s1)).trans (hb9.mono (by omega))
            exact ⟨h9, b1.trans (belowK_b (w := w) (Nat.le_refl _) _ D _ _ (by have := HD.out; have := HB8.out; have := HB7.out; omega) h9 rfl rfl)⟩)
          gi_wp2_with (refine ⟨trivial, ?_⟩; gi_at_call 13; go_must ((with_reducible refine (callsIn_wide.2 (Hid.out CS2)).mono ?_); rintro e w9 ⟨rfl, HB9⟩))
          have hfin := HFIN.out w9 HB9.out
          refine ⟨by simp, .inl ⟨_, _, rfl, run_takeDeferred hfin.1, ?_⟩⟩
          exact ⟨.bool true, by simp [results, Tryd.f4, go_sem], rfl, hfin.2⟩
        · have g7 : (r == at_) = false := by simpa using hxa
          have HXA := hide hxa
          clear hxa
          gi_wp2_with (first | (refine ⟨trivial, ?_⟩; gi_at_call 20; go_must ((with_reducible refine (callsIn_wide.2 (Hid.out CN)).mono ?_); rintro e wn ⟨rfl, hwn⟩; replace hwn := hwn.symm; subst hwn)) | (gi_at_builtin; go_must ((refine wpListIn_append_own_at _ rfl _ _ 28 rfl W.heap.size 3 i0 (.int .i64 0) 1 8 Tryd.underlying28 hi hz0 hz1 hz2 rfl (by decide) _ _ _ rfl (World.ownsRow.alloc hown.out _) ⟨V.heap.size, 0, none⟩ 1 1 [.int .i64 r] rfl rfl (one_at rfl) (by simp [Value.oneCell']) (by unfold maxLen; omega) (by omega) (by have := hbel.out.size; simp; omega) ?_); intro v' w3 hown' hgrow _ hat; obtain ⟨g', cap', rfl⟩ := ownsRow_succ hown'; have HOWN3 : Hid (w3.ownsRow W.heap.size 3 1 (.slice (some ⟨g', 0, none⟩) (q + 1) cap') (q + 1) ((pre ++ [r]).map (Value.int .i64))) := (by rw [List.map_append]; exact hown'); have HB3 : Hid (Below W.heap.size W w3) := hide ((hbel.out.alloc hbel.out.size (.cells #[.int .i64 r] 3)).grown hgrow (by have := hbel.out.size; simp; omega) (fun q e => (World.ownsRow.lt hown.out q e).1)); have HR3 : Hid (RowB w3 ar cr (mG m m' pre)) := hide (hR.out.only (S := fun k => (Value.slice aw q cw).ownBlock = some k) ((Only.of_below ((Below.refl _ _).alloc (Nat.le_refl _) _)).trans (only_grown hgrow)) (fun hl y e g => hsep.out y e hl _ g rfl)); have HSEP3 : Hid (∀ y, ar = some y → 0 < (mG m m' pre).length → ∀ g, (Value.slice (some ⟨g', 0, none⟩) (q + 1) cap').ownBlock = some g → y.block ≠ g) := hide (fun y e hl g eg => hat.elim (fun t => hsep.out y e hl g (t ▸ eg)) (fun t => by rw [t] at eg; have z := hR.out.lt hl y e; have z2 := Option.some.inj eg; rw [← z2]; simp; omega)); have HV3 := hide (HE.out.read A (HB3.out.mono (Nat.le_refl _))); have k14 := Env.cell HV3.out (b := B) (c := #[.slice a got.length c]) (by simp) 0 (v := .slice a got.length c) rfl; rw [← HX.out] at k14; have k7 := Env.cell HV3.out (List.mem_cons_of_mem _ D7.out) 0 (v := .int .i64 at_) rfl; have k8 := Env.cell HV3.out (List.mem_cons_of_mem _ D8.out) 0 (v := .int .i64 put) rfl; have k9 := Env.cell HV3.out (List.mem_cons_of_mem _ D9.out) 0 (v := .int .i64 drop) rfl; clear hown' hgrow hat)))
          go_roundw
          case rel => exact ⟨pre ++ [r], ar, cr, by rw [HLEN.out]; simp, by rw [lastG_snoc], rfl, HSEQ2, hide (fun _ => by rw [lastG_snoc]; exact HXA.out), by rw [HMG2.out]; exact HR3, HB3, by rw [HLEN.out]; exact HOWN3, by rw [HMG2.out]; exact HSEP3⟩
          case measure => simp [intOf]; omega
theorem goes_no (A : Api At) (w : World) (HT : Hid (Tab w)) (n at_ put drop : Int) (a0 : Option Addr) (n0 c0 : Nat) (h : 300 < n ∨ 300 < n0) (q1 : n ≤ 9223372036854775807) (q2 : n0 ≤ 9223372036854775807) :
    Calls Tryd.prog 4 #[.int .i64 n, .slice a0 n0 c0, .int .i64 at_, .int .i64 put, .int .i64 drop] w fun e w' => e = .returned (.bool true) ∧ Below w.heap.size w w' := by
  have hb3 : Below w.heap.size w (((w.alloc (.cells #[.int .i64 at_] 3)).alloc (.cells #[.int .i64 put] 3)).alloc (.cells #[.int .i64 drop] 3)) := (((Below.refl _ _).alloc (Nat.le_refl _) _).alloc (by simp) _).alloc (by simp; omega) _
  have HB3 := hide hb3
  clear hb3
  by_cases e1 : 300 < n
  · clear h
    go_enter Tryd.func4, Tryd.ntmps4
    go_wp2_with (first | (go_at_call 7; go_must ((with_reducible refine (works6_any A _ (((HT.out.alloc _).alloc _).alloc _)).mono ?_); rintro e w1 ⟨rfl, hb1⟩; have HBW := hide hb1; clear hb1)))
    go_ret
    exact ⟨rfl, HB3.out.trans (HBW.out.mono HB3.out.size)⟩
  · have g1 : (300 : Int) < n0 := by omega
    clear h
    go_enter Tryd.func4, Tryd.ntmps4
    go_wp2_with (first | (go_at_call 7; go_must ((with_reducible refine (works6_any A _ (((HT.out.alloc _).alloc _).alloc _)).mono ?_); rintro e w1 ⟨rfl, hb1⟩; have HBW := hide hb1; clear hb1)))
    go_ret
    exact ⟨rfl, HB3.out.trans (HBW.out.mono HB3.out.size)⟩
end
end Go.Proofs.YtbljbhgelcakdaaDoor.Bit
