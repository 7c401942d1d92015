/- Joined out of the texts DqsMark, PickMem, ShelfI, SetCmp, SetRow, SetMake, SetList, PickProg, in that order. -/
import Derived.Test.YtkjhamcmhijhgaaGreatAll6
import Derived.RangeFuncLeaves
import Derived.Test.YtkjhamcmhijhgaaGreatAll4
import Derived.Deep.DeepMust
import Derived.BigQuiet
import Derived.Shelf.Small.Wraps
import Derived.Shelf.Sort.Plain
import Derived.Shelf.Slices.Clone
import Derived.Shelf.Slices.CompactI
import Derived.Shelf.Slices.CompactS
import Derived.Shelf.Slices.SearchI
import Derived.Shelf.Slices.In.SortNone
import Derived.Shelf.Slices.Empties
import Derived.Test.YtkjhamcmhijhgaaGreatProg
import Derived.Test.YtkjhamcmhijhgaaGreatAll3
import Derived.Test.YtkjhamcmhijhgaaGreatAll1
import Derived.Sort.Grow
import Derived.Lib.SlicesCompact
import Derived.Laws.MakeOwn
import Derived.Deep.RegionHeld3
/- Marks among a frame's deferred calls, as things; one step of a pool, by what it takes or does. -/
namespace Go.Proofs.YtkjhamcmhijhgaaGreat.DqS
open Go.RowKit Go.Proofs.YtkjhamcmhijhgaaGreat.Dig Go.Proofs.YtkjhamcmhijhgaaGreat.Mem Go.Proofs.YtkjhamcmhijhgaaGreat.Dq Go.Proofs.YtkjhamcmhijhgaaGreat.Bit Go.Proofs.YtkjhamcmhijhgaaGreat.Thing Go.Proofs.YtkjhamcmhijhgaaGreat.Pool Go.Shelf
set_option linter.unusedVariables false
set_option linter.unusedSimpArgs false

/-- The block of a loop over a function that has ended: no call is deferred in it. -/
def markT (D : Nat) : Th where
  P w := w.heap[D]? = some (.deferred (some []))
  F k := k = D
  keep {w w' S} h ho hs := (ho.block D (Array.getElem?_eq_some_iff.1 h).1 (hs D rfl)).trans h
  lt h k hk := by cases hk; exact (Array.getElem?_eq_some_iff.1 h).1
def mkD (D : Nat) : Deferred := { target := .collected D, args := #[] }
section
variable {w wx w' : World} {ts : List Th}
theorem Kn.more2 {t1 t2 : Th} (h : Kn w ts wx) (hb : Below wx.heap.size wx w') (hp1 : t1.P w') (hp2 : t2.P w') (hf1 : ∀ k, t1.F k → wx.heap.size ≤ k) (hf2 : ∀ k, t2.F k → wx.heap.size ≤ k) (hs : Sep t1 t2) : Kn w (t1 :: t2 :: ts) w' := by
  have h2 := h.more hb hp2 hf2
  refine ⟨h2.below, fun x hx => ?_, List.pairwise_cons.2 ⟨fun x hx => ?_, h2.sep⟩⟩
  · rcases List.mem_cons.1 hx with rfl | q
    · exact ⟨hp1, fun k hk => Nat.le_trans h.below.size (hf1 k hk)⟩
    · exact h2.has x q
  · rcases List.mem_cons.1 hx with rfl | q
    · exact hs
    · intro k h1 h2
      have := x.lt (h.has x q).1 k h2
      have := hf1 k h1
      omega
theorem Kn.shut {D : Nat} (h : Kn w (markT D :: ts) wx) (o : Obj) : Kn w ts (wx.putObj D o) := by
  have hge := (h.has (markT D) (by simp)).2 D rfl
  have hs := List.pairwise_cons.1 h.sep
  have ho : Only (fun k => k = D) wx (wx.putObj D o) := by
    have hg := grownBy_putObj' wx D o
    exact ⟨hg.os, hg.tape, hg.output, hg.size, fun k hk hn => hg.block k hk (fun e => hn (Option.some.inj e))⟩
  refine ⟨h.below.only ho (fun i e => by cases e; exact hge) h.below.size, fun x hx => ⟨x.keep (h.has x (by simp [hx])).1 ho (fun k h1 h2 => hs.1 x hx k h2 h1), (h.has x (by simp [hx])).2⟩, hs.2⟩
/-- A frame leaves with marks alone among its deferred calls. -/
theorem leaves_marks {F : Fence} {n : Nat} {P : Program} {fn : Func} {tmps : Array Value} {R : Ending → World → Prop} {u : Value} (hres : ∀ W, (results fn tmps).run P W = .ok u W) :
    ∀ (Ds : List Nat) (W : World), Kn w (Ds.map markT ++ ts) W → (∀ W', Kn w ts W' → R (.returned u) W') → LeavesInM F n P fn tmps R (Ds.map mkD) .returning W
  | [], W, h, hR => ⟨u, hres W, hR W h⟩
  | D :: Ds, W, h, hR => ⟨by simp, .inl ⟨D, _, rfl, run_takeDeferred h.hd, leaves_marks hres Ds _ (Kn.shut h _) hR⟩⟩
end
section
variable {w wx w' : World} {b p sb nx dn : Nat} {v : Value} {ks : List Wk} {ts : List Th} {k : Nat} {κ : Wk} {of : (List UInt8) → List (List UInt8)} {s : PS (List UInt8)}
theorem wl_u {ks : List Wk} {κ' : Wk} (hu : ∀ κ ∈ ks, κ.u = false) (h : κ'.u = false) : ∀ κ ∈ ks.set k κ', κ.u = false := fun κ hκ => by
  rcases List.mem_or_eq_of_mem_set hκ with q | q
  · exact hu κ q
  · rw [q]; exact h
/-- It takes a job. -/
theorem takeK (h : Hid (Kn w (wsT b ks :: boxT p (pcells b ks.length sb nx dn s.st v) :: ts) wx)) (hs : wl ks = s.ks) (hu : ∀ κ ∈ ks, κ.u = false) (hr : rdy s.ks k = true) (hk : ks[k]? = some κ) (hh : κ.h = false) (hn : ks.length ≤ 64) (hst : s.st ≤ 1000000) :
    Calls Tryz.prog 44 #[.pointer (some ⟨p, 0, none⟩), .int .i64 (k : Int)] wx fun e w' => e = .returned (.tuple #[]) ∧ ∃ ks', Hid (Kn w (wsT b ks' :: boxT p (pcells b ks'.length sb nx dn (stepK of ([] : List UInt8) s k).st v) :: ts) w') ∧ Hid (wl ks' = (stepK of ([] : List UInt8) s k).ks ∧ (∀ κ ∈ ks', κ.u = false)) ∧ Hid ((stepK of ([] : List UInt8) s k).dn = s.dn ∧ (stepK of ([] : List UInt8) s k).who = s.who ++ [(k : Int)]) := by
  have hsk : s.ks[k]? = some κ.p := by rw [← hs]; exact wl_at hk
  have hlen : s.ks.length = ks.length := by rw [← hs]; exact wl_length ks
  rcases step_cases of ([] : List UInt8) hr with ⟨κ', h1, h2, h3⟩ | ⟨κ', l, x, h1, h2, h3, h4⟩ | ⟨κ', z, κz, x, l, d, h1, h2, h3, h4, h5, h6, h7, h8, h9, h10⟩
  · rw [hsk] at h1
    cases h1
    exact absurd (show κ.h = true from h2) (by simp [hh])
  · rw [hsk] at h1
    cases h1
    refine (take_own h hk (show κ.l = l ++ [x] from h3) hn).mono ?_
    rintro e w' ⟨rfl, r', K⟩
    refine ⟨rfl, ks.set k { κ with r := r', l := l, x := x, h := true }, ?_, ?_, ?_⟩
    · rw [h4, List.length_set]; exact K
    · rw [h4]
      refine ⟨?_, wl_u hu (hu κ (List.mem_of_getElem? hk))⟩
      rw [wl_set, hs]
      rfl
    · rw [h4]; exact ⟨rfl, rfl⟩
  · rw [hsk] at h1
    cases h1
    obtain ⟨κv, q1, q2⟩ : ∃ κv, ks[z]? = some κv ∧ κz = κv.p := by
      rw [← hs] at h7
      unfold wl at h7
      rw [List.getElem?_map] at h7
      cases hq : ks[z]? with
      | none => rw [hq] at h7; cases h7
      | some y => rw [hq] at h7; exact ⟨y, rfl, by simpa using h7.symm⟩
    subst q2
    rw [hlen] at h4 h5 h6
    subst h5
    refine (take_steal h hk (show κ.l = [] from h3) hn hst h4 (fun j hj => by rw [hs]; exact h6 j hj) q1 (show κv.l = x :: l from h8)).mono ?_
    rintro e w' ⟨rfl, r', K⟩
    refine ⟨rfl, (ks.set ((k + (d + 1)) % ks.length) { κv with r := r', l := l }).set k { κ with x := x, h := true }, ?_, ?_, ?_⟩
    · rw [h10]
      have e : ((ks.set ((k + (d + 1)) % ks.length) { κv with r := r', l := l }).set k { κ with x := x, h := true }).length = ks.length := by simp
      rw [e]
      exact K
    · rw [h10]
      refine ⟨?_, wl_u (wl_u hu (hu κv (List.mem_of_getElem? q1))) (hu κ (List.mem_of_getElem? hk))⟩
      rw [wl_set, wl_set, hs]
      have e : κ.l = [] := h3
      simp [Wk.p, e]
    · rw [h10]; exact ⟨rfl, rfl⟩
end
end Go.Proofs.YtkjhamcmhijhgaaGreat.DqS

/- A script as it lies, and what each call of it does but for New and Step. -/
namespace Go.Proofs.YtkjhamcmhijhgaaGreat.Pick
open Go.RowKit Go.Proofs.YtkjhamcmhijhgaaGreat.Dig Go.Proofs.YtkjhamcmhijhgaaGreat.Mem Go.Proofs.YtkjhamcmhijhgaaGreat.Dq Go.Proofs.YtkjhamcmhijhgaaGreat.Thing Go.Proofs.YtkjhamcmhijhgaaGreat.Sets
set_option linter.unusedVariables false
set_option linter.unusedSimpArgs false

/-- A script that a call made: its picks, the step at which all is cancelled, how many steps there were. -/
structure Scr (w : World) (b : Nat) (pa : Option Addr) (pc : Nat) (L : List Int) (c : Int) (n : Nat) : Prop where
  box : Is w b #[.slice pa L.length pc, .int .i64 c, .int .i64 (n : Int), .bool true]
  row : RowI w pa pc L
  ne : 0 < L.length → ∀ x, pa = some x → x.block ≠ b
def scrT (b : Nat) (pa : Option Addr) (pc : Nat) (L : List Int) (c : Int) (n : Nat) : Th where
  P w := Scr w b pa pc L c n
  F k := k = b ∨ (0 < L.length ∧ ∃ x, pa = some x ∧ x.block = k)
  keep h ho hs := ⟨h.box.keep ho (hs b (.inl rfl)), ⟨h.row.cap, h.row.rd.only' ho (fun hl x e => hs x.block (.inr ⟨hl, x, e, rfl⟩)), h.row.nil⟩, h.ne⟩
  lt h k hk := by
    rcases hk with rfl | ⟨hl, x, e, rfl⟩
    · exact h.box.lt
    · exact Rd.lt h.row.rd hl x e
section
variable {w w' : World} {b n : Nat} {pa : Option Addr} {pc : Nat} {L : List Int} {c : Int}
theorem Scr.keep (h : Scr w b pa pc L c n) (hb : Below w.heap.size w w') : Scr w' b pa pc L c n :=
  (scrT b pa pc L c n).keep (S := fun _ => False) h (Only.of_below hb) (fun _ _ q => q)
/-- One step more. -/
theorem Scr.more (h : Scr w b pa pc L c n) (m : Nat) : Scr (w.setCell ⟨b, 2, none⟩ (.int .i64 (m : Int))) b pa pc L c m :=
  ⟨h.box.set 2 (.int .i64 (m : Int)), ⟨h.row.cap, h.row.rd.only' (S := fun k => k = b) ((Only.refl _ _).put 2 _) (fun hl x e => h.ne hl x e), h.row.nil⟩, h.ne⟩
theorem over_any (h : Scr w b pa pc L c n) : Calls Tryz.prog 46 #[.pointer (some ⟨b, 0, none⟩)] w fun e w' => e = .returned (.bool (over c n)) ∧ ∃ q, w' = w.drewN q := by
  obtain ⟨⟨c0, c1, c2, c3⟩, _⟩ := h.box.four
  clear h
  unfold over
  by_cases h1 : 0 ≤ c
  · by_cases h2 : c ≤ (n : Int)
    · rw [decide_eq_true h1, decide_eq_true h2]
      have d1 : decide (0 ≤ c) = true := decide_eq_true h1
      have d2 : decide (c ≤ (n : Int)) = true := decide_eq_true h2
      go_enter Tryz.func46, Tryz.ntmps46
      go_wp2
      go_quiet (fail)
      go_wp2
      go_ret
      exact ⟨rfl, _, rfl⟩
    · rw [decide_eq_true h1, decide_eq_false h2]
      have d1 : decide (0 ≤ c) = true := decide_eq_true h1
      have d2 : decide (c ≤ (n : Int)) = false := decide_eq_false h2
      go_enter Tryz.func46, Tryz.ntmps46
      go_wp2
      go_quiet (fail)
      go_wp2
      go_ret
      exact ⟨rfl, _, rfl⟩
  · rw [decide_eq_false h1]
    have d1 : decide (0 ≤ c) = false := decide_eq_false h1
    go_enter Tryz.func46, Tryz.ntmps46
    go_wp2
    go_quiet (fail)
    go_wp2
    go_ret
    exact ⟨rfl, _, rfl⟩
theorem over_nil (w : World) : Calls Tryz.prog 46 #[.pointer none] w fun e w' => e = .returned (.bool false) ∧ ∃ q, w' = w.drewN q := by
  go_enter Tryz.func46, Tryz.ntmps46
  go_wp2
  go_quiet (fail)
  go_wp2
  go_ret
  exact ⟨rfl, _, rfl⟩
theorem steps_any (h : Scr w b pa pc L c n) : Calls Tryz.prog 21 #[.pointer (some ⟨b, 0, none⟩)] w fun e w' => e = .returned (.int .i64 (n : Int)) ∧ w' = w := by
  obtain ⟨⟨c0, c1, c2, c3⟩, _⟩ := h.box.four
  clear h
  go_enter Tryz.func21, Tryz.ntmps21
  go_wp2
  go_ret
  exact ⟨rfl, rfl⟩
theorem steps_nil (w : World) : Calls Tryz.prog 21 #[.pointer none] w fun e w' => e = .returned (.int .i64 0) ∧ w' = w := by
  go_enter Tryz.func21, Tryz.ntmps21
  go_wp2
  go_ret
  exact ⟨rfl, rfl⟩
theorem next_any (h : Scr w b pa pc L c n) : Calls Tryz.prog 49 #[.pointer (some ⟨b, 0, none⟩)] w fun e w' => e = .returned (.int .i64 (L.getD n 0)) ∧ ∃ q, w' = w.drewN q := by
  obtain ⟨⟨c0, c1, c2, c3⟩, _⟩ := h.box.four
  by_cases hlt : n < L.length
  · obtain ⟨b1, o1, rfl, hc⟩ := h.row.at hlt
    obtain ⟨z, hz⟩ : ∃ z, z = L.getD n 0 := ⟨_, rfl⟩
    obtain ⟨m, hm⟩ : ∃ m, m = L.length := ⟨_, rfl⟩
    rw [← hm] at c0 hlt
    rw [← hz] at hc ⊢
    have d1 : (n : Int) < (m : Int) := by omega
    have d2 : decide ((n : Int) < (m : Int)) = true := decide_eq_true d1
    have l1 := h.row.rd.1
    rw [← hm] at l1
    clear h hm hz
    go_enter Tryz.func49, Tryz.ntmps49
    go_wp2
    go_quiet (fail)
    go_wp2
    go_quiet (fail)
    go_wp2
    go_ret
    exact ⟨rfl, _, World.drewN_drewN _ _ _⟩
  · have e : L.getD n 0 = 0 := by rw [List.getD_eq_getElem?_getD, List.getElem?_eq_none (by omega)]; rfl
    rw [e]
    obtain ⟨m, hm⟩ : ∃ m, m = L.length := ⟨_, rfl⟩
    rw [← hm] at c0 hlt
    have d1 : ¬ (n : Int) < (m : Int) := by omega
    have d2 : decide ((n : Int) < (m : Int)) = false := decide_eq_false d1
    clear h hm e
    go_enter Tryz.func49, Tryz.ntmps49
    go_wp2
    go_quiet (fail)
    go_wp2
    go_ret
    exact ⟨rfl, _, rfl⟩
end
theorem mod_any (x : Int) (m : Nat) (w : World) (hx : (Lit.int .i64 x).wf = true) (hm : 0 < m) (hm2 : m ≤ 1000000) {z : Int} (hz : x % (m : Int) = z) : Calls Tryz.prog 48 #[.int .i64 x, .int .i64 (m : Int)] w fun e w' => e = .returned (.int .i64 z) ∧ w' = w := by
  have hb := bounds_i64 hx
  obtain ⟨q1, q2⟩ := hb
  have hp := tmod_place x hm
  rw [hz] at hp
  have g0 : ¬ ((m : Int) = 0) := by omega
  have a1 : -(m : Int) < x.tmod (m : Int) ∧ x.tmod (m : Int) < (m : Int) := by
    have h1 := Int.emod_nonneg x (show (m : Int) ≠ 0 by omega)
    have h2 := Int.emod_lt_of_pos x (show (0 : Int) < m by omega)
    rw [Int.tmod_eq_emod]
    split <;> omega
  obtain ⟨a2, a3⟩ := a1
  have g3 : IntKind.i64.wrap (x.tmod (m : Int)) = x.tmod (m : Int) := IntWalk.i64_in _ (by omega)
  by_cases h0 : x.tmod (m : Int) < 0
  · rw [if_pos h0] at hp
    clear hx hz
    go_enter Tryz.func48, Tryz.ntmps48
    go_wp2
    go_ret
    rw [← hp]
    exact ⟨rfl, rfl⟩
  · rw [if_neg h0] at hp
    clear hx hz
    go_enter Tryz.func48, Tryz.ntmps48
    go_wp2
    go_ret
    rw [← hp]
    exact ⟨rfl, rfl⟩
end Go.Proofs.YtkjhamcmhijhgaaGreat.Pick

/- The library's contracts, by the shelf, over this program's numbers. -/
namespace Go.Proofs
open Go.Shelf
def Tryz.lays189_ren : Go.Shelf.Ren := ⟨fun | 189 => 72 | 125 => 84 | 257 => 83 | 128 => 96 | 129 => 97 | 294 => 87 | 295 => 88 | 296 => 89 | 297 => 90 | 298 => 91 | 299 => 92 | 216 => 93 | 300 => 94 | 301 => 95 | 328 => 98 | 329 => 99 | 330 => 100 | 331 => 101 | 332 => 102 | 215 => 103 | 343 => 104 | n => n, fun | 28 => 22 | 3 => 3 | 46 => 124 | 0 => 0 | 51 => 135 | 53 => 137 | 4 => 4 | 183 => 129 | 182 => 128 | 131 => 97 | 5 => 5 | 9 => 9 | 218 => 138 | 222 => 142 | 228 => 144 | 229 => 145 | n => n, fun | n => n⟩
theorem Tryz.lays189 : Go.Proofs.Lays.n189 Tryz.prog Tryz.lays189_ren := {
  mixed := by kernel_rfl
  f125 := Tryz.func84.trans (congrArg some (by kernel_rfl))
  f128 := Tryz.func96.trans (congrArg some (by kernel_rfl))
  f129 := Tryz.func97.trans (congrArg some (by kernel_rfl))
  f189 := Tryz.func72.trans (congrArg some (by kernel_rfl))
  f215 := Tryz.func103.trans (congrArg some (by kernel_rfl))
  f216 := Tryz.func93.trans (congrArg some (by kernel_rfl))
  f257 := Tryz.func83.trans (congrArg some (by kernel_rfl))
  f294 := Tryz.func87.trans (congrArg some (by kernel_rfl))
  f295 := Tryz.func88.trans (congrArg some (by kernel_rfl))
  f296 := Tryz.func89.trans (congrArg some (by kernel_rfl))
  f297 := Tryz.func90.trans (congrArg some (by kernel_rfl))
  f298 := Tryz.func91.trans (congrArg some (by kernel_rfl))
  f299 := Tryz.func92.trans (congrArg some (by kernel_rfl))
  f300 := Tryz.func94.trans (congrArg some (by kernel_rfl))
  f301 := Tryz.func95.trans (congrArg some (by kernel_rfl))
  f328 := Tryz.func98.trans (congrArg some (by kernel_rfl))
  f329 := Tryz.func99.trans (congrArg some (by kernel_rfl))
  f330 := Tryz.func100.trans (congrArg some (by kernel_rfl))
  f331 := Tryz.func101.trans (congrArg some (by kernel_rfl))
  f332 := Tryz.func102.trans (congrArg some (by kernel_rfl))
  f343 := Tryz.func104.trans (congrArg some (by kernel_rfl))
  t0 := Tryz.underlying0
  a0 := Tryz.isAgg0
  z0 := Tryz.sizeOf0
  v0 := Tryz.zeroValue0
  t3 := Tryz.underlying3
  a3 := Tryz.isAgg3
  z3 := Tryz.sizeOf3
  v3 := Tryz.zeroValue3
  t4 := Tryz.underlying4
  a4 := Tryz.isAgg4
  z4 := Tryz.sizeOf4
  v4 := Tryz.zeroValue4
  t5 := Tryz.underlying5
  a5 := Tryz.isAgg5
  z5 := Tryz.sizeOf5
  v5 := Tryz.zeroValue5
  t9 := Tryz.underlying9
  a9 := Tryz.isAgg9
  z9 := Tryz.sizeOf9
  v9 := Tryz.zeroValue9
  t28 := Tryz.underlying22
  a28 := Tryz.isAgg22
  z28 := Tryz.sizeOf22
  v28 := Tryz.zeroValue22
  t46 := Tryz.underlying124
  a46 := Tryz.isAgg124
  z46 := Tryz.sizeOf124
  v46 := Tryz.zeroValue124
  t51 := Tryz.underlying135
  a51 := Tryz.isAgg135
  z51 := Tryz.sizeOf135
  v51 := Tryz.zeroValue135
  t53 := Tryz.underlying137
  a53 := Tryz.isAgg137
  z53 := Tryz.sizeOf137
  v53 := Tryz.zeroValue137
  t131 := Tryz.underlying97
  a131 := Tryz.isAgg97
  z131 := Tryz.sizeOf97
  v131 := Tryz.zeroValue97
  t182 := Tryz.underlying128
  a182 := Tryz.isAgg128
  z182 := Tryz.sizeOf128
  v182 := Tryz.zeroValue128
  t183 := Tryz.underlying129
  a183 := Tryz.isAgg129
  z183 := Tryz.sizeOf129
  v183 := Tryz.zeroValue129
  t218 := Tryz.underlying138
  a218 := Tryz.isAgg138
  z218 := Tryz.sizeOf138
  v218 := Tryz.zeroValue138
  t222 := Tryz.underlying142
  a222 := Tryz.isAgg142
  z222 := Tryz.sizeOf142
  v222 := Tryz.zeroValue142
  t228 := Tryz.underlying144
  a228 := Tryz.isAgg144
  z228 := Tryz.sizeOf144
  v228 := Tryz.zeroValue144
  t229 := Tryz.underlying145
  a229 := Tryz.isAgg145
  z229 := Tryz.sizeOf145
  v229 := Tryz.zeroValue145 }
open Go.Sort Go.RowKit in
theorem Tryz.slices_Sort_int (blk off cap : Nat) (zs : List Int) (w : World) (hH : Holds (Value.int .i64) w blk off zs.toArray) (hblk : blk < w.heap.size) (hsz : zs.length < 4611686018427387904) :
    Calls Tryz.prog 72 #[.slice (some ⟨blk, off, none⟩) zs.length cap] w fun e w' =>
      e = .returned (.tuple #[]) ∧ ∃ n os, w' = grow (putRow (Value.int .i64) (Sort.ahead w n) blk off (zs.mergeSort fun x y => decide (x ≤ y)).toArray) os := Any.slices_Sort_int Tryz.lays189 blk off cap zs w hH hblk hsz
def Tryz.laysNm215_ren : Go.Shelf.Ren := ⟨fun | 15 => 29 | n => n, fun | 22 => 22 | 3 => 3 | 4 => 4 | n => n, fun | n => n⟩
theorem Tryz.laysNm215 : Go.Proofs.Lays2.n15 Tryz.prog Tryz.laysNm215_ren := {
  mixed := by kernel_rfl
  f15 := Tryz.func29.trans (congrArg some (by kernel_rfl))
  t3 := Tryz.underlying3
  a3 := Tryz.isAgg3
  z3 := Tryz.sizeOf3
  v3 := Tryz.zeroValue3
  t4 := Tryz.underlying4
  a4 := Tryz.isAgg4
  z4 := Tryz.sizeOf4
  v4 := Tryz.zeroValue4
  t22 := Tryz.underlying22
  a22 := Tryz.isAgg22
  z22 := Tryz.sizeOf22
  v22 := Tryz.zeroValue22
  i3 := by kernel_rfl }
open Go.RowKit Go.Lib in
theorem Tryz.slices_Clone_int (b off n c : Nat) (zs : List Int) (w : World) (hz : n ≤ zs.length) (hbig : n * 8 ≤ 140737488355328) (hc : ∀ j, j < zs.length → w.cell? ⟨b, off + j, none⟩ = some (.int .i64 (zs.getD j 0))) :
    Calls Tryz.prog 29 #[.slice (some ⟨b, off, none⟩) n c] w fun e w' => ∃ v', e = .returned v' ∧ w'.ownsRow w.heap.size 3 1 v' n ((zs.take n).map (Value.int .i64)) ∧ v' ≠ .slice none 0 0 ∧ Below w.heap.size w w' := Any.slices_Clone_int Tryz.laysNm215 b off n c zs w hz hbig hc
open Go.RowKit Go.Lib in
theorem Tryz.slices_Clone_int_nil (n c : Nat) (w : World) :
    Calls Tryz.prog 29 #[.slice none n c] w fun e w' => e = .returned (.slice none 0 0) ∧ w' = w := Any.slices_Clone_int_nil Tryz.laysNm215 n c w
open Go.RowKit Go.Lib in
theorem Tryz.slices_Clone_int_zero (a : Addr) (c : Nat) (w : World) :
    Calls Tryz.prog 29 #[.slice (some a) 0 c] w fun e w' => ∃ v', e = .returned v' ∧ w'.ownsRow w.heap.size 3 1 v' 0 [] ∧ v' ≠ .slice none 0 0 ∧ Below w.heap.size w w' := Any.slices_Clone_int_zero Tryz.laysNm215 a c w
def Tryz.laysNm220_ren : Go.Shelf.Ren := ⟨fun | 20 => 73 | n => n, fun | 22 => 22 | 3 => 3 | 4 => 4 | 0 => 0 | n => n, fun | n => n⟩
theorem Tryz.laysNm220 : Go.Proofs.Lays2.n20 Tryz.prog Tryz.laysNm220_ren := {
  mixed := by kernel_rfl
  f20 := Tryz.func73.trans (congrArg some (by kernel_rfl))
  t0 := Tryz.underlying0
  a0 := Tryz.isAgg0
  z0 := Tryz.sizeOf0
  v0 := Tryz.zeroValue0
  t3 := Tryz.underlying3
  a3 := Tryz.isAgg3
  z3 := Tryz.sizeOf3
  v3 := Tryz.zeroValue3
  t4 := Tryz.underlying4
  a4 := Tryz.isAgg4
  z4 := Tryz.sizeOf4
  v4 := Tryz.zeroValue4
  t22 := Tryz.underlying22
  a22 := Tryz.isAgg22
  z22 := Tryz.sizeOf22
  v22 := Tryz.zeroValue22
  i3 := by kernel_rfl }
open Go.RowKit Go.Lib Go.Sort in
theorem Tryz.slices_Compact_int_arr (blk off cap : Nat) (d : Array Int) (w : World) (hH : Holds encI w blk off d) (hsz : d.size ≤ 9223372036854775807) (hcap : d.size ≤ cap) :
    Calls Tryz.prog 73 #[.slice (some ⟨blk, off, none⟩) d.size cap] w fun e w' => e = .returned (.slice (some ⟨blk, off, none⟩) (compactUpTo d d.size).length cap) ∧ ∃ q, w' = putRow encI (Sort.ahead w q) blk off (compactUpTo d d.size ++ List.replicate (d.size - (compactUpTo d d.size).length) 0).toArray := Any.slices_Compact_int_arr Tryz.laysNm220 blk off cap d w hH hsz hcap
open Go.RowKit Go.Lib Go.Sort in
theorem Tryz.slices_Compact_int (blk off cap : Nat) (zs : List Int) (w : World) (hH : Holds (Value.int .i64) w blk off zs.toArray) (hsz : zs.length ≤ 9223372036854775807) (hcap : zs.length ≤ cap) :
    Calls Tryz.prog 73 #[.slice (some ⟨blk, off, none⟩) zs.length cap] w fun e w' => e = .returned (.slice (some ⟨blk, off, none⟩) (Lib.compact zs).length cap) ∧ ∃ q, w' = putRow (Value.int .i64) (Sort.ahead w q) blk off (Lib.compact zs ++ List.replicate (zs.length - (Lib.compact zs).length) 0).toArray := Any.slices_Compact_int Tryz.laysNm220 blk off cap zs w hH hsz hcap
open Go.RowKit Go.Lib Go.Sort in
theorem Tryz.slices_Compact_int_empty (a : Option Addr) (cap : Nat) (w : World) :
    Calls Tryz.prog 73 #[.slice a 0 cap] w fun e w' => e = .returned (.slice a 0 cap) ∧ w' = w := Any.slices_Compact_int_empty Tryz.laysNm220 a cap w
def Tryz.laysNm237_ren : Go.Shelf.Ren := ⟨fun | 37 => 103 | n => n, fun | 3 => 3 | 4 => 4 | n => n, fun | n => n⟩
theorem Tryz.laysNm237 : Go.Proofs.Lays2.n37 Tryz.prog Tryz.laysNm237_ren := {
  mixed := by kernel_rfl
  f37 := Tryz.func103.trans (congrArg some (by kernel_rfl))
  t3 := Tryz.underlying3
  a3 := Tryz.isAgg3
  z3 := Tryz.sizeOf3
  v3 := Tryz.zeroValue3
  t4 := Tryz.underlying4
  a4 := Tryz.isAgg4
  z4 := Tryz.sizeOf4
  v4 := Tryz.zeroValue4 }
open Go.RowKit Go.Lib in
theorem Tryz.cmp_isNaN_int2 (x : Int) (w : World) :
    Calls Tryz.prog 103 #[.int .i64 x] w fun e w' => e = .returned (.bool false) ∧ w' = w := Any.cmp_isNaN_int2 Tryz.laysNm237 x w
def Tryz.laysNm231_ren : Go.Shelf.Ren := ⟨fun | 31 => 93 | 37 => 103 | n => n, fun | 3 => 3 | 4 => 4 | n => n, fun | n => n⟩
theorem Tryz.laysNm231 : Go.Proofs.Lays2.n31 Tryz.prog Tryz.laysNm231_ren := {
  mixed := by kernel_rfl
  f31 := Tryz.func93.trans (congrArg some (by kernel_rfl))
  f37 := Tryz.func103.trans (congrArg some (by kernel_rfl))
  t3 := Tryz.underlying3
  a3 := Tryz.isAgg3
  z3 := Tryz.sizeOf3
  v3 := Tryz.zeroValue3
  t4 := Tryz.underlying4
  a4 := Tryz.isAgg4
  z4 := Tryz.sizeOf4
  v4 := Tryz.zeroValue4 }
open Go.RowKit Go.Lib in
theorem Tryz.cmp_Less_int2 (x y : Int) (w : World) :
    Calls Tryz.prog 93 #[.int .i64 x, .int .i64 y] w fun e w' => e = .returned (.bool (decide (x < y))) ∧ w' = w := Any.cmp_Less_int2 Tryz.laysNm231 x y w
open Go.RowKit Go.Sort in
theorem Tryz.slices_Sort_int_none (p : Option Addr) (cap : Nat) (w : World) :
    Calls Tryz.prog 72 #[.slice p 0 cap] w fun e w' => e = .returned (.tuple #[]) ∧ w' = w := Any.slices_Sort_int_none Tryz.lays189 p cap w
end Go.Proofs

/- How lists of numbers stand: the program's Compare and Same, the document's Compare and Has. -/
namespace Go.Proofs.YtkjhamcmhijhgaaGreat.Sets
open Go.RowKit Go.Proofs.YtkjhamcmhijhgaaGreat.Dig Go.Proofs.YtkjhamcmhijhgaaGreat.Mem
set_option linter.unusedVariables false
set_option linter.unusedSimpArgs false

/-- A slice value that reads a list of numbers. -/
structure RowV (w : World) (a : Option Addr) (c : Nat) (l : List Int) : Prop where
  cap : l.length ≤ c
  rd : Rd .i64 w a l.length (fun i => l.getD i 0)
  nil : a = none → c = 0
theorem RowV.keep {w w' : World} {a : Option Addr} {c : Nat} {l : List Int} (h : RowV w a c l) (hb : Below w.heap.size w w') : RowV w' a c l := ⟨h.cap, h.rd.keep hb, h.nil⟩
theorem RowV.at {w : World} {a : Option Addr} {c : Nat} {l : List Int} (h : RowV w a c l) {i : Nat} (hi : i < l.length) : ∃ b off, a = some ⟨b, off, none⟩ ∧ w.cell? ⟨b, off + i, none⟩ = some (.int .i64 (l.getD i 0)) := by
  obtain ⟨b, off, e, hc, _⟩ := h.rd.2 i hi
  exact ⟨b, off, e, hc⟩
theorem drop_at {l : List Int} {i : Nat} (h : i < l.length) : l.drop i = l.getD i 0 :: l.drop (i + 1) := by
  rw [List.drop_eq_getElem_cons h]; simp [List.getD_eq_getElem?_getD, List.getElem?_eq_getElem h]

theorem cmpI_lt {x y : Int} (h : x < y) : cmpI x y = -1 := by simp [cmpI, h]
theorem cmpI_gt {x y : Int} (h : y < x) : cmpI x y = 1 := by simp [cmpI, h, show ¬ x < y by omega]
theorem cmpI_eq {x y : Int} (h : x = y) : cmpI x y = 0 := by simp [cmpI, h]
theorem lexI_cons (x y : Int) (a b : List Int) : lexL ltI (x :: a) (y :: b) = if cmpI x y = 0 then lexL ltI a b else cmpI x y := by
  rw [lexL]
  generalize lexL ltI a b = r
  unfold cmpI ltI
  by_cases h1 : x < y
  · simp [h1]
  · by_cases h2 : y < x
    · simp [h1, h2]
    · simp [h1, h2]
theorem lexI_step {a b : List Int} {i : Nat} (ha : i < a.length) (hb : i < b.length) :
    lexL ltI (a.drop i) (b.drop i) = if cmpI (a.getD i 0) (b.getD i 0) = 0 then lexL ltI (a.drop (i + 1)) (b.drop (i + 1)) else cmpI (a.getD i 0) (b.getD i 0) := by
  rw [drop_at ha, drop_at hb, lexI_cons]
theorem lexI_end {a b : List Int} {i : Nat} (ha : a.length ≤ i) : lexL ltI (a.drop i) (b.drop i) = 0 := by
  rw [List.drop_eq_nil_of_le ha]; simp [lexL]
def LRel2 (a b : List Int) (i : Value) : Prop := ∃ k : Nat, k ≤ a.length ∧ i = .int .i64 (k : Int) ∧ Hid (lexL ltI (a.drop k) (b.drop k) = lexL ltI a b)
/-- The document's Same of two rows that read one list. -/
theorem same_rows (x y : Option Addr) (c d : Nat) (a b : List Int) (w : World) (ha : RowV w x c a) (hb : RowV w y d b) (h : a = b) :
    Calls Tryz.prog 14 #[.slice x a.length c, .slice y b.length d] w fun e w' => e = .returned (.bool true) ∧ Below w.heap.size w w' := by
  subst h
  exact same_yes x y a.length c d _ w ha.rd hb.rd
/-- The document's Has. -/
theorem rhas_any (x : Option Addr) (c : Nat) (a : List Int) (v : Int) (w : World) (ha : RowV w x c a) :
    Calls Tryz.prog 78 #[.slice x a.length c, .int .i64 v] w fun e w' => e = .returned (.bool (decide (v ∈ a))) ∧ w' = w := by
  have hlen := ha.rd.le
  have HA := hide ha
  obtain ⟨n, hn⟩ : ∃ n, n = a.length := ⟨_, rfl⟩
  rw [← hn] at hlen ⊢
  have HN : Hid (n = a.length) := hn
  clear hn ha
  go_enter Tryz.func78, Tryz.ntmps78
  go_wp2
  go_loopw [5] (fun i wr => (∃ k : Nat, k ≤ n ∧ i = .int .i64 (k : Int) ∧ ∀ j, j < k → a.getD j 0 ≠ v) ∧ wr = w) (fun i _ => n - (intOf i).toNat)
  case atStart => exact ⟨⟨0, by omega, rfl, by omega⟩, rfl⟩
  case round =>
    obtain ⟨⟨k, hk, rfl, hx⟩, rfl⟩ := hrel
    have HX := hide hx
    clear hx
    by_cases hlt : k < n
    · obtain ⟨b1, o1, rfl, hc1⟩ := HA.out.at (show k < a.length by rw [← HN.out]; exact hlt)
      obtain ⟨p, hp⟩ : ∃ p, p = a.getD k 0 := ⟨_, rfl⟩
      rw [← hp] at hc1
      have HP : Hid (p = a.getD k 0) := hp
      clear hp
      by_cases he : p = v
      · have g1 : (p == v) = true := by simp [he]
        have HM : Hid (decide (v ∈ a) = true) := by
          show _ = _
          rw [decide_eq_true_eq, ← he, HP.out, List.getD_eq_getElem?_getD, List.getElem?_eq_getElem (by rw [← HN.out]; exact hlt)]
          exact List.getElem_mem _
        clear he
        go_wp2
        go_ret
        rw [HM.out]
        exact ⟨rfl, rfl⟩
      · have g1 : (p == v) = false := by simpa using he
        have HE : Hid (a.getD k 0 ≠ v) := by rw [← HP.out]; exact he
        clear he
        go_wp2
        go_roundw
        case rel => exact ⟨⟨k + 1, by omega, by go_num, fun j hj => by
          by_cases e : j = k
          · rw [e]; exact HE.out
          · exact HX.out j (by omega)⟩, trivial⟩
        case measure => simp [intOf]; omega
    · have HM : Hid (decide (v ∈ a) = false) := by
        show _ = _
        rw [decide_eq_false_iff_not]
        intro hm
        obtain ⟨j, hj, e⟩ := List.getElem_of_mem hm
        exact HX.out j (by rw [← HN.out] at hj; omega) (by rw [List.getD_eq_getElem?_getD, List.getElem?_eq_getElem hj]; exact e)
      go_wp2
      go_ret
      rw [HM.out]
      exact ⟨rfl, rfl⟩
end Go.Proofs.YtkjhamcmhijhgaaGreat.Sets

/- Rows of one cell an element: what a block holds, behind the shelf's sort and compact; the encoding may be whatever. -/
namespace Go.Proofs.YtkjhamcmhijhgaaGreat.Sets
open Go.RowKit Go.Proofs.YtkjhamcmhijhgaaGreat.Dig Go.Proofs.YtkjhamcmhijhgaaGreat.Mem Go.Sort
set_option linter.unusedVariables false
set_option linter.unusedSimpArgs false

section
variable {α : Type} [Inhabited α] {enc : α → Value}
theorem is_putRow {w : World} {b q : Nat} {cs : Array Value} {d : Array α} (h : Is w b cs) (hs : cs.size = d.size) : Is (putRow enc (Sort.ahead w q) b 0 d) b (d.map enc) := by
  obtain ⟨T, h⟩ := h
  refine ⟨T, ?_⟩
  have e : putCells enc 0 d cs = d.map enc := by
    apply Array.ext
    · simp [putCells, hs]
    · intro i h1 h2
      have hi : i < d.size := by simpa using h2
      simp [putCells, hi, getElem!_pos]
  simp [putRow, mapBlock, Sort.ahead, Array.getElem?_modify, h, onCells, e]
theorem only_putRow {S : Nat → Prop} {w : World} {b q : Nat} {d : Array α} (hb : S b) : Only S w (putRow enc (Sort.ahead w q) b 0 d) :=
  ⟨rfl, rfl, rfl, by simp [putRow, mapBlock, Sort.ahead], fun k _ hk => by
    simp [putRow, mapBlock, Sort.ahead, Array.getElem?_modify, show b ≠ k from fun e => hk (e ▸ hb)]⟩
theorem is_grow {w : World} {b : Nat} {cs : Array Value} {os : Array Obj} (h : Is w b cs) : Is (grow w os) b cs := by
  have hl := h.lt
  obtain ⟨T, h⟩ := h
  exact ⟨T, by rw [heap_grow_old w os hl]; exact h⟩
theorem only_grow {S : Nat → Prop} {w : World} {os : Array Obj} : Only S w (grow w os) :=
  ⟨rfl, rfl, rfl, by simp, fun k hk _ => heap_grow_old w os hk⟩
theorem holds_is {w : World} {b : Nat} {d : Array α} (h : Is w b (d.map enc)) : Holds enc w b 0 d := fun j hj => by
  refine ⟨h.cell _ ?_, h.frozen _⟩
  simp [hj, getElem!_pos]
end
section
variable {α : Type} {enc : α → Value}
/-- The first k of a row laid, zero values behind. -/
def fillZ (enc : α → Value) (z : Value) (l : List α) (n k : Nat) : Array Value := ((l.take k).map enc ++ List.replicate (n - k) z).toArray
theorem fillZ_size {z : Value} {l : List α} {n k : Nat} (hl : l.length = n) (hk : k ≤ n) : (fillZ enc z l n k).size = n := by simp [fillZ]; omega
theorem fillZ_zero {z : Value} {l : List α} {n : Nat} : fillZ enc z l n 0 = (List.replicate n z).toArray := by simp [fillZ]
theorem fillZ_all {z : Value} {l : List α} {n : Nat} (hl : l.length = n) : fillZ enc z l n n = l.toArray.map enc := by subst hl; simp [fillZ]
theorem fillZ_set {z : Value} {l : List α} {n k : Nat} {x : α} (hl : l.length = n) (hk : k < n) (hx : l[k]? = some x) : (fillZ enc z l n k).setIfInBounds k (enc x) = fillZ enc z l n (k + 1) := by
  unfold fillZ
  obtain ⟨r, hr⟩ : ∃ r, n - k = r + 1 := ⟨n - k - 1, by omega⟩
  have e : n - (k + 1) = r := by omega
  have e2 : ((l.take k).map enc).length = k := by simp; omega
  rw [hr, e, List.setIfInBounds_toArray, List.set_append_right _ _ (by omega), e2, Nat.sub_self, List.replicate_succ (n := r), List.set_cons_zero, List.take_add_one, hx]
  simp
theorem fillZ_get {z : Value} {l : List α} {n k : Nat} (hl : l.length = n) (hk : k < n) : (fillZ enc z l n k)[k]? = some z := by
  unfold fillZ
  have e2 : ((l.take k).map enc).length = k := by simp; omega
  rw [List.getElem?_toArray, List.getElem?_append_right (by omega), e2, Nat.sub_self, List.getElem?_replicate, if_pos (by omega)]
end
theorem compactUpTo_le {α : Type} [Inhabited α] [DecidableEq α] (d : Array α) (m : Nat) : (Lib.compactUpTo d m).length ≤ m := by
  unfold Lib.compactUpTo
  rw [List.length_map]
  exact Nat.le_trans (List.length_filter_le _ _) (by simp)
theorem compact_le {α : Type} [Inhabited α] [DecidableEq α] (zs : List α) : (Lib.compact zs).length ≤ zs.length := compactUpTo_le _ _
theorem madeCells_one (z : Value) (hz : z.cells = #[z]) (n : Nat) : madeCells z.cells n = (List.replicate n z).toArray := by
  rw [hz]
  apply Array.ext
  · simp [madeCells]
  · intro i h1 h2
    simp [madeCells, Nat.mod_one]
end Go.Proofs.YtkjhamcmhijhgaaGreat.Sets

/- The set of some numbers: the program's Of. -/
namespace Go.Proofs.YtkjhamcmhijhgaaGreat.Sets
open Go.RowKit Go.Proofs.YtkjhamcmhijhgaaGreat.Dig Go.Proofs.YtkjhamcmhijhgaaGreat.Mem Go.Sort
set_option linter.unusedVariables false
set_option linter.unusedSimpArgs false

def encN (x : Int) : Value := .int .i64 x
theorem Tryz.infoSetInt : (Tryz.prog.info? 3).map (fun i => (i.zero, i.size, i.bytes)) = some (some (.int .i64 0), 1, 8) := by kernel_rfl
theorem mk_ints (n : Nat) (hn : n ≤ 1000000) : ∀ w : World, (Instr.makeSlice 22 (.int .i64 (n : Int)) (.int .i64 (n : Int))).run Tryz.prog w = .ok (.slice (some ⟨w.heap.size, 0, none⟩) n n) (w.alloc (.cells (List.replicate n (Value.int .i64 0)).toArray 3)) := by
  intro w
  obtain ⟨i0, hi, hz0, hz1, hz2⟩ := info_parts Tryz.infoSetInt
  have hr := run_makeSlice (P := Tryz.prog) w 22 3 i0 (.int .i64 0) Tryz.underlying22 hi hz0 .i64 .i64 (n : Int) (n : Int) (by omega) (Int.le_refl _) (by rw [hz1]; simp; omega) (by rw [hz2]; omega) (by omega)
  simp only [Int.toNat_natCast] at hr
  rw [hz1, Nat.mul_one, madeCells_one _ rfl] at hr
  exact hr
/-- A block that holds a list reads it. -/
theorem is_rowv {w : World} {b c : Nat} {l : List Int} {cs : Array Value} (h : Is w b cs) (hc : ∀ i, i < l.length → cs[i]? = some (.int .i64 (l.getD i 0))) (hl : l.length ≤ c) (hm : l.length ≤ 1000000000000) (hw : ∀ n ∈ l, (Lit.int .i64 n).wf = true) : RowV w (some ⟨b, 0, none⟩) c l :=
  ⟨hl, ⟨hm, fun i hi => ⟨b, 0, rfl, h.cell _ (by rw [Nat.zero_add]; exact hc i hi), by
    show (Lit.int .i64 (l.getD i 0)).wf = true
    rw [List.getD_eq_getElem?_getD, List.getElem?_eq_getElem hi]
    exact hw _ (List.getElem_mem hi)⟩⟩, fun e => by cases e⟩
theorem sort_at (b n cap : Nat) (l : List Int) (w : World) (h : Is w b (l.toArray.map encN)) (hn : l.length = n) (hm : n ≤ 1000000) :
    Calls Tryz.prog 72 #[.slice (some ⟨b, 0, none⟩) n cap] w fun e w' => e = .returned (.tuple #[]) ∧ Is w' b ((l.mergeSort fun x y => decide (x ≤ y)).toArray.map encN) ∧ Only (fun k => k = b) w w' := by
  subst hn
  refine (Tryz.slices_Sort_int b 0 cap l w (holds_is h) h.lt (by omega)).mono ?_
  rintro e w' ⟨rfl, n, os, rfl⟩
  exact ⟨rfl, is_grow (is_putRow h (by simp)), (only_putRow (S := fun k => k = b) rfl).trans only_grow⟩
theorem compact_at (b n cap : Nat) (l : List Int) (w : World) (h : Is w b (l.toArray.map encN)) (hn : l.length = n) (hm : n ≤ 1000000) (hc : n ≤ cap) :
    Calls Tryz.prog 73 #[.slice (some ⟨b, 0, none⟩) n cap] w fun e w' => e = .returned (.slice (some ⟨b, 0, none⟩) (Lib.compact l).length cap) ∧ (∃ r : List Int, Is w' b ((Lib.compact l ++ r).toArray.map encN)) ∧ Only (fun k => k = b) w w' := by
  subst hn
  have hl : (Lib.compact l).length ≤ l.length := compact_le l
  refine (Tryz.slices_Compact_int b 0 cap l w (holds_is h) (by omega) hc).mono ?_
  rintro e w' ⟨rfl, q, rfl⟩
  exact ⟨rfl, ⟨_, is_putRow h (by simp; omega)⟩, only_putRow (S := fun k => k = b) rfl⟩
def FillR (w : World) (l : List Int) (n : Nat) (i : Value) (wr : World) : Prop :=
  ∃ k : Nat, k ≤ n ∧ i = .int .i64 (k : Int) ∧ Hid (Is wr (w.heap.size + 1) (fillZ encN (.int .i64 0) l n k)) ∧ Hid (Is wr w.heap.size #[.slice none 0 0]) ∧ Hid (Below w.heap.size w wr)
/-- A set as a value. -/
def SetV (w : World) (v : Value) (s : List Int) : Prop := ∃ a c, v = .agg #[.slice a s.length c] ∧ RowV w a c s
theorem SetV.keep {w w' : World} {v : Value} {s : List Int} (h : SetV w v s) (hb : Below w.heap.size w w') : SetV w' v s := by
  obtain ⟨a, c, e, h⟩ := h
  exact ⟨a, c, e, h.keep hb⟩
theorem RowV.wf {w : World} {a : Option Addr} {c : Nat} {l : List Int} (h : RowV w a c l) : ∀ n ∈ l, (Lit.int .i64 n).wf = true := fun n hn => by
  obtain ⟨i, hi, e⟩ := List.getElem_of_mem hn
  obtain ⟨_, _, _, _, hw⟩ := h.rd.2 i hi
  have : (fun i => l.getD i 0) i = n := by show l.getD i 0 = n; rw [List.getD_eq_getElem?_getD, List.getElem?_eq_getElem hi]; exact e
  rw [this] at hw
  exact hw
/-- A set whose things, if there are any, lie in a block that is not older than B. -/
def FreshV (B : Nat) (v : Value) : Prop := ∀ b o sp n c, v = .agg #[.slice (some ⟨b, o, sp⟩) n c] → 0 < n → B ≤ b
theorem RowV.put {w : World} {a : Option Addr} {c B : Nat} {l : List Int} (h : RowV w a c l) (hB : ∀ b o sp, a = some ⟨b, o, sp⟩ → 0 < l.length → b ≠ B) (u : Value) : RowV (w.setCell ⟨B, 0, none⟩ u) a c l :=
  ⟨h.cap, h.rd.only' (S := fun k => k = B) ((Only.refl _ _).put 0 u) (fun hl x e => hB x.block x.off x.spot (by rw [e]) hl), h.nil⟩
theorem of_done {w w1 : World} {l : List Int} {n : Nat} (hw : ∀ x ∈ l, (Lit.int .i64 x).wf = true) (hn : l.length = n) (hm : n ≤ 1000000) {s : List Int} (hs : s = setL ltI l) {r : List Int} (h : Is w1 (w.heap.size + 1) ((s ++ r).toArray.map encN)) : RowV w1 (some ⟨w.heap.size + 1, 0, none⟩) n s := by
  have h1 := setL_length (lt := ltI) l
  rw [← hs] at h1
  refine is_rowv h (fun i hi => ?_) (by omega) (by omega) (fun x hx => hw x (by rw [hs] at hx; exact (mem_setL totI l x).1 hx))
  have hi2 : i < s.length + r.length := by omega
  simp [hi, List.getElem?_append_left, encN]
set_option maxHeartbeats 1000000 in
/-- The program's Of. -/
theorem of_any (a : Option Addr) (c : Nat) (l : List Int) (w : World) (h : RowV w a c l) (hm : l.length ≤ 1000000) :
    Calls Tryz.prog 47 #[.slice a l.length c] w fun e w' => ∃ v, e = .returned v ∧ SetV w' v (setL ltI l) ∧ FreshV w.heap.size v ∧ Below w.heap.size w w' := by
  have HW := hide h.wf
  have HA := hide h
  obtain ⟨n, hn⟩ : ∃ n, l.length = n := ⟨_, rfl⟩
  rw [hn] at hm ⊢
  have hmk := mk_ints n hm
  have HN : Hid (l.length = n) := hn
  have HM : Hid (n ≤ 1000000) := hm
  have R0 : ∀ (w1 : World), Hid (w1 = (w.alloc (.cells #[.slice none 0 0] 90)).alloc (.cells (List.replicate n (Value.int .i64 0)).toArray 3)) → Hid (FillR w l n (.int .i64 0) w1) := by
    intro w1 e
    have e := e.out
    subst e
    exact ⟨0, by omega, rfl, by rw [fillZ_zero]; exact Is.made _ _ _ (by simp), (Is.made _ _ _ rfl).alloc _, ((Below.refl _ _).alloc (Nat.le_refl _) _).alloc (by simp) _⟩
  clear hn h
  go_enter Tryz.func47, Tryz.ntmps47
  go_wp2
  go_loopw [12] (fun i wr => FillR w l n i wr) (fun i _ => n - (intOf i).toNat)
  case atStart => exact (R0 _ rfl).out
  case round =>
    obtain ⟨k, hk, rfl, hI, hC, hB⟩ := hrel
    by_cases hlt : k < n
    · obtain ⟨b1, o1, rfl, hc1⟩ := (HA.out.keep (hB.out.mono (Nat.le_refl _))).at (show k < l.length by rw [HN.out]; exact hlt)
      have hz : l[k]? = some (l.getD k 0) := by rw [List.getD_eq_getElem?_getD, List.getElem?_eq_getElem (by rw [HN.out]; exact hlt)]; rfl
      have hwx := HW.out (l.getD k 0) (List.mem_of_getElem? hz)
      obtain ⟨x, hx⟩ : ∃ x, x = l.getD k 0 := ⟨_, rfl⟩
      rw [← hx] at hc1 hz hwx
      have HZ := hide hz
      have hb1 := bounds_i64 hwx
      obtain ⟨q1, q2⟩ := hb1
      have hcell := hI.out.cell k (fillZ_get HN.out hlt)
      have hfz := hI.out.frozen k
      clear hx hz hwx
      go_wp2
      go_roundw
      case rel => exact ⟨k + 1, by omega, by go_num, by rw [← fillZ_set HN.out hlt HZ.out]; exact hI.out.set k _, hC.out.other (by simp) _, hB.out.setCell (p := ⟨w.heap.size + 1, k, none⟩) (by simp) _⟩
      case measure => simp [intOf]; omega
    · obtain rfl : k = n := by omega
      have HI1 : Hid (Is wr (w.heap.size + 1) (l.toArray.map encN)) := by have := hI.out; rw [fillZ_all HN.out] at this; exact this
      have hMl : (l.mergeSort fun x y => decide (x ≤ y)).length = k := by rw [List.length_mergeSort]; exact HN.out
      have HS : Hid (Lib.compact (l.mergeSort fun x y => decide (x ≤ y)) = setL ltI l) := sort_set_int l
      have HML := hide hMl
      clear hI hMl hmk R0
      go_wp2_with (first | (go_at_call 72; go_must ((with_reducible refine (sort_at (w.heap.size + 1) k k l _ HI1.out HN.out HM.out).mono ?_); rintro e w2 ⟨rfl, hs2, ho2⟩; have HI2 := hide hs2; have HC2 := hide (hC.out.keep ho2 (by omega)); have HB2 := hide (hB.out.only ho2 (fun i q => by omega) hB.out.size); clear hs2 ho2 HI1 hC hB)) | (go_at_call 73; go_must ((with_reducible refine (compact_at (w.heap.size + 1) k k _ _ HI2.out HML.out HM.out (Nat.le_refl _)).mono ?_); rintro e w3 ⟨rfl, ⟨r3, hs3⟩, ho3⟩; have HI3 := hide hs3; have HC3 := hide (HC2.out.keep ho3 (by omega)); have HB3 := hide (HB2.out.only ho3 (fun i q => by omega) HB2.out.size); have hc3 : w3.cell? ⟨w.heap.size, 0, none⟩ = some (.slice none 0 0) := HC3.out.cell 0 rfl; have hf3 := HC3.out.frozen 0; clear hs3 ho3 HI2 HC2 HB2)))
      obtain ⟨S, hS⟩ : ∃ S, S = Lib.compact (l.mergeSort fun x y => decide (x ≤ y)) := ⟨_, rfl⟩
      have hS2 : S = setL ltI l := hS.trans HS.out
      have hI4 := HI3.out
      rw [← hS] at hI4
      have hV := of_done (w := w) HW.out HN.out HM.out hS2 (hI4.other (p := ⟨w.heap.size, 0, none⟩) (by simp) (.slice (some ⟨w.heap.size + 1, 0, none⟩) S.length k))
      have hb4 := HB3.out.setCell (p := ⟨w.heap.size, 0, none⟩) (Nat.le_refl _) (.slice (some ⟨w.heap.size + 1, 0, none⟩) S.length k)
      have hc4 : (w3.setCell ⟨w.heap.size, 0, none⟩ (.slice (some ⟨w.heap.size + 1, 0, none⟩) S.length k)).cell? ⟨w.heap.size, 0, none⟩ = some (.slice (some ⟨w.heap.size + 1, 0, none⟩) S.length k) := (HC3.out.set 0 _).cell 0 rfl
      rw [← hS]
      exact bodyPost_ret (v := .agg #[.slice (some ⟨w.heap.size + 1, 0, none⟩) S.length k]) (by simp [results, Tryz.results47, go_sem, hc4]) rfl ⟨_, rfl, ⟨_, _, by rw [← hS2], by rw [← hS2]; exact hV⟩, fun b o sp n c e _ => by injection e with e; injection e with e; simp at e; omega, hb4⟩
end Go.Proofs.YtkjhamcmhijhgaaGreat.Sets

/- What a set answers of itself: its list, how many there are, whether something is in it. -/
namespace Go.Proofs.YtkjhamcmhijhgaaGreat.Sets
open Go.RowKit Go.Proofs.YtkjhamcmhijhgaaGreat.Dig Go.Proofs.YtkjhamcmhijhgaaGreat.Mem Go.Sort
set_option linter.unusedVariables false
set_option linter.unusedSimpArgs false

/-- A row of the call's own, as a row that is read. -/
theorem own_rowv {w : World} {base : Nat} {v : Value} {l : List Int} (h : w.ownsRow base 3 1 v l.length (l.map (Value.int .i64))) (hl : l.length ≤ 1000000000000) (hw : ∀ n ∈ l, (Lit.int .i64 n).wf = true) :
    ∃ a cap, v = .slice a l.length cap ∧ RowV w a cap l := by
  obtain ⟨a, cap, e, h1, h2⟩ := Rd.own h hl hw
  refine ⟨a, cap, e, h1, h2, fun q => ?_⟩
  subst q
  rcases h.2 with ⟨hv, _⟩ | ⟨g, cap', cur, hv, _⟩
  · rw [hv] at e; injection e with e1 e2 e3; exact e3.symm
  · rw [hv] at e; injection e with e1; cases e1
theorem clone_fresh (a : Option Addr) (c : Nat) (l : List Int) (w : World) (h : RowV w a c l) (hm : l.length ≤ 1000000) :
    Calls Tryz.prog 29 #[.slice a l.length c] w fun e w' => (∃ a' c', e = .returned (.slice a' l.length c') ∧ RowV w' a' c' l ∧ ∀ x, a' = some x → w.heap.size ≤ x.block) ∧ Below w.heap.size w w' := by
  cases a with
  | none =>
    have hl0 : l = [] := by
      cases l with
      | nil => rfl
      | cons x l => obtain ⟨b, off, e, _⟩ := h.at (i := 0) (by simp); cases e
    subst hl0
    refine (Tryz.slices_Clone_int_nil 0 c w).mono ?_
    rintro e w' ⟨rfl, rfl⟩
    exact ⟨⟨none, 0, rfl, ⟨by simp, ⟨by simp, by simp⟩, fun _ => rfl⟩, fun x e => by cases e⟩, Below.refl _ _⟩
  | some ad =>
    by_cases h0 : l = []
    · subst h0
      refine (Tryz.slices_Clone_int_zero ad c w).mono ?_
      rintro e w' ⟨v', rfl, hown, _, hb⟩
      obtain ⟨a', c', rfl, hr⟩ := own_rowv (l := []) hown (by simp) (by simp)
      exact ⟨⟨_, _, rfl, hr, fun x e => by subst e; exact (World.ownsRow.lt hown x.block rfl).1⟩, hb⟩
    · obtain ⟨b, off, e, _⟩ := h.at (i := 0) (by cases l with
        | nil => exact absurd rfl h0
        | cons x l => simp)
      cases e
      refine (Tryz.slices_Clone_int b off l.length c l w (Nat.le_refl _) (by omega) (fun j hj => ?_)).mono ?_
      · obtain ⟨b', off', e, hc⟩ := h.at hj
        cases e
        exact hc
      · rintro e w' ⟨v', rfl, hown, _, hb⟩
        rw [List.take_length] at hown
        obtain ⟨a', c', rfl, hr⟩ := own_rowv hown (by omega) h.wf
        exact ⟨⟨_, _, rfl, hr, fun x e => by subst e; exact (World.ownsRow.lt hown x.block rfl).1⟩, hb⟩
theorem clone_any (a : Option Addr) (c : Nat) (l : List Int) (w : World) (h : RowV w a c l) (hm : l.length ≤ 1000000) :
    Calls Tryz.prog 29 #[.slice a l.length c] w fun e w' => (∃ a' c', e = .returned (.slice a' l.length c') ∧ RowV w' a' c' l) ∧ Below w.heap.size w w' := by
  refine (clone_fresh a c l w h hm).mono ?_
  rintro e w' ⟨⟨a', c', rfl, h1, _⟩, h2⟩
  exact ⟨⟨a', c', rfl, h1⟩, h2⟩
theorem list_any (v : Value) (s : List Int) (w : World) (h : SetV w v s) (hm : s.length ≤ 1000000) :
    Calls Tryz.prog 51 #[v] w fun e w' => (∃ a c, e = .returned (.slice a s.length c) ∧ RowV w' a c s) ∧ Below w.heap.size w w' := by
  obtain ⟨a, c, rfl, hr⟩ := h
  have H0 : Hid (∀ T : TypeId, Calls Tryz.prog 29 #[.slice a s.length c] (w.alloc (.cells #[.slice a s.length c] T)) fun e w' => (∃ a' c', e = .returned (.slice a' s.length c') ∧ RowV w' a' c' s) ∧ Below (w.alloc (.cells #[.slice a s.length c] T)).heap.size (w.alloc (.cells #[.slice a s.length c] T)) w') :=
    fun T => clone_any a c s _ (hr.keep ((Below.refl _ _).alloc (Nat.le_refl _) _)) hm
  obtain ⟨n, hn⟩ : ∃ n, n = s.length := ⟨_, rfl⟩
  rw [← hn] at H0 ⊢
  clear hn hr hm
  go_enter Tryz.func51, Tryz.ntmps51
  go_wp2_with (go_at_call 29; go_must ((with_reducible refine (H0.out _).mono ?_); rintro e w9 ⟨⟨a9, c9, rfl, hr9⟩, hb9⟩; have HR := hide hr9; have HB := hide hb9; clear hr9 hb9))
  go_ret
  exact ⟨⟨_, _, rfl, HR.out⟩, ((Below.refl _ _).alloc (Nat.le_refl _) _).trans (HB.out.mono (by simp))⟩
theorem len_any (v : Value) (s : List Int) (w : World) (h : SetV w v s) :
    Calls Tryz.prog 50 #[v] w fun e w' => e = .returned (.int .i64 (s.length : Int)) ∧ Below w.heap.size w w' := by
  obtain ⟨a, c, rfl, hr⟩ := h
  go_enter Tryz.func50, Tryz.ntmps50
  go_wp2
  go_ret
  exact ⟨rfl, (Below.refl _ _).alloc (Nat.le_refl _) _⟩
end Go.Proofs.YtkjhamcmhijhgaaGreat.Sets

/- The program's New and Step. -/
namespace Go.Proofs.YtkjhamcmhijhgaaGreat.Pick
open Go.RowKit Go.Proofs.YtkjhamcmhijhgaaGreat.Dig Go.Proofs.YtkjhamcmhijhgaaGreat.Mem Go.Proofs.YtkjhamcmhijhgaaGreat.Dq Go.Proofs.YtkjhamcmhijhgaaGreat.Thing Go.Proofs.YtkjhamcmhijhgaaGreat.Sets
set_option linter.unusedVariables false
set_option linter.unusedSimpArgs false

theorem row_v {w : World} {a : Option Addr} {c : Nat} {l : List Int} (h : RowI w a c l) : RowV w a c l := ⟨h.cap, h.rd, h.nil⟩
theorem row_i {w : World} {a : Option Addr} {c : Nat} {l : List Int} (h : RowV w a c l) : RowI w a c l := ⟨h.cap, h.rd, h.nil⟩
theorem new_any {w : World} {a : Option Addr} {m p : Nat} {L : List Int} (c : Int) (h : RowI w a p L) (hm : m = L.length) (hL : L.length ≤ 1000000) : Calls Tryz.prog 6 #[.slice a m p, .int .i64 c] w fun e w' =>
    ∃ b pa pc, e = .returned (.pointer (some ⟨b, 0, none⟩)) ∧ Scr w' b pa pc L c 0 ∧ (∀ k, (scrT b pa pc L c 0).F k → w.heap.size ≤ k) ∧ Below w.heap.size w w' := by
  subst hm
  have HC := hide (clone_fresh a p L w (row_v h) hL)
  obtain ⟨m, hm⟩ : ∃ m, m = L.length := ⟨_, rfl⟩
  have HM := hide hm
  rw [← hm] at HC ⊢
  clear h hm
  go_enter Tryz.func6, Tryz.ntmps6
  go_wp2_with (go_at_call 29; go_must ((with_reducible refine (Hid.out HC).mono ?_); rintro e w2 ⟨⟨pa, pc, rfl, hr, hf⟩, hb⟩; have HR := hide hr; have HF := hide hf; have HB := hide hb; clear hr hf hb))
  go_ret
  refine ⟨w2.heap.size, pa, pc, rfl, ⟨?_, row_i (HR.out.keep ((Below.refl _ _).alloc (Nat.le_refl _) _)), fun hl x e q => ?_⟩, fun k hk => ?_, HB.out.alloc HB.out.size _⟩
  · rw [← HM.out]
    exact Is.made _ _ _ rfl
  · have := Rd.lt HR.out.rd hl x e
    omega
  · rcases hk with rfl | ⟨_, x, e, rfl⟩
    · exact HB.out.size
    · exact HF.out x e
section
variable {w : World} {b n : Nat} {pa : Option Addr} {pc : Nat} {L : List Int} {c : Int}
theorem pstep_nil (w : World) (r : Value) : Calls Tryz.prog 30 #[.pointer none, r] w fun e w' => e = .returned (.tuple #[.int .i64 0, .int .i64 1]) ∧ w' = w := by
  go_enter Tryz.func30, Tryz.ntmps30
  go_wp2
  refine bodyPost_ret (v := .tuple #[.int .i64 0, .int .i64 1]) (by simp [results, Tryz.results30, go_sem]) rfl ?_
  exact ⟨rfl, rfl⟩
theorem pstep_un {w : World} {b : Nat} {v0 v1 v2 : Value} (h : Is w b #[v0, v1, v2, .bool false]) (r : Value) : Calls Tryz.prog 30 #[.pointer (some ⟨b, 0, none⟩), r] w fun e w' => e = .returned (.tuple #[.int .i64 0, .int .i64 1]) ∧ w' = w := by
  obtain ⟨⟨c0, c1, c2, c3⟩, _⟩ := h.four
  clear h
  go_enter Tryz.func30, Tryz.ntmps30
  go_wp2
  refine bodyPost_ret (v := .tuple #[.int .i64 0, .int .i64 1]) (by simp [results, Tryz.results30, go_sem]) rfl ?_
  exact ⟨rfl, rfl⟩
theorem pstep_over (h : Scr w b pa pc L c n) (ho : over c n = true) (r : Value) : Calls Tryz.prog 30 #[.pointer (some ⟨b, 0, none⟩), r] w fun e w' => e = .returned (.tuple #[.int .i64 0, .int .i64 8]) ∧ ∃ q, w' = w.drewN q := by
  have HO := hide (over_any h)
  rw [ho] at HO
  obtain ⟨⟨c0, c1, c2, c3⟩, _⟩ := h.box.four
  clear h ho
  go_enter Tryz.func30, Tryz.ntmps30
  go_wp2_with (go_at_call 46; go_must ((with_reducible refine (Hid.out HO).mono ?_); rintro e w2 ⟨rfl, q, rfl⟩))
  refine bodyPost_ret (v := .tuple #[.int .i64 0, .int .i64 8]) (by simp [results, Tryz.results30, go_sem]) rfl ?_
  exact ⟨rfl, _, rfl⟩
theorem pstep_none (h : Scr w b pa pc L c n) (ho : over c n = false) (ra : Option Addr) (rc : Nat) : Calls Tryz.prog 30 #[.pointer (some ⟨b, 0, none⟩), .slice ra 0 rc] w fun e w' => e = .returned (.tuple #[.int .i64 0, .int .i64 10]) ∧ ∃ q, w' = w.drewN q := by
  have HO := hide (over_any h)
  rw [ho] at HO
  obtain ⟨⟨c0, c1, c2, c3⟩, _⟩ := h.box.four
  clear h ho
  go_enter Tryz.func30, Tryz.ntmps30
  go_wp2_with (go_at_call 46; go_must ((with_reducible refine (Hid.out HO).mono ?_); rintro e w2 ⟨rfl, q, rfl⟩))
  refine bodyPost_ret (v := .tuple #[.int .i64 0, .int .i64 10]) (by simp [results, Tryz.results30, go_sem]) rfl ?_
  exact ⟨rfl, _, rfl⟩
/-- What is known within the step: the set of the ready lies in a box. -/
structure MidS (w : World) (b n qb sl sc : Nat) (pa : Option Addr) (pc : Nat) (L : List Int) (c : Int) (sa : Option Addr) (s : List Int) (W : World) : Prop where
  scr : Scr W b pa pc L c n
  set : RowV W sa sc s
  box : Is W qb #[.slice sa sl sc]
  only : Only (fun k => k = b) w W
theorem MidS.keep {w W W' : World} {b n qb sl sc : Nat} {pa : Option Addr} {pc : Nat} {L : List Int} {c : Int} {sa : Option Addr} {s : List Int} (h : MidS w b n qb sl sc pa pc L c sa s W) (hb : Below W.heap.size W W') : MidS w b n qb sl sc pa pc L c sa s W' :=
  ⟨h.scr.keep hb, h.set.keep hb, h.box.below hb, h.only.trans (Only.of_below hb)⟩
theorem MidS.more {w W : World} {b n qb sl sc : Nat} {pa : Option Addr} {pc : Nat} {L : List Int} {c : Int} {sa : Option Addr} {s : List Int} (h : MidS w b n qb sl sc pa pc L c sa s W) (hq : ¬ qb = b) (hs : ∀ x, sa = some x → x.block ≠ b) : MidS w b (n + 1) qb sl sc pa pc L c sa s (W.setCell ⟨b, 2, none⟩ (.int .i64 ((n : Int) + 1))) :=
  ⟨by simpa using h.scr.more (n + 1), ⟨h.set.cap, h.set.rd.only' (S := fun k => k = b) ((Only.refl _ _).put 2 _) (fun _ x e => hs x e), h.set.nil⟩, h.box.other (Ne.symm hq) _, h.only.put 2 _⟩
set_option maxHeartbeats 4000000 in
theorem pstep_ok (h : Scr w b pa pc L c n) (ho : over c n = false) (hn : n ≤ 1000000) {ra : Option Addr} {rc k : Nat} {l : List Int} (hl : l ≠ []) (hk : k = l.length) (hk2 : l.length ≤ 1000000) (hr : RowI w ra rc l) :
    Calls Tryz.prog 30 #[.pointer (some ⟨b, 0, none⟩), .slice ra k rc] w fun e w' => e = .returned (.tuple #[.int .i64 (told L n l), .int .i64 0]) ∧ Scr w' b pa pc L c (n + 1) ∧ Only (fun k => k = b) w w' := by
  have HO := hide (over_any h)
  rw [ho] at HO
  have hs := setL_ne hl
  have hj := place_lt L n hs
  have hji := place_int L n hs
  have hsl2 := setL_length (lt := ltI) l
  have HT0 : told L n l = (setL ltI l).getD (place L n (setL ltI l).length) 0 := rfl
  have hk0 : 0 < k := by rw [hk]; cases l with | nil => exact absurd rfl hl | cons y l => simp
  obtain ⟨s, hs'⟩ : ∃ s, s = setL ltI l := ⟨_, rfl⟩
  rw [← hs'] at HT0 hj hji hs hsl2
  obtain ⟨sl, hsl⟩ : ∃ sl, sl = s.length := ⟨_, rfl⟩
  rw [← hsl] at HT0 hj hji hs hsl2
  obtain ⟨j, hj'⟩ : ∃ j, j = place L n sl := ⟨_, rfl⟩
  rw [← hj'] at HT0 hj hji
  obtain ⟨t, ht⟩ : ∃ t, t = s.getD j 0 := ⟨_, rfl⟩
  rw [← ht] at HT0
  have HT := hide HT0.symm
  have HOF : Hid (∀ q, Calls Tryz.prog 47 #[.slice ra k rc] (w.drewN q) fun e w' => ∃ sa sc, e = .returned (.agg #[.slice sa sl sc]) ∧ RowV w' sa sc s ∧ (∀ x, sa = some x → 0 < sl → w.heap.size ≤ x.block) ∧ Below w.heap.size w w') := hide (fun q => by
    have := of_any ra rc l (w.drewN q) (row_v (hr.keep (below_of_drewN q))) hk2
    rw [← hs', ← hk] at this
    refine this.mono ?_
    rintro e w' ⟨v, rfl, ⟨a', c', rfl, g1⟩, g2, g3⟩
    rw [← hsl] at g2 ⊢
    exact ⟨a', c', rfl, g1, fun x e hx => by subst e; exact g2 x.block x.off x.spot _ _ rfl hx, (below_of_drewN q).trans g3⟩)
  have HAT : Hid (∀ W a' c', RowV W a' c' s → ∃ b off, a' = some ⟨b, off, none⟩ ∧ W.cell? ⟨b, off + j, none⟩ = some (.int .i64 t)) := hide (fun W a' c' q => by
    obtain ⟨b, off, e, hc⟩ := q.at (i := j) (by omega)
    rw [← ht] at hc
    exact ⟨b, off, e, hc⟩)
  obtain ⟨x, hx⟩ : ∃ x, x = L.getD n 0 := ⟨_, rfl⟩
  have hwf : (Lit.int .i64 x).wf = true := by
    rw [hx]
    by_cases q : n < L.length
    · exact h.row.wf _ (by rw [List.getD_eq_getElem?_getD, List.getElem?_eq_getElem q]; exact List.getElem_mem _)
    · rw [List.getD_eq_getElem?_getD, List.getElem?_eq_none (by omega)]; rfl
  rw [← hx] at hji
  have HNX : Hid (∀ W sa sc qb, MidS w b n qb sl sc pa pc L c sa s W → Calls Tryz.prog 49 #[.pointer (some ⟨b, 0, none⟩)] W fun e w' => e = .returned (.int .i64 x) ∧ MidS w b n qb sl sc pa pc L c sa s w') := hide (fun W sa sc qb g => by
    have := next_any g.scr
    rw [← hx] at this
    refine this.mono ?_
    rintro e w' ⟨rfl, q, rfl⟩
    exact ⟨rfl, g.keep (below_of_drewN q)⟩)
  have HLN : Hid (∀ W sa sc qb, MidS w b n qb sl sc pa pc L c sa s W → Calls Tryz.prog 50 #[.agg #[.slice sa sl sc]] W fun e w' => e = .returned (.int .i64 (sl : Int)) ∧ MidS w b n qb sl sc pa pc L c sa s w') := hide (fun W sa sc qb g => by
    have := len_any (.agg #[.slice sa sl sc]) s W ⟨sa, sc, by rw [hsl], g.set⟩
    rw [← hsl] at this
    refine this.mono ?_
    rintro e w' ⟨rfl, hb⟩
    exact ⟨rfl, g.keep hb⟩)
  have HLI : Hid (∀ W sa sc qb, MidS w b (n + 1) qb sl sc pa pc L c sa s W → Calls Tryz.prog 51 #[.agg #[.slice sa sl sc]] W fun e w' => (∃ a' c', e = .returned (.slice a' sl c') ∧ RowV w' a' c' s) ∧ MidS w b (n + 1) qb sl sc pa pc L c sa s w') := hide (fun W sa sc qb g => by
    have := list_any (.agg #[.slice sa sl sc]) s W ⟨sa, sc, by rw [hsl], g.set⟩ (by omega)
    rw [← hsl] at this
    refine this.mono ?_
    rintro e w' ⟨⟨a', c', rfl, h1⟩, hb⟩
    exact ⟨⟨a', c', rfl, h1⟩, g.keep hb⟩)
  have HMD := hide (fun W => mod_any x sl W hwf hs (by omega) hji.symm)
  have HS0 := hide h
  have hb0 := h.box.lt
  obtain ⟨⟨c0, c1, c2, c3⟩, _⟩ := h.box.four
  have g0 : ((k : Int) == 0) = false := by simp; omega
  have g1 : (j : Int) < (sl : Int) := by omega
  have HSL := hide hs
  clear h ho hr hl hk hk2 hs' hsl ht HT0 hj' hx hji hsl2 hwf
  go_enter Tryz.func30, Tryz.ntmps30
  go_wp2_with (first
    | (go_at_call 46; go_must ((with_reducible refine (Hid.out HO).mono ?_); rintro e w2 ⟨rfl, q, rfl⟩))
    | (go_at_call 47; go_must ((with_reducible refine (Hid.out HOF q).mono ?_); rintro e w2 ⟨sa, sc, rfl, hr2, hf2, hb2⟩; have HR2 := hide hr2; have HF2 := hide hf2; have HB2 := hide hb2; clear hr2 hf2 hb2)))
  obtain ⟨qb, hqb⟩ : ∃ qb, qb = w2.heap.size := ⟨_, rfl⟩
  have M0 : Hid (MidS w b n qb sl sc pa pc L c sa s (w2.alloc (.cells #[.slice sa sl sc] 90))) := hide ⟨(HS0.out.keep HB2.out).keep ((Below.refl _ _).alloc (Nat.le_refl _) _), HR2.out.keep ((Below.refl _ _).alloc (Nat.le_refl _) _), Is.made _ _ _ hqb, (Only.of_below HB2.out).alloc _⟩
  have hqb2 : ¬ qb = b := by have := HB2.out.size; omega
  have hsab : ∀ x, sa = some x → x.block ≠ b := fun x e q => by have := HF2.out x e HSL.out; omega
  have HSAB := hide hsab
  rw [← hqb]
  generalize (w2.alloc (.cells #[.slice sa sl sc] 90)) = W3 at *
  clear hqb HR2 HF2 HB2 c0 c1 c2 c3 hsab HOF HO
  have hbx : W3.cell? ⟨qb, 0, none⟩ = some (.slice sa sl sc) := M0.out.box.cell 0 rfl
  have K := hide (M0.out.keep (W' := W3.drew) (Below.refl _ _).drew)
  go_region_held3 (fun w' => w'.cell? ⟨qb, 0, none⟩ = some (.slice sa sl sc)) (first | assumption | go_keep)
    (first
    | (go_at_call 49; ((with_reducible refine (Hid.out HNX _ sa sc qb K.out).mono ?_); rintro e w5 ⟨rfl, hm⟩; replace K := hide hm; have hbx5 := hm.box.cell 0 rfl; clear hm))
    | (go_at_call 50; ((with_reducible refine (Hid.out HLN _ sa sc qb K.out).mono ?_); rintro e w6 ⟨rfl, hm⟩; replace K := hide hm; have hbx6 := hm.box.cell 0 rfl; clear hm))
    | (go_at_call 48; ((with_reducible refine (Hid.out HMD _).mono ?_); rintro e w7 ⟨rfl, rfl⟩)))
  clear hbx5 hbx6
  obtain ⟨⟨c0, c1, c2, c3⟩, f0, f1, f2, f3⟩ := K.out.scr.box.four
  have hbx7 := K.out.box.cell 0 rfl
  have K9 := hide (K.out.more hqb2 HSAB.out)
  clear K c0 c1 c3 f0 f1 f3
  go_simp
  go_wp2_with (go_at_call 51; ((with_reducible refine (Hid.out HLI _ sa sc qb K9.out).mono ?_); rintro e w8 ⟨⟨la, lc, rfl, hr8⟩, hm⟩; have KE := hide hm; obtain ⟨lb, lo, rfl, hlc⟩ := HAT.out _ _ _ hr8; clear hm hr8 hbx7))
  refine bodyPost_ret (v := .tuple #[.int .i64 t, .int .i64 0]) (by simp [results, Tryz.results30, go_sem]) rfl ?_
  exact ⟨by rw [HT.out], KE.out.scr, KE.out.only⟩
end
end Go.Proofs.YtkjhamcmhijhgaaGreat.Pick
