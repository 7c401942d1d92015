/- Joined out of the texts MrgFlow, MrgReady, MrgStep, in that order. -/
import Derived.Test.YtkjdjmcecjaolaaAll5
import Derived.Test.YtkjdjmcecjaolaaAll7
import Derived.Deep.Cut
import Derived.Deep.RegionHeld3
/- Those that go on, as they lie: who is ready. -/
namespace Go.Proofs.Ytkjdjmcecjaolaa.Mrg
open Go.RowKit Go.Proofs.Ytkjdjmcecjaolaa.Dig Go.Proofs.Ytkjdjmcecjaolaa.Mem Go.Proofs.Ytkjdjmcecjaolaa.Dq Go.Proofs.Ytkjdjmcecjaolaa.Thing Go.Proofs.Ytkjdjmcecjaolaa.Own Go.Proofs.Ytkjdjmcecjaolaa.Sets Go.Proofs.Ytkjdjmcecjaolaa.DqI
set_option linter.unusedVariables false
set_option linter.unusedSimpArgs false

local notation "ordF" => Value.func (Fn.func 12) #[] #[]
/-- A sender, its pipe, and the head of it. -/
structure Lw where
  row : Hd
  pb : Nat
  n : Nat
  q : List Int
  c : Bool
  s : Sh
  h : Hd
def Lw.ln (x : Lw) : Ln := ⟨x.row.l, x.q, x.h.l, x.c⟩
def Lw.pT (r : Nat) (x : Lw) : Th := pipeT x.pb r x.n x.c x.q x.s
abbrev Lw.ptr (x : Lw) : Value := .pointer (some ⟨x.pb, 0, none⟩)
def sndL (xs : List Lw) : List Value := (xs.map fun x => [x.row.v, x.ptr]).flatten
def hdsT (hs : List Hd) : Th where
  P w := ∀ h ∈ hs, h.R w
  F k := ∃ h ∈ hs, 0 < h.l.length ∧ ∃ x, h.a = some x ∧ x.block = k
  keep h ho hs := fun h' hh => (rowT h'.a h'.c h'.l).keep (h h' hh) ho (fun k hk => hs k ⟨h', hh, hk⟩)
  lt h k hk := by
    obtain ⟨h', hh, hk⟩ := hk
    exact (rowT h'.a h'.c h'.l).lt (h h' hh) k hk
abbrev fcells (vS vP vH vO : Value) (ex : Bool) (st se ec : Nat) : Array Value := #[vS, vP, vH, ordF, vO, .bool ex, .int .i64 (st : Int), .int .i64 (se : Int), .int .i64 (ec : Int)]
/-- What is known of them beside other things. -/
def fts (w : World) (r fb : Nat) (s : MS) (xs : List Lw) (vS vP vH vO : Value) (ts : List Th) : List Th :=
  [boxT fb (fcells vS vP vH vO s.ex s.st s.se s.ec), ownN w.heap.size 84 2 vS xs.length (sndL xs), ownN w.heap.size 80 1 vP xs.length (xs.map Lw.ptr), ownN w.heap.size 23 1 vH xs.length (xs.map fun x => x.h.v), hdsT (xs.map Lw.h), ownN w.heap.size 3 1 vO s.out.length (s.out.map (Value.int .i64))] ++ (xs.map (Lw.pT r) ++ ts)
structure FL (w : World) (r fb : Nat) (s : MS) (xs : List Lw) (vS vP vH vO : Value) (ts : List Th) (wx : World) : Prop where
  kn : Kn w (fts w r fb s xs vS vP vH vO ts) wx
  ls : xs.map Lw.ln = s.ls
  row : ∀ x ∈ xs, x.row.R w ∧ WfL x.q ∧ x.n + x.row.l.length ≤ 1000
  out : s.out.length ≤ s.st ∧ WfL s.out
theorem sndL_at {xs : List Lw} {k : Nat} {x : Lw} (h : xs[k]? = some x) : (sndL xs)[k * 2]? = some x.row.v ∧ (sndL xs)[k * 2 + 1]? = some x.ptr := by
  have hm : (xs.map fun x => [x.row.v, x.ptr])[k]? = some [x.row.v, x.ptr] := by rw [List.getElem?_map, h]; rfl
  have hl : ∀ c ∈ xs.map (fun x : Lw => [x.row.v, x.ptr]), c.length = 2 := fun c hc => by
    obtain ⟨x, _, rfl⟩ := List.mem_map.1 hc
    rfl
  have h0 := flatten_get 2 _ hl k _ hm 0 (by omega)
  have h1 := flatten_get 2 _ hl k _ hm 1 (by omega)
  rw [Nat.add_zero] at h0
  exact ⟨h0, h1⟩
section
variable {w wx w' : World} {r fb : Nat} {s : MS} {xs : List Lw} {vS vP vH vO : Value} {ts : List Th} {k : Nat} {x : Lw}
theorem FL.len (h : FL w r fb s xs vS vP vH vO ts wx) : s.ls.length = xs.length := by rw [← h.ls, List.length_map]
theorem FL.keep (h : FL w r fb s xs vS vP vH vO ts wx) (hb : Below wx.heap.size wx w') : FL w r fb s xs vS vP vH vO ts w' := ⟨h.kn.keep hb, h.ls, h.row, h.out⟩
theorem FL.tail (h : FL w r fb s xs vS vP vH vO ts wx) : Kn w ts wx := h.kn.sub (by
  unfold fts
  exact (List.sublist_append_right _ _).trans (List.sublist_append_right _ _))
theorem FL.box (h : FL w r fb s xs vS vP vH vO ts wx) : Is wx fb (fcells vS vP vH vO s.ex s.st s.se s.ec) := h.kn.get (t := boxT fb _) (by simp [fts])
theorem FL.pipe (h : FL w r fb s xs vS vP vH vO ts wx) (hk : xs[k]? = some x) : (pipeT x.pb r x.n x.c x.q x.s).P wx := h.kn.get (t := x.pT r) (by
  unfold fts
  exact List.mem_append_right _ (List.mem_append_left _ (List.mem_map.2 ⟨x, List.mem_of_getElem? hk, rfl⟩)))
theorem FL.snd (h : FL w r fb s xs vS vP vH vO ts wx) (hk : xs[k]? = some x) : ∃ g c, vS = .slice (some ⟨g, 0, none⟩) xs.length c ∧ xs.length ≤ c ∧ (wx.cell? ⟨g, k * 2, none⟩ = some x.row.v ∧ wx.cell? ⟨g, k * 2 + 1, none⟩ = some x.ptr) ∧ ∀ i, wx.frozen? ⟨g, i, none⟩ = false := by
  have hP := h.kn.get (t := ownN w.heap.size 84 2 vS xs.length (sndL xs)) (by simp [fts])
  obtain ⟨h0, h1⟩ := sndL_at hk
  obtain ⟨g, c, e, c0, _⟩ := own_at hP h0
  obtain ⟨g', c', e', c1, _⟩ := own_at hP h1
  subst e
  cases e'
  exact ⟨g, c, rfl, (own_cap hP).1, ⟨c0, c1⟩, fun i => World.ownsRow.frozenAt hP i⟩
theorem FL.ptrs (h : FL w r fb s xs vS vP vH vO ts wx) (hk : xs[k]? = some x) : ∃ g c, vP = .slice (some ⟨g, 0, none⟩) xs.length c ∧ xs.length ≤ c ∧ wx.cell? ⟨g, k, none⟩ = some x.ptr := by
  have hP := h.kn.get (t := ownN w.heap.size 80 1 vP xs.length (xs.map Lw.ptr)) (by simp [fts])
  obtain ⟨g, c, e, c0, _⟩ := own_at hP (show (xs.map Lw.ptr)[k]? = some x.ptr by rw [List.getElem?_map, hk]; rfl)
  subst e
  exact ⟨g, c, rfl, (own_cap hP).1, c0⟩
theorem FL.heads (h : FL w r fb s xs vS vP vH vO ts wx) (hk : xs[k]? = some x) : ∃ g c, vH = .slice (some ⟨g, 0, none⟩) xs.length c ∧ xs.length ≤ c ∧ wx.cell? ⟨g, k, none⟩ = some x.h.v := by
  have hP := h.kn.get (t := ownN w.heap.size 23 1 vH xs.length (xs.map fun x => x.h.v)) (by simp [fts])
  obtain ⟨g, c, e, c0, _⟩ := own_at hP (show (xs.map fun x => x.h.v)[k]? = some x.h.v by rw [List.getElem?_map, hk]; rfl)
  subst e
  exact ⟨g, c, rfl, (own_cap hP).1, c0⟩
theorem FL.forms (h : FL w r fb s xs vS vP vH vO ts wx) : (∃ a c, vS = .slice a xs.length c) ∧ (∃ a c, vP = .slice a xs.length c) ∧ (∃ a c, vH = .slice a xs.length c) ∧ (∃ a c, vO = .slice a s.out.length c) :=
  ⟨Own.own_form (h.kn.get (t := ownN w.heap.size 84 2 vS xs.length (sndL xs)) (by simp [fts])), Own.own_form (h.kn.get (t := ownN w.heap.size 80 1 vP xs.length (xs.map Lw.ptr)) (by simp [fts])), Own.own_form (h.kn.get (t := ownN w.heap.size 23 1 vH xs.length (xs.map fun x => x.h.v)) (by simp [fts])), Own.own_form (h.kn.get (t := ownN w.heap.size 3 1 vO s.out.length (s.out.map (Value.int .i64))) (by simp [fts]))⟩
/-- A sender is asked. -/
theorem sready_any {g j : Nat} (c0 : wx.cell? ⟨g, j, none⟩ = some x.row.v) (c1 : wx.cell? ⟨g, j + 1, none⟩ = some x.ptr) (hp : (pipeT x.pb r x.n x.c x.q x.s).P wx) :
    Calls Try.prog 45 #[.pointer (some ⟨g, j, none⟩)] wx fun e w' => e = .returned (.bool (sndR r x.ln)) ∧ ∃ m, w' = wx.drewN m := by
  obtain ⟨⟨ra, rc, rl⟩, pb, n, q, c, ss, hh⟩ := x
  have HC := hide (fun m => pclosed (pipe_drewN hp m))
  have HL := hide (fun m => plen (pipe_drewN hp m))
  have HM := hide (fun m => proom (pipe_drewN hp m))
  have e : sndR r (Lw.ln ⟨⟨ra, rc, rl⟩, pb, n, q, c, ss, hh⟩) = (!c && (decide (rl.length = 0) || decide (q.length < r))) := by
    simp only [sndR, Lw.ln]
    congr 2
    exact decide_eq_decide.2 List.length_eq_zero_iff.symm
  rw [e]
  obtain ⟨ln, hln⟩ : ∃ ln, ln = rl.length := ⟨_, rfl⟩
  obtain ⟨lq, hlq⟩ : ∃ lq, lq = q.length := ⟨_, rfl⟩
  dsimp only [Hd.v] at c0 HC HL HM
  rw [← hln] at c0 ⊢
  rw [← hlq] at HL ⊢
  clear hp hln hlq e
  cases c with
  | true =>
    go_enter Try.func45, Try.ntmps45
    go_wp2
    go_quiet ((go_at_call 58; exact Calls.quiet_of_same (HC.out _)))
    go_wp2
    go_ret
    exact ⟨rfl, _, rfl⟩
  | false =>
    by_cases h0 : ln = 0
    · subst h0
      go_enter Try.func45, Try.ntmps45
      go_wp2
      go_quiet ((go_at_call 58; exact Calls.quiet_of_same (HC.out _)))
      go_wp2
      go_ret
      exact ⟨rfl, _, rfl⟩
    · have g0 : ((ln : Int) == 0) = false := by simp; omega
      have HD : Hid ((!false && (decide (ln = 0) || decide (lq < r))) = decide (lq < r)) := hide (by simp [h0])
      rw [HD.out]
      clear h0
      go_enter Try.func45, Try.ntmps45
      go_wp2
      go_quiet ((first | (go_at_call 58; exact Calls.quiet_of_same (HC.out _)) | (go_at_call 59; exact Calls.quiet_of_same (HL.out _)) | (go_at_call 60; exact Calls.quiet_of_same (HM.out _))))
      go_wp2
      go_ret
      exact ⟨rfl, _, rfl⟩
theorem nxtR_len (κ : Ln) : nxtR κ = (decide (κ.h.length = 0) && !decide (κ.q.length = 0)) := by
  unfold nxtR
  cases κ.h <;> cases κ.q <;> simp
theorem holR_len (κ : Ln) : holR κ = (!decide (κ.h.length = 0) || (κ.c && decide (κ.q = []))) := by
  unfold holR
  cases κ.h <;> simp
def nxtI (ls : List Ln) : Int := match nxt ls with
  | none => -1
  | some k => (k : Int)
theorem nxt_at {ls : List Ln} {k : Nat} {κ : Ln} (hk : ls[k]? = some κ) (h : nxtR κ = true) (hb : ∀ j κ, j < k → ls[j]? = some κ → nxtR κ = false) : nxt ls = some k := by
  obtain ⟨h1, h2⟩ := List.getElem?_eq_some_iff.1 hk
  unfold nxt
  rw [List.findIdx?_eq_some_iff_getElem]
  refine ⟨h1, by rw [h2]; exact h, fun j hj => ?_⟩
  have := hb j _ hj (List.getElem?_eq_getElem (by omega))
  simp [this]
theorem nxt_no {ls : List Ln} (hb : ∀ j κ, j < ls.length → ls[j]? = some κ → nxtR κ = false) : nxt ls = none := by
  unfold nxt
  rw [List.findIdx?_eq_none_iff]
  intro κ hκ
  obtain ⟨j, hj⟩ := List.getElem?_of_mem hκ
  exact hb j κ (List.getElem?_eq_some_iff.1 hj).1 hj
theorem whole_at {ls : List Ln} {k : Nat} {κ : Ln} (hk : ls[k]? = some κ) (h : holR κ = false) : whole ls = false := by
  unfold whole
  rw [List.all_eq_false]
  exact ⟨κ, List.mem_of_getElem? hk, by rw [h]; exact Bool.false_ne_true⟩
theorem whole_yes {ls : List Ln} (hb : ∀ j κ, j < ls.length → ls[j]? = some κ → holR κ = true) : whole ls = true := by
  unfold whole
  rw [List.all_eq_true]
  intro κ hκ
  obtain ⟨j, hj⟩ := List.getElem?_of_mem hκ
  exact hb j κ (List.getElem?_eq_some_iff.1 hj).1 hj
/-- What the merger's loops read at each sender. -/
theorem FL.lane (h : FL w r fb s xs vS vP vH vO ts wx) {ap ah : Option Addr} {m cp ch : Nat} (ep : vP = .slice ap m cp) (eh : vH = .slice ah m ch) (hk : k < m) (hm : m = xs.length) :
    ∃ x gp gh, xs[k]? = some x ∧ ap = some ⟨gp, 0, none⟩ ∧ ah = some ⟨gh, 0, none⟩ ∧ m ≤ cp ∧ m ≤ ch ∧ wx.cell? ⟨gp, k, none⟩ = some x.ptr ∧ wx.cell? ⟨gh, k, none⟩ = some x.h.v ∧ (pipeT x.pb r x.n x.c x.q x.s).P wx ∧ s.ls[k]? = some x.ln := by
  obtain ⟨x, hx⟩ : ∃ x, xs[k]? = some x := ⟨xs[k]'(by omega), List.getElem?_eq_getElem _⟩
  obtain ⟨g1, c1, e1, l1, f1⟩ := h.ptrs hx
  obtain ⟨g2, c2, e2, l2, f2⟩ := h.heads hx
  rw [ep] at e1
  rw [eh] at e2
  injection e1 with e1 e3 e4
  injection e2 with e2 e5 e6
  exact ⟨x, g1, g2, hx, e1, e2, by omega, by omega, f1, f2, h.pipe hx, by rw [← h.ls, List.getElem?_map, hx]; rfl⟩
set_option maxHeartbeats 1000000 in
theorem mnext_any (h : FL w r fb s xs vS vP vH vO ts wx) (hn : xs.length ≤ 1000) : Calls Try.prog 61 #[.pointer (some ⟨fb, 1, none⟩)] wx fun e w' => e = .returned (.int .i64 (nxtI s.ls)) ∧ w' = wx := by
  obtain ⟨_, ⟨ap, cp, ep⟩, ⟨ah, ch, eh⟩, _⟩ := h.forms
  have hB := h.box
  have c1 := hB.cell 1 rfl
  have c2 := hB.cell 2 rfl
  rw [ep] at c1
  rw [eh] at c2
  obtain ⟨m, hm⟩ : ∃ m, m = xs.length := ⟨_, rfl⟩
  rw [← hm] at c1 c2 ep eh hn
  have HL := hide (fun k (hk : k < m) => h.lane ep eh hk hm)
  have HLN : Hid (m = s.ls.length) := hide (by rw [h.len, hm])
  clear h hB ep eh hm
  go_enter Try.func61, Try.ntmps61
  go_wp2
  go_loopw [10] (fun i wr => wr = wx ∧ ∃ k : Nat, k ≤ m ∧ i = .int .i64 (k : Int) ∧ Hid (∀ j κ, j < k → s.ls[j]? = some κ → nxtR κ = false)) (fun i _ => m - (intOf i).toNat)
  case atStart => exact ⟨rfl, 0, Nat.zero_le _, rfl, fun j κ hj => by omega⟩
  case round =>
    obtain ⟨hw, k, hk, rfl, HB⟩ := hrel
    replace hw := hw.symm
    subst hw
    by_cases hlt : k < m
    · obtain ⟨⟨row, pb, n, q, c, ss, ⟨ha, hc, hl⟩⟩, gp, gh, hx, rfl, rfl, l1, l2, f1, f2, hp, hls⟩ := HL.out k hlt
      have HPL := hide (plen hp)
      have HLS := hide hls
      have hki : (k : Int) < m := by omega
      obtain ⟨lh, hlh⟩ : ∃ lh, lh = hl.length := ⟨_, rfl⟩
      obtain ⟨lq, hlq⟩ : ∃ lq, lq = q.length := ⟨_, rfl⟩
      dsimp only [Hd.v, Lw.ptr] at f1 f2 HPL
      rw [← hlh] at f2
      rw [← hlq] at HPL
      have HR : Hid (nxtR (Lw.ln ⟨row, pb, n, q, c, ss, ⟨ha, hc, hl⟩⟩) = (decide (lh = 0) && !decide (lq = 0))) := hide (by
        rw [hlh, hlq]
        exact nxtR_len _)
      have HNX : Hid (nxtR (Lw.ln ⟨row, pb, n, q, c, ss, ⟨ha, hc, hl⟩⟩) = false → ∀ j κ, j < k + 1 → s.ls[j]? = some κ → nxtR κ = false) := hide (fun hf j κ hj hjk => by
        by_cases e : j = k
        · subst e
          rw [HLS.out] at hjk
          cases hjk
          exact hf
        · exact HB.out j κ (by omega) hjk)
      clear hx hp hls hlh hlq
      by_cases h0 : lh = 0
      · subst h0
        by_cases h1 : lq = 0
        · subst h1
          have HF := hide (HNX.out (by rw [HR.out]; rfl))
          go_wp2_with (go_at_call 59; go_must ((with_reducible refine (Hid.out HPL).mono ?_); rintro e w9 ⟨rfl, rfl⟩))
          go_roundw
          case rel => exact ⟨trivial, k + 1, by omega, by simp, HF⟩
          case measure => simp [intOf]; omega
        · have g1 : (0 : Int) < lq := by omega
          have HE : Hid (nxtI s.ls = (k : Int)) := hide (by
            unfold nxtI
            rw [nxt_at HLS.out (by rw [HR.out]; simp [h1]) HB.out])
          clear h1
          go_wp2_with (go_at_call 59; go_must ((with_reducible refine (Hid.out HPL).mono ?_); rintro e w9 ⟨rfl, rfl⟩))
          go_ret
          rw [HE.out]
          exact ⟨rfl, rfl⟩
      · have g1 : ((lh : Int) == 0) = false := by simp; omega
        have HF := hide (HNX.out (by rw [HR.out]; simp [h0]))
        clear h0
        go_wp2
        go_roundw
        case rel => exact ⟨trivial, k + 1, by omega, by simp, HF⟩
        case measure => simp [intOf]; omega
    · obtain rfl : k = m := by omega
      have hki : ¬ (k : Int) < k := by omega
      have HE : Hid (nxtI s.ls = -1) := hide (by
        unfold nxtI
        rw [nxt_no (by rw [← HLN.out]; exact HB.out)])
      go_wp2
      go_ret
      rw [HE.out]
      exact ⟨rfl, rfl⟩
set_option maxHeartbeats 1000000 in
theorem mwhole_any (h : FL w r fb s xs vS vP vH vO ts wx) (hn : xs.length ≤ 1000) : Calls Try.prog 62 #[.pointer (some ⟨fb, 1, none⟩)] wx fun e w' => e = .returned (.bool (whole s.ls)) ∧ w' = wx := by
  obtain ⟨_, ⟨ap, cp, ep⟩, ⟨ah, ch, eh⟩, _⟩ := h.forms
  have hB := h.box
  have c1 := hB.cell 1 rfl
  have c2 := hB.cell 2 rfl
  rw [ep] at c1
  rw [eh] at c2
  obtain ⟨m, hm⟩ : ∃ m, m = xs.length := ⟨_, rfl⟩
  rw [← hm] at c1 c2 ep eh hn
  have HL := hide (fun k (hk : k < m) => h.lane ep eh hk hm)
  have HLN : Hid (m = s.ls.length) := hide (by rw [h.len, hm])
  clear h hB ep eh hm
  go_enter Try.func62, Try.ntmps62
  go_wp2
  go_loopw [10] (fun i wr => wr = wx ∧ ∃ k : Nat, k ≤ m ∧ i = .int .i64 (k : Int) ∧ Hid (∀ j κ, j < k → s.ls[j]? = some κ → holR κ = true)) (fun i _ => m - (intOf i).toNat)
  case atStart => exact ⟨rfl, 0, Nat.zero_le _, rfl, fun j κ hj => by omega⟩
  case round =>
    obtain ⟨hw, k, hk, rfl, HB⟩ := hrel
    replace hw := hw.symm
    subst hw
    by_cases hlt : k < m
    · obtain ⟨⟨row, pb, n, q, c, ss, ⟨ha, hc, hl⟩⟩, gp, gh, hx, rfl, rfl, l1, l2, f1, f2, hp, hls⟩ := HL.out k hlt
      obtain ⟨d, hd⟩ : ∃ d, d = (c && decide (q = [])) := ⟨_, rfl⟩
      have HPL := hide (pdone hp hd)
      have HLS := hide hls
      have hki : (k : Int) < m := by omega
      obtain ⟨lh, hlh⟩ : ∃ lh, lh = hl.length := ⟨_, rfl⟩
      dsimp only [Hd.v, Lw.ptr] at f1 f2 HPL
      rw [← hlh] at f2
      have HR : Hid (holR (Lw.ln ⟨row, pb, n, q, c, ss, ⟨ha, hc, hl⟩⟩) = (!decide (lh = 0) || d)) := hide (by
        rw [hlh, hd]
        exact holR_len _)
      have HNX : Hid (holR (Lw.ln ⟨row, pb, n, q, c, ss, ⟨ha, hc, hl⟩⟩) = true → ∀ j κ, j < k + 1 → s.ls[j]? = some κ → holR κ = true) := hide (fun hf j κ hj hjk => by
        by_cases e : j = k
        · subst e
          rw [HLS.out] at hjk
          cases hjk
          exact hf
        · exact HB.out j κ (by omega) hjk)
      clear hx hp hls hlh hd
      by_cases h0 : lh = 0
      · subst h0
        cases d with
        | true =>
          have HF := hide (HNX.out (by rw [HR.out]; rfl))
          go_wp2_with (go_at_call 71; go_must ((with_reducible refine (Hid.out HPL).mono ?_); rintro e w9 ⟨rfl, rfl⟩))
          go_roundw
          case rel => exact ⟨trivial, k + 1, by omega, by simp, HF⟩
          case measure => simp [intOf]; omega
        | false =>
          have HE : Hid (whole s.ls = false) := hide (whole_at HLS.out (by rw [HR.out]; rfl))
          go_wp2_with (go_at_call 71; go_must ((with_reducible refine (Hid.out HPL).mono ?_); rintro e w9 ⟨rfl, rfl⟩))
          go_ret
          rw [HE.out]
          exact ⟨rfl, rfl⟩
      · have g1 : ((lh : Int) == 0) = false := by simp; omega
        have HF := hide (HNX.out (by rw [HR.out]; simp [h0]))
        clear h0
        go_wp2
        go_roundw
        case rel => exact ⟨trivial, k + 1, by omega, by simp, HF⟩
        case measure => simp [intOf]; omega
    · obtain rfl : k = m := by omega
      have hki : ¬ (k : Int) < k := by omega
      have HE : Hid (whole s.ls = true) := hide (whole_yes (by rw [← HLN.out]; exact HB.out))
      go_wp2
      go_ret
      rw [HE.out]
      exact ⟨rfl, rfl⟩
theorem nxtI_cases (ls : List Ln) : (∃ k : Nat, nxt ls = some k ∧ nxtI ls = (k : Int)) ∨ (nxt ls = none ∧ nxtI ls = -1) := by
  unfold nxtI
  cases h : nxt ls with
  | none => exact .inr ⟨rfl, rfl⟩
  | some k => exact .inl ⟨k, rfl, rfl⟩
theorem mready_any (h : FL w r fb s xs vS vP vH vO ts wx) (hn : xs.length ≤ 1000) : Calls Try.prog 46 #[.pointer (some ⟨fb, 1, none⟩)] wx fun e w' => e = .returned (.bool (mrgR s.ls)) ∧ w' = wx := by
  have HN := hide (mnext_any h hn)
  have HW := hide (mwhole_any h hn)
  clear h
  rcases nxtI_cases s.ls with ⟨k, h1, h2⟩ | ⟨h1, h2⟩
  · have HE : Hid (mrgR s.ls = true) := hide (by unfold mrgR; rw [h1]; rfl)
    rw [h2] at HN
    have hk : (0 : Int) ≤ (k : Int) := by omega
    clear h1 h2 HW
    go_enter Try.func46, Try.ntmps46
    go_wp2_with (go_at_call 61; go_must ((with_reducible refine (Hid.out HN).mono ?_); rintro e w9 ⟨rfl, rfl⟩))
    go_ret
    rw [HE.out]
    exact ⟨rfl, rfl⟩
  · have HE : Hid (mrgR s.ls = whole s.ls) := hide (by unfold mrgR; rw [h1]; simp)
    rw [h2] at HN
    rw [HE.out]
    generalize whole s.ls = d at HW ⊢
    clear h1 h2 HE
    go_enter Try.func46, Try.ntmps46
    go_wp2_with (first | (go_at_call 61; go_must ((with_reducible refine (Hid.out HN).mono ?_); rintro e w9 ⟨rfl, rfl⟩)) | (go_at_call 62; go_must ((with_reducible refine (Hid.out HW).mono ?_); rintro e w8 ⟨rfl, rfl⟩)))
    go_ret
    exact ⟨rfl, rfl⟩
end
end Go.Proofs.Ytkjdjmcecjaolaa.Mrg

/- Those that are ready. -/
namespace Go.Proofs.Ytkjdjmcecjaolaa.Mrg
open Go.RowKit Go.Proofs.Ytkjdjmcecjaolaa.Dig Go.Proofs.Ytkjdjmcecjaolaa.Mem Go.Proofs.Ytkjdjmcecjaolaa.Dq Go.Proofs.Ytkjdjmcecjaolaa.Thing Go.Proofs.Ytkjdjmcecjaolaa.Own Go.Proofs.Ytkjdjmcecjaolaa.Sets Go.Proofs.Ytkjdjmcecjaolaa.DqI
set_option linter.unusedVariables false
set_option linter.unusedSimpArgs false

local notation "ordF" => Value.func (Fn.func 12) #[] #[]
def fsix (w : World) (fb : Nat) (s : MS) (xs : List Lw) (vS vP vH vO : Value) : List Th :=
  [boxT fb (fcells vS vP vH vO s.ex s.st s.se s.ec), ownN w.heap.size 84 2 vS xs.length (sndL xs), ownN w.heap.size 80 1 vP xs.length (xs.map Lw.ptr), ownN w.heap.size 23 1 vH xs.length (xs.map fun x => x.h.v), hdsT (xs.map Lw.h), ownN w.heap.size 3 1 vO s.out.length (s.out.map (Value.int .i64))]
section
variable {w wx w' : World} {r fb : Nat} {s : MS} {xs : List Lw} {vS vP vH vO : Value} {ts ts' : List Th} {k : Nat} {x : Lw} {t t' : Th}
theorem fts_eq : fts w r fb s xs vS vP vH vO ts = (fsix w fb s xs vS vP vH vO ++ xs.map (Lw.pT r)) ++ ts := by
  unfold fts fsix
  rw [List.append_assoc]
theorem FL.as (h : FL w r fb s xs vS vP vH vO ts wx) (hk : Kn w (fts w r fb s xs vS vP vH vO ts') w') : FL w r fb s xs vS vP vH vO ts' w' := ⟨hk, h.ls, h.row, h.out⟩
theorem FL.more (h : FL w r fb s xs vS vP vH vO ts wx) (hb : Below wx.heap.size wx w') (hp : t.P w') (hf : ∀ k, t.F k → wx.heap.size ≤ k) : FL w r fb s xs vS vP vH vO (t :: ts) w' :=
  h.as (by
    have := h.kn.more hb hp hf
    rw [fts_eq] at this ⊢
    exact this.perm List.perm_middle.symm)
theorem FL.sub (h : FL w r fb s xs vS vP vH vO ts wx) (hs : ts'.Sublist ts) : FL w r fb s xs vS vP vH vO ts' wx :=
  h.as (by
    have := h.kn
    rw [fts_eq] at this ⊢
    exact this.sub (List.Sublist.append_left hs _))
theorem FL.perm (h : FL w r fb s xs vS vP vH vO ts wx) (hs : ts.Perm ts') : FL w r fb s xs vS vP vH vO ts' wx :=
  h.as (by
    have := h.kn
    rw [fts_eq] at this ⊢
    exact this.perm (List.Perm.append_left _ hs))
/-- The neighbour is turned. -/
theorem FL.turn (h : FL w r fb s xs vS vP vH vO (t :: ts) wx) (hp : t'.P w') (ho : Only t.F wx w') (hf : ∀ k, t'.F k → t.F k ∨ wx.heap.size ≤ k) : FL w r fb s xs vS vP vH vO (t' :: ts) w' :=
  h.as (by
    have := h.kn
    rw [fts_eq] at this ⊢
    exact turnAt this hp ho hf)
theorem FL.grow {base m m' z : Nat} {e : TypeId} {v v' : Value} {ys ys' : List Value} (h : FL w r fb s xs vS vP vH vO (ownN base e z v m ys :: ts) wx) (ho : w'.ownsRow base e z v' m' ys') (hg : wx.grownBy w' v.ownBlock) (hat : v'.ownBlock = v.ownBlock ∨ v'.ownBlock = some wx.heap.size) : FL w r fb s xs vS vP vH vO (ownN base e z v' m' ys' :: ts) w' :=
  h.as (by
    have := h.kn
    rw [fts_eq] at this ⊢
    exact growAt this ho hg hat)
theorem FL.nb (h : FL w r fb s xs vS vP vH vO (t :: ts) wx) : t.P wx := h.tail.hd
theorem FL.below (h : FL w r fb s xs vS vP vH vO ts wx) : Below w.heap.size w wx := h.kn.below
theorem FL.lan (h : FL w r fb s xs vS vP vH vO ts wx) (hk : xs[k]? = some x) : s.ls[k]? = some x.ln := by rw [← h.ls, List.getElem?_map, hk]; rfl
def FrR (w : World) (r fb : Nat) (s : MS) (xs : List Lw) (vS vP vH vO : Value) (ts : List Th) (i v : Value) (wr : World) : Prop := ∃ k : Nat, k ≤ xs.length ∧ i = .int .i64 (k : Int) ∧ Hid (FL w r fb s xs vS vP vH vO (ownN w.heap.size 3 1 v (rdyTo r s.ls k).length ((rdyTo r s.ls k).map (Value.int .i64)) :: ts) wr)
set_option maxHeartbeats 2000000 in
set_option maxRecDepth 20000 in
theorem fready_any (h : Hid (FL w r fb s xs vS vP vH vO ts wx)) (hn : xs.length ≤ 1000) : Calls Try.prog 26 #[.pointer (some ⟨fb, 0, none⟩)] wx fun e w' => ∃ a m c, e = .returned (.slice a m c) ∧ Hid (m = (rdyL r s.ls).length) ∧ Hid (FL w r fb s xs vS vP vH vO (ownN w.heap.size 3 1 (.slice a m c) m ((rdyL r s.ls).map (Value.int .i64)) :: ts) w') := by
  obtain ⟨i0, hi, hz0, hz1, hz2⟩ := info_parts Try.infoI
  obtain ⟨⟨aS, cS, eS⟩, _⟩ := h.out.forms
  have c0 := h.out.box.cell 0 rfl
  have HLN : Hid (s.ls.length = xs.length) := hide h.out.len
  have K0 : Hid (FL w r fb s xs vS vP vH vO (ownN w.heap.size 3 1 (.slice none 0 0) 0 [] :: ts) wx) := hide (h.out.more (Below.refl _ _) (t := ownN w.heap.size 3 1 (.slice none 0 0) 0 []) (World.ownsRow_nil _ _ _ _) (fun k hk => by cases hk))
  obtain ⟨n, hnn⟩ : ∃ n, n = xs.length := ⟨_, rfl⟩
  have HN := hide hnn
  rw [eS] at c0
  rw [← hnn] at c0 hn
  have HES := hide eS
  clear h hnn eS
  go_enter Try.func26, Try.ntmps26
  go_wp2
  go_loopw [10, 3] (fun i v wr => FrR w r fb s xs vS vP vH vO ts i v wr) (fun i _ _ => n - (intOf i).toNat)
  case atStart => exact ⟨0, Nat.zero_le _, rfl, K0⟩
  case round =>
    obtain ⟨k, hk, rfl, K⟩ := hrel
    obtain ⟨va, vc, e⟩ := Own.own_form K.out.nb
    subst e
    have c0 := K.out.box.cell 0 rfl
    rw [HES.out] at c0
    rw [← HN.out] at c0 hk
    have HX := hide (rdyTo_succ r s.ls k)
    have hmk : (rdyTo r s.ls k).length ≤ k := rdyTo_length r s.ls k
    obtain ⟨m, hm⟩ : ∃ m, m = (rdyTo r s.ls k).length := ⟨_, rfl⟩
    have HM := hide hm
    rw [← hm] at K hmk ⊢
    clear hm K0
    by_cases hlt : k < n
    · obtain ⟨x, hx⟩ : ∃ x, xs[k]? = some x := ⟨xs[k]'(by rw [← HN.out]; exact hlt), List.getElem?_eq_getElem _⟩
      obtain ⟨g, cc, e1, l1, ⟨f1, f2⟩, _⟩ := K.out.snd hx
      rw [HES.out] at e1
      injection e1 with e1 e2 e3
      rw [← HN.out] at l1
      subst e1 e3
      have HSR := hide (sready_any f1 f2 (K.out.pipe hx))
      have HSA : Hid (sndAt r s.ls k = sndR r x.ln) := hide (by unfold sndAt; rw [K.out.lan hx])
      have hki : (k : Int) < n := by omega
      clear hx f1 f2 e2
      cases hd : sndR r x.ln with
      | false =>
        rw [hd] at HSR HSA
        clear hd
        go_wp2_with (go_at_call 45; go_must ((with_reducible refine (Hid.out HSR).mono ?_); rintro e w9 ⟨rfl, q, hq⟩; have K9 : Hid (FL w r fb s xs vS vP vH vO (ownN w.heap.size 3 1 (.slice va m vc) m ((rdyTo r s.ls k).map (Value.int .i64)) :: ts) w9) := hide (by rw [hq]; exact K.out.keep (below_of_drewN q)); clear hq HSR))
        go_roundw
        case rel => exact ⟨k + 1, by rw [← HN.out]; omega, by simp, by rw [HX.out, HSA.out]; simp only [Bool.false_eq_true, ↓reduceIte, List.append_nil]; rw [← HM.out]; exact K9⟩
        case measure => simp [intOf]; omega
      | true =>
        rw [hd] at HSR HSA
        clear hd
        go_wp2_with (first
          | (go_at_call 45; go_must ((with_reducible refine (Hid.out HSR).mono ?_); rintro e w9 ⟨rfl, q, hq⟩; have K9 : Hid (FL w r fb s xs vS vP vH vO (ownN w.heap.size 3 1 (.slice va m vc) m ((rdyTo r s.ls k).map (Value.int .i64)) :: ts) w9) := hide (by rw [hq]; exact K.out.keep (below_of_drewN q)); clear hq HSR))
          | (at_builtin; go_must ((refine wpList_append_own_at _ rfl _ _ 23 rfl w.heap.size 3 i0 (.int .i64 0) 1 8 Try.underlying23 hi hz0 hz1 hz2 rfl (by decide) (.slice va m vc) m ((rdyTo r s.ls k).map (Value.int .i64)) rfl (World.ownsRow.alloc K9.out.nb _) ⟨w9.heap.size, 0, none⟩ 1 1 [.int .i64 (k : Int)] rfl rfl (cell_one_new _ _ _) (by simp [Value.oneCell']) (by unfold maxLen; omega) (by omega) (by have := K9.out.below.size; simp at this ⊢; omega) ?_); intro v4 w4 hown4 hg4 _ hat4; obtain ⟨a4, c4, rfl⟩ := Own.own_form (z := 1) hown4; have K4 := hide ((K9.out.keep ((Below.refl _ _).alloc (Nat.le_refl _) _)).grow hown4 hg4 hat4); clear hown4 hg4 hat4)))
        go_roundw
        case rel =>
          refine ⟨k + 1, by rw [← HN.out]; omega, by simp, ?_⟩
          rw [HX.out, HSA.out]
          have e : (rdyTo r s.ls k ++ [(k : Int)]).length = m + 1 := by rw [List.length_append, ← HM.out]; rfl
          simp only [↓reduceIte]
          rw [e, List.map_append]
          exact K4
        case measure => simp [intOf]; omega
    · obtain rfl : k = n := by omega
      have hki : ¬ (k : Int) < k := by omega
      have HMR := hide (mready_any K.out (by rw [← HN.out]; exact hn))
      have HRL : Hid (rdyL r s.ls = rdyTo r s.ls k ++ (if mrgR s.ls = true then [(k : Int)] else [])) := hide (by unfold rdyL; rw [HLN.out, ← HN.out])
      cases hd : mrgR s.ls with
      | false =>
        rw [hd] at HMR HRL
        clear hd
        go_wp2_with (go_at_call 46; go_must ((with_reducible refine (Hid.out HMR).mono ?_); rintro e w9 ⟨rfl, rfl⟩))
        go_ret
        have e : rdyL r s.ls = rdyTo r s.ls k := by rw [HRL.out]; simp
        rw [e]
        exact ⟨va, m, vc, rfl, HM, K⟩
      | true =>
        rw [hd] at HMR HRL
        clear hd
        go_wp2_with (first
          | (go_at_call 46; go_must ((with_reducible refine (Hid.out HMR).mono ?_); rintro e w9 ⟨rfl, rfl⟩; clear HMR))
          | (at_builtin; go_must ((refine wpList_append_own_at _ rfl _ _ 23 rfl w.heap.size 3 i0 (.int .i64 0) 1 8 Try.underlying23 hi hz0 hz1 hz2 rfl (by decide) (.slice va m vc) m ((rdyTo r s.ls k).map (Value.int .i64)) rfl (World.ownsRow.alloc K.out.nb _) ⟨_, 0, none⟩ 1 1 [.int .i64 (k : Int)] rfl rfl (cell_one_new _ _ _) (by simp [Value.oneCell']) (by unfold maxLen; omega) (by omega) (by have := K.out.below.size; simp at this ⊢; omega) ?_); intro v4 w4 hown4 hg4 _ hat4; obtain ⟨a4, c4, rfl⟩ := Own.own_form (z := 1) hown4; have K4 := hide ((K.out.keep ((Below.refl _ _).alloc (Nat.le_refl _) _)).grow hown4 hg4 hat4); clear hown4 hg4 hat4)))
        go_ret
        have e : rdyL r s.ls = rdyTo r s.ls k ++ [(k : Int)] := by rw [HRL.out]; simp
        rw [e]
        refine ⟨a4, m + 1, c4, rfl, hide (by rw [List.length_append, ← HM.out]; rfl), ?_⟩
        rw [List.map_append]
        exact K4
end
end Go.Proofs.Ytkjdjmcecjaolaa.Mrg

/- A step of one of them. -/
namespace Go.Proofs.Ytkjdjmcecjaolaa.Mrg
open Go.RowKit Go.Proofs.Ytkjdjmcecjaolaa.Dig Go.Proofs.Ytkjdjmcecjaolaa.Mem Go.Proofs.Ytkjdjmcecjaolaa.Dq Go.Proofs.Ytkjdjmcecjaolaa.Thing Go.Proofs.Ytkjdjmcecjaolaa.Own Go.Proofs.Ytkjdjmcecjaolaa.Sets Go.Proofs.Ytkjdjmcecjaolaa.DqI
set_option linter.unusedVariables false
set_option linter.unusedSimpArgs false

local notation "ordF" => Value.func (Fn.func 12) #[] #[]
theorem map_at {α β : Type} {xs : List α} {k : Nat} {x x' : α} (hk : xs[k]? = some x) (f : α → β) (hf : f x' = f x) : (xs.set k x').map f = xs.map f := by
  rw [List.map_set, hf]
  exact set_same (by rw [List.getElem?_map, hk]; rfl)
theorem sndL_cons (x : Lw) (xs : List Lw) : sndL (x :: xs) = x.row.v :: x.ptr :: sndL xs := rfl
theorem sndL_set : ∀ {xs : List Lw} {k : Nat} {x x' : Lw}, xs[k]? = some x → x'.pb = x.pb → sndL (xs.set k x') = (sndL xs).set (k * 2) x'.row.v
  | [], k, x, x', h, _ => by simp at h
  | y :: xs, 0, x, x', h, e => by
    simp at h
    subst h
    rw [List.set_cons_zero, sndL_cons, sndL_cons]
    have e2 : x'.ptr = y.ptr := by unfold Lw.ptr; rw [e]
    rw [e2]
    rfl
  | y :: xs, k + 1, x, x', h, e => by
    have := sndL_set (xs := xs) (k := k) (x := x) (x' := x') (by simpa using h) e
    rw [List.set_cons_succ, sndL_cons, sndL_cons, this, show (k + 1) * 2 = k * 2 + 1 + 1 by omega]
    rfl
section
variable {w wx w' : World} {r fb : Nat} {s : MS} {xs : List Lw} {vS vP vH vO : Value} {ts ts' : List Th} {k : Nat} {x : Lw} {t t' : Th}
theorem maps (hk : xs[k]? = some x) (x' : Lw) : (x'.pb = x.pb → (xs.set k x').map Lw.ptr = xs.map Lw.ptr) ∧ (x'.h = x.h → ((xs.set k x').map fun x => x.h.v) = (xs.map fun x => x.h.v)) ∧ (x'.h = x.h → (xs.set k x').map Lw.h = xs.map Lw.h) ∧ (x'.row = x.row → x'.pb = x.pb → sndL (xs.set k x') = sndL xs) ∧ (Lw.pT r x' = Lw.pT r x → (xs.set k x').map (Lw.pT r) = xs.map (Lw.pT r)) :=
  ⟨fun e => map_at hk Lw.ptr (by unfold Lw.ptr; rw [e]), fun e => map_at hk (fun x => x.h.v) (by rw [e]), fun e => map_at hk Lw.h e, fun e1 e2 => by
    unfold sndL
    rw [map_at (x' := x') hk _ (by unfold Lw.ptr; rw [e1, e2])], fun e => map_at hk (Lw.pT r) e⟩
/-- A pipe is turned. -/
theorem kn_pipe (h : Kn w (fts w r fb s xs vS vP vH vO ts) wx) (hk : xs[k]? = some x) {n' : Nat} {c' : Bool} {q' : List Int} (hn : Now wx x.pb r n' c' q' x.s.has w') :
    ∃ s', Kn w (fts w r fb s (xs.set k { x with n := n', c := c', q := q', s := s' }) vS vP vH vO ts) w' := by
  obtain ⟨s', h1, h2, h3⟩ := hn
  refine ⟨s', ?_⟩
  obtain ⟨m1, m2, m3, m4, _⟩ := maps (r := r) hk { x with n := n', c := c', q := q', s := s' }
  unfold fts
  rw [m1 rfl, m2 rfl, m3 rfl, m4 rfl rfl, List.length_set, List.map_set]
  exact turnL (pre := fsix w fb s xs vS vP vH vO) (t := x.pT r) h (by rw [List.getElem?_map, hk]; rfl) h1 h3 h2
/-- The counts. -/
theorem kn_st (h : Kn w (fts w r fb s xs vS vP vH vO ts) wx) : Kn w (fts w r fb (stp s) xs vS vP vH vO ts) (wx.setCell ⟨fb, 6, none⟩ (.int .i64 ((s.st : Int) + 1))) :=
  putBox (pre := []) h 6 _ rfl h.hd
theorem kn_se (h : Kn w (fts w r fb s xs vS vP vH vO ts) wx) : Kn w (fts w r fb { s with se := s.se + 1 } xs vS vP vH vO ts) (wx.setCell ⟨fb, 7, none⟩ (.int .i64 ((s.se : Int) + 1))) :=
  putBox (pre := []) h 7 _ rfl h.hd
theorem kn_ec (h : Kn w (fts w r fb s xs vS vP vH vO ts) wx) : Kn w (fts w r fb { s with ec := s.ec + 1 } xs vS vP vH vO ts) (wx.setCell ⟨fb, 8, none⟩ (.int .i64 ((s.ec : Int) + 1))) :=
  putBox (pre := []) h 8 _ rfl h.hd
theorem kn_ex (h : Kn w (fts w r fb s xs vS vP vH vO ts) wx) : Kn w (fts w r fb { s with ex := true } xs vS vP vH vO ts) (wx.setCell ⟨fb, 5, none⟩ (.bool true)) :=
  putBox (pre := []) h 5 _ rfl h.hd
/-- What is left of a sender's row. -/
theorem kn_row {g c n : Nat} (h : Kn w (fts w r fb s xs (.slice (some ⟨g, 0, none⟩) n c) vP vH vO ts) wx) (hk : xs[k]? = some x) (hn : n = xs.length) (h' : Hd) :
    Kn w (fts w r fb s (xs.set k { x with row := h' }) (.slice (some ⟨g, 0, none⟩) n c) vP vH vO ts) (wx.setCell ⟨g, k * 2, none⟩ h'.v) := by
  subst hn
  obtain ⟨m1, m2, m3, m4, m5⟩ := maps (r := r) hk { x with row := h' }
  unfold fts
  rw [m1 rfl, m2 rfl, m3 rfl, m5 rfl, List.length_set, sndL_set (x' := { x with row := h' }) hk rfl]
  exact ownPut (pre := [_]) h (k * 2) h'.v (Knget (pre := [_]) h)
/-- A head is laid. -/
theorem kn_head {g c n hb : Nat} {y : Int} (h : Kn w (fts w r fb s xs vS vP (.slice (some ⟨g, 0, none⟩) n c) vO ts) wx) (hk : xs[k]? = some x) (hn : n = xs.length) (h0 : x.h.l = []) (hw : (Lit.int .i64 y).wf = true) (hb0 : hb = wx.heap.size) :
    Kn w (fts w r fb s (xs.set k { x with h := ⟨some ⟨hb, 0, none⟩, 1, [y]⟩ }) vS vP (.slice (some ⟨g, 0, none⟩) n c) vO ts) ((wx.alloc (.cells #[.int .i64 y] 3)).setCell ⟨g, k, none⟩ (.slice (some ⟨hb, 0, none⟩) 1 1)) := by
  subst hn hb0
  obtain ⟨m1, m2, m3, m4, m5⟩ := maps (r := r) hk { x with h := ⟨some ⟨wx.heap.size, 0, none⟩, 1, [y]⟩ }
  have hrow : RowI (wx.alloc (.cells #[.int .i64 y] 3)) (some ⟨wx.heap.size, 0, none⟩) 1 [y] :=
    rowi_made wx [y] 3 (p := wx.heap.size) (n := 1) rfl rfl (by simp) (fun z hz => by rw [List.mem_singleton] at hz; subst hz; exact hw)
  have h3 := Knget (pre := [_, _, _, _]) (h.keep (w' := wx.alloc (.cells #[.int .i64 y] 3)) ((Below.refl _ _).alloc (Nat.le_refl _) _))
  have h2 := turnAt (pre := [_, _, _, _]) (t := hdsT (xs.map Lw.h)) (t' := hdsT ((xs.map Lw.h).set k ⟨some ⟨wx.heap.size, 0, none⟩, 1, [y]⟩)) (w' := wx.alloc (.cells #[.int .i64 y] 3)) h (fun h' hh => by
    rcases List.mem_or_eq_of_mem_set hh with q | q
    · exact h3 h' q
    · subst q; exact hrow) ((Only.refl _ _).alloc _) (fun j hj => by
    obtain ⟨h', hh, hl, z, e1, e2⟩ := hj
    rcases List.mem_or_eq_of_mem_set hh with q | q
    · exact .inl ⟨h', q, hl, z, e1, e2⟩
    · subst q
      cases e1
      exact .inr (Nat.le_of_eq e2))
  unfold fts
  rw [m1 rfl, m4 rfl rfl, m5 rfl, List.length_set, List.map_set, List.map_set]
  exact ownPut (pre := [_, _, _]) h2 k (.slice (some ⟨wx.heap.size, 0, none⟩) 1 1) (Knget (pre := [_, _, _]) h2)
theorem ls_set (h : FL w r fb s xs vS vP vH vO ts wx) {x' : Lw} (k : Nat) : (xs.set k x').map Lw.ln = s.ls.set k x'.ln := by rw [List.map_set, h.ls]
theorem row_set {P : Lw → Prop} (h : ∀ x ∈ xs, P x) {x' : Lw} (h' : P x') (k : Nat) : ∀ x ∈ xs.set k x', P x := fun y hy => by
  rcases List.mem_or_eq_of_mem_set hy with q | q
  · exact h y q
  · subst q; exact h'
set_option maxHeartbeats 1000000 in
/-- A sender that has nothing left exits. -/
theorem sstep_exit {g c n : Nat} (h : Hid (FL w r fb s xs (.slice (some ⟨g, 0, none⟩) n c) vP vH vO ts wx)) (hr : r ≠ 0) (hk : xs[k]? = some x) (h0 : x.row.l = []) (hc : x.c = false) (hb : s.ec ≤ 100000) :
    Calls Try.prog 48 #[.pointer (some ⟨g, k * 2, none⟩), .pointer (some ⟨fb, 6, none⟩)] wx fun e w' => e = .returned (.tuple #[]) ∧ ∃ xs', Hid (FL w r fb (sndK s k) xs' (.slice (some ⟨g, 0, none⟩) n c) vP vH vO ts w') ∧ xs'.length = xs.length := by
  obtain ⟨g', c', e1, _, ⟨f1, f2⟩, _⟩ := h.out.snd hk
  cases e1
  have HP : Hid ((pipeT x.pb r x.n false x.q x.s).P wx) := hide (by rw [← hc]; exact h.out.pipe hk)
  have HCL := hide (close_ok HP.out hr)
  have HK := hide hk
  have HLAN := hide (h.out.lan hk)
  have HR0 : Hid (x.ln.row = []) := hide h0
  have H := h
  have HROW := hide (h.out.row x (List.mem_of_getElem? hk))
  obtain ⟨⟨ra, rc, rl⟩, pb, n1, q, c1, ss, hh⟩ := x
  dsimp only [Hd.v, Lw.ptr] at f1 f2 HCL
  obtain rfl : rl = [] := h0
  dsimp only [List.length_nil] at f1
  clear h hk hc HP
  go_enter Try.func48, Try.ntmps48
  go_wp2_with (go_at_call 64; go_must ((with_reducible refine (Hid.out HCL).mono ?_); rintro e w2 ⟨rfl, hn⟩; obtain ⟨s', hK⟩ := kn_pipe H.out.kn HK.out hn; have K2 := hide hK; have b8 := (Is.cell (Knget (pre := []) K2.out) 8 rfl); have fr8 := (Is.frozen (Knget (pre := []) K2.out) 8); clear hn hK HCL f1 f2))
  refine bodyPost_ret (results_none rfl _ _ _) rfl ?_
  have hec : Hid (Kn w _ _) := hide (kn_ec K2.out)
  refine ⟨rfl, xs.set k ⟨⟨ra, rc, []⟩, pb, n1, q, true, s', hh⟩, ?_, List.length_set⟩
  have e : sndK s k = { s with ls := s.ls.set k ⟨[], q, hh.l, true⟩, ec := s.ec + 1 } := by
    unfold sndK
    rw [HLAN.out]
    rfl
  rw [e]
  exact ⟨hec.out, by rw [ls_set H.out]; rfl, row_set H.out.row HROW.out k, H.out.out⟩
/-- A sender's cells, while others of it were turned. -/
theorem snd_cells {g c n : Nat} {x' : Lw} (h : Kn w (fts w r fb s (xs.set k x') (.slice (some ⟨g, 0, none⟩) n c) vP vH vO ts) wx) (hk : xs[k]? = some x) {l : List Int} (hl : x'.row.l = l) :
    wx.cell? ⟨g, k * 2, none⟩ = some (.slice x'.row.a l.length x'.row.c) ∧ wx.cell? ⟨g, k * 2 + 1, none⟩ = some x'.ptr ∧ ∀ i, wx.frozen? ⟨g, i, none⟩ = false := by
  subst hl
  have hkl := (List.getElem?_eq_some_iff.1 hk).1
  have hx2k : (xs.set k x')[k]? = some x' := by rw [List.getElem?_set_self hkl]
  obtain ⟨h0, h1⟩ := sndL_at hx2k
  have hP := Knget (pre := [_]) h
  have hn : n = (xs.set k x').length := by
    rcases hP.2 with ⟨hv, _⟩ | ⟨_, _, _, hv, _⟩
    · cases hv
    · cases hv; rfl
  subst hn
  obtain ⟨g1, c1, e1, f1, _⟩ := own_at hP h0
  obtain ⟨g2, c2, e2, f2, _⟩ := own_at hP h1
  cases e1
  cases e2
  exact ⟨f1, f2, fun i => World.ownsRow.frozenAt hP i⟩
set_option maxHeartbeats 2000000 in
set_option maxRecDepth 20000 in
/-- A sender sends. -/
theorem sstep_send {g c n : Nat} {y : Int} {l : List Int} (h : Hid (FL w r fb s xs (.slice (some ⟨g, 0, none⟩) n c) vP vH vO ts wx)) (hr : r ≠ 0) (hr2 : r ≤ 64) (hk : xs[k]? = some x) (h0 : x.row.l = y :: l) (hc : x.c = false) (hq : x.q.length < r) (hb : s.se ≤ 100000) :
    Calls Try.prog 48 #[.pointer (some ⟨g, k * 2, none⟩), .pointer (some ⟨fb, 6, none⟩)] wx fun e w' => e = .returned (.tuple #[]) ∧ ∃ xs', Hid (FL w r fb (sndK s k) xs' (.slice (some ⟨g, 0, none⟩) n c) vP vH vO ts w') ∧ xs'.length = xs.length := by
  obtain ⟨g', c', e1, l1, ⟨f1, f2⟩, ff⟩ := h.out.snd hk
  cases e1
  obtain ⟨r1, r2, r3⟩ := h.out.row x (List.mem_of_getElem? hk)
  obtain ⟨h', g1, g2, g3⟩ := hd_cut r1 (by rw [h0]; simp)
  have hrx : x.row.R wx := RowI.keep r1 h.out.below
  have hy : (Lit.int .i64 y).wf = true := RowI.wf r1 y (by rw [h0]; simp)
  obtain ⟨b3, o3, e3, c3⟩ := hrx.at (i := 0) (by rw [h0]; simp)
  have c3' : wx.cell? ⟨b3, o3, none⟩ = some (.int .i64 y) := by
    rw [h0] at c3
    exact c3
  have HC3 : Hid (∀ W, Below w.heap.size w W → W.cell? ⟨b3, o3, none⟩ = some (.int .i64 y)) := hide (fun W hW => by
    obtain ⟨b4, o4, e4, c4⟩ := (RowI.keep r1 hW).at (i := 0) (by rw [h0]; simp)
    rw [e3] at e4
    cases e4
    rw [h0] at c4
    exact c4)
  have HP : Hid ((pipeT x.pb r x.n false x.q x.s).P wx.drew) := hide (by
    have := h.out.pipe hk
    rw [hc] at this
    exact pipe_drewN this 1)
  have HSD := hide (send_ok HP.out hr hr2 hq (by omega) y)
  have HK := hide hk
  have HLAN := hide (h.out.lan hk)
  have HG1 := hide g1
  have HG3 := hide g3
  have HROW := hide r1
  have HWQ : Hid (WfL (x.q ++ [y])) := hide (fun z hz => by
    rcases List.mem_append.1 hz with q | q
    · exact r2 z q
    · rw [List.mem_singleton] at q; subst q; exact hy)
  have HN1 : Hid (x.n + 1 + h'.l.length ≤ 1000) := hide (by rw [g1]; rw [h0] at r3 ⊢; simp at r3 ⊢; omega)
  have HXC := hide hc
  have HX0 := hide h0
  have KD := hide (h.out.keep (w' := wx.drew) ((Below.refl _ _).drew))
  have HFL := h
  have HSIX : Hid (∀ W V, Kn w V W → True) := hide (fun _ _ _ => trivial)
  obtain ⟨⟨ra, rc, rl⟩, pb, n1, q, c1, ss, hh⟩ := x
  dsimp only [Hd.v, Lw.ptr] at f1 f2 HSD
  obtain rfl : rl = y :: l := h0
  subst e3
  obtain ⟨ln, hln⟩ : ∃ ln, ln = (y :: l).length := ⟨_, rfl⟩
  have HLNN := hide hln
  have hl0 : (0 : Int) < ln := by have : ln = l.length + 1 := hln; omega
  have hlz : ((ln : Int) == 0) = false := by simp; omega
  have hl6 : 0 < ln := by omega
  have hl7 : (0 : Int) ≤ ln := by omega
  have hl5 : ln ≤ 1000 := by rw [hln]; dsimp only at r3; omega
  dsimp only [Hd.v] at g2
  rw [← hln] at f1 g2
  obtain ⟨ha, hc', hl⟩ := h'
  obtain ⟨l2, hl2⟩ : ∃ l2, l2 = hl.length := ⟨_, rfl⟩
  have HL2 := hide hl2
  rw [← hl2] at g2
  clear h hk hc hq HP r1 r2 r3 g1 g3 hrx hy c3 hln hl2 HSIX
  go_enter Try.func48, Try.ntmps48
  go_wp2
  go_region_held3 (fun w' => w'.cell? ⟨g, k * 2, none⟩ = some (.slice (some ⟨b3, o3, none⟩) ln rc) ∧ w'.cell? ⟨g, k * 2 + 1, none⟩ = some (.pointer (some ⟨pb, 0, none⟩)) ∧ w'.cell? ⟨b3, o3, none⟩ = some (.int .i64 y)) (first | (with_reducible exact ⟨by assumption, by assumption, by assumption⟩) | go_keep)
    (first | (go_at_call 65; (with_reducible refine (Hid.out HSD).mono ?_); rintro e w2 ⟨rfl, hn⟩; obtain ⟨s', hK⟩ := kn_pipe KD.out.kn HK.out hn; have K2 := hide hK; have hbl : Below w.heap.size w w2 := K2.out.below; have b7 := (Is.cell (Knget (pre := []) K2.out) 7 rfl); have fr7 := (Is.frozen (Knget (pre := []) K2.out) 7); obtain ⟨hS0, hS1, hSf⟩ := snd_cells K2.out HK.out (x' := ⟨⟨some ⟨b3, o3, none⟩, rc, y :: l⟩, pb, n1 + 1, q ++ [y], false, s', hh⟩) rfl; rw [← HLNN.out] at hS0; have hSy := HC3.out w2 K2.out.below; clear hn hK HSD))
  go_simp
  go_simp
  have hSf0 := hSf (k * 2)
  clear hSf hS1 hSy b7 fr7 f1 f2 c3' ff KD
  have hkl := (List.getElem?_eq_some_iff.1 HK.out).1
  have KR : Hid (Kn w _ _) := hide (kn_row K2.out (k := k) (x := ⟨⟨some ⟨b3, o3, none⟩, rc, y :: l⟩, pb, n1 + 1, q ++ [y], false, s', hh⟩) (by rw [List.getElem?_set_self hkl]) (by rw [List.length_set]) ⟨ha, hc', hl⟩)
  rw [List.set_set] at KR
  dsimp only [Hd.v] at KR
  rw [← HL2.out] at KR
  go_upto_region 5 with fail
  generalize (w2.setCell ⟨g, k * 2, none⟩ (.slice ha l2 hc')) = W5 at KR ⊢
  have b7 := Is.cell (Knget (pre := []) KR.out) 7 rfl
  have fr7 := Is.frozen (Knget (pre := []) KR.out) 7
  go_wp2
  go_end0
  have hse : Hid (Kn w _ _) := hide (kn_se KR.out)
  refine ⟨rfl, xs.set k ⟨⟨ha, hc', hl⟩, pb, n1 + 1, q ++ [y], false, s', hh⟩, ?_, List.length_set⟩
  have e : sndK s k = { s with ls := s.ls.set k ⟨l, q ++ [y], hh.l, c1⟩, se := s.se + 1 } := by
    unfold sndK
    rw [HLAN.out]
    rfl
  rw [e]
  refine ⟨hse.out, ?_, row_set HFL.out.row ⟨HG3.out _ HROW.out, HWQ.out, HN1.out⟩ k, HFL.out.out⟩
  rw [ls_set HFL.out, HXC.out]
  have e2 : hl = l := by rw [HG1.out]; rfl
  subst e2
  rfl
end
end Go.Proofs.Ytkjdjmcecjaolaa.Mrg
