/- The document's Same. -/
import Derived.Test.YtkdggnfjefgonaaHistEq
import Derived.Deep.DeepCutAuto
import Derived.Deep.LoopGhost
import Derived.Deep.RegionHeld3
import Derived.Deep.DrawnRows
namespace Go.Proofs.Ytkdggnfjefgonaa.Hist
open Go.RowKit Go.Proofs.Ytkdggnfjefgonaa.Dig Go.Proofs.Ytkdggnfjefgonaa.Mem
set_option linter.unusedVariables false
set_option linter.unusedSimpArgs false

/-- Two transactions lie in variables. -/
def TwoVars (w : World) (t u : TxnM) (tv uv x y : Value) (wx : World) : Prop :=
  ∃ xb yb, x = .pointer (some ⟨xb, 0, none⟩) ∧ y = .pointer (some ⟨yb, 0, none⟩) ∧ Is wx xb #[.int .i64 t.id, .bool t.ab, tv] ∧ Is wx yb #[.int .i64 u.id, .bool u.ab, uv] ∧ Below w.heap.size w wx
theorem TwoVars.world {w : World} {t u : TxnM} {tv uv x y : Value} {wx : World} (h : TwoVars w t u tv uv x y wx) : ∃ W, W = wx := ⟨_, rfl⟩
theorem Is.three {w : World} {b : Nat} {v0 v1 v2 : Value} (h : Is w b #[v0, v1, v2]) :
    w.cell? ⟨b, 0, none⟩ = some v0 ∧ w.cell? ⟨b, 1, none⟩ = some v1 ∧ w.cell? ⟨b, 2, none⟩ = some v2 := ⟨h.cell 0 rfl, h.cell 1 rfl, h.cell 2 rfl⟩
theorem two_fst {W wr : World} (hb : Below W.heap.size W wr) (cs ds : Array Value) (T U : TypeId) :
    Is ((wr.alloc (.cells cs T)).alloc (.cells ds U)) wr.heap.size cs ∧ Is ((wr.alloc (.cells cs T)).alloc (.cells ds U)) (wr.heap.size + 1) ds ∧ Below W.heap.size W ((wr.alloc (.cells cs T)).alloc (.cells ds U)) := by
  have hs := hb.size
  exact ⟨(Is.made _ _ _ rfl).alloc _, Is.made _ _ _ (by simp), (hb.alloc hs _).alloc (by simp; omega) _⟩
set_option maxHeartbeats 2000000 in
theorem rsame_any (F F' : Nat → Prop) (v v' : Value) (ts us : List TxnM) (w : World) (h : TxnsAt F w v ts) (h' : TxnsAt F' w v' us) (ho : TxnsFew ts) (hp : TxnsFew us) :
    Calls Try.prog 10 #[.agg #[v], .agg #[v']] w fun e w' => e = .returned (.bool (decide (ts = us))) ∧ Below w.heap.size w w' := by
  obtain ⟨a, c, rfl, _, _⟩ := h.shape
  obtain ⟨b, d, rfl, _, _⟩ := h'.shape
  have H : Hid (TxnsAt F w (.slice a ts.length c) ts ∧ TxnsAt F' w (.slice b us.length d) us) := ⟨h, h'⟩
  have L : Hid (TxnsFew ts ∧ TxnsFew us) := ⟨ho, hp⟩
  have ho1 := ho.1
  have hp1 := hp.1
  clear h h' ho hp
  by_cases hnm : ts.length = us.length
  · have g0 : ((ts.length : Int) != us.length) = false := by simp [hnm]
    have HN : Hid (ts.length = us.length) := hnm
    clear hnm
    go_enter Try.func10, Try.ntmps10
    go_wp2
    go_loopw [5] (fun i wr => EqRel ((w.alloc (.cells #[.slice a ts.length c] 26)).alloc (.cells #[.slice b us.length d] 26)) ts us i wr) (fun i _ => ts.length - (intOf i).toNat)
    case atStart => exact ⟨0, by omega, rfl, hide rfl, Below.refl _ _⟩
    case round =>
      obtain ⟨k, hk, rfl, hj, hbel⟩ := hrel
      have hB : Below w.heap.size w wr := (((Below.refl _ _).alloc (Nat.le_refl _) _).alloc (by simp) _).trans (hbel.mono (by simp; omega))
      have X0 : wr.cell? ⟨w.heap.size, 0, none⟩ = some (.slice a ts.length c) := Is.cell (((Is.made w #[.slice a ts.length c] 26 rfl).alloc _).below hbel) 0 rfl
      have Y0 : wr.cell? ⟨w.heap.size + 1, 0, none⟩ = some (.slice b us.length d) := Is.cell ((Is.made (w.alloc _) #[.slice b us.length d] 26 (by simp)).below hbel) 0 rfl
      have hz : w.heap.size + 1 < wr.heap.size := by have := hbel.size; simp at this; omega
      by_cases hlt : k < ts.length
      · have hlt2 : k < us.length := by rw [← HN.out]; exact hlt
        have i1 : (k : Int) < (ts.length : Int) := by omega
        have i2 : (k : Int) < (us.length : Int) := by omega
        obtain ⟨b1, o1, l1, q1, rfl, _, hb1, c0, c1, c2, hi1, _⟩ := (H.out.1.keep hB).at hlt
        obtain ⟨b2, o2, l2, q2, rfl, _, hb2, d0, d1, d2, hi2, _⟩ := (H.out.2.keep hB).at hlt2
        have HI : Hid (OpsAt F wr _ ts[k].ops ∧ OpsAt F' wr _ us[k].ops) := ⟨hi1, hi2⟩
        have HL : Hid (OpsFew ts[k].ops ∧ OpsFew us[k].ops) := ⟨L.out.1.at hlt, L.out.2.at hlt2⟩
        clear hi1 hi2
        have n1 := World.new_ne wr _ X0
        have n2 := World.new_ne wr _ Y0
        have n3 := World.new_ne wr _ c0
        have n4 := World.new_ne wr _ d0
        go_upto_region 6 with fail
        go_cut [6, 7] (fun x y wx => TwoVars wr ts[k] us[k] (.slice l1 ts[k].ops.length q1) (.slice l2 us[k].ops.length q2) x y wx)
        case first =>
          go_region_held3 (fun w' => w'.cell? ⟨w.heap.size, 0, none⟩ = some (.slice (some ⟨b1, o1, none⟩) ts.length c) ∧ w'.cell? ⟨w.heap.size + 1, 0, none⟩ = some (.slice (some ⟨b2, o2, none⟩) us.length d) ∧
              w'.cell? ⟨b1, o1 + k * 3, none⟩ = some (.int .i64 ts[k].id) ∧ w'.cell? ⟨b1, o1 + k * 3 + 1, none⟩ = some (.bool ts[k].ab) ∧ w'.cell? ⟨b1, o1 + k * 3 + 2, none⟩ = some (.slice l1 ts[k].ops.length q1) ∧
              w'.cell? ⟨b2, o2 + k * 3, none⟩ = some (.int .i64 us[k].id) ∧ w'.cell? ⟨b2, o2 + k * 3 + 1, none⟩ = some (.bool us[k].ab) ∧ w'.cell? ⟨b2, o2 + k * 3 + 2, none⟩ = some (.slice l2 us[k].ops.length q2)) (go_keep) (fail)
          all_goals
            go_wp2_with fail
            go_meet
            case rel =>
              first
              | (obtain ⟨p1, p2, p3⟩ := two_fst (Below.refl wr.heap.size wr) #[.int .i64 ts[k].id, .bool ts[k].ab, .slice l1 ts[k].ops.length q1] #[.int .i64 us[k].id, .bool us[k].ab, .slice l2 us[k].ops.length q2] 44 44; exact ⟨_, _, rfl, rfl, p1, p2, p3.drew⟩)
              | (obtain ⟨p1, p2, p3⟩ := two_fst (Below.refl wr.heap.size wr) #[.int .i64 us[k].id, .bool us[k].ab, .slice l2 us[k].ops.length q2] #[.int .i64 ts[k].id, .bool ts[k].ab, .slice l1 ts[k].ops.length q1] 44 44; exact ⟨_, _, rfl, rfl, p2, p1, p3.drew⟩)
        case rest =>
          obtain ⟨wx, ewx⟩ := TwoVars.world hcut
          subst ewx
          obtain ⟨xb, yb, rfl, rfl, hx, hy, hbx⟩ := hcut
          obtain ⟨x0, x1, x2⟩ := Is.three hx
          obtain ⟨y0, y1, y2⟩ := Is.three hy
          have HX : Hid (Is wx xb _ ∧ Is wx yb _) := ⟨hx, hy⟩
          have HB : Hid (Below w.heap.size w wx) := hB.trans (hbx.mono hB.size)
          have HBL : Hid (Below ((w.alloc (.cells #[.slice (some ⟨b1, o1, none⟩) ts.length c] 26)).alloc (.cells #[.slice (some ⟨b2, o2, none⟩) us.length d] 26)).heap.size ((w.alloc (.cells #[.slice (some ⟨b1, o1, none⟩) ts.length c] 26)).alloc (.cells #[.slice (some ⟨b2, o2, none⟩) us.length d] 26)) wx) := hbel.trans (hbx.mono hbel.size)
          have HJ : Hid (OpsAt F wx _ ts[k].ops ∧ OpsAt F' wx _ us[k].ops) := ⟨HI.out.1.keep hbx, HI.out.2.keep hbx⟩
          clear hx hy hbx hB hbel c0 c1 c2 d0 d1 d2 X0 Y0 n1 n2 n3 n4 H HI
          by_cases h1 : (ts[k].id != us[k].id) = true
          · have HE : Hid (decide (ts = us) = false) := by show _ = _; simpa using ne_at hlt hlt2 (fun q => by rw [q] at h1; simp at h1)
            go_wp2
            go_ret
            exact ⟨by rw [HE.out]; rfl, HB.out⟩
          have h1' : (ts[k].id != us[k].id) = false := by simpa using h1
          clear h1
          by_cases h2 : ¬ ts[k].ab = us[k].ab
          · have HE : Hid (decide (ts = us) = false) := by show _ = _; simpa using ne_at hlt hlt2 (fun q => h2 (by rw [q]))
            have h2' : (ts[k].ab == us[k].ab) = false := by simpa using h2
            go_wp2
            go_ret
            exact ⟨by rw [HE.out]; rfl, HB.out⟩
          have h2' : (ts[k].ab == us[k].ab) = true := by simpa using h2
          have H2 : Hid (ts[k].ab = us[k].ab) := by show _ = _; simpa using h2
          have H1 : Hid (ts[k].id = us[k].id) := by show _ = _; simpa using h1'
          clear h2
          by_cases h3 : ts[k].ops.length = us[k].ops.length
          rotate_left
          · have HE : Hid (decide (ts = us) = false) := by show _ = _; simpa using ne_at hlt hlt2 (fun q => by rw [q] at h3; exact h3 rfl)
            have h3' : ((ts[k].ops.length : Int) != us[k].ops.length) = true := by simp; omega
            clear h3
            go_wp2
            go_ret
            exact ⟨by rw [HE.out]; rfl, HB.out⟩
          have h3' : ((ts[k].ops.length : Int) != us[k].ops.length) = false := by simp [h3]
          have H3 : Hid (ts[k].ops.length = us[k].ops.length) := h3
          clear h3
          have ho2 := HL.out.1.1
          have hp2 := HL.out.2.1
          go_wp2
          go_loopw [8] (fun i wr => EqRel wx ts[k].ops us[k].ops i wr) (fun i _ => ts[k].ops.length - (intOf i).toNat)
          case atStart => exact ⟨0, by omega, rfl, hide rfl, Below.refl _ _⟩
          case round =>
            obtain ⟨j, hk2, rfl, hj2, hbel2⟩ := hrel
            have x2 := Is.cell (HX.out.1.below hbel2) 2 rfl
            have y2 := Is.cell (HX.out.2.below hbel2) 2 rfl
            have hs2 := hbel2.size
            by_cases hlt3 : j < ts[k].ops.length
            · have hlt4 : j < us[k].ops.length := by rw [← H3.out]; exact hlt3
              have i3 : (j : Int) < (ts[k].ops.length : Int) := by omega
              have i4 : (j : Int) < (us[k].ops.length : Int) := by omega
              obtain ⟨b3, o3, l3, q3, rfl, _, hb3, c0, c1, c2, c3, hi1, _⟩ := (HJ.out.1.keep hbel2).at hlt3
              obtain ⟨b4, o4, l4, q4, rfl, _, hb4, d0, d1, d2, d3, hi2, _⟩ := (HJ.out.2.keep hbel2).at hlt4
              have HI : Hid (IntsAt F _ _ ts[k].ops[j].list ∧ IntsAt F' _ _ us[k].ops[j].list) := ⟨hi1, hi2⟩
              have hl1 := HL.out.1.at hlt3
              have hl2 := HL.out.2.at hlt4
              clear hi1 hi2 x0 x1 y0 y1
              by_cases he : ts[k].ops[j] = us[k].ops[j]
              · have HE : Hid (ts[k].ops[j] = us[k].ops[j]) := he
                have HD : Hid (decide (ts[k].ops[j] = us[k].ops[j]) = true) := by show _ = _; simpa using he
                clear he
                go_wp2
                go_region_with (go_at_call 20; (with_reducible refine (rsop_any F F' ts[k].ops[j] us[k].ops[j] _ _ _ (HI.out.1.keep (Below.refl _ _).drew) (HI.out.2.keep (Below.refl _ _).drew) hl1 hl2).mono ?_); rw [HD.out]; rintro e w1 ⟨rfl, hb⟩; replace hb := hide hb)
                all_goals
                  go_simp
                  go_wp2
                  go_roundw
                  case rel => exact EqRel.next hlt3 hlt4 HE.out hj2 (by go_num) ((hbel2.drew).trans (hb.out.mono hs2))
                  case measure => simp [intOf]; omega
              · have HE : Hid (decide (ts = us) = false) := by show _ = _; simpa using ne_at hlt hlt2 (fun q => ne_at hlt3 hlt4 he (by rw [q]))
                have HD : Hid (decide (ts[k].ops[j] = us[k].ops[j]) = false) := by show _ = _; simpa using he
                clear he
                go_wp2
                go_region_with (go_at_call 20; (with_reducible refine (rsop_any F F' ts[k].ops[j] us[k].ops[j] _ _ _ (HI.out.1.keep (Below.refl _ _).drew) (HI.out.2.keep (Below.refl _ _).drew) hl1 hl2).mono ?_); rw [HD.out]; rintro e w1 ⟨rfl, hb⟩; replace hb := hide hb)
                all_goals
                  go_simp
                  go_wp2
                  go_ret
                  exact ⟨by rw [HE.out]; rfl, HB.out.trans (((hbel2.drew).trans (hb.out.mono hs2)).mono HB.out.size)⟩
            · have HE : Hid (ts[k] = us[k]) := by
                show _ = _
                have q := eq_of_take H3.out hlt3 hj2.out
                rcases ht : ts[k] with ⟨i, a, o⟩
                rcases hu : us[k] with ⟨i', a', o'⟩
                have r1 := H1.out
                have r2 := H2.out
                rw [ht, hu] at q r1 r2
                simp at q r1 r2
                rw [q, r1, r2]
              clear x0 x1 y0 y1
              go_wp2
              go_roundw
              case rel => exact EqRel.next hlt hlt2 HE.out hj (by go_num) (HBL.out.trans (hbel2.mono HBL.out.size))
              case measure => simp [intOf]; omega
      · have HE : Hid (decide (ts = us) = true) := by show _ = _; simpa using eq_of_take HN.out hlt hj.out
        go_wp2
        go_ret
        exact ⟨by rw [HE.out]; rfl, hB⟩
  · have g0 : ((ts.length : Int) != us.length) = true := by simp; omega
    have HE : Hid (decide (ts = us) = false) := by show _ = _; simp; intro q; exact hnm (by rw [q])
    clear hnm
    go_enter Try.func10, Try.ntmps10
    go_wp2
    go_ret
    exact ⟨by rw [HE.out]; rfl, ((Below.refl _ _).alloc (Nat.le_refl _) _).alloc (by simp) _⟩
end Go.Proofs.Ytkdggnfjefgonaa.Hist
