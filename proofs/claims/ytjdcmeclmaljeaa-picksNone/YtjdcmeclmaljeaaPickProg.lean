/- The program's New and Step. -/
import Derived.Test.YtjdcmeclmaljeaaPickMem
import Derived.Test.YtjdcmeclmaljeaaSetList
import Derived.Deep.RegionHeld3
namespace Go.Proofs.Ytjdcmeclmaljeaa.Pick
open Go.RowKit Go.Proofs.Ytjdcmeclmaljeaa.Dig Go.Proofs.Ytjdcmeclmaljeaa.Mem Go.Proofs.Ytjdcmeclmaljeaa.Dq Go.Proofs.Ytjdcmeclmaljeaa.Thing Go.Proofs.Ytjdcmeclmaljeaa.Sets
set_option linter.unusedVariables false
set_option linter.unusedSimpArgs false

theorem row_v {w : World} {a : Option Addr} {c : Nat} {l : List Int} (h : RowI w a c l) : RowV w a c l := ⟨h.cap, h.rd, h.nil⟩
theorem row_i {w : World} {a : Option Addr} {c : Nat} {l : List Int} (h : RowV w a c l) : RowI w a c l := ⟨h.cap, h.rd, h.nil⟩
theorem new_any {w : World} {a : Option Addr} {m p : Nat} {L : List Int} (c : Int) (h : RowI w a p L) (hm : m = L.length) (hL : L.length ≤ 1000000) : Calls Try.prog 8 #[.slice a m p, .int .i64 c] w fun e w' =>
    ∃ b pa pc, e = .returned (.pointer (some ⟨b, 0, none⟩)) ∧ Scr w' b pa pc L c 0 ∧ (∀ k, (scrT b pa pc L c 0).F k → w.heap.size ≤ k) ∧ Below w.heap.size w w' := by
  subst hm
  have HC := hide (clone_fresh a p L w (row_v h) hL)
  obtain ⟨m, hm⟩ : ∃ m, m = L.length := ⟨_, rfl⟩
  have HM := hide hm
  rw [← hm] at HC ⊢
  clear h hm
  go_enter Try.func8, Try.ntmps8
  go_wp2_with (go_at_call 17; go_must ((with_reducible refine (Hid.out HC).mono ?_); rintro e w2 ⟨⟨pa, pc, rfl, hr, hf⟩, hb⟩; have HR := hide hr; have HF := hide hf; have HB := hide hb; clear hr hf hb))
  go_ret
  refine ⟨w2.heap.size, pa, pc, rfl, ⟨?_, row_i (HR.out.keep ((Below.refl _ _).alloc (Nat.le_refl _) _)), fun hl x e q => ?_⟩, fun k hk => ?_, HB.out.alloc HB.out.size _⟩
  · rw [← HM.out]
    exact Is.made _ _ _ rfl
  · have := Rd.lt HR.out.rd hl x e
    omega
  · rcases hk with rfl | ⟨_, x, e, rfl⟩
    · exact HB.out.size
    · exact HF.out x e
section
variable {w : World} {b n : Nat} {pa : Option Addr} {pc : Nat} {L : List Int} {c : Int}
theorem pstep_nil (w : World) (r : Value) : Calls Try.prog 9 #[.pointer none, r] w fun e w' => e = .returned (.tuple #[.int .i64 0, .int .i64 1]) ∧ w' = w := by
  go_enter Try.func9, Try.ntmps9
  go_wp2
  refine bodyPost_ret (v := .tuple #[.int .i64 0, .int .i64 1]) (by simp [results, Try.results9, go_sem]) rfl ?_
  exact ⟨rfl, rfl⟩
theorem pstep_un {w : World} {b : Nat} {v0 v1 v2 : Value} (h : Is w b #[v0, v1, v2, .bool false]) (r : Value) : Calls Try.prog 9 #[.pointer (some ⟨b, 0, none⟩), r] w fun e w' => e = .returned (.tuple #[.int .i64 0, .int .i64 1]) ∧ w' = w := by
  obtain ⟨⟨c0, c1, c2, c3⟩, _⟩ := h.four
  clear h
  go_enter Try.func9, Try.ntmps9
  go_wp2
  refine bodyPost_ret (v := .tuple #[.int .i64 0, .int .i64 1]) (by simp [results, Try.results9, go_sem]) rfl ?_
  exact ⟨rfl, rfl⟩
theorem pstep_over (h : Scr w b pa pc L c n) (ho : over c n = true) (r : Value) : Calls Try.prog 9 #[.pointer (some ⟨b, 0, none⟩), r] w fun e w' => e = .returned (.tuple #[.int .i64 0, .int .i64 8]) ∧ ∃ q, w' = w.drewN q := by
  have HO := hide (over_any h)
  rw [ho] at HO
  obtain ⟨⟨c0, c1, c2, c3⟩, _⟩ := h.box.four
  clear h ho
  go_enter Try.func9, Try.ntmps9
  go_wp2_with (go_at_call 13; go_must ((with_reducible refine (Hid.out HO).mono ?_); rintro e w2 ⟨rfl, q, rfl⟩))
  refine bodyPost_ret (v := .tuple #[.int .i64 0, .int .i64 8]) (by simp [results, Try.results9, go_sem]) rfl ?_
  exact ⟨rfl, _, rfl⟩
theorem pstep_none (h : Scr w b pa pc L c n) (ho : over c n = false) (ra : Option Addr) (rc : Nat) : Calls Try.prog 9 #[.pointer (some ⟨b, 0, none⟩), .slice ra 0 rc] w fun e w' => e = .returned (.tuple #[.int .i64 0, .int .i64 10]) ∧ ∃ q, w' = w.drewN q := by
  have HO := hide (over_any h)
  rw [ho] at HO
  obtain ⟨⟨c0, c1, c2, c3⟩, _⟩ := h.box.four
  clear h ho
  go_enter Try.func9, Try.ntmps9
  go_wp2_with (go_at_call 13; go_must ((with_reducible refine (Hid.out HO).mono ?_); rintro e w2 ⟨rfl, q, rfl⟩))
  refine bodyPost_ret (v := .tuple #[.int .i64 0, .int .i64 10]) (by simp [results, Try.results9, go_sem]) rfl ?_
  exact ⟨rfl, _, rfl⟩
/-- What is known within the step: the set of the ready lies in a box. -/
structure MidS (w : World) (b n qb sl sc : Nat) (pa : Option Addr) (pc : Nat) (L : List Int) (c : Int) (sa : Option Addr) (s : List Int) (W : World) : Prop where
  scr : Scr W b pa pc L c n
  set : RowV W sa sc s
  box : Is W qb #[.slice sa sl sc]
  only : Only (fun k => k = b) w W
theorem MidS.keep {w W W' : World} {b n qb sl sc : Nat} {pa : Option Addr} {pc : Nat} {L : List Int} {c : Int} {sa : Option Addr} {s : List Int} (h : MidS w b n qb sl sc pa pc L c sa s W) (hb : Below W.heap.size W W') : MidS w b n qb sl sc pa pc L c sa s W' :=
  ⟨h.scr.keep hb, h.set.keep hb, h.box.below hb, h.only.trans (Only.of_below hb)⟩
theorem MidS.more {w W : World} {b n qb sl sc : Nat} {pa : Option Addr} {pc : Nat} {L : List Int} {c : Int} {sa : Option Addr} {s : List Int} (h : MidS w b n qb sl sc pa pc L c sa s W) (hq : ¬ qb = b) (hs : ∀ x, sa = some x → x.block ≠ b) : MidS w b (n + 1) qb sl sc pa pc L c sa s (W.setCell ⟨b, 2, none⟩ (.int .i64 ((n : Int) + 1))) :=
  ⟨by simpa using h.scr.more (n + 1), ⟨h.set.cap, h.set.rd.only' (S := fun k => k = b) ((Only.refl _ _).put 2 _) (fun _ x e => hs x e), h.set.nil⟩, h.box.other (Ne.symm hq) _, h.only.put 2 _⟩
set_option maxHeartbeats 4000000 in
theorem pstep_ok (h : Scr w b pa pc L c n) (ho : over c n = false) (hn : n ≤ 1000000) {ra : Option Addr} {rc k : Nat} {l : List Int} (hl : l ≠ []) (hk : k = l.length) (hk2 : l.length ≤ 1000000) (hr : RowI w ra rc l) :
    Calls Try.prog 9 #[.pointer (some ⟨b, 0, none⟩), .slice ra k rc] w fun e w' => e = .returned (.tuple #[.int .i64 (told L n l), .int .i64 0]) ∧ Scr w' b pa pc L c (n + 1) ∧ Only (fun k => k = b) w w' := by
  have HO := hide (over_any h)
  rw [ho] at HO
  have hs := setL_ne hl
  have hj := place_lt L n hs
  have hji := place_int L n hs
  have hsl2 := setL_length (lt := ltI) l
  have HT0 : told L n l = (setL ltI l).getD (place L n (setL ltI l).length) 0 := rfl
  have hk0 : 0 < k := by rw [hk]; cases l with | nil => exact absurd rfl hl | cons y l => simp
  obtain ⟨s, hs'⟩ : ∃ s, s = setL ltI l := ⟨_, rfl⟩
  rw [← hs'] at HT0 hj hji hs hsl2
  obtain ⟨sl, hsl⟩ : ∃ sl, sl = s.length := ⟨_, rfl⟩
  rw [← hsl] at HT0 hj hji hs hsl2
  obtain ⟨j, hj'⟩ : ∃ j, j = place L n sl := ⟨_, rfl⟩
  rw [← hj'] at HT0 hj hji
  obtain ⟨t, ht⟩ : ∃ t, t = s.getD j 0 := ⟨_, rfl⟩
  rw [← ht] at HT0
  have HT := hide HT0.symm
  have HOF : Hid (∀ q, Calls Try.prog 18 #[.slice ra k rc] (w.drewN q) fun e w' => ∃ sa sc, e = .returned (.agg #[.slice sa sl sc]) ∧ RowV w' sa sc s ∧ (∀ x, sa = some x → 0 < sl → w.heap.size ≤ x.block) ∧ Below w.heap.size w w') := hide (fun q => by
    have := of_any ra rc l (w.drewN q) (row_v (hr.keep (below_of_drewN q))) hk2
    rw [← hs', ← hk] at this
    refine this.mono ?_
    rintro e w' ⟨v, rfl, ⟨a', c', rfl, g1⟩, g2, g3⟩
    rw [← hsl] at g2 ⊢
    exact ⟨a', c', rfl, g1, fun x e hx => by subst e; exact g2 x.block x.off x.spot _ _ rfl hx, (below_of_drewN q).trans g3⟩)
  have HAT : Hid (∀ W a' c', RowV W a' c' s → ∃ b off, a' = some ⟨b, off, none⟩ ∧ W.cell? ⟨b, off + j, none⟩ = some (.int .i64 t)) := hide (fun W a' c' q => by
    obtain ⟨b, off, e, hc⟩ := q.at (i := j) (by omega)
    rw [← ht] at hc
    exact ⟨b, off, e, hc⟩)
  obtain ⟨x, hx⟩ : ∃ x, x = L.getD n 0 := ⟨_, rfl⟩
  have hwf : (Lit.int .i64 x).wf = true := by
    rw [hx]
    by_cases q : n < L.length
    · exact h.row.wf _ (by rw [List.getD_eq_getElem?_getD, List.getElem?_eq_getElem q]; exact List.getElem_mem _)
    · rw [List.getD_eq_getElem?_getD, List.getElem?_eq_none (by omega)]; rfl
  rw [← hx] at hji
  have HNX : Hid (∀ W sa sc qb, MidS w b n qb sl sc pa pc L c sa s W → Calls Try.prog 20 #[.pointer (some ⟨b, 0, none⟩)] W fun e w' => e = .returned (.int .i64 x) ∧ MidS w b n qb sl sc pa pc L c sa s w') := hide (fun W sa sc qb g => by
    have := next_any g.scr
    rw [← hx] at this
    refine this.mono ?_
    rintro e w' ⟨rfl, q, rfl⟩
    exact ⟨rfl, g.keep (below_of_drewN q)⟩)
  have HLN : Hid (∀ W sa sc qb, MidS w b n qb sl sc pa pc L c sa s W → Calls Try.prog 21 #[.agg #[.slice sa sl sc]] W fun e w' => e = .returned (.int .i64 (sl : Int)) ∧ MidS w b n qb sl sc pa pc L c sa s w') := hide (fun W sa sc qb g => by
    have := len_any (.agg #[.slice sa sl sc]) s W ⟨sa, sc, by rw [hsl], g.set⟩
    rw [← hsl] at this
    refine this.mono ?_
    rintro e w' ⟨rfl, hb⟩
    exact ⟨rfl, g.keep hb⟩)
  have HLI : Hid (∀ W sa sc qb, MidS w b (n + 1) qb sl sc pa pc L c sa s W → Calls Try.prog 22 #[.agg #[.slice sa sl sc]] W fun e w' => (∃ a' c', e = .returned (.slice a' sl c') ∧ RowV w' a' c' s) ∧ MidS w b (n + 1) qb sl sc pa pc L c sa s w') := hide (fun W sa sc qb g => by
    have := list_any (.agg #[.slice sa sl sc]) s W ⟨sa, sc, by rw [hsl], g.set⟩ (by omega)
    rw [← hsl] at this
    refine this.mono ?_
    rintro e w' ⟨⟨a', c', rfl, h1⟩, hb⟩
    exact ⟨⟨a', c', rfl, h1⟩, g.keep hb⟩)
  have HMD := hide (fun W => mod_any x sl W hwf hs (by omega) hji.symm)
  have HS0 := hide h
  have hb0 := h.box.lt
  obtain ⟨⟨c0, c1, c2, c3⟩, _⟩ := h.box.four
  have g0 : ((k : Int) == 0) = false := by simp; omega
  have g1 : (j : Int) < (sl : Int) := by omega
  have HSL := hide hs
  clear h ho hr hl hk hk2 hs' hsl ht HT0 hj' hx hji hsl2 hwf
  go_enter Try.func9, Try.ntmps9
  go_wp2_with (first
    | (go_at_call 13; go_must ((with_reducible refine (Hid.out HO).mono ?_); rintro e w2 ⟨rfl, q, rfl⟩))
    | (go_at_call 18; go_must ((with_reducible refine (Hid.out HOF q).mono ?_); rintro e w2 ⟨sa, sc, rfl, hr2, hf2, hb2⟩; have HR2 := hide hr2; have HF2 := hide hf2; have HB2 := hide hb2; clear hr2 hf2 hb2)))
  obtain ⟨qb, hqb⟩ : ∃ qb, qb = w2.heap.size := ⟨_, rfl⟩
  have M0 : Hid (MidS w b n qb sl sc pa pc L c sa s (w2.alloc (.cells #[.slice sa sl sc] 47))) := hide ⟨(HS0.out.keep HB2.out).keep ((Below.refl _ _).alloc (Nat.le_refl _) _), HR2.out.keep ((Below.refl _ _).alloc (Nat.le_refl _) _), Is.made _ _ _ hqb, (Only.of_below HB2.out).alloc _⟩
  have hqb2 : ¬ qb = b := by have := HB2.out.size; omega
  have hsab : ∀ x, sa = some x → x.block ≠ b := fun x e q => by have := HF2.out x e HSL.out; omega
  have HSAB := hide hsab
  rw [← hqb]
  generalize (w2.alloc (.cells #[.slice sa sl sc] 47)) = W3 at *
  clear hqb HR2 HF2 HB2 c0 c1 c2 c3 hsab HOF HO
  have hbx : W3.cell? ⟨qb, 0, none⟩ = some (.slice sa sl sc) := M0.out.box.cell 0 rfl
  have K := hide (M0.out.keep (W' := W3.drew) (Below.refl _ _).drew)
  go_region_held3 (fun w' => w'.cell? ⟨qb, 0, none⟩ = some (.slice sa sl sc)) (first | assumption | go_keep)
    (first
    | (go_at_call 20; ((with_reducible refine (Hid.out HNX _ sa sc qb K.out).mono ?_); rintro e w5 ⟨rfl, hm⟩; replace K := hide hm; have hbx5 := hm.box.cell 0 rfl; clear hm))
    | (go_at_call 21; ((with_reducible refine (Hid.out HLN _ sa sc qb K.out).mono ?_); rintro e w6 ⟨rfl, hm⟩; replace K := hide hm; have hbx6 := hm.box.cell 0 rfl; clear hm))
    | (go_at_call 19; ((with_reducible refine (Hid.out HMD _).mono ?_); rintro e w7 ⟨rfl, rfl⟩)))
  clear hbx5 hbx6
  obtain ⟨⟨c0, c1, c2, c3⟩, f0, f1, f2, f3⟩ := K.out.scr.box.four
  have hbx7 := K.out.box.cell 0 rfl
  have K9 := hide (K.out.more hqb2 HSAB.out)
  clear K c0 c1 c3 f0 f1 f3
  go_simp
  go_wp2_with (go_at_call 22; ((with_reducible refine (Hid.out HLI _ sa sc qb K9.out).mono ?_); rintro e w8 ⟨⟨la, lc, rfl, hr8⟩, hm⟩; have KE := hide hm; obtain ⟨lb, lo, rfl, hlc⟩ := HAT.out _ _ _ hr8; clear hm hr8 hbx7))
  refine bodyPost_ret (v := .tuple #[.int .i64 t, .int .i64 0]) (by simp [results, Try.results9, go_sem]) rfl ?_
  exact ⟨by rw [HT.out], KE.out.scr, KE.out.only⟩
end
end Go.Proofs.Ytjdcmeclmaljeaa.Pick
