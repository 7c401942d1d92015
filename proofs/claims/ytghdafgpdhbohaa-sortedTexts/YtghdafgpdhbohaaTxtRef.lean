/- The document's set of a row of texts: the least that is not taken, again and again. -/
import Derived.Test.YtghdafgpdhbohaaTxtApp
import Derived.Deep.LoopGhost
namespace Go.Proofs.Ytghdafgpdhbohaa.SetsT
open Go.RowKit Go.Proofs.Ytghdafgpdhbohaa.Sets Go.Proofs.Ytghdafgpdhbohaa.Dig Go.Proofs.Ytghdafgpdhbohaa.Mem
set_option linter.unusedVariables false
set_option linter.unusedSimpArgs false

/-- The least that is not among the first k is the next one. -/
theorem next_least {l : List (List UInt8)} {k : Nat} {b : List UInt8} (hb : b ∈ l) (hn : b ∉ (setL ltS l).take k) (hm : ∀ x ∈ l, x ∉ (setL ltS l).take k → ltS x b = false) :
    k < (setL ltS l).length ∧ (setL ltS l).take k ++ [b] = (setL ltS l).take (k + 1) := by
  obtain ⟨s, hs⟩ : ∃ s, s = setL ltS l := ⟨_, rfl⟩
  have hr := rising_setL totS l
  have hmem := mem_setL totS l
  rw [← hs] at hn hm hr hmem ⊢
  have hbs : b ∈ s := (hmem b).2 hb
  rw [← List.take_append_drop k s] at hbs
  have hbd : b ∈ s.drop k := (List.mem_append.1 hbs).resolve_left hn
  have hlt : k < s.length := by
    rcases Nat.lt_or_ge k s.length with q | q
    · exact q
    · rw [List.drop_eq_nil_of_le q] at hbd; simp at hbd
  refine ⟨hlt, ?_⟩
  have hd := List.drop_eq_getElem_cons hlt
  rw [← List.take_append_drop k s] at hr
  obtain ⟨_, hr2, hr3⟩ := rising_append.1 hr
  have hx : s[k] ∉ s.take k := fun q => by
    have hin : s[k] ∈ s.drop k := by rw [hd]; exact List.mem_cons_self
    have := hr3 _ q s[k] hin
    rw [totS.irr] at this; cases this
  have h1 := hm s[k] ((hmem _).1 (List.getElem_mem hlt)) hx
  have e : s[k] = b := by
    rw [hd] at hbd hr2
    rcases List.mem_cons.1 hbd with e | q
    · exact e.symm
    · have := (rising_cons.1 hr2).1 b q
      rw [h1] at this; cases this
  rw [List.take_add_one, List.getElem?_eq_getElem hlt, e]
  rfl
theorem none_left {l : List (List UInt8)} {k : Nat} (h : ∀ x ∈ l, x ∈ (setL ltS l).take k) (hk : k ≤ (setL ltS l).length) : k = (setL ltS l).length := by
  rcases Nat.lt_or_ge k (setL ltS l).length with q | q
  · exfalso
    have hr := rising_setL totS l
    have hd := List.drop_eq_getElem_cons q
    have hx := h _ ((mem_setL totS l _).1 (List.getElem_mem q))
    rw [← List.take_append_drop k (setL ltS l)] at hr
    have hin : (setL ltS l)[k] ∈ (setL ltS l).drop k := by rw [hd]; exact List.mem_cons_self
    have := (rising_append.1 hr).2.2 _ hx _ hin
    rw [totS.irr] at this; cases this
  · omega
def OfR (w : World) (s : List (List UInt8)) (ov nv : Value) (wr : World) : Prop :=
  ∃ (k : Nat), k ≤ s.length ∧ nv = .int .i64 (k : Int) ∧ Hid (wr.ownsRow w.heap.size 9 1 ov k ((s.take k).map encStr)) ∧ Hid (Below w.heap.size w wr)
def InR (l out : List (List UInt8)) (n : Nat) (bv fv kv : Value) : Prop :=
  ∃ (j : Nat), j ≤ n ∧ kv = .int .i64 (j : Int) ∧ ((fv = .bool false ∧ bv = .string ⟨#[]⟩ ∧ Hid (∀ i, i < j → l.getD i [] ∈ out)) ∨ ∃ b : List UInt8, fv = .bool true ∧ bv = .string ⟨b.toArray⟩ ∧ Hid (b ∈ l ∧ b ∉ out ∧ ∀ i, i < j → l.getD i [] ∉ out → ltS (l.getD i []) b = false))
def HadR (out : List (List UInt8)) (x : List UInt8) (m : Nat) (hv jv : Value) : Prop :=
  ∃ (i : Nat) (q : Bool), i ≤ m ∧ jv = .int .i64 (i : Int) ∧ hv = .bool q ∧ Hid (decide (x ∈ out.take i) = q)
theorem had_next {out : List (List UInt8)} {x : List UInt8} {i : Nat} {q : Bool} (h : decide (x ∈ out.take i) = q) (hi : i < out.length) : decide (x ∈ out.take (i + 1)) = (q || decide (out.getD i [] = x)) := by
  rw [List.take_add_one, List.getElem?_eq_getElem hi, ← h, List.getD_eq_getElem?_getD, List.getElem?_eq_getElem hi]
  have e : (out[i] = x) ↔ (x = out[i]) := eq_comm
  simp only [Option.toList_some, List.mem_append, List.mem_singleton, Bool.decide_or, Option.getD_some, e]
theorem eq_str (x y : List UInt8) : (x == y) = decide (x = y) := by
  by_cases h : x = y
  · subst h; simp
  · simp [h]
set_option maxHeartbeats 4000000 in
set_option maxRecDepth 20000 in
theorem texts_any (a : Option Addr) (c : Nat) (l : List (List UInt8)) (w : World) (h : RowT w a c l) (hm : l.length ≤ 1000) :
    Calls Try.prog 26 #[.slice a l.length c] w fun e w' => (∃ a' c', e = .returned (.slice a' (setL ltS l).length c') ∧ RowT w' a' c' (setL ltS l)) ∧ Below w.heap.size w w' := by
  obtain ⟨i0, hi, hz0, hz1, hz2⟩ := info_parts Try.infoSetStr
  have HA := hide h
  have hsl := setL_length (lt := ltS) l
  have HNL := hide (fun k => none_left (l := l) (k := k))
  have HNX := hide (fun k b => next_least (l := l) (k := k) (b := b))
  have HW : Hid (∀ x ∈ setL ltS l, x.length ≤ 1000) := fun x hx => h.wf x ((mem_setL totS l x).1 hx)
  obtain ⟨s, hs⟩ : ∃ s, s = setL ltS l := ⟨_, rfl⟩
  rw [← hs] at hsl HNL HNX HW ⊢
  obtain ⟨n, hn⟩ : ∃ n, n = l.length := ⟨_, rfl⟩
  rw [← hn] at hsl hm ⊢
  have HN := hide hn
  clear hs hn h
  go_enter Try.func26, Try.ntmps26
  go_wp2
  go_loopw [3, 4] (fun ov nv wr => OfR w s ov nv wr) (fun _ nv _ => n + 1 - (intOf nv).toNat)
  case atStart => exact ⟨0, by omega, rfl, World.ownsRow_nil _ _ _ _, Below.refl _ _⟩
  case round =>
    obtain ⟨k, hk, rfl, hown, hbel⟩ := hrel
    obtain ⟨W, hW⟩ : ∃ W, W = wr := ⟨_, rfl⟩
    subst hW
    obtain ⟨oa, oc, rfl⟩ := own_form hown.out
    have hkn : (k : Int) ≤ (n : Int) := by omega
    have HTK : Hid ((s.take k).length = k) := hide (by rw [List.length_take]; omega)
    have HO : Hid (RowT W oa oc (s.take k)) :=
      (rowt_of_own (l := s.take k) (n := k) (by rw [HTK.out]; exact hown.out) (by have := HTK.out; omega) (fun x hx => HW.out x (List.mem_of_mem_take hx))).2
    have I0 : Hid (InR l (s.take k) n (.string ⟨#[]⟩) (.bool false) (.int .i64 0)) := ⟨0, by omega, rfl, .inl ⟨rfl, rfl, fun i hi => by omega⟩⟩
    go_wp2
    go_loopw [5, 6, 7] (fun bv fv kv wr => InR l (s.take k) n bv fv kv ∧ Hid (Below W.heap.size W wr)) (fun _ _ kv _ => n - (intOf kv).toNat)
    case atStart => exact ⟨I0.out, Below.refl _ _⟩
    case round =>
      obtain ⟨⟨j, hj, rfl, hin⟩, hB2⟩ := hrel
      obtain ⟨W2, hW2⟩ : ∃ W2, W2 = wr := ⟨_, rfl⟩
      subst hW2
      have HA2 := hide ((HA.out.keep (hbel.out.mono (Nat.le_refl _))).keep hB2.out)
      have HO2 := hide (HO.out.keep hB2.out)
      by_cases hlt : j < n
      · have hj2 : j < l.length := by rw [← HN.out]; exact hlt
        have hxl := getD_mem hj2
        obtain ⟨x, hx⟩ : ∃ x, x = l.getD j [] := ⟨_, rfl⟩
        rw [← hx] at hxl
        have HX := hide hx
        have HXL := hide hxl
        have HJ2 := hide hj2
        clear hx hxl hj2
        have step : ∀ (p : List UInt8 → Prop), (∀ i, i < j → p (l.getD i [])) → p x → ∀ i, i < j + 1 → p (l.getD i []) := fun p h1 h2 i hi => by
          by_cases e : i = j
          · rw [e, ← HX.out]; exact h2
          · exact h1 i (by omega)
        have STEP := hide step
        clear step
        have D0 : Hid (HadR (s.take k) x k (.bool false) (.int .i64 0)) := ⟨0, false, by omega, rfl, rfl, hide (by simp)⟩
        go_wp2
        go_loopw [8, 9] (fun hv jv wr => HadR (s.take k) x k hv jv ∧ Hid (Below W2.heap.size W2 wr)) (fun _ jv _ => k - (intOf jv).toNat)
        case atStart => exact ⟨D0.out, Below.refl _ _⟩
        case round =>
          obtain ⟨⟨i, q, hi2, rfl, rfl, hq⟩, hB3⟩ := hrel
          obtain ⟨W3, hW3⟩ : ∃ W3, W3 = wr := ⟨_, rfl⟩
          subst hW3
          by_cases hil : i < k
          · have hN := had_next hq.out (show i < (s.take k).length by rw [HTK.out]; exact hil)
            cases q with
            | true =>
              have HNN := hide hN
              clear hN
              go_wp2
              go_region
              all_goals
                go_wp2
                go_roundw
                case rel => exact ⟨⟨i + 1, true, by omega, by simp, rfl, hide (by rw [HNN.out]; rfl)⟩, by repeat (first | exact hB3.out | apply Below.drew)⟩
                case measure => simp [intOf]; omega
            | false =>
              obtain ⟨b1, o1, rfl, hc1⟩ := (HA2.out.keep hB3.out).at HJ2.out
              obtain ⟨b2, o2, rfl, hc2⟩ := (HO2.out.keep hB3.out).at (show i < (s.take k).length by rw [HTK.out]; exact hil)
              rw [← HX.out] at hc1
              obtain ⟨y, hy⟩ : ∃ y, y = (s.take k).getD i [] := ⟨_, rfl⟩
              rw [← hy] at hc2 hN
              have heq := eq_str y x
              obtain ⟨r, hr⟩ : ∃ r, decide (y = x) = r := ⟨_, rfl⟩
              rw [hr] at heq hN
              have HNN := hide hN
              clear hy hN hr
              go_wp2
              go_region
              all_goals
                go_wp2
                go_roundw
                case rel => exact ⟨⟨i + 1, r, by omega, by simp, rfl, hide (by rw [HNN.out]; rfl)⟩, by repeat (first | exact hB3.out | apply Below.drew)⟩
                case measure => simp [intOf]; omega
          · obtain rfl : i = k := by omega
            have HQ0 : Hid (decide (x ∈ s.take i) = q) := hide (by have := hq.out; rwa [List.take_of_length_le (Nat.le_of_eq HTK.out)] at this)
            have HB4 := hide (hB2.out.trans (hB3.out.mono hB2.out.size))
            obtain ⟨b1, o1, rfl, hc1⟩ := (HA2.out.keep hB3.out).at HJ2.out
            rw [← HX.out] at hc1
            clear hq
            cases q with
            | true =>
              have HQ : Hid (x ∈ s.take i) := hide (of_decide_eq_true HQ0.out)
              rcases hin with ⟨rfl, rfl, hall⟩ | ⟨b, rfl, rfl, hb⟩
              · have R : Hid (InR l (s.take i) n (.string ⟨#[]⟩) (.bool false) (.int .i64 ((j : Int) + 1))) := ⟨j + 1, by omega, by simp, .inl ⟨rfl, rfl, STEP.out (fun y => y ∈ s.take i) hall.out HQ.out⟩⟩
                go_wp2
                go_roundw
                case rel => exact ⟨R.out, HB4⟩
                case measure => simp [intOf]; omega
              · have R : Hid (InR l (s.take i) n (.string ⟨b.toArray⟩) (.bool true) (.int .i64 ((j : Int) + 1))) := ⟨j + 1, by omega, by simp, .inr ⟨b, rfl, rfl, hb.out.1, hb.out.2.1, STEP.out (fun y => y ∉ s.take i → ltS y b = false) hb.out.2.2 (fun h => absurd HQ.out h)⟩⟩
                go_wp2
                go_roundw
                case rel => exact ⟨R.out, HB4⟩
                case measure => simp [intOf]; omega
            | false =>
              have HQ : Hid (x ∉ s.take i) := hide (of_decide_eq_false HQ0.out)
              rcases hin with ⟨rfl, rfl, hall⟩ | ⟨b, rfl, rfl, hb⟩
              · have R : Hid (InR l (s.take i) n (.string ⟨x.toArray⟩) (.bool true) (.int .i64 ((j : Int) + 1))) := ⟨j + 1, by omega, by simp, .inr ⟨x, rfl, rfl, HXL.out, HQ.out, STEP.out (fun y => y ∉ s.take i → ltS y x = false) (fun i2 hi2 h => absurd (hall.out i2 hi2) h) (fun _ => totS.irr x)⟩⟩
                go_wp2
                go_roundw
                case rel => exact ⟨R.out, HB4⟩
                case measure => simp [intOf]; omega
              · have hbl := bytes_less x b
                cases hxb : ltS x b with
                | true =>
                  rw [hxb] at hbl
                  have HXB := hide hxb
                  have R : Hid (InR l (s.take i) n (.string ⟨x.toArray⟩) (.bool true) (.int .i64 ((j : Int) + 1))) := ⟨j + 1, by omega, by simp, .inr ⟨x, rfl, rfl, HXL.out, HQ.out, STEP.out (fun y => y ∉ s.take i → ltS y x = false) (fun i2 hi2 h => by
                    have h1 := hb.out.2.2 i2 hi2 h
                    cases h2 : ltS (l.getD i2 []) x with
                    | false => rfl
                    | true => exact absurd (totS.tr _ _ _ h2 HXB.out) (by rw [h1]; simp)) (fun _ => totS.irr x)⟩⟩
                  clear hxb
                  go_wp2
                  go_roundw
                  case rel => exact ⟨R.out, HB4⟩
                  case measure => simp [intOf]; omega
                | false =>
                  rw [hxb] at hbl
                  have HXB := hide hxb
                  have R : Hid (InR l (s.take i) n (.string ⟨b.toArray⟩) (.bool true) (.int .i64 ((j : Int) + 1))) := ⟨j + 1, by omega, by simp, .inr ⟨b, rfl, rfl, hb.out.1, hb.out.2.1, STEP.out (fun y => y ∉ s.take i → ltS y b = false) hb.out.2.2 (fun _ => HXB.out)⟩⟩
                  clear hxb
                  go_wp2
                  go_roundw
                  case rel => exact ⟨R.out, HB4⟩
                  case measure => simp [intOf]; omega
      · obtain rfl : j = n := by omega
        have hmemj : ∀ (p : List UInt8 → Prop), (∀ i, i < j → p (l.getD i [])) → ∀ x ∈ l, p x := fun p h x hx => by
          obtain ⟨i, hi, e⟩ := List.getElem_of_mem hx
          have := h i (by rw [HN.out]; exact hi)
          rw [List.getD_eq_getElem?_getD, List.getElem?_eq_getElem hi] at this
          rw [← e]; exact this
        have HMJ := hide hmemj
        clear hmemj
        have hB5 := hbel.out.trans (hB2.out.mono hbel.out.size)
        have HB5 := hide hB5
        rcases hin with ⟨rfl, rfl, hall⟩ | ⟨b, rfl, rfl, hb⟩
        · have hks : k = s.length := HNL.out k (HMJ.out _ hall.out) hk
          have HF : Hid (RowT W2 oa oc s ∧ k = s.length) := ⟨by have := HO2.out; rw [hks, List.take_length] at this; exact this, hks⟩
          go_wp2
          go_ret
          exact ⟨⟨oa, oc, by rw [HF.out.2]; rfl, HF.out.1⟩, HB5.out⟩
        · obtain ⟨hk2, hnx⟩ := HNX.out k b hb.out.1 hb.out.2.1 (HMJ.out (fun y => y ∉ s.take k → ltS y b = false) hb.out.2.2)
          have HNXT := hide hnx
          have hrow := owns_below hown.out hB2.out
          have hsz2 := HB5.out.size
          have HRW := hide hrow
          clear hnx hB5
          go_wp2_with (at_builtin; go_loud (refine wpList_append_own _ rfl _ _ 41 rfl w.heap.size 9 i0 (.string ByteArray.empty) 1 16 Try.underlying41 hi hz0 hz1 hz2 rfl (by decide) _ _ _ rfl (hrow.alloc _) ⟨W2.heap.size, 0, none⟩ 1 1 [.string ⟨b.toArray⟩] rfl rfl (one_new _ _ _) (by simp [Value.oneCell']) (by unfold maxLen; omega) (by omega) (by simp; omega) ?_); intro v1 w1 hown1 hgrow1 _; have HOWN1 := hide hown1; have HB1 := hide ((HB5.out.alloc hsz2 (.cells #[.string ⟨b.toArray⟩] 9)).grown hgrow1 (by simp; omega) (fun q e => (World.ownsRow.lt HRW.out q e).1)); clear hown1 hgrow1)
          go_roundw
          case rel => exact ⟨k + 1, by omega, by simp, by have := HOWN1.out; rw [← HNXT.out, List.map_append]; exact this, HB1.out⟩
          case measure => simp [intOf]; omega
end Go.Proofs.Ytghdafgpdhbohaa.SetsT
