/- Joined out of the texts EncCheck, Join, EncWords, App, EncLine, in that order. -/
import Derived.Test.YtigmgkcojifbcaaAll6
import Derived.Shelf.Strings.OnBuilder
import Derived.Test.YtigmgkcojifbcaaProg
import Derived.Test.YtigmgkcojifbcaaAll5
import Derived.Test.YtigmgkcojifbcaaAll4
import Derived.Deep.RegionHeld3
import Derived.Deep.DrawnRows
import Derived.Deep.DeepMust
import Derived.Deep.DeepCutAuto
import Derived.Deep.RegionWith
import Derived.Test.YtigmgkcojifbcaaAll2
import Derived.Laws.AppendOwnNone
import Derived.Lib.AppendStr
import Derived.Deep.DeepAppendRoom
/- The contract of the program's Check. -/
namespace Go.Proofs.Ytigmgkcojifbcaa.Hist
open Go.RowKit Go.Proofs.Ytigmgkcojifbcaa.Dig Go.Proofs.Ytigmgkcojifbcaa.Mem Go.Proofs.Ytigmgkcojifbcaa.Keys
set_option linter.unusedVariables false
set_option linter.unusedSimpArgs false

/-- Behind k transactions without an error. -/
structure ChkS (w : World) (bi : Nat) (ts : List TxnM) (hv : Value) (k : Nat) (wr : World) : Prop where
  below : Below w.heap.size w wr
  lt : w.heap.size < bi
  hist : Is wr w.heap.size #[hv]
  box : Is wr (bi + 1 + 1) #[.map (some bi), .map (some (bi + 1))]
  ids : Ids wr bi k (fun y => twinB (ts.take k) y)
  vals : EVals wr (bi + 1) (opsN (ts.take k)) (fun p => appB (ts.take k) p.1 p.2)
theorem ChkS.start {w w1 : World} (ts : List TxnM) (hv : Value) (U : TypeId) (hb : Below w.heap.size w w1) (hh : Is w1 w.heap.size #[hv]) :
    ChkS w w1.heap.size ts hv 0 (((w1.alloc (.map #[] 0)).alloc (.map #[] 0)).alloc (.cells #[.map (some w1.heap.size), .map (some (w1.heap.size + 1))] U)) := by
  have k1 : Ids (w1.alloc (.map #[] 0)) w1.heap.size 0 (fun _ => false) := SetAt.made w1 rfl
  have k2 : EVals ((w1.alloc (.map #[] 0)).alloc (.map #[] 0)) (w1.heap.size + 1) 0 (fun _ => false) := SetAt.made (w1.alloc (.map #[] 0)) (by simp)
  refine ⟨((hb.alloc hb.size _).alloc (by simp; have := hb.size; omega) _).alloc (by simp; have := hb.size; omega) _, hh.lt, ((hh.alloc _).alloc _).alloc _, Is.made _ _ U (by simp), ?_, ?_⟩
  · exact ((k1.keep (S := fun _ => False) ((Only.refl _ _).alloc _) (fun q => q)).keep (S := fun _ => False) ((Only.refl _ _).alloc _) (fun q => q))
  · exact k2.keep (S := fun _ => False) ((Only.refl _ _).alloc _) (fun q => q)
theorem ChkS.next {w wr w7 : World} {bi : Nat} {ts : List TxnM} {hv : Value} {k : Nat} {C : Array Value} {T : TypeId} (h : ChkS w bi ts hv k wr) (hk : k < ts.length) (ho : Only (fun b => b = bi ∨ b = bi + 1) (wr.alloc (.cells C T)) w7)
    (hi : Ids w7 bi (k + 1) (fun y => twinB (ts.take k ++ [ts[k]]) y)) (hv' : EVals w7 (bi + 1) (opsN (ts.take k) + ts[k].ops.length) (fun p => appB (ts.take k ++ [ts[k]]) p.1 p.2)) : ChkS w bi ts hv (k + 1) w7 := by
  have hO : Only (fun b => b = bi ∨ b = bi + 1) wr w7 := ((Only.refl (fun b => b = bi ∨ b = bi + 1) wr).alloc (.cells C T)).trans ho
  have hl := h.lt
  refine ⟨h.below.only hO (fun i q => by omega) h.below.size, h.lt, h.hist.keep hO (by omega), h.box.keep hO (by omega), ?_, ?_⟩
  · rw [List.take_succ_eq_append_getElem hk]; exact hi
  · rw [List.take_succ_eq_append_getElem hk, opsN_app]
    have : opsN [ts[k]] = ts[k].ops.length := by simp [opsN]
    rw [this]
    exact hv'
theorem ChkS.step {w wr w7 : World} {bi : Nat} {ts : List TxnM} {hv : Value} {k : Nat} {C : Array Value} {T : TypeId} (h : ChkS w bi ts hv k wr) (ho : Only (fun b => b = bi ∨ b = bi + 1) (wr.alloc (.cells C T)) w7) : Below w.heap.size w w7 := by
  have hO : Only (fun b => b = bi ∨ b = bi + 1) wr w7 := ((Only.refl (fun b => b = bi ∨ b = bi + 1) wr).alloc (.cells C T)).trans ho
  have hl := h.lt
  exact h.below.only hO (fun i q => by omega) h.below.size
def ChkRel (w : World) (bi : Nat) (ts : List TxnM) (hv : Value) (i : Value) (wr : World) : Prop :=
  ∃ k : Nat, k ≤ ts.length ∧ i = .int .i64 (k : Int) ∧ Hid (chkTs [] (ts.take k) = 0) ∧ Hid (ChkS w bi ts hv k wr)
set_option maxRecDepth 20000 in
set_option maxHeartbeats 1000000 in
theorem check_any (F : Nat → Prop) (v : Value) (ts : List TxnM) (w : World) (h : TxnsAt F w v ts) (hF : ∀ b, F b → b < w.heap.size) (hf : Few4 ts) :
    Calls Try.prog 11 #[.agg #[v]] w fun e w' => e = .returned (.int .i64 (checkS ts)) ∧ Below w.heap.size w w' := by
  obtain ⟨a, c, rfl, _, _⟩ := h.shape
  have H := hide h
  have FF := hide hF
  have FW := hide hf
  have hlen := hf.1
  have hops := hf.2.1
  clear h hf hF
  by_cases h1 : 1024 < ts.length
  · have h1' : (1024 : Int) < (ts.length : Int) := by omega
    have T : Hid (checkS ts = 3) := hide (by unfold checkS; rw [if_pos (.inl h1)])
    clear h1
    go_enter Try.func11, Try.ntmps11
    go_wp2
    go_ret
    exact ⟨by rw [T.out]; rfl, (Below.refl _ _).alloc (Nat.le_refl _) _⟩
  have h1' : ¬ (1024 : Int) < (ts.length : Int) := by omega
  obtain ⟨no, hno⟩ : ∃ no, (opsN ts : Int) = no := ⟨_, rfl⟩
  have EO := hide hno
  by_cases h2 : 4096 < opsN ts
  · have h2' : (4096 : Int) < no := by omega
    have T : Hid (checkS ts = 3) := hide (by unfold checkS; rw [if_pos (.inr h2)])
    clear h1 h2 hno
    go_enter Try.func11, Try.ntmps11
    go_wp2_with (first | (go_at_call 23; go_must ((with_reducible refine (ops_any F _ ts _ (H.out.keep ((Below.refl _ _).alloc (Nat.le_refl _) _)) (by omega) (by omega)).mono ?_); rw [EO.out]; rintro e w1 ⟨rfl, hb1⟩; have HB1 := hide (((Below.refl _ _).alloc (Nat.le_refl _) _).trans (hb1.mono (by simp))); have s1 := (Is.made w #[.slice a ts.length c] 24 rfl).below hb1; have S1 := hide s1; have x1 : w1.cell? ⟨w.heap.size, 0, none⟩ = some (.slice a ts.length c) := s1.cell 0 rfl; have z1 := s1.lt; have x3 : ∀ o1 o2 o3, (((w1.alloc o1).alloc o2).alloc o3).cell? ⟨w.heap.size, 0, none⟩ = some (.slice a ts.length c) := fun o1 o2 o3 => (((S1.out.alloc o1).alloc o2).alloc o3).cell 0 rfl; clear s1 hb1)))
    go_ret
    exact ⟨by rw [T.out]; rfl, HB1.out⟩
  have h2' : ¬ (4096 : Int) < no := by omega
  have T0 : Hid (checkS ts = if chkTs [] ts ≠ 0 then chkTs [] ts else if 262144 < (textH ts).length then 3 else 0) := hide (by unfold checkS; rw [if_neg (by omega)])
  have LEN : Hid (ts.length ≤ 1024 ∧ opsN ts ≤ 4096) := hide ⟨by omega, by omega⟩
  clear h1 h2 hno
  have hmm := @run_makeMap Try.prog
  go_enter Try.func11, Try.ntmps11
  go_wp2_with (first | (go_at_call 23; go_must ((with_reducible refine (ops_any F _ ts _ (H.out.keep ((Below.refl _ _).alloc (Nat.le_refl _) _)) (by omega) (by omega)).mono ?_); rw [EO.out]; rintro e w1 ⟨rfl, hb1⟩; have HB1 := hide (((Below.refl _ _).alloc (Nat.le_refl _) _).trans (hb1.mono (by simp))); have s1 := (Is.made w #[.slice a ts.length c] 24 rfl).below hb1; have S1 := hide s1; have x1 : w1.cell? ⟨w.heap.size, 0, none⟩ = some (.slice a ts.length c) := s1.cell 0 rfl; have z1 := s1.lt; have x3 : ∀ o1 o2 o3, (((w1.alloc o1).alloc o2).alloc o3).cell? ⟨w.heap.size, 0, none⟩ = some (.slice a ts.length c) := fun o1 o2 o3 => (((S1.out.alloc o1).alloc o2).alloc o3).cell 0 rfl; clear s1 hb1)))
  have C0 := hide (ChkS.start ts (.slice a ts.length c) 59 HB1.out S1.out)
  clear hmm x3
  go_loopw [22] (fun i wr => ChkRel w w1.heap.size ts (.slice a ts.length c) i wr) (fun i _ => ts.length - (intOf i).toNat)
  case atStart => exact ⟨0, by omega, rfl, hide rfl, C0⟩
  case round =>
    obtain ⟨k, hk, rfl, hc0, hC⟩ := hrel
    by_cases hlt : k < ts.length
    · have HR := hide (H.out.only (S := fun b => w.heap.size ≤ b) (⟨hC.out.below.os, hC.out.below.tape, hC.out.below.output, hC.out.below.size, fun b hb hn => hC.out.below.block b (by omega)⟩) (fun b q => by have := FF.out b q; omega))
      obtain ⟨b1, o1, l1, q1, rfl, _, hb1, d0, d1, d2, hi1, wi⟩ := HR.out.at hlt
      have hal : Below wr.heap.size wr (wr.alloc (.cells #[.int .i64 ts[k].id, .bool ts[k].ab, .slice l1 ts[k].ops.length q1] 48)) := (Below.refl _ _).alloc (Nat.le_refl _) _
      have HO := hide (hi1.keep hal)
      have HI := hide (hC.out.ids.keep (Only.of_below (S := fun _ => False) hal) (fun q => q))
      have HV := hide (hC.out.vals.keep (Only.of_below (S := fun _ => False) hal) (fun q => q))
      have WI := hide wi
      have FO := hide (FW.out.2.2 _ (List.getElem_mem hlt))
      have HNV : Hid (opsN (ts.take k) + ts[k].ops.length < 1000000) := hide (by have q1 := opsN_take hlt; have q2 := opsN_take_le ts (k + 1); omega)
      have FB : Hid (∀ b, F b → b ≠ w1.heap.size ∧ b ≠ w1.heap.size + 1) := hide (fun b q => by have := FF.out b q; omega)
      have m0 : wr.cell? ⟨w1.heap.size + 1 + 1, 0, none⟩ = some (.map (some w1.heap.size)) := hC.out.box.cell 0 rfl
      have m1 : wr.cell? ⟨w1.heap.size + 1 + 1, 1, none⟩ = some (.map (some (w1.heap.size + 1))) := hC.out.box.cell 1 rfl
      have hz : w1.heap.size + 1 + 1 < wr.heap.size := hC.out.box.lt
      have hk5 : k < 100000 := by omega
      have HT := hide (chkTs_next hlt hc0.out)
      obtain ⟨e, he⟩ : ∃ e, chkT (ts.take k) ts[k] = e := ⟨_, rfl⟩
      have HE := hide he
      clear hal hi1 wi
      by_cases e0 : e = 0
      · subst e0
        clear he
        go_wp2_with (first | (go_at_call 24; go_must ((with_reducible refine (mettxn_any F ts[k] _ w1.heap.size (w1.heap.size + 1) k (opsN (ts.take k)) (ts.take k) _ HI.out HV.out (by omega) HO.out FB.out FO.out WI.out hk5 HNV.out).mono ?_); rw [HE.out]; rintro e' w7 ⟨rfl, ho7, hv7⟩; replace ho7 := hide ho7; replace hv7 := hide hv7)))
        have C7 := hide (ChkS.next hC.out hlt ho7.out (hv7.out (by trivial)).1 (hv7.out (by trivial)).2)
        go_roundw
        case rel => exact ⟨k + 1, by omega, by go_num, hide (HT.out.trans HE.out), C7⟩
        case measure => simp [intOf]; omega
      · have e1 : (e != 0) = true := by simpa using e0
        have TE : Hid (checkS ts = e) := hide (by have q := chkTs_stop (HT.out.trans he) e0; rw [T0.out, q, if_pos e0])
        clear he e0
        go_wp2_with (first | (go_at_call 24; go_must ((with_reducible refine (mettxn_any F ts[k] _ w1.heap.size (w1.heap.size + 1) k (opsN (ts.take k)) (ts.take k) _ HI.out HV.out (by omega) HO.out FB.out FO.out WI.out hk5 HNV.out).mono ?_); rw [HE.out]; rintro e' w7 ⟨rfl, ho7, hv7⟩; replace ho7 := hide ho7; replace hv7 := hide hv7)))
        go_ret
        exact ⟨by rw [TE.out]; rfl, ChkS.step hC.out ho7.out⟩
    · have e : k = ts.length := by omega
      subst e
      have q0 := hc0.out
      rw [List.take_length] at q0
      have hM : MayAll ts := valid_may (by have := chkTs_valid ts [] Valid.nil (by simp; exact LEN.out.1) q0; simpa using this)
      have MM := hide hM
      have HR := hide (H.out.only (S := fun b => w.heap.size ≤ b) (⟨hC.out.below.os, hC.out.below.tape, hC.out.below.output, hC.out.below.size, fun b hb hn => hC.out.below.block b (by omega)⟩) (fun b q => by have := FF.out b q; omega))
      have x1 : wr.cell? ⟨w.heap.size, 0, none⟩ = some (.slice a ts.length c) := hC.out.hist.cell 0 rfl
      obtain ⟨sz, hsz⟩ : ∃ sz, (sizeH ts : Int) = sz := ⟨_, rfl⟩
      have ES := hide hsz
      have HB := hide hC.out.below
      by_cases h3 : 262144 < sz
      · have T : Hid (checkS ts = 3) := hide (by rw [T0.out, q0, if_neg (by simp), if_pos (by have := sizeH_len ts; have := textH8_len ts; omega)])
        clear q0 hM hsz
        go_wp2_with (first | (go_at_call 18; go_must ((with_reducible refine (size_any F _ ts _ HR.out FW.out MM.out).mono ?_); rw [ES.out]; rintro e' w9 ⟨rfl, hb9⟩; have HB9 := hide (HB.out.trans (hb9.mono HB.out.size)); clear hb9)))
        go_ret
        exact ⟨by rw [T.out]; rfl, HB9.out⟩
      · have T : Hid (checkS ts = 0) := hide (by rw [T0.out, q0, if_neg (by simp), if_neg (by have := sizeH_len ts; have := textH8_len ts; omega)])
        clear q0 hM hsz
        go_wp2_with (first | (go_at_call 18; go_must ((with_reducible refine (size_any F _ ts _ HR.out FW.out MM.out).mono ?_); rw [ES.out]; rintro e' w9 ⟨rfl, hb9⟩; have HB9 := hide (HB.out.trans (hb9.mono HB.out.size)); clear hb9)))
        go_ret
        exact ⟨by rw [T.out]; rfl, HB9.out⟩
end Go.Proofs.Ytigmgkcojifbcaa.Hist

/- strings.Join, by the shelf's contract, over this program's numbers. -/
namespace Go.Proofs
open Go.Shelf Go.RowKit
def Try.lays156_ren : Go.Shelf.Ren := ⟨fun | 156 => 39 | 165 => 54 | 166 => 55 | 169 => 56 | 240 => 68 | 241 => 69 | 276 => 76 | 277 => 77 | n => n, fun | 31 => 54 | 9 => 9 | 3 => 3 | 4 => 4 | 0 => 0 | 20 => 20 | 72 => 105 | 76 => 109 | 70 => 103 | 37 => 27 | 75 => 108 | 127 => 121 | 164 => 125 | 5 => 5 | 80 => 111 | n => n, fun | n => n⟩
theorem Try.lays156 : Go.Proofs.Lays.n156 Try.prog Try.lays156_ren := {
  mixed := by kernel_rfl
  f156 := Try.func39.trans (congrArg some (by kernel_rfl))
  f165 := Try.func54.trans (congrArg some (by kernel_rfl))
  f166 := Try.func55.trans (congrArg some (by kernel_rfl))
  f169 := Try.func56.trans (congrArg some (by kernel_rfl))
  f240 := Try.func68.trans (congrArg some (by kernel_rfl))
  f241 := Try.func69.trans (congrArg some (by kernel_rfl))
  f276 := Try.func76.trans (congrArg some (by kernel_rfl))
  f277 := Try.func77.trans (congrArg some (by kernel_rfl))
  t0 := Try.underlying0
  a0 := Try.isAgg0
  z0 := Try.sizeOf0
  v0 := Try.zeroValue0
  t3 := Try.underlying3
  a3 := Try.isAgg3
  z3 := Try.sizeOf3
  v3 := Try.zeroValue3
  t4 := Try.underlying4
  a4 := Try.isAgg4
  z4 := Try.sizeOf4
  v4 := Try.zeroValue4
  t9 := Try.underlying9
  a9 := Try.isAgg9
  z9 := Try.sizeOf9
  v9 := Try.zeroValue9
  t20 := Try.underlying20
  a20 := Try.isAgg20
  z20 := Try.sizeOf20
  v20 := Try.zeroValue20
  t31 := Try.underlying54
  a31 := Try.isAgg54
  z31 := Try.sizeOf54
  v31 := Try.zeroValue54
  t37 := Try.underlying27
  a37 := Try.isAgg27
  z37 := Try.sizeOf27
  v37 := Try.zeroValue27
  t70 := Try.underlying103
  a70 := Try.isAgg103
  z70 := Try.sizeOf103
  v70 := Try.zeroValue103
  t72 := Try.underlying105
  a72 := Try.isAgg105
  z72 := Try.sizeOf105
  v72 := Try.zeroValue105
  t75 := Try.underlying108
  a75 := Try.isAgg108
  z75 := Try.sizeOf108
  v75 := Try.zeroValue108
  t76 := Try.underlying109
  a76 := Try.isAgg109
  z76 := Try.sizeOf109
  v76 := Try.zeroValue109
  t127 := Try.underlying121
  a127 := Try.isAgg121
  z127 := Try.sizeOf121
  v127 := Try.zeroValue121
  t164 := Try.underlying125
  a164 := Try.isAgg125
  z164 := Try.sizeOf125
  v164 := Try.zeroValue125 }
theorem Try.Builder_Extra_156 : Builder.Extra Try.prog Try.lays156_ren := {
  sizeBuilder := by kernel_rfl
  liesBuilder := by kernel_rfl
  t5 := Try.underlying5
  a5 := Try.isAgg5
  z5 := Try.sizeOf5
  v5 := Try.zeroValue5
  infoByte := by kernel_rfl
  cellsByte := by kernel_rfl
  sizeByte := by kernel_rfl
  neB5 := by decide }
namespace Ytigmgkcojifbcaa.Hist
/-- The texts of a row of n cells, a blank between each two. -/
def joinB : List (List UInt8) → List UInt8
  | [] => []
  | x :: l => x ++ (l.map fun y => 32 :: y).flatten
theorem join_any (bk o c : Nat) (xs : List (List UInt8)) (w : World) (hcells : ∀ (j : Nat) x, xs[j]? = some x → w.cell? ⟨bk, o + j, none⟩ = some (.string ⟨x.toArray⟩)) (hbk : bk < w.heap.size) (hN : xs.length ≤ 1000000) (hcap : xs.length ≤ c) (hlen : (joinB xs).length ≤ 100000000) :
    Calls Try.prog 39 #[.slice (some ⟨bk, o, none⟩) xs.length c, .string ⟨#[32]⟩] w fun e w' => e = .returned (.string ⟨(joinB xs).toArray⟩) ∧ Below w.heap.size w w' := by
  have e : ∀ ys : List (List UInt8), Lib.join ((ys.map fun x => (⟨x.toArray⟩ : ByteArray)).map (·.data.toList)) [32] = joinB ys := by
    intro ys
    rw [List.map_map, show ((fun x : ByteArray => x.data.toList) ∘ fun x : List UInt8 => (⟨x.toArray⟩ : ByteArray)) = id from rfl, List.map_id]
    cases ys with
    | nil => rfl
    | cons y l => rw [Lib.join_cons]; rfl
  have h := Any.strings_Join Try.lays156 Try.Builder_Extra_156 bk o c (xs.map fun x => (⟨x.toArray⟩ : ByteArray)) ⟨#[32]⟩ w (fun j x hx => by
    rw [List.getElem?_map] at hx
    cases hy : xs[j]? with
    | none => rw [hy] at hx; cases hx
    | some y => rw [hy] at hx; cases hx; exact hcells j y hy) hbk (by simp; omega) (by simpa using hcap) (by rw [e]; omega)
  rw [e, List.length_map] at h
  exact h
end Ytigmgkcojifbcaa.Hist
end Go.Proofs

/- Contracts of mark and opWords. -/
namespace Go.Proofs.Ytigmgkcojifbcaa.Hist
open Go.RowKit Go.Proofs.Ytigmgkcojifbcaa.Dig Go.Proofs.Ytigmgkcojifbcaa.Mem
set_option linter.unusedVariables false
set_option linter.unusedSimpArgs false

def markT (ab : Bool) : List UInt8 := if ab = true then [97] else [99]
theorem mark_any (id : Int) (ab : Bool) (ov : Value) (w : World) : Calls Try.prog 21 #[.agg #[.int .i64 id, .bool ab, ov]] w fun e w' => e = .returned (.string ⟨(markT ab).toArray⟩) ∧ Below w.heap.size w w' := by
  cases ab with
  | true =>
    go_enter Try.func21, Try.ntmps21
    go_wp2
    go_ret
    exact ⟨rfl, (Below.refl _ _).alloc (Nat.le_refl _) _⟩
  | false =>
    go_enter Try.func21, Try.ntmps21
    go_wp2
    go_ret
    exact ⟨rfl, (Below.refl _ _).alloc (Nat.le_refl _) _⟩
/-- An operation's words. -/
def words (o : OpM) : List (List UInt8) := if o.read = true then [114] :: txt o.key.toNat :: o.list.map (fun x => txt x.toNat) else [[97], txt o.key.toNat, txt o.value.toNat]
theorem words_join (o : OpM) : joinB (words o) ++ [10] = lineO8 o := by
  unfold words lineO8
  split
  · simp [joinB, flat8, Function.comp_def]
  · simp [joinB]
def strC (xs : List (List UInt8)) : List (List Value) := xs.map fun x => [.string ⟨x.toArray⟩]
/-- A row of texts, in block bk. -/
structure Words (w : World) (bk : Nat) (xs : List (List UInt8)) : Prop where
  cells : ∀ (j : Nat) x, xs[j]? = some x → w.cell? ⟨bk, j, none⟩ = some (.string ⟨x.toArray⟩)
  lt : bk < w.heap.size
theorem Words.keep {w w' : World} {bk : Nat} {xs : List (List UInt8)} {S : Nat → Prop} (h : Words w bk xs) (ho : Only S w w') (hs : ¬ S bk) : Words w' bk xs :=
  ⟨fun j x hx => ho.cell (h.cells j x hx) hs, Nat.lt_of_lt_of_le h.lt ho.size⟩
theorem Words.of_is {w : World} {b : Nat} {xs : List (List UInt8)} (h : Is w b (xs.map fun x => Value.string ⟨x.toArray⟩).toArray) : Words w b xs :=
  ⟨fun j x hx => h.cell j (by simp [hx]), h.lt⟩
theorem Words.of_own {w : World} {base g n cap : Nat} {xs : List (List UInt8)} (h : OwnC 9 1 base w (.slice (some ⟨g, 0, none⟩) n cap) (strC xs)) (hl : 0 < xs.length) : Words w g xs := by
  refine ⟨fun j x hx => ?_, (h.lt g rfl).2⟩
  have hj : j < (strC xs).length := by
    have : j < xs.length := by
      rcases Nat.lt_or_ge j xs.length with q | q
      · exact q
      · rw [List.getElem?_eq_none q] at hx; cases hx
    simpa [strC] using this
  have := OwnC.cell h hj (j := 0) (u := .string ⟨x.toArray⟩) (by
    simp only [strC, List.getElem_map]
    rw [List.getElem?_eq_getElem (by simpa [strC] using hj)] at hx
    simp at hx
    simp [hx])
  simpa using this
theorem text_at (n : Int) (w : World) {N : List UInt8} (h : mayN n) (hN : Hid (txt n.toNat = N)) : Calls Try.prog 20 #[.int .i64 n] w fun e w' => e = .returned (.string ⟨N.toArray⟩) ∧ Below w.heap.size w w' := by
  rw [← hN.out]; exact text_any n w h
/-- The operation's box. -/
structure OpBox (w : World) (rd : Bool) (o : OpM) (lv : Value) (wx : World) : Prop where
  below : Below w.heap.size w wx
  box : Is wx w.heap.size #[.bool rd, .int .i64 o.key, .int .i64 o.value, lv]
section
variable {w wx : World} {rd : Bool} {o : OpM} {lv : Value}
theorem OpBox.start (w : World) (rd : Bool) (o : OpM) (lv : Value) : OpBox w rd o lv (w.alloc (.cells #[.bool rd, .int .i64 o.key, .int .i64 o.value, lv] 45)) := ⟨(Below.refl _ _).alloc (Nat.le_refl _) _, Is.made w _ _ rfl⟩
theorem OpBox.keep {wy : World} (h : OpBox w rd o lv wx) (hb : Below wx.heap.size wx wy) : OpBox w rd o lv wy := ⟨h.below.trans (hb.mono h.below.size), h.box.below hb⟩
theorem textB {n : Int} {N : List UInt8} (h : Hid (OpBox w rd o lv wx)) (hn : mayN n) (hN : Hid (txt n.toNat = N)) : Calls Try.prog 20 #[.int .i64 n] wx fun e w' => e = .returned (.string ⟨N.toArray⟩) ∧ Hid (OpBox w rd o lv w') := by
  refine (text_at n wx hn hN).mono ?_
  rintro e w' ⟨rfl, hb⟩
  exact ⟨rfl, h.out.keep hb⟩
end
theorem Try.infoStr : (Try.prog.info? 9).map (fun i => (i.zero, i.size, i.bytes)) = some (some (.string ByteArray.empty), 1, 16) := by kernel_rfl
set_option maxRecDepth 20000 in
set_option maxHeartbeats 1000000 in
theorem opwords_app (F : Nat → Prop) (o : OpM) (lv : Value) (w : World) (h : IntsAt F w lv o.list) (hm : mayOpB o = true) (hr : o.read = false) :
    Calls Try.prog 22 #[.agg #[.bool false, .int .i64 o.key, .int .i64 o.value, lv]] w fun e w' => ∃ bk c, e = .returned (.slice (some ⟨bk, 0, none⟩) (words o).length c) ∧ Words w' bk (words o) ∧ (words o).length ≤ c ∧ Below w.heap.size w w' ∧ w.heap.size ≤ bk := by
  obtain ⟨a, c, rfl, _, _⟩ := h.shape
  obtain ⟨k1, k2, k3⟩ := mayOp_app hm hr
  have K1 := hide k1
  have K2 := hide k2
  obtain ⟨N1, hN1⟩ : ∃ N, txt o.key.toNat = N := ⟨_, rfl⟩
  obtain ⟨N2, hN2⟩ : ∃ N, txt o.value.toNat = N := ⟨_, rfl⟩
  have E1 := hide hN1
  have E2 := hide hN2
  have HW : Hid (words o = [[97], N1, N2]) := hide (by unfold words; rw [if_neg (by simp [hr]), hN1, hN2])
  have HX0 := hide (OpBox.start w false o (.slice a o.list.length c))
  have HX1 : Hid (OpBox w false o (.slice a o.list.length c) (w.alloc (.cells #[.bool false, .int .i64 o.key, .int .i64 o.value, .slice a o.list.length c] 45)).drew) := hide (HX0.out.keep (Below.refl _ _).drew)
  clear h hm hN1 hN2 k1 k2 k3 hr
  go_enter Try.func22, Try.ntmps22
  go_upto_region 2 with fail
  go_region_held3 (fun w' => w'.cell? ⟨w.heap.size, 0, none⟩ = some (.bool false) ∧ w'.cell? ⟨w.heap.size, 1, none⟩ = some (.int .i64 o.key) ∧ w'.cell? ⟨w.heap.size, 2, none⟩ = some (.int .i64 o.value)) (first | assumption | go_keep)
    (first | (go_at_call 20; (with_reducible refine (textB (n := o.key) (by assumption) K1.out E1).mono ?_); rintro e wx ⟨rfl, HX⟩; obtain ⟨⟨d0, d1, d2, d3⟩, -⟩ := HX.out.box.four; have hzx := HX.out.box.lt) | (go_at_call 20; (with_reducible refine (textB (n := o.value) (by assumption) K2.out E2).mono ?_); rintro e wx ⟨rfl, HX⟩; obtain ⟨⟨d0, d1, d2, d3⟩, -⟩ := HX.out.box.four; have hzx := HX.out.box.lt))
  all_goals
    have hWd := hide (Words.of_is (xs := [[97], N1, N2]) (Is.made wx _ 9 rfl))
    go_wp2
    go_ret
    exact ⟨_, 3, by rw [HW.out]; rfl, by rw [HW.out]; exact hWd.out, by rw [HW.out]; exact Nat.le_refl 3, HX.out.below.alloc HX.out.below.size _, HX.out.below.size⟩
def WRel (w : World) (o : OpM) (v i : Value) (wr : World) : Prop :=
  ∃ (k g cap : Nat), k ≤ o.list.length ∧ i = .int .i64 (k : Int) ∧ v = .slice (some ⟨g, 0, none⟩) (k + 2) cap ∧ k + 2 ≤ cap ∧ Hid (OwnC 9 1 w.heap.size wr (.slice (some ⟨g, 0, none⟩) (k + 2) cap) (strC ([114] :: txt o.key.toNat :: (o.list.take k).map (fun x => txt x.toNat)))) ∧ Hid (Below w.heap.size w wr)
theorem OwnC.full {w : World} {e : TypeId} {b base : Nat} {cs : Array Value} {rows : List (List Value)} {m : Nat} (hb : b = w.heap.size) (hB : base ≤ w.heap.size) (hr : rows.flatten = cs.toList) (h1 : ∀ c ∈ rows, c.length = 1) (hm : rows.length = m) (hmx : m ≤ 1000) :
    OwnC e 1 base (w.alloc (.cells cs e)) (.slice (some ⟨b, 0, none⟩) m m) rows := by
  subst hb
  have hl := flatten_len 1 rows h1
  rw [hr, hm, Nat.mul_one, Array.length_toList] at hl
  refine ⟨⟨by rw [hr, hm]; simpa using hl, .inr ⟨w.heap.size, m, cs, by rw [hm], hB, heap_alloc_new w _, by rw [hm]; exact Nat.le_refl _, by unfold maxLen; omega, by simpa using hl, ?_⟩⟩, h1⟩
  rw [hr, hm, ← hl, Nat.mul_one]
  exact List.take_of_length_le (by simp)
set_option maxRecDepth 20000 in
set_option maxHeartbeats 1000000 in
theorem opwords_read (F : Nat → Prop) (o : OpM) (lv : Value) (w : World) (h : IntsAt F w lv o.list) (hl : o.list.length ≤ 900000) (hm : mayOpB o = true) (hr : o.read = true) :
    Calls Try.prog 22 #[.agg #[.bool true, .int .i64 o.key, .int .i64 o.value, lv]] w fun e w' => ∃ bk c, e = .returned (.slice (some ⟨bk, 0, none⟩) (words o).length c) ∧ Words w' bk (words o) ∧ (words o).length ≤ c ∧ Below w.heap.size w w' ∧ w.heap.size ≤ bk := by
  obtain ⟨a, c, rfl, _, _⟩ := h.shape
  obtain ⟨k1, k2, k3⟩ := mayOp_read hm hr
  have H := hide h
  have K1 := hide k1
  have K2 := hide k2
  obtain ⟨N1, hN1⟩ : ∃ N, txt o.key.toNat = N := ⟨_, rfl⟩
  have E1 := hide hN1
  have HW : Hid (words o = [114] :: txt o.key.toNat :: o.list.map (fun x => txt x.toNat)) := hide (by unfold words; rw [if_pos hr])
  have HX0 := hide (OpBox.start w true o (.slice a o.list.length c))
  obtain ⟨i0, hi, hz0, hz1, hz2⟩ := info_parts Try.infoStr
  have HI0 : Hid (Try.prog.info? 9 = some i0 ∧ i0.zero = some (.string ByteArray.empty) ∧ i0.size = 1 ∧ i0.bytes = 16) := ⟨hi, hz0, hz1, hz2⟩
  clear h hm hN1 k1 k2 k3 hr hi hz0 hz1 hz2
  go_enter Try.func22, Try.ntmps22
  go_wp2_with (first | (go_at_call 20; (with_reducible refine (textB (n := o.key) (by assumption) K1.out E1).mono ?_); rintro e wx ⟨rfl, HX⟩; obtain ⟨⟨d0, d1, d2, d3⟩, -⟩ := HX.out.box.four; have hzx := HX.out.box.lt))
  have OW0 : Hid (OwnC 9 1 w.heap.size (wx.alloc (.cells #[.string ⟨#[114]⟩, .string ⟨N1.toArray⟩] 9)) (.slice (some ⟨wx.heap.size, 0, none⟩) 2 2) (strC ([114] :: txt o.key.toNat :: (o.list.take 0).map (fun x => txt x.toNat)))) := hide (OwnC.full rfl (by omega) (by rw [E1.out]; rfl) (by simp [strC]) (by simp [strC]) (by omega))
  have HB0 := hide (HX.out.below.alloc HX.out.below.size (.cells #[.string ⟨#[114]⟩, .string ⟨N1.toArray⟩] 9))
  go_loopw [3, 23] (fun v i wr => WRel w o v i wr) (fun _ i _ => o.list.length - (intOf i).toNat)
  case atStart => exact ⟨0, wx.heap.size, 2, by omega, rfl, rfl, by omega, OW0, HB0⟩
  case round =>
    obtain ⟨k, g, cap, hk, rfl, rfl, hcap, HO, HB⟩ := hrel
    by_cases hlt : k < o.list.length
    · obtain ⟨b, off, rfl, hc, hw⟩ := ints_at (H.out.keep HB.out) (by omega) hlt
      obtain ⟨N5, hN5⟩ : ∃ N, txt o.list[k].toNat = N := ⟨_, rfl⟩
      have E5 := hide hN5
      have K5 := hide (K2.out _ (List.getElem_mem hlt))
      have HLN : Hid ((strC ([114] :: txt o.key.toNat :: (o.list.take k).map (fun x => txt x.toNat))).length + [[Value.string ⟨N5.toArray⟩]].length ≤ 1000000) := hide (by simp [strC]; omega)
      have HLK : Hid ((strC ([114] :: txt o.key.toNat :: (o.list.take k).map (fun x => txt x.toNat))).length = k + 2) := hide (by simp [strC]; omega)
      clear hN5
      go_wp2_with (first
        | (go_at_call 20; go_must ((with_reducible refine (text_at o.list[k] _ K5.out E5).mono ?_); rintro e w1 ⟨rfl, hb1⟩; replace hb1 := hide hb1))
        | (at_builtin; go_must ((refine list_app_row rfl (.tmp 27) (.tmp 30) 54 rfl 9 i0 (.string ByteArray.empty) 1 16 Try.underlying54 HI0.out.1 HI0.out.2.1 HI0.out.2.2.1 HI0.out.2.2.2 rfl (by decide) (by decide) w.heap.size _ _ rfl (HO.out.keep (Only.of_below (S := fun _ => False) (hb1.out.alloc (by have := hb1.out.size; omega) _)) (fun _ _ q => q)) _ _ [[.string ⟨N5.toArray⟩]] rfl (RowAt.one rfl (Is.made w1 _ _ rfl) (by omega) (by unfold maxLen; omega)) (by simp [Value.oneCell']) HLN.out (by have := HB.out.size; have := hb1.out.size; simp; omega) ?_); intro v5 w5 hown5 ho5 hat5; obtain ⟨g5, c5, rfl, hc5, -⟩ := own_snoc_some hown5 HLK.out; have HB5 := hide (Below.only ((HB.out.trans (hb1.out.mono HB.out.size)).alloc (by have := HB.out.size; have := hb1.out.size; omega) _) ho5 (fun k q => (HO.out.lt k q).1) (by have := HB.out.size; have := hb1.out.size; simp; omega)); have HO5 := hide hown5; clear hown5 ho5 hat5)))
      go_roundw
      case rel =>
        refine ⟨k + 1, g5, c5, by omega, by go_num, rfl, hc5, hide ?_, HB5⟩
        have e1 : strC ([114] :: txt o.key.toNat :: (o.list.take (k + 1)).map (fun x => txt x.toNat)) = strC ([114] :: txt o.key.toNat :: (o.list.take k).map (fun x => txt x.toNat)) ++ [[.string ⟨N5.toArray⟩]] := by
          rw [List.take_succ_eq_append_getElem hlt, ← E5.out]; simp only [strC, List.map_append, List.map_cons, List.map_nil, List.cons_append]
        rw [e1]
        exact HO5.out
      case measure => simp [intOf]; omega
    · have e : k = o.list.length := by omega
      subst e
      have HO9 := HO.out
      rw [List.take_length, ← HW.out] at HO9
      have HLW : Hid ((words o).length = o.list.length + 2) := hide (by rw [HW.out]; simp)
      have HWd := hide (Words.of_own HO9 (by have := HLW.out; omega))
      have HG := hide (HO9.lt g rfl).1
      clear HO9
      go_wp2
      go_ret
      exact ⟨g, cap, by rw [HLW.out]; first | done | rfl | simp, HWd.out, by rw [HLW.out]; exact hcap, HB.out, HG.out⟩
theorem opwords_any (F : Nat → Prop) (o : OpM) (rd : Bool) (lv : Value) (w : World) (h : IntsAt F w lv o.list) (hl : o.list.length ≤ 900000) (hm : mayOpB o = true) (hr : o.read = rd) :
    Calls Try.prog 22 #[.agg #[.bool rd, .int .i64 o.key, .int .i64 o.value, lv]] w fun e w' => ∃ bk c, e = .returned (.slice (some ⟨bk, 0, none⟩) (words o).length c) ∧ Words w' bk (words o) ∧ (words o).length ≤ c ∧ Below w.heap.size w w' ∧ w.heap.size ≤ bk := by
  cases rd with
  | true => exact opwords_read F o lv w h hl hm hr
  | false => exact opwords_app F o lv w h hm hr
end Go.Proofs.Ytigmgkcojifbcaa.Hist

/- A row of numbers that a call made itself, and what an append to it leaves: of another row, whatever its address, and of a string's bytes. -/
namespace Go.Proofs.Ytigmgkcojifbcaa.Dig
open Go.RowKit
set_option linter.unusedVariables false
set_option linter.unusedSimpArgs false

/-- v is a row of the call's own (its blocks are numbered from base on) that holds the numbers l. -/
def Own (e : TypeId) (k : IntKind) (base : Nat) (w : World) (v : Value) (l : List Int) : Prop := w.ownsRow base e 1 v l.length (l.map (Value.int k))

theorem Own.nil (e : TypeId) (k : IntKind) (base : Nat) (w : World) : Own e k base w (.slice none 0 0) [] := World.ownsRow_nil _ _ _ _
theorem Own.empty (e : TypeId) (k : IntKind) (base : Nat) (w : World) (n : Nat) (hn : n = w.heap.size) (hb : base ≤ w.heap.size) : Own e k base (w.alloc (.cells #[] e)) (.slice (some ⟨n, 0, none⟩) 0 0) [] := by
  subst hn
  exact World.ownsRow_made w #[] 0 hb (by unfold maxLen; omega) (by simp)
theorem Own.lt {e : TypeId} {k : IntKind} {base : Nat} {w : World} {v : Value} {l : List Int} (h : Own e k base w v l) : ∀ b, v.ownBlock = some b → base ≤ b ∧ b < w.heap.size := World.ownsRow.lt h
theorem Own.keep {e : TypeId} {k : IntKind} {base : Nat} {w w' : World} {v : Value} {l : List Int} (h : Own e k base w v l) (hb : Below w.heap.size w w') : Own e k base w' v l := by
  refine ⟨h.1, ?_⟩
  rcases h.2 with hn | ⟨g, cap, cur, rfl, hg, hh, r⟩
  · exact .inl hn
  · have hlt : g < w.heap.size := by
      rcases Nat.lt_or_ge g w.heap.size with q | q
      · exact q
      · simp [Array.getElem?_eq_none q] at hh
    exact .inr ⟨g, cap, cur, rfl, hg, by rw [hb.block g hlt]; exact hh, r⟩
theorem Own.alloc {e : TypeId} {k : IntKind} {base : Nat} {w : World} {v : Value} {l : List Int} (h : Own e k base w v l) (o : Obj) : Own e k base (w.alloc o) v l := World.ownsRow.alloc h o
/-- Its shape, and how it is read. -/
theorem Own.shape {e : TypeId} {k : IntKind} {base : Nat} {w : World} {v : Value} {l : List Int} (h : Own e k base w v l) (hl : l.length ≤ 1000000000000) (hw : ∀ n ∈ l, (Lit.int k n).wf = true) :
    ∃ a cap, v = .slice a l.length cap ∧ l.length ≤ cap ∧ Rd k w a l.length (fun i => l.getD i 0) := by
  have h' := h
  unfold Own at h'
  rcases h.2 with ⟨hv, h0⟩ | ⟨g, cap, cur, hv, hg, hh, hc1, hc2, hc3, hc4⟩
  · have : l = [] := by cases l with
      | nil => rfl
      | cons x l => simp at h0
    subst this
    exact ⟨none, 0, hv, by simp, by simp, fun i hi => by simp at hi⟩
  · refine ⟨_, cap, hv, hc1, hl, fun i hi => ⟨g, 0, rfl, ?_, ?_⟩⟩
    · subst hv
      rw [Nat.zero_add, h'.cellAt i (by omega)]
      simp [List.getD_eq_getElem?_getD, List.getElem?_eq_getElem hi]
    · simp only [List.getD_eq_getElem?_getD, List.getElem?_eq_getElem hi, Option.getD_some]
      exact hw _ (List.getElem_mem hi)

/-- The same with its length and its elements named. -/
theorem Own.view {e : TypeId} {k : IntKind} {base : Nat} {w : World} {v : Value} {l : List Int} (h : Own e k base w v l) (hl : l.length ≤ 1000000000000) (hw : ∀ n ∈ l, (Lit.int k n).wf = true) :
    ∃ a cap n z, v = .slice a n cap ∧ Hid (n = l.length) ∧ Hid (z = fun i => l.getD i 0) ∧ n ≤ cap ∧ Rd k w a n z := by
  obtain ⟨a, cap, rfl, h1, h2⟩ := h.shape hl hw
  exact ⟨a, cap, _, _, rfl, rfl, rfl, h1, h2⟩
theorem wf_u8 {n : Int} (h0 : 0 ≤ n) (h1 : n ≤ 255) : (Lit.int .u8 n).wf = true := WalkArith.wf_u8 (by omega)
theorem wf_txtI (n : Nat) : ∀ x ∈ (txt n).map (fun b : UInt8 => (b.toNat : Int)), (Lit.int .u8 x).wf = true := by
  intro x hx
  obtain ⟨b, _, rfl⟩ := List.mem_map.1 hx
  have := b.toNat_lt
  exact wf_u8 (by omega) (by omega)

section
variable {P : Program} {w w0 : World} {ops : Array Oper} {rest : List Oper} {o : Oper} {a : Act} {Q : Exit → Act → World → Prop}
/-- append(v, x...), x whatever row of numbers. -/
theorem app_slice (hgd : o.guard = none) (s x : Operand) (t : TypeId) (ho : o.op = .call { callee := .builtin .append, args := #[s, x], argTypes := #[t, t] })
    (e : TypeId) (i : TypeInfo) (z : Value) (bytes : Nat) (ht : P.underlying t = some (.slice e)) (hi : P.info? e = some i) (hz : i.zero = some z) (hsize : i.size = 1) (hby : i.bytes = bytes) (hzs : z.cells.size = 1) (hb8 : bytes ≤ 8)
    (k : IntKind) (base : Nat) (v : Value) (l : List Int) (hs : a.eval s = v) (hown : Own e k base w v l) (ao : Option Addr) (m c : Nat) (ns : List Int) (hx : a.eval x = .slice ao m c) (hm : ns.length = m)
    (hr : Rd k w ao m (fun i => ns.getD i 0)) (hnil : ao = none → m = 0 ∧ c = 0) (hb : l.length + m ≤ 1000000) (hbase : base ≤ w.heap.size) (B : Nat) (hB : B ≤ base) (hbel : Below B w0 w)
    (h : ∀ v' w', Own e k base w' v' (l ++ ns) → Below B w0 w' → w.heap.size ≤ w'.heap.size → wpList P ops Q rest (a.put o.dst v') w') : wpList P ops Q (o :: rest) a w := by
  cases ao with
  | none =>
    obtain ⟨rfl, rfl⟩ := hnil rfl
    have : ns = [] := List.eq_nil_of_length_eq_zero hm
    subst this
    exact wpList_append_own_none hgd s x t ho base e i 1 ht hi v l.length (l.map (Value.int k)) hs hown hx (h v w (by simpa using hown) hbel (Nat.le_refl _))
  | some ad =>
    refine wpList_append_own w hgd s x t ho base e i z 1 bytes ht hi hz hsize hby hzs (by omega) v l.length (l.map (Value.int k)) hs hown ad m c (ns.map (Value.int k)) hx (by simp [hm]) ?_ ?_ (by unfold maxLen; omega) ?_ hbase ?_
    · intro j u hu
      rw [List.getElem?_map] at hu
      have hj : j < ns.length := by
        rcases Nat.lt_or_ge j ns.length with q | q
        · exact q
        · rw [List.getElem?_eq_none q] at hu; simp at hu
      obtain ⟨b, off, hab, hc, _⟩ := hr.2 j (by omega)
      obtain rfl := Option.some.inj hab
      rw [Addr.add_lit, hc, ← hu]
      simp [List.getD_eq_getElem?_getD, List.getElem?_eq_getElem hj]
    · intro u hu
      obtain ⟨n, _, rfl⟩ := List.mem_map.1 hu
      rfl
    · have : (l.length + m) * bytes ≤ (l.length + m) * 8 := Nat.mul_le_mul_left _ hb8
      omega
    · intro v' w' hown' hgrow _
      refine h v' w' ?_ (hbel.grown hgrow (Nat.le_trans hB hbase) (fun k hk => Nat.le_trans hB (hown.lt k hk).1)) hgrow.size
      unfold Own
      rw [List.length_append, List.map_append, hm]
      exact hown'
theorem strCells_of (l : List UInt8) : Lib.strCells ⟨l.toArray⟩ = (l.map fun b => (b.toNat : Int)).map (Value.int .u8) := by simp [Lib.strCells, Function.comp_def]
/-- append(v, s...), s a string. -/
theorem app_string (hgd : o.guard = none) (s x : Operand) (t u : TypeId) (ho : o.op = .call { callee := .builtin .append, args := #[s, x], argTypes := #[t, u] })
    (e : TypeId) (i : TypeInfo) (ht : P.underlying t = some (.slice e)) (hu : P.underlying u = some .string) (hi : P.info? e = some i) (hz : i.zero = some (.int .u8 0)) (hsize : i.size = 1) (hby : i.bytes = 1)
    (base : Nat) (v : Value) (l : List Int) (hs : a.eval s = v) (hown : Own e .u8 base w v l) (ns : List UInt8) (hx : a.eval x = .string ⟨ns.toArray⟩)
    (hb : l.length + ns.length ≤ 1000000) (hbase : base ≤ w.heap.size) (B : Nat) (hB : B ≤ base) (hbel : Below B w0 w)
    (h : ∀ v' w', Own e .u8 base w' v' (l ++ ns.map fun b => (b.toNat : Int)) → Below B w0 w' → w.heap.size ≤ w'.heap.size → wpList P ops Q rest (a.put o.dst v') w') : wpList P ops Q (o :: rest) a w := by
  have hsz : ByteArray.size ⟨ns.toArray⟩ = ns.length := by simp [ByteArray.size]
  refine Lib.wpList_append_own_string w hgd s x t u ho base e i ht hu hi hz hsize hby v l.length (l.map (Value.int .u8)) hs hown ⟨ns.toArray⟩ hx (by rw [hsz]; unfold maxLen; omega) (by rw [hsz]; omega) hbase ?_
  intro v' w' hown' hgrow _
  refine h v' w' ?_ (hbel.grown hgrow (Nat.le_trans hB hbase) (fun k hk => Nat.le_trans hB (hown.lt k hk).1)) hgrow.size
  unfold Own
  rw [List.length_append, List.map_append, List.length_map, ← strCells_of]
  rw [hsz] at hown'
  exact hown'
end
end Go.Proofs.Ytigmgkcojifbcaa.Dig

/- addLine: a line, put behind bytes that have room for it. -/
namespace Go.Proofs.Ytigmgkcojifbcaa.Hist
open Go.RowKit Go.Proofs.Ytigmgkcojifbcaa.Dig Go.Proofs.Ytigmgkcojifbcaa.Mem
set_option linter.unusedVariables false
set_option linter.unusedSimpArgs false

/-- Block g is a row of bytes of the call's own, with room for cap: l stands in it. -/
def BRow (w : World) (g cap : Nat) (l : List UInt8) : Prop := w.ownsRow g 5 1 (.slice (some ⟨g, 0, none⟩) l.length cap) l.length ((toI l).map (Value.int .u8))
theorem BRow.keep {w w' : World} {g cap : Nat} {l : List UInt8} {S : Nat → Prop} (h : BRow w g cap l) (ho : Only S w w') (hs : ¬ S g) : BRow w' g cap l := by
  refine ⟨h.1, ?_⟩
  rcases h.2 with hn | ⟨g', cap', cur, e, hg, hh, r⟩
  · exact .inl hn
  · have e' := e
    simp at e
    obtain ⟨rfl, rfl⟩ := e
    have hlt : g < w.heap.size := by
      rcases Nat.lt_or_ge g w.heap.size with q | q
      · exact q
      · rw [Array.getElem?_eq_none q] at hh; cases hh
    exact .inr ⟨g, cap, cur, e', hg, by rw [ho.block g hlt hs]; exact hh, r⟩
theorem BRow.lt {w : World} {g cap : Nat} {l : List UInt8} (h : BRow w g cap l) : g < w.heap.size := (World.ownsRow.lt h g rfl).2
theorem BRow.below {w w' : World} {g cap : Nat} {l : List UInt8} (h : BRow w g cap l) (ho : Below w.heap.size w w') : BRow w' g cap l := h.keep (Only.of_below (S := fun _ => False) ho) (fun q => q)
theorem strCells_toI (l : List UInt8) : Lib.strCells ⟨l.toArray⟩ = (toI l).map (Value.int .u8) := strCells_of l
section
variable {P : Program} {w : World} {ops : Array Oper} {rest : List Oper} {o : Oper} {a : Act} {Q : Exit → Act → World → Prop}
theorem spare_string (g cap : Nat) (l m : List UInt8) (h : BRow w g cap l) (t u ty : TypeId) (i : TypeInfo) (ht : P.underlying t = some (.slice 5)) (hu : P.underlying u = some .string) (hi : P.info? 5 = some i) (hsize : i.size = 1) (hroom : l.length + m.length ≤ cap) :
    ∃ w', (Builtin.append_ #[t, u] ty #[.slice (some ⟨g, 0, none⟩) l.length cap, .string ⟨m.toArray⟩]).run P w = .ok (.slice (some ⟨g, 0, none⟩) (l ++ m).length cap) w' ∧ BRow w' g cap (l ++ m) ∧ Only (fun k => k = g) w w' := by
  have hms : ByteArray.size ⟨m.toArray⟩ = m.length := by simp [ByteArray.size]
  rcases h.2 with ⟨e, _⟩ | ⟨g', cap', cur, hv, hbg, hg, hnc, hcm, hcs, htake⟩
  · cases e
  · cases hv
    have hcs' : cur.size = cap := by simpa using hcs
    have hr := Lib.run_append_room_string (P := P) w t u ty 5 i ht hu hi hsize g l.length cap cur hg ⟨m.toArray⟩ (by rw [hms]; exact hroom) (by rw [hms]; omega)
    rw [hms] at hr
    refine ⟨_, by rw [List.length_append]; exact hr, ⟨by simp [toI], .inr ⟨g, cap, _, rfl, hbg, setRow_heap w g cur _ 5 _ hg, by rw [List.length_append]; exact hroom, hcm, ?_, ?_⟩⟩, ⟨rfl, rfl, rfl, by simp, fun k _ hk => setRow_other w g k _ hk⟩⟩
    · simp [Lib.strCells_length, hms]
      omega
    · have ht' : cur.toList.take l.length = (toI l).map (Value.int .u8) := by simpa using htake
      rw [ht', strCells_toI, ← List.map_append]
      have e1 : toI l ++ toI m = toI (l ++ m) := by simp [toI]
      rw [e1]
      exact List.take_left' (by rw [List.length_map, toI_len]; omega)
theorem spare_bytes (g cap : Nat) (l m : List UInt8) (h : BRow w g cap l) (t ty : TypeId) (i : TypeInfo) (ht : P.underlying t = some (.slice 5)) (hi : P.info? 5 = some i) (hsize : i.size = 1) (b c : Nat) (hb : Is w b ((toI m).map (Value.int .u8)).toArray) (hroom : l.length + m.length ≤ cap) :
    ∃ w', (Builtin.append_ #[t, t] ty #[.slice (some ⟨g, 0, none⟩) l.length cap, .slice (some ⟨b, 0, none⟩) m.length c]).run P w = .ok (.slice (some ⟨g, 0, none⟩) (l ++ m).length cap) w' ∧ BRow w' g cap (l ++ m) ∧ Only (fun k => k = g) w w' := by
  obtain ⟨w', hr, h2, h3⟩ := run_append_own_spare (P := P) w g t ty 5 i 1 ht hi hsize g l.length cap ((toI l).map (Value.int .u8)) h ⟨b, 0, none⟩ m.length c ((toI m).map (Value.int .u8)) (by simp [toI]) (fun j u hu => by
    rw [Addr.add_lit, Nat.zero_add]
    exact hb.cell j (by simpa using hu)) (fun u hu => by obtain ⟨n, _, rfl⟩ := List.mem_map.1 hu; rfl) hroom
  refine ⟨w', by rw [List.length_append]; exact hr, ?_, ⟨h3.os, h3.tape, h3.output, h3.size, fun k hk hn => h3.block k hk (fun q => hn (by simpa using q))⟩⟩
  unfold BRow
  have e1 : toI (l ++ m) = toI l ++ toI m := by simp [toI]
  rw [List.length_append, e1, List.map_append]
  exact h2
theorem list_spare_string (hgd : o.guard = none) (s x : Operand) (t u : TypeId) (ho : o.op = .call { callee := .builtin .append, args := #[s, x], argTypes := #[t, u] })
    (g cap n n' : Nat) (l m r : List UInt8) (h : BRow w g cap l) (hn : l.length = n) (hr : l ++ m = r) (hn' : r.length = n') (i : TypeInfo) (ht : P.underlying t = some (.slice 5)) (hu : P.underlying u = some .string) (hi : P.info? 5 = some i) (hsize : i.size = 1) (hs : a.eval s = .slice (some ⟨g, 0, none⟩) n cap) (hx : a.eval x = .string ⟨m.toArray⟩) (hroom : n' ≤ cap)
    (hk : ∀ w', BRow w' g cap r → Only (fun k => k = g) w w' → wpList P ops Q rest (a.put o.dst (.slice (some ⟨g, 0, none⟩) n' cap)) w') : wpList P ops Q (o :: rest) a w := by
  subst hn hr hn'
  obtain ⟨w', hr, h2, h3⟩ := spare_string (P := P) g cap l m h t u o.type i ht hu hi hsize (by rw [List.length_append] at hroom; exact hroom)
  refine wpList_plain hgd fun K hK => ?_
  unfold Oper.wp execOp
  simp only [ho, resolve, invoke, builtin, Sem.run_bind, Sem.run_pure, Result.andThen_ok, List.map_toArray, List.map_cons, List.map_nil, hs, hx, hr]
  exact hK _ _ (hk w' h2 h3)
theorem list_spare_bytes (hgd : o.guard = none) (s x : Operand) (t : TypeId) (ho : o.op = .call { callee := .builtin .append, args := #[s, x], argTypes := #[t, t] })
    (g cap n n' k0 : Nat) (l m r : List UInt8) (h : BRow w g cap l) (hn : l.length = n) (hr : l ++ m = r) (hn' : r.length = n') (hm : m.length = k0) (i : TypeInfo) (ht : P.underlying t = some (.slice 5)) (hi : P.info? 5 = some i) (hsize : i.size = 1) (b c : Nat) (hb : Is w b ((toI m).map (Value.int .u8)).toArray) (hs : a.eval s = .slice (some ⟨g, 0, none⟩) n cap) (hx : a.eval x = .slice (some ⟨b, 0, none⟩) k0 c) (hroom : n' ≤ cap)
    (hk : ∀ w', BRow w' g cap r → Only (fun k => k = g) w w' → wpList P ops Q rest (a.put o.dst (.slice (some ⟨g, 0, none⟩) n' cap)) w') : wpList P ops Q (o :: rest) a w := by
  subst hn hr hn' hm
  obtain ⟨w', hr, h2, h3⟩ := spare_bytes (P := P) g cap l m h t o.type i ht hi hsize b c hb (by rw [List.length_append] at hroom; exact hroom)
  refine wpList_plain hgd fun K hK => ?_
  unfold Oper.wp execOp
  simp only [ho, resolve, invoke, builtin, Sem.run_bind, Sem.run_pure, Result.andThen_ok, List.map_toArray, List.map_cons, List.map_nil, hs, hx, hr]
  exact hK _ _ (hk w' h2 h3)
end
theorem Try.infoU8e : (Try.prog.info? 5).map (fun i => (i.zero, i.size, i.bytes)) = some (some (.int .u8 0), 1, 1) := by kernel_rfl
set_option maxHeartbeats 1000000 in
theorem addline_any (g cap bk c n n' m : Nat) (l r : List UInt8) (xs : List (List UInt8)) (w : World) (h : BRow w g cap l) (hn : l.length = n) (hr : l ++ joinB xs ++ [10] = r) (hn' : r.length = n') (hm : xs.length = m)
    (hcells : ∀ (j : Nat) x, xs[j]? = some x → w.cell? ⟨bk, j, none⟩ = some (.string ⟨x.toArray⟩)) (hbk : bk < w.heap.size) (hm1 : m ≤ 1000000) (hc : m ≤ c) (hroom : n' ≤ cap) (hcap : cap ≤ 100000000) :
    Calls Try.prog 19 #[.slice (some ⟨g, 0, none⟩) n cap, .slice (some ⟨bk, 0, none⟩) m c] w fun e w' => e = .returned (.slice (some ⟨g, 0, none⟩) n' cap) ∧ BRow w' g cap r ∧ Only (fun k => k = g) w w' := by
  obtain ⟨J, hJ⟩ : ∃ J, joinB xs = J := ⟨_, rfl⟩
  obtain ⟨r1, hr1⟩ : ∃ r1, l ++ J = r1 := ⟨_, rfl⟩
  obtain ⟨n1, hn1⟩ : ∃ n1, r1.length = n1 := ⟨_, rfl⟩
  rw [hJ, hr1] at hr
  have hr2 : n1 + 1 = n' := by rw [← hn', ← hr, List.length_append, hn1]; rfl
  have hr3 : n + J.length = n1 := by rw [← hn1, ← hr1, List.length_append, hn]
  have HJ : Hid (∀ w0, (∀ (j : Nat) x, xs[j]? = some x → w0.cell? ⟨bk, 0 + j, none⟩ = some (.string ⟨x.toArray⟩)) → bk < w0.heap.size → Calls Try.prog 39 #[.slice (some ⟨bk, 0, none⟩) m c, .string ⟨#[32]⟩] w0 fun e w' => e = .returned (.string ⟨J.toArray⟩) ∧ Below w0.heap.size w0 w') := hide (fun w0 h1 h2 => by
    have := join_any bk 0 c xs w0 h1 h2 (by omega) (by omega) (by rw [hJ]; omega)
    rw [hJ, hm] at this
    exact this)
  have H := hide h
  have HC := hide hcells
  have Hn := hide hn
  have Hr := hide hr
  have Hr1 := hide hr1
  have Hn' := hide hn'
  have Hn1 := hide hn1
  obtain ⟨i0, hi, hz0, hz1, hz2⟩ := info_parts Try.infoU8e
  have HI0 : Hid (Try.prog.info? 5 = some i0 ∧ i0.size = 1) := ⟨hi, hz1⟩
  have hmade : ∀ w0 : World, Is (w0.alloc (.cells #[.int .u8 10] 5)) w0.heap.size ((toI [10]).map (Value.int .u8)).toArray := fun w0 => Is.made w0 _ _ rfl
  clear h hcells hi hz0 hz1 hz2 hn hr hr1 hn' hn1 hJ
  go_enter Try.func19, Try.ntmps19
  go_wp2_with (first
    | (go_at_call 39; go_must ((with_reducible refine (HJ.out _ (fun j x hx => by rw [Nat.zero_add]; exact HC.out j x hx) hbk).mono ?_); rintro e w1 ⟨rfl, hb1⟩; have H1 := hide (H.out.below hb1); have O1 := hide (Only.of_below (S := fun k => k = g) hb1); clear hb1))
    | (at_builtin; (refine list_spare_string rfl (.tmp 5) (.tmp 7) 27 9 rfl g cap n n1 l J r1 H1.out Hn.out Hr1.out Hn1.out i0 Try.underlying27 Try.underlying9 HI0.out.1 HI0.out.2 rfl rfl (by omega) ?_); intro w2 h2 o2; have H2 := hide h2; have O2 := hide (O1.out.trans o2); clear h2 o2)
    | (at_builtin; go_must ((refine list_spare_bytes rfl (.tmp 9) (.tmp 10) 27 rfl g cap n1 n' 1 r1 [10] r (H2.out.keep ((Only.refl (fun _ => False) _).alloc _) (fun q => q)) Hn1.out Hr.out Hn'.out rfl i0 Try.underlying27 HI0.out.1 HI0.out.2 w2.heap.size 1 (hmade w2) rfl rfl (by omega) ?_); intro w3 h3 o3; have H3 := hide h3; have O3 := hide (((O2.out.alloc _).trans o3)); clear h3 o3)))
  go_ret
  exact ⟨rfl, H3.out, O3.out⟩
end Go.Proofs.Ytigmgkcojifbcaa.Hist
