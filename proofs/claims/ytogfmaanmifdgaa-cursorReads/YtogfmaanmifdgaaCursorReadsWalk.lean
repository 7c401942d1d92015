/- CursorReads, walked. -/
import Derived.Test.YtogfmaanmifdgaaCurLive
import Derived.Test.YtogfmaanmifdgaaCurWorks
import Derived.Test.YtogfmaanmifdgaaRecs
import Derived.Test.YtogfmaanmifdgaaReadsPlain
import Derived.Test.YtogfmaanmifdgaaDigPrint
import Derived.Laws.BytesArg
import Derived.Deep.LoopGhost
import Derived.Deep.DeepCutAuto
import Derived.Deep.CutBlock
namespace Go.Proofs.Ytogfmaanmifdgaa.Walk
open Go.RowKit Go.Proofs.Ytogfmaanmifdgaa.Dig Go.Proofs.Ytogfmaanmifdgaa.Mem Go.Proofs.Ytogfmaanmifdgaa.Cur
set_option linter.unusedVariables false
set_option linter.unusedSimpArgs false

def ReadsRel (w : World) (cb : Nat) (a : Option Addr) (len cap : Nat) (z : Nat → Int) (n g : Nat) (v k : Value) (wr : World) : Prop :=
  ∃ (i : Nat) (s : St) (l : List UInt8), i ≤ n ∧ k = .int .i64 (i : Int) ∧ g = n - i ∧ Live wr cb a len cap z s ∧ s.e = 0 ∧ v = .string ⟨l.toArray⟩ ∧ bytesI l = sub z 0 s.at_ ∧ Below w.heap.size w wr
def ReadsMid (w : World) (cb : Nat) (a : Option Addr) (len cap : Nat) (z : Nat → Int) (s : St) (v : Value) (wx : World) : Prop :=
  ∃ (s' : St) (ls : List UInt8), v = .string ⟨ls.toArray⟩ ∧ Live wx cb a len cap z s' ∧ Below w.heap.size w wx ∧ ((s'.e = 0 ∧ s.at_ ≤ s'.at_ ∧ bytesI ls = sub z s.at_ (s'.at_ - s.at_)) ∨ (s'.e ≠ 0 ∧ s'.at_ = s.at_))
theorem u8_back {x : Int} (h : (Lit.int .u8 x).wf = true) : ((UInt8.ofNat x.toNat).toNat : Int) = x := by
  have := bounds_u8 h
  simp only [UInt8.toNat_ofNat']
  omega
theorem byte_mid {z : Nat → Int} {len : Nat} {s : St} {x : Int} (he : s.e = 0) (hx : (Lit.int .u8 x).wf = true) :
    ((byteS z len s x).e = 0 ∧ s.at_ ≤ (byteS z len s x).at_ ∧ bytesI [UInt8.ofNat x.toNat] = sub z s.at_ ((byteS z len s x).at_ - s.at_)) ∨ ((byteS z len s x).e ≠ 0 ∧ (byteS z len s x).at_ = s.at_) := by
  unfold byteS
  rw [if_pos he]
  by_cases h : s.at_ < len ∧ z s.at_ = x
  · rw [if_pos h]
    refine .inl ⟨he, by show s.at_ ≤ s.at_ + 1; omega, ?_⟩
    show bytesI _ = sub z s.at_ (s.at_ + 1 - s.at_)
    rw [show s.at_ + 1 - s.at_ = 0 + 1 by omega, sub_succ]
    show [((UInt8.ofNat x.toNat).toNat : Int)] = [] ++ [z (s.at_ + 0)]
    rw [u8_back hx, Nat.add_zero, h.2]
    rfl
  · rw [if_neg h]
    refine .inr ⟨?_, failS_at _ _ _⟩
    unfold failS
    rw [if_pos ⟨he, by decide⟩]
    show (4 : Int) ≠ 0
    decide
theorem num_mid {z : Nat → Int} {len : Nat} {s : St} (he : s.e = 0) (hat : s.at_ ≤ len) :
    ((numS z len s).1.e = 0 ∧ s.at_ ≤ (numS z len s).1.at_ ∧ bytesI (printS (numS z len s).2) = sub z s.at_ ((numS z len s).1.at_ - s.at_)) ∨ ((numS z len s).1.e ≠ 0 ∧ (numS z len s).1.at_ = s.at_) := by
  unfold numS
  rw [if_pos he]
  rcases parse_two z len s.at_ hat with ⟨n, t, h1, h2, hn0, hn1, hp⟩ | ⟨t, h1, h2, hp⟩
  · have ht := (parse_text hat hp).2.2.2.2
    rw [hp]
    refine .inl ⟨by simpa using he, by simp; omega, ?_⟩
    have hpr : printS n = txt n.toNat := by unfold printS; rw [if_pos ⟨hn0, hn1⟩]
    simp only [if_true, Int.toNat_natCast]
    rw [hpr, bytesI_txt, ht]
  · rw [hp]
    refine .inr ⟨?_, by simp [failS_at]⟩
    simp [failS, he]
theorem list_mid {z : Nat → Int} {len : Nat} {s : St} (he : s.e = 0) (hat : s.at_ ≤ len) (hl : len ≤ 300) :
    (((listS z len s).1.e = 0 ∧ s.at_ ≤ (listS z len s).1.at_ ∧ bytesI (flatB (listS z len s).2) = sub z s.at_ ((listS z len s).1.at_ - s.at_)) ∨ ((listS z len s).1.e ≠ 0 ∧ (listS z len s).1.at_ = s.at_)) ∧
    (flatB (listS z len s).2).length ≤ 300 ∧ (listS z len s).2.length ≤ 300 := by
  unfold listS
  rw [if_pos he]
  rcases lst_two z len s.at_ hat with ⟨l, t, h1, h2, hp⟩ | ⟨t, h2, hp⟩
  · obtain ⟨g1, g2, g3, g4⟩ := lst_text hat hp
    rw [hp]
    have e := flatB_flat l g4
    simp only [if_true, Int.toNat_natCast]
    have hlen : (flatB l).length = t - s.at_ := by rw [← bytesI_len, e, ← g3, sub_len]
    have hll := flat_len l
    rw [← e, bytesI_len] at hll
    exact ⟨.inl ⟨he, g1, by rw [e, g3]⟩, by omega, by omega⟩
  · rw [hp]
    refine ⟨.inr ⟨?_, by simp [failS_at]⟩, by simp [flatB], by simp⟩
    simp [failS, he]
theorem conv_one (x : Int) (hx : (Lit.int .u8 x).wf = true) (w : World) (n c : Nat) (hn : n = w.heap.size) :
    (convert 22 9 (.slice (some ⟨n, 0, none⟩) 1 c)).run Try.prog (w.alloc (.cells #[.int .u8 x] 5)) = .ok (.string ⟨[UInt8.ofNat x.toNat].toArray⟩) (w.alloc (.cells #[.int .u8 x] 5)) := by
  subst hn
  refine run_convert_bytes_back (P := Try.prog) _ 22 9 5 ⟨w.heap.size, 0, none⟩ c [UInt8.ofNat x.toNat] Try.underlying22 Try.underlying5 Try.underlying9 ?_
  intro j hj
  obtain rfl : j = 0 := by simp at hj; exact hj
  rw [show (⟨w.heap.size, 0, none⟩ : Addr).add 0 = ⟨w.heap.size, 0, none⟩ from rfl, World.cell?_alloc_at _ _ _ _ rfl]
  simp only [List.getElem_cons_zero, u8_back hx]
  rfl
theorem conv_back {w : World} {ad : Addr} {len cap at_ : Nat} {z : Nat → Int} {l : List UInt8} (hr : Rd .u8 w (some ad) len z) (hl : bytesI l = sub z 0 at_) (hat : at_ ≤ len) :
    (convert 22 9 (.slice (some ad) l.length cap)).run Try.prog w = .ok (.string ⟨l.toArray⟩) w := by
  refine run_convert_bytes_back (P := Try.prog) w 22 9 5 ad cap l Try.underlying22 Try.underlying5 Try.underlying9 ?_
  intro j hj
  have hll : l.length = at_ := by have := congrArg List.length hl; rw [bytesI_len, sub_len] at this; exact this
  obtain ⟨b, off, e, hc, _⟩ := hr.2 j (by omega)
  obtain rfl := Option.some.inj e
  have hz : z j = (l[j].toNat : Int) := by
    have := congrArg (fun q : List Int => q.getD j 0) hl
    simp only [sub_get z 0 at_ j (by omega), Nat.zero_add] at this
    rw [← this]
    simp [bytesI, List.getD_eq_getElem?_getD, List.getElem?_eq_getElem hj]
  rw [show (⟨b, off, none⟩ : Addr).add j = ⟨b, off + j, none⟩ by unfold Addr.add; split <;> simp_all, hc, hz]
set_option maxHeartbeats 2000000 in
set_option maxRecDepth 20000 in
theorem walk_cursorReads (w : World) (a0 : Option Addr) (len0 cap0 : Nat) (z0 : List Int) (w0 : Frame.IsRow .u8 w a0 len0 cap0 z0) (a1 : Option Addr) (len1 cap1 : Nat) (Y : Nat → Nat → Int) (w1 : Frame.IsRec [.i64, .u8, .i64, .i64] w a1 len1 cap1 Y) :
    Calls Try.prog 5 #[.slice a0 len0 cap0, .slice a1 len1 cap1] w fun e w' => e = .returned (.bool true) ∧ Below w.heap.size w w' := by
  have W : Hid (Calls Try.prog 7 #[] w fun e w' => e = .returned (.bool true) ∧ Below w.heap.size w w') := works_any w
  have hc0 := w0.cap
  have hc1 := w1.cap
  by_cases h0 : 300 < len0
  · go_enter Try.func5, Try.ntmps5
    go_wp2_with (go_at_call 7; refine W.out.mono ?_; rintro e w9 ⟨rfl, hb9⟩)
    go_ret
    exact ⟨rfl, hb9⟩
  by_cases h1 : 60 < len1
  · go_enter Try.func5, Try.ntmps5
    go_wp2_with (go_at_call 7; refine W.out.mono ?_; rintro e w9 ⟨rfl, hb9⟩)
    go_ret
    exact ⟨rfl, hb9⟩
  have g0 : ¬ (300 : Int) < len0 := by omega
  have g1 : ¬ (60 : Int) < len1 := by omega
  have hrd : Hid (Rd .u8 w a0 len0 (fun i => z0.getD i 0)) := w0.rd (by omega)
  have hcap : Hid (len0 ≤ cap0) := w0.cap.1
  have hnil : Hid (a0 = none → len0 = 0 ∧ cap0 = 0) := fun e => by rcases w0 with ⟨_, h1, h2, _⟩ | ⟨x, h1, _⟩; exact ⟨h1, h2⟩; rw [e] at h1; cases h1
  have hrec : Hid (Frame.RdRec [.i64, .u8, .i64, .i64] w a1 len1 Y) := w1.rd (by decide)
  clear w0 w1 W
  go_enter Try.func5, Try.ntmps5
  go_wp2_with (go_at_call 8; refine (new_live _ _ a0 len0 cap0 _ rfl hrd.out hcap.out).mono ?_; rintro e w2 ⟨rfl, ho, hl⟩)
  have R0 : Hid (ReadsRel w w.heap.size a0 len0 cap0 (fun i => z0.getD i 0) len1 len1 (.string ⟨#[]⟩) (.int .i64 0) w2) :=
    ⟨0, ⟨0, 0, 0⟩, [], by omega, rfl, rfl, hl, rfl, rfl, rfl, (Below.refl _ _).only ho (fun i q => q.elim) (Nat.le_refl _)⟩
  clear hl ho
  go_loopg [6, 7] len1 (fun g v k wr => ReadsRel w w.heap.size a0 len0 cap0 (fun i => z0.getD i 0) len1 g v k wr)
  case atStart => exact R0.out
  case round =>
    obtain ⟨k, s, l, hk, rfl, hg, hl, he, rfl, hbl, hb⟩ := hrel
    by_cases hlt : k < len1
    · obtain ⟨b1, o1, rfl, hb1, hcl, f0, f1, f2, f3⟩ := hrec.out.four' hlt
      obtain ⟨e0, e1, e2, e3⟩ := hcl wr hb
      have HC := hide hcl
      have HL := hide hl
      have HB := hide hb
      have HBL := hide hbl
      have HE := hide he
      have hlen : (k : Int) < (len1 : Int) := by omega
      have hcv := conv_one (Y k 1) f1
      have HF1 := hide f1
      clear hcl hl hb hbl he f0 f1 f2 f3
      go_upto_block 2 with fail
      go_cut [8] (fun v wx => ReadsMid w w.heap.size a0 len0 cap0 (fun i => z0.getD i 0) s v wx)
      case first =>
        by_cases d0 : Y k 0 = 0
        · have hd : (Y k 0 == 0) = true := by simp [d0]
          clear d0
          go_wp2_with (go_at_call 16; refine (byte_live w.heap.size a0 len0 cap0 s _ (Y k 1) _ HL.out).mono ?_; rintro e w4 ⟨rfl, ho, hl⟩; have hB4 := HB.out.only ho (fun i q => by omega) HB.out.size; obtain ⟨e0', e1', e2', e3'⟩ := HC.out w4 hB4; have M := hide (show ReadsMid w w.heap.size a0 len0 cap0 (fun i => z0.getD i 0) s (.string ⟨[UInt8.ofNat (Y k 1).toNat].toArray⟩) (w4.alloc (.cells #[.int .u8 (Y k 1)] 5)) from ⟨_, _, rfl, hl.keep ((Below.refl _ _).alloc (Nat.le_refl _) _), hB4.alloc hB4.size _, byte_mid HE.out HF1.out⟩); clear ho hl hB4 e0' e2' e3')
          go_meet
          case rel => exact M.out
        by_cases d1 : Y k 0 = 1
        · have hd0 : (Y k 0 == 0) = false := by simp [d0]
          have hd : (Y k 0 == 1) = true := by simp [d1]
          clear d0 d1
          go_wp2_with (first | (go_at_call 14; refine (num_live w.heap.size a0 len0 cap0 s _ _ HL.out).mono ?_; rintro e w4 ⟨rfl, ho, hl⟩; have hB4 := HB.out.only ho (fun i q => by omega) HB.out.size; have M := hide (show ReadsMid w w.heap.size a0 len0 cap0 (fun i => z0.getD i 0) s (.string ⟨(printS (numS (fun i => z0.getD i 0) len0 s).2).toArray⟩) w4 from ⟨_, _, rfl, hl, hB4, num_mid HE.out HL.out.at_⟩); clear ho hl hB4) | (go_at_call 17; refine (rprint_any _ _).mono ?_; rintro e w5 ⟨rfl, hw⟩; replace hw := hw.symm; subst hw))
          go_meet
          case rel => exact M.out
        by_cases d2 : Y k 0 = 2
        · have hd0 : (Y k 0 == 0) = false := by simp [d0]
          have hd1 : (Y k 0 == 1) = false := by simp [d1]
          have hd : (Y k 0 == 2) = true := by simp [d2]
          clear d0 d1 d2
          obtain ⟨m, hm⟩ : ∃ m, (listS (fun i => z0.getD i 0) len0 s).2 = m := ⟨_, rfl⟩
          obtain ⟨hmid, hm1, hm2⟩ := list_mid HE.out HL.out.at_ (show len0 ≤ 300 by omega)
          have hlv := fun wx hx => list_live w.heap.size a0 len0 cap0 s (fun i => z0.getD i 0) wx hx
          rw [hm] at hmid hm1 hm2 hlv
          have HLV := hide hlv
          have HM := hide hmid
          have HM1 := hide hm1
          clear hm hmid hm1 hlv
          go_wp2_with (go_at_call 15; refine (HLV.out _ HL.out).mono ?_; rintro e w4 ⟨a', c', rfl, ho, hl, hr', hc', hx'⟩; have hB4 := HB.out.only ho (fun i q => by omega) HB.out.size; have M := hide (show ReadsMid w w.heap.size a0 len0 cap0 (fun i => z0.getD i 0) s (.string ⟨(flatB m).toArray⟩) w4 from ⟨_, _, rfl, hl, hB4, HM.out⟩); have HR := hide hr'; clear ho hl hB4 hr' hc' hx')
          go_loop [8, 10] (fun v j => ∃ q : Nat, q ≤ m.length ∧ v = .string ⟨(flatB (m.take q)).toArray⟩ ∧ j = .int .i64 (q : Int)) (fun _ j => m.length - (intOf j).toNat)
          case atStart => exact ⟨0, by omega, rfl, rfl⟩
          case round =>
            obtain ⟨q, hq, rfl, rfl⟩ := hrel
            by_cases hql : q < m.length
            · obtain ⟨b', o', rfl, hcell, _⟩ := HR.out.2 q hql
              have hql' : (q : Int) < (m.length : Int) := by omega
              obtain ⟨x, hx⟩ : ∃ x, m.getD q 0 = x := ⟨_, rfl⟩
              obtain ⟨acc, hacc⟩ : ∃ acc, flatB (m.take q) = acc := ⟨_, rfl⟩
              have hal : acc.length ≤ 300 := by rw [← hacc]; exact Nat.le_trans (flatB_take m q) HM1.out
              have had1 := fun wx => run_string_add_lists (P := Try.prog) wx acc [32] (by omega) (by simp)
              have hpl : (printS x).length ≤ 10 := by unfold printS; split; exact (txt_len _).2; simp
              have had2 := fun wx => run_string_add_lists (P := Try.prog) wx (acc ++ [32]) (printS x) (by simp; omega) (by omega)
              have hnext : Hid (flatB (m.take (q + 1)) = acc ++ [32] ++ printS x) := by
                show _ = _
                rw [List.take_succ_eq_append_getElem hql, flatB_snoc, hacc, ← hx]
                simp [List.getD_eq_getElem?_getD, List.getElem?_eq_getElem hql]
              rw [show (fun i => m.getD i 0) q = x from hx] at hcell
              rw [hacc]
              have HX := hide hx
              have HACC := hide hacc
              clear hx hacc hpl
              go_wp2_with (go_at_call 17; refine (rprint_any _ _).mono ?_; rintro e w5 ⟨rfl, hw⟩; replace hw := hw.symm; subst hw)
              go_round
              case rel => exact ⟨q + 1, by omega, by rw [hnext.out]; simp, by go_num⟩
              case measure => simp [intOf]; omega
            · obtain rfl : q = m.length := by omega
              rw [List.take_length]
              go_wp2
              go_meet
              case rel => exact M.out
        · have hd0 : (Y k 0 == 0) = false := by simp [d0]
          have hd1 : (Y k 0 == 1) = false := by simp [d1]
          have hd2 : (Y k 0 == 2) = false := by simp [d2]
          clear d0 d1 d2
          have M := hide (show ReadsMid w w.heap.size a0 len0 cap0 (fun i => z0.getD i 0) s (.string ⟨#[]⟩) wr from ⟨s, [], rfl, HL.out, HB.out, .inl ⟨HE.out, Nat.le_refl _, by simp [sub, bytesI]⟩⟩)
          go_wp2
          go_meet
          case rel => exact M.out
      case rest =>
        obtain ⟨s', ls, rfl, hl', hb', hm⟩ := hcut
        have hll : l.length = s.at_ := by have := congrArg List.length HBL.out; rw [bytesI_len, sub_len] at this; exact this
        have hat' := hl'.at_
        have HL' := hide hl'
        have HB' := hide hb'
        clear hl' hb' e0 e1 e2 e3 hcv
        rcases hm with ⟨he', hle, hls⟩ | ⟨he', hst⟩
        · have hE0 : (s'.e != 0) = false := by simp [he']
          have hlsl : ls.length = s'.at_ - s.at_ := by have := congrArg List.length hls; rw [bytesI_len, sub_len] at this; exact this
          have had := fun wx => run_string_add_lists (P := Try.prog) wx l ls (by omega) (by omega)
          have HN : Hid (bytesI (l ++ ls) = sub (fun i => z0.getD i 0) 0 s'.at_) := by
            show _ = _
            rw [bytesI_app, HBL.out, hls, show s'.at_ = s.at_ + (s'.at_ - s.at_) by omega, sub_add]
            simp
          have HE' := hide he'
          clear he' hls hlsl hll hle hat'
          go_wp2_with (go_at_call 10; refine (err_any w.heap.size a0 len0 cap0 _ _ HL'.out.cur).mono ?_; rintro e w5 ⟨rfl, hw⟩; have RR : Hid (ReadsRel w w.heap.size a0 len0 cap0 (fun i => z0.getD i 0) len1 (len1 - (k + 1)) (.string ⟨(l ++ ls).toArray⟩) (.int .i64 ((k : Int) + 1)) w5) := (by obtain ⟨n, rfl⟩ := hw; exact ⟨k + 1, s', l ++ ls, by omega, by go_num, rfl, HL'.out.drewN n, HE'.out, rfl, HN.out, HB'.out.only ((Only.refl (fun _ => False) _).drewN n) (fun i q => q.elim) HB'.out.size⟩); clear hw)
          go_roundg (len1 - (k + 1))
          case rel => exact RR.out
          case measure => omega
        · have hE0 : (s'.e != 0) = true := by simpa using he'
          have hEq : ((s'.at_ : Int) == (l.length : Int)) = true := by simp; omega
          clear hst hll hat' he'
          go_wp2_with (first | (go_at_call 10; refine (err_any w.heap.size a0 len0 cap0 _ _ HL'.out.cur).mono ?_; rintro e w5 ⟨rfl, hw⟩; have HG : Hid (Live w5 w.heap.size a0 len0 cap0 (fun i => z0.getD i 0) s' ∧ Below w.heap.size w w5) := (by obtain ⟨n, rfl⟩ := hw; exact ⟨HL'.out.drewN n, HB'.out.only ((Only.refl (fun _ => False) _).drewN n) (fun i q => q.elim) HB'.out.size⟩); clear hw) | (go_at_call 11; refine (at_any w.heap.size a0 len0 cap0 _ _ HG.out.1.cur).mono ?_; rintro e w6 ⟨rfl, hw⟩; replace hw := hw.symm; subst hw) | (go_at_call 7; refine (works_any _).mono ?_; rintro e w9 ⟨rfl, hb9⟩))
          go_ret
          exact ⟨rfl, HG.out.2.trans (hb9.mono HG.out.2.size)⟩
    · have hll : l.length = s.at_ := by have := congrArg List.length hbl; rw [bytesI_len, sub_len] at this; exact this
      have hat := hl.at_
      have hEq : ((s.at_ : Int) == (l.length : Int)) = true := by simp; omega
      have hle : (l.length : Int) ≤ (len0 : Int) := by omega
      have HL := hide hl
      have HB := hide hb
      have HW : Hid (Calls Try.prog 7 #[] wr fun e w' => e = .returned (.bool true) ∧ Below wr.heap.size wr w') := works_any wr
      cases a0 with
      | none =>
        obtain ⟨rfl, rfl⟩ := hnil.out rfl
        have : l = [] := List.eq_nil_of_length_eq_zero (by omega)
        subst this
        have hcv := fun wx => run_convert_bytes_nil (P := Try.prog) (w := wx) 22 5 Try.underlying22 Try.underlying5 0 0 9 Try.underlying9
        have hz0 : s.at_ = 0 := by omega
        clear hl hb hbl hll hat he hle
        go_wp2_with (first | (go_at_call 11; refine (at_any w.heap.size none 0 0 _ _ HL.out.cur).mono ?_; rintro e w6 ⟨rfl, hw⟩; replace hw := hw.symm; subst hw) | (go_at_call 7; refine HW.out.mono ?_; rintro e w9 ⟨rfl, hb9⟩))
        go_ret
        exact ⟨rfl, HB.out.trans (hb9.mono HB.out.size)⟩
      | some ad =>
        have hcv := fun c => conv_back (cap := c) hl.rd hbl hat
        have hlc : l.length ≤ cap0 := by have := hcap.out; omega
        clear hl hb hbl hll hat he
        go_wp2_with (first | (go_at_call 11; refine (at_any w.heap.size (some ad) len0 cap0 _ _ HL.out.cur).mono ?_; rintro e w6 ⟨rfl, hw⟩; replace hw := hw.symm; subst hw) | (go_at_call 7; refine HW.out.mono ?_; rintro e w9 ⟨rfl, hb9⟩))
        go_ret
        exact ⟨rfl, HB.out.trans (hb9.mono HB.out.size)⟩
end Go.Proofs.Ytogfmaanmifdgaa.Walk
