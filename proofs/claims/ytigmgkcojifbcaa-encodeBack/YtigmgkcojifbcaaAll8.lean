/- Joined out of the texts EncEncode, EncWorks, EncAt, EncRefOp, in that order. -/
import Derived.Test.YtigmgkcojifbcaaAll7
import Derived.Laws.MakeOwn
import Derived.Test.YtigmgkcojifbcaaAll5
/- The contracts of the program's Encode and Size. -/
namespace Go.Proofs.Ytigmgkcojifbcaa.Hist
open Go.RowKit Go.Proofs.Ytigmgkcojifbcaa.Dig Go.Proofs.Ytigmgkcojifbcaa.Mem
set_option linter.unusedVariables false
set_option linter.unusedSimpArgs false

theorem mk_row (n : Nat) (hn : n ≤ 1000000) : ∃ C : Array Value, ∀ w : World, (Instr.makeSlice 27 (.int .i64 0) (.int .i64 (n : Int))).run Try.prog w = .ok (.slice (some ⟨w.heap.size, 0, none⟩) 0 n) (w.alloc (.cells C 5)) ∧ BRow (w.alloc (.cells C 5)) w.heap.size n [] := by
  obtain ⟨i0, hi, hz0, hz1, hz2⟩ := info_parts Try.infoU8e
  refine ⟨madeCells (Value.int .u8 0).cells (n * i0.size), fun w => ?_⟩
  have hr := run_makeSlice (P := Try.prog) w 27 5 i0 (.int .u8 0) Try.underlying27 hi hz0 .i64 .i64 0 (n : Int) (Int.le_refl _) (by omega) (by rw [hz1]; simp; omega) (by rw [hz2]; omega) (by omega)
  simp only [Int.toNat_zero, Int.toNat_natCast] at hr
  refine ⟨hr, ?_⟩
  have := World.ownsRow_made (e := 5) (size := 1) w (madeCells (Value.int .u8 0).cells (n * i0.size)) n (Nat.le_refl _) (by unfold maxLen; omega) (by rw [hz1]; have := size_madeCells (Value.int .u8 0).cells (n * 1); simpa using this)
  exact this
theorem is3 {w : World} {b : Nat} {v0 v1 v2 : Value} (h : Is w b #[v0, v1, v2]) : w.cell? ⟨b, 0, none⟩ = some v0 ∧ w.cell? ⟨b, 1, none⟩ = some v1 ∧ w.cell? ⟨b, 2, none⟩ = some v2 := ⟨h.cell 0 rfl, h.cell 1 rfl, h.cell 2 rfl⟩
/-- The row, and a box. -/
structure EB (W : World) (g cap : Nat) (l : List UInt8) (tb : Nat) (cs : Array Value) (wx : World) : Prop where
  below : Below W.heap.size W wx
  row : BRow wx g cap l
  box : Is wx tb cs
  le : W.heap.size ≤ g
  ne : tb ≠ g
section
variable {W wx wy : World} {g cap : Nat} {l r : List UInt8} {tb : Nat} {cs : Array Value}
theorem EB.keep (h : EB W g cap l tb cs wx) (hb : Below wx.heap.size wx wy) : EB W g cap l tb cs wy := ⟨h.below.trans (hb.mono h.below.size), h.row.below hb, h.box.below hb, h.le, h.ne⟩
theorem EB.line (h : EB W g cap l tb cs wx) (hr : BRow wy g cap r) (ho : Only (fun k => k = g) wx wy) : EB W g cap r tb cs wy := ⟨h.below.only ho (fun i q => by have := h.le; omega) h.below.size, hr, h.box.keep ho h.ne, h.le, h.ne⟩
theorem textE {n : Int} {N : List UInt8} (h : Hid (EB W g cap l tb cs wx)) (hn : mayN n) (hN : Hid (txt n.toNat = N)) : Calls Try.prog 20 #[.int .i64 n] wx fun e w' => e = .returned (.string ⟨N.toArray⟩) ∧ Hid (EB W g cap l tb cs w') := by
  refine (text_at n wx hn hN).mono ?_
  rintro e w' ⟨rfl, hb⟩
  exact ⟨rfl, h.out.keep hb⟩
theorem markE {id : Int} {ab : Bool} {ov : Value} {M : List UInt8} (h : Hid (EB W g cap l tb cs wx)) (hM : Hid (markT ab = M)) : Calls Try.prog 21 #[.agg #[.int .i64 id, .bool ab, ov]] wx fun e w' => e = .returned (.string ⟨M.toArray⟩) ∧ Hid (EB W g cap l tb cs w') := by
  rw [← hM.out]
  refine (mark_any id ab ov wx).mono ?_
  rintro e w' ⟨rfl, hb⟩
  exact ⟨rfl, h.out.keep hb⟩
theorem lineE {N M : List UInt8} {n n' : Nat} (h : Hid (EB W g cap l tb cs wx)) (hn : Hid (l.length = n)) (hr : Hid (l ++ ([116] ++ 32 :: N ++ 32 :: M) ++ [10] = r)) (hn' : Hid (r.length = n')) (hroom : n' ≤ cap) (hcap : cap ≤ 100000000) (bk : Nat) (hbk : bk = wx.heap.size) :
    Calls Try.prog 19 #[.slice (some ⟨g, 0, none⟩) n cap, .slice (some ⟨bk, 0, none⟩) 3 3] (wx.alloc (.cells #[.string ⟨#[116]⟩, .string ⟨N.toArray⟩, .string ⟨M.toArray⟩] 9)) fun e w' => e = .returned (.slice (some ⟨g, 0, none⟩) n' cap) ∧ Hid (EB W g cap r tb cs w') := by
  subst hbk
  have hal : Below wx.heap.size wx (wx.alloc (.cells #[.string ⟨#[116]⟩, .string ⟨N.toArray⟩, .string ⟨M.toArray⟩] 9)) := (Below.refl _ _).alloc (Nat.le_refl _) _
  have hW : Words (wx.alloc (.cells #[.string ⟨#[116]⟩, .string ⟨N.toArray⟩, .string ⟨M.toArray⟩] 9)) wx.heap.size [[116], N, M] := Words.of_is (Is.made wx _ _ rfl)
  refine (addline_any g cap wx.heap.size 3 n n' 3 l r [[116], N, M] _ (h.out.row.below hal) hn.out (by rw [← hr.out]; simp [joinB]) hn'.out rfl hW.cells hW.lt (by omega) (by omega) hroom hcap).mono ?_
  rintro e w' ⟨rfl, h1, h2⟩
  exact ⟨rfl, (h.out.keep hal).line h1 h2⟩
theorem addlineO {o : OpM} {n n' m bk c : Nat} (h : Hid (EB W g cap l tb cs wx)) (hW : Hid (Words wx bk (words o))) (hm : Hid ((words o).length = m)) (hn : Hid (l.length = n)) (hr : Hid (l ++ lineO8 o = r)) (hn' : Hid (r.length = n')) (hc : m ≤ c) (hm1 : m ≤ 1000000) (hroom : n' ≤ cap) (hcap : cap ≤ 100000000) :
    Calls Try.prog 19 #[.slice (some ⟨g, 0, none⟩) n cap, .slice (some ⟨bk, 0, none⟩) m c] wx fun e w' => e = .returned (.slice (some ⟨g, 0, none⟩) n' cap) ∧ Hid (EB W g cap r tb cs w') := by
  refine (addline_any g cap bk c n n' m l r (words o) wx h.out.row hn.out (by rw [List.append_assoc, words_join]; exact hr.out) hn'.out hm.out hW.out.cells hW.out.lt hm1 hc hroom hcap).mono ?_
  rintro e w' ⟨rfl, h1, h2⟩
  exact ⟨rfl, h.out.line h1 h2⟩
theorem wordsO {F : Nat → Prop} {o : OpM} {rd : Bool} {lv : Value} {m : Nat} (h : Hid (EB W g cap l tb cs wx)) (hi : Hid (IntsAt F wx lv o.list)) (hl : o.list.length ≤ 900000) (hm : Hid (mayOpB o = true)) (hr : Hid (o.read = rd)) (hw : Hid ((words o).length = m)) :
    Calls Try.prog 22 #[.agg #[.bool rd, .int .i64 o.key, .int .i64 o.value, lv]] wx fun e w' => ∃ bk c, e = .returned (.slice (some ⟨bk, 0, none⟩) m c) ∧ Hid (Words w' bk (words o)) ∧ m ≤ c ∧ Hid (EB W g cap l tb cs w') := by
  rw [← hw.out]
  refine (opwords_any F o rd lv wx hi.out hl hm.out hr.out).mono ?_
  rintro e w' ⟨bk, c, rfl, h1, h2, h3, h4⟩
  exact ⟨bk, c, rfl, h1, h2, h.out.keep h3⟩
theorem words_len (o : OpM) : (words o).length ≤ o.list.length + 3 := by
  unfold words
  split <;> simp
theorem list_len_le (o : OpM) (hr : o.read = true) : o.list.length ≤ (lineO8 o).length := by
  have h : ∀ l : List Int, l.length ≤ (flat8 l).length := by
    intro l
    induction l with
    | nil => simp
    | cons x l ih => simp only [flat8, List.map_cons, List.flatten_cons, List.length_append, List.length_cons] at *; omega
  have := h o.list
  unfold lineO8
  rw [if_pos hr]
  simp
  omega
end
def ERel (W : World) (g cap m : Nat) (f : Nat → List UInt8) (b i : Value) (wr : World) : Prop :=
  ∃ k n : Nat, k ≤ m ∧ i = .int .i64 (k : Int) ∧ b = .slice (some ⟨g, 0, none⟩) n cap ∧ Hid ((f k).length = n) ∧ Hid (BRow wr g cap (f k)) ∧ Hid (Below W.heap.size W wr)
def ERel2 (W : World) (g cap m tb : Nat) (cs : Array Value) (f : Nat → List UInt8) (b i : Value) (wr : World) : Prop :=
  ∃ k n : Nat, k ≤ m ∧ i = .int .i64 (k : Int) ∧ b = .slice (some ⟨g, 0, none⟩) n cap ∧ Hid ((f k).length = n) ∧ Hid (EB W g cap (f k) tb cs wr)
def EncPost (w : World) (ts : List TxnM) (e : Ending) (w' : World) : Prop :=
  (checkS ts = 0 ∧ ∃ g n, n = (textH8 ts).length ∧ e = .returned (.tuple #[.slice (some ⟨g, 0, none⟩) n n, .int .i64 0]) ∧ BRow w' g n (textH8 ts) ∧ w.heap.size ≤ g ∧ Below w.heap.size w w') ∨
  (checkS ts ≠ 0 ∧ e = .returned (.tuple #[.slice none 0 0, .int .i64 (checkS ts)]) ∧ Below w.heap.size w w')
set_option maxRecDepth 20000 in
set_option maxHeartbeats 2000000 in
theorem encode_any (F : Nat → Prop) (v : Value) (ts : List TxnM) (w : World) (h : TxnsAt F w v ts) (hF : ∀ b, F b → b < w.heap.size) (hf : Few4 ts) :
    Calls Try.prog 9 #[.agg #[v]] w (EncPost w ts) := by
  obtain ⟨a, c, rfl, _, _⟩ := h.shape
  have H := hide h
  have FF := hide hF
  have FW := hide hf
  have hlen := hf.1
  clear h hf hF
  obtain ⟨ec, hec⟩ : ∃ e, checkS ts = e := ⟨_, rfl⟩
  have EC := hide hec
  by_cases h0 : ec = 0
  rotate_left
  · have h0' : (ec != 0) = true := by simpa using h0
    have E0 := hide h0
    clear h0 hec
    go_enter Try.func9, Try.ntmps9
    go_wp2_with (first | (go_at_call 11; go_must ((with_reducible refine (check_any F _ ts _ (H.out.keep ((Below.refl _ _).alloc (Nat.le_refl _) _)) (fun b q => by have := FF.out b q; simp; omega) FW.out).mono ?_); rw [EC.out]; rintro e w1 ⟨rfl, hb1⟩; have HB1 := hide (((Below.refl _ _).alloc (Nat.le_refl _) _).trans (hb1.mono (by simp))); have s1 := (Is.made w #[.slice a ts.length c] 24 rfl).below hb1; have S1 := hide s1; have x1 : w1.cell? ⟨w.heap.size, 0, none⟩ = some (.slice a ts.length c) := s1.cell 0 rfl; have z1 := s1.lt; have HH1 := hide (H.out.only (S := fun b => w.heap.size ≤ b) ⟨HB1.out.os, HB1.out.tape, HB1.out.output, HB1.out.size, fun b hb hn => HB1.out.block b (by omega)⟩ (fun b q => by have := FF.out b q; omega)); clear s1 hb1)))
    go_ret2
    exact .inr ⟨by rw [EC.out]; exact E0.out, by rw [EC.out]; rfl, HB1.out⟩
  subst h0
  obtain ⟨hV, hO, hL, hL2⟩ := checkS_ok hec
  have MM := hide (valid_may hV)
  obtain ⟨sz, hsz⟩ : ∃ sz, sizeH ts = sz := ⟨_, rfl⟩
  have hszb : sz ≤ 262144 := by have := sizeH_len ts; have := textH8_len ts; omega
  have ES : Hid ((sizeH ts : Int) = (sz : Int)) := hide (by rw [hsz])
  have ESN := hide hsz
  obtain ⟨C, hC⟩ := mk_row sz (by omega)
  have hmk := fun w => (hC w).1
  have HCR := hide (fun w => (hC w).2)
  clear hec hV hO hL hL2 hsz hC
  go_enter Try.func9, Try.ntmps9
  go_wp2_with (first | (go_at_call 11; go_must ((with_reducible refine (check_any F _ ts _ (H.out.keep ((Below.refl _ _).alloc (Nat.le_refl _) _)) (fun b q => by have := FF.out b q; simp; omega) FW.out).mono ?_); rw [EC.out]; rintro e w1 ⟨rfl, hb1⟩; have HB1 := hide (((Below.refl _ _).alloc (Nat.le_refl _) _).trans (hb1.mono (by simp))); have s1 := (Is.made w #[.slice a ts.length c] 24 rfl).below hb1; have S1 := hide s1; have x1 : w1.cell? ⟨w.heap.size, 0, none⟩ = some (.slice a ts.length c) := s1.cell 0 rfl; have z1 := s1.lt; have HH1 := hide (H.out.only (S := fun b => w.heap.size ≤ b) ⟨HB1.out.os, HB1.out.tape, HB1.out.output, HB1.out.size, fun b hb hn => HB1.out.block b (by omega)⟩ (fun b q => by have := FF.out b q; omega)); clear s1 hb1)) | (go_at_call 18; go_must ((with_reducible refine (size_any F _ ts _ HH1.out FW.out MM.out).mono ?_); rw [ES.out]; rintro e w2 ⟨rfl, hb2⟩; have s2 := S1.out.below hb2; have HB2 := hide (HB1.out.trans (hb2.mono HB1.out.size)); have x2 : w2.cell? ⟨w.heap.size, 0, none⟩ = some (.slice a ts.length c) := s2.cell 0 rfl; have z2 := s2.lt; have HH2 := hide (HH1.out.keep hb2); clear s2 hb2)))
  have HR0 := hide (HCR.out w2)
  have HB3 := hide (HB2.out.alloc HB2.out.size (.cells C 5))
  clear hmk x1 x2
  go_loopw [5, 21] (fun b i wr => ERel w w2.heap.size sz ts.length (fun k => textH8 (ts.take k)) b i wr) (fun _ i _ => ts.length - (intOf i).toNat)
  case atStart => exact ⟨0, 0, by omega, rfl, rfl, hide rfl, HR0, HB3⟩
  case round =>
    obtain ⟨k, n, hk, rfl, rfl, hn, hR, hB⟩ := hrel
    replace hn : Hid ((textH8 (ts.take k)).length = n) := hn
    replace hR : Hid (BRow wr w2.heap.size sz (textH8 (ts.take k))) := hR
    have hz := hB.out.size
    by_cases hlt : k < ts.length
    · obtain ⟨b1, o1, l1, q1, rfl, _, hb1, c0', c1', c2', hi1, _⟩ := H.out.at hlt
      have c0 := (hB.out.cell (p := ⟨b1, o1 + k * 3, none⟩) hb1).trans c0'
      have c1 := (hB.out.cell (p := ⟨b1, o1 + k * 3 + 1, none⟩) hb1).trans c1'
      have c2 := (hB.out.cell (p := ⟨b1, o1 + k * 3 + 2, none⟩) hb1).trans c2'
      have HO : Hid (OpsAt F w (.slice l1 ts[k].ops.length q1) ts[k].ops) := hi1
      clear c0' c1' c2'
      have KI := hide (MM.out _ (List.getElem_mem hlt)).1
      have KM := hide (MM.out _ (List.getElem_mem hlt)).2
      have FO := hide (FW.out.2.2 _ (List.getElem_mem hlt))
      have hol0 := (FW.out.2.2 _ (List.getElem_mem hlt)).1
      obtain ⟨N, hN⟩ : ∃ N, txt ts[k].id.toNat = N := ⟨_, rfl⟩
      obtain ⟨M, hM⟩ : ∃ M, markT ts[k].ab = M := ⟨_, rfl⟩
      obtain ⟨r, hr⟩ : ∃ r, textH8 (ts.take k) ++ ([116] ++ 32 :: N ++ 32 :: M) ++ [10] = r := ⟨_, rfl⟩
      obtain ⟨n', hn'⟩ : ∃ n', r.length = n' := ⟨_, rfl⟩
      have EN := hide hN
      have EM := hide hM
      have ER := hide hr
      have En' := hide hn'
      have HRL : Hid (r = textH8 (ts.take k) ++ lineT8 ts[k].id ts[k].ab) := hide (by rw [← hr, ← hN, ← hM]; cases ts[k].ab <;> simp [lineT8, markT])
      have hbound : ∀ j, (textH8 (ts.take k) ++ lineT8 ts[k].id ts[k].ab ++ ((ts[k].ops.take j).map lineO8).flatten).length ≤ sz := fun j => by
        have q1 := sizeOs_split ts[k].ops j
        have q2 := sizeH_split ts (k + 1)
        rw [sizeH_take hlt] at q2
        have q3 := sizeH_len (ts.take k)
        have q4 : (lineT8 ts[k].id ts[k].ab).length = 2 + sizeN [ts[k].id] + 2 := by simp [lineT8, sizeN]; omega
        rw [List.length_append, List.length_append, q3, q4, linesO_len]
        rw [← ESN.out]
        unfold sizeT at q2
        omega
      have hroom : n' ≤ sz := by have := hbound 0; rw [← hn', HRL.out]; simpa using this
      have HBD := hide hbound
      clear hi1 hN hM hr hn' hbound
      have HE0 : Hid (EB w w2.heap.size sz (textH8 (ts.take k)) wr.heap.size #[.int .i64 ts[k].id, .bool ts[k].ab, .slice l1 ts[k].ops.length q1] (wr.alloc (.cells #[.int .i64 ts[k].id, .bool ts[k].ab, .slice l1 ts[k].ops.length q1] 48)).drew) :=
        hide ⟨(hB.out.alloc hB.out.size _).drew, (hR.out.keep (S := fun _ => False) (((Only.refl (fun _ => False) wr).alloc _).drew) (fun q => q)), (Is.made wr _ _ rfl).drew, HB2.out.size, by have := hR.out.lt; omega⟩
      go_upto_region 8 with fail
      go_region_held3 (fun w' => w'.cell? ⟨wr.heap.size, 0, none⟩ = some (.int .i64 ts[k].id) ∧ w'.cell? ⟨wr.heap.size, 1, none⟩ = some (.bool ts[k].ab) ∧ w'.cell? ⟨wr.heap.size, 2, none⟩ = some (.slice l1 ts[k].ops.length q1)) (first | assumption | go_keep)
        (first
          | (go_at_call 20; (with_reducible refine (textE (by assumption) KI.out EN).mono ?_); rintro e wx ⟨rfl, HX⟩; obtain ⟨d0, d1, d2⟩ := is3 HX.out.box; have hzx := HX.out.box.lt)
          | (go_at_call 21; (with_reducible refine (markE (by assumption) EM).mono ?_); rintro e wx ⟨rfl, HX⟩; obtain ⟨d0, d1, d2⟩ := is3 HX.out.box; have hzx := HX.out.box.lt)
          | (go_at_call 19; (with_reducible refine (lineE (by assumption) hn ER En' hroom (by omega) _ rfl).mono ?_); rintro e wx ⟨rfl, HX⟩; obtain ⟨d0, d1, d2⟩ := is3 HX.out.box; have hzx := HX.out.box.lt))
      go_wp2
      go_loopw [5, 36] (fun b i wr' => ERel2 w w2.heap.size sz ts[k].ops.length wr.heap.size #[.int .i64 ts[k].id, .bool ts[k].ab, .slice l1 ts[k].ops.length q1] (fun j => r ++ ((ts[k].ops.take j).map lineO8).flatten) b i wr') (fun _ i _ => ts[k].ops.length - (intOf i).toNat)
      case atStart => exact ⟨0, n', by omega, rfl, rfl, hide (by simpa using En'.out), hide (by simpa using HX.out)⟩
      case round =>
        obtain ⟨j, n2, hj, rfl, rfl, hn2, hE⟩ := hrel
        replace hn2 : Hid ((r ++ ((ts[k].ops.take j).map lineO8).flatten).length = n2) := hn2
        replace hE : Hid (EB w w2.heap.size sz (r ++ ((ts[k].ops.take j).map lineO8).flatten) _ _ wr) := hE
        have hz2 := hE.out.below.size
        by_cases hlt2 : j < ts[k].ops.length
        · obtain ⟨b3, o3, l3, q3, rfl, _, hb3, e0, e1, e2, e3, hi3, _⟩ := (HO.out.keep hE.out.below).at hlt2
          have KO := hide (KM.out _ (List.getElem_mem hlt2))
          obtain ⟨rd, hrd⟩ : ∃ b, ts[k].ops[j].read = b := ⟨_, rfl⟩
          rw [hrd] at e0
          have HRD := hide hrd
          have hal : Below wr.heap.size wr (wr.alloc (.cells #[.bool rd, .int .i64 ts[k].ops[j].key, .int .i64 ts[k].ops[j].value, .slice l3 ts[k].ops[j].list.length q3] 45)) := (Below.refl _ _).alloc (Nat.le_refl _) _
          have HI := hide (hi3.keep hal)
          have HE1 := hide (hE.out.keep hal)
          obtain ⟨r2, hr2⟩ : ∃ r2, r ++ ((ts[k].ops.take j).map lineO8).flatten ++ lineO8 ts[k].ops[j] = r2 := ⟨_, rfl⟩
          obtain ⟨n3, hn3⟩ : ∃ n3, r2.length = n3 := ⟨_, rfl⟩
          have ER2 := hide hr2
          have EN3 := hide hn3
          have EQ : Hid (r ++ ((ts[k].ops.take (j + 1)).map lineO8).flatten = r2) := hide (by rw [linesO_take hlt2, ← List.append_assoc, hr2])
          have hroom2 : n3 ≤ sz := by have := HBD.out (j + 1); rw [← HRL.out, EQ.out, hn3] at this; exact this
          have hlo : (lineO8 ts[k].ops[j]).length ≤ n3 := by rw [← hn3, ← hr2, List.length_append]; omega
          have hll : ts[k].ops[j].list.length ≤ 900000 := by
            cases rd with
            | true => have := list_len_le _ hrd; omega
            | false => have := (mayOp_app KO.out hrd).2.2; rw [this]; simp
          obtain ⟨m, hm⟩ : ∃ m, (words ts[k].ops[j]).length = m := ⟨_, rfl⟩
          have hm1 : m ≤ 1000000 := by have := words_len ts[k].ops[j]; omega
          have EM1 := hide hm
          clear hm hr2 hn3 hrd hi3 hal hlo
          go_wp2_with (first
            | (go_at_call 22; go_must ((with_reducible refine (wordsO HE1 HI hll KO HRD EM1).mono ?_); rintro e wx2 ⟨bk, cw, rfl, HW2, hcw, HE2⟩))
            | (go_at_call 19; go_must ((with_reducible refine (addlineO HE2 HW2 EM1 hn2 ER2 EN3 hcw hm1 hroom2 (by omega)).mono ?_); rintro e wx3 ⟨rfl, HE3⟩)))
          have N9 : Hid ((r ++ ((ts[k].ops.take (j + 1)).map lineO8).flatten).length = n3) := hide (by rw [EQ.out]; exact EN3.out)
          have E9 := HE3.out
          rw [← EQ.out] at E9
          have HE9 := hide E9
          clear E9
          go_roundw
          case rel => exact ⟨j + 1, n3, by omega, by go_num, rfl, N9, HE9⟩
          case measure => simp [intOf]; omega
        · have e : j = ts[k].ops.length := by omega
          subst e
          have EX : Hid (r ++ ((ts[k].ops.take ts[k].ops.length).map lineO8).flatten = textH8 (ts.take (k + 1))) := hide (by rw [textH8_take hlt, List.take_length, HRL.out, textT8, List.append_assoc])
          have E9' := hE.out.row
          rw [EX.out] at E9'
          have E9 := hide E9'
          have N9 : Hid ((textH8 (ts.take (k + 1))).length = n2) := hide (by rw [← EX.out]; exact hn2.out)
          clear E9'
          have B9 := hide hE.out.below
          go_wp2
          go_roundw
          case rel => exact ⟨k + 1, n2, by omega, by go_num, rfl, N9, E9, B9⟩
          case measure => simp [intOf]; omega
    · have e : k = ts.length := by omega
      subst e
      rw [List.take_length] at hn hR
      have HNN : n = sz := by rw [← hn.out, sizeH_len, ESN.out]
      subst HNN
      go_wp2
      go_ret2
      exact .inl ⟨EC.out, w2.heap.size, n, hn.out.symm, rfl, hR.out, HB2.out.size, hB.out⟩
/-- How many bytes that are; 0, if there is an error. -/
def sizeA (ts : List TxnM) : Nat := if checkS ts = 0 then (textH8 ts).length else 0
set_option maxRecDepth 20000 in
set_option maxHeartbeats 1000000 in
theorem psize_any (F : Nat → Prop) (v : Value) (ts : List TxnM) (w : World) (h : TxnsAt F w v ts) (hF : ∀ b, F b → b < w.heap.size) (hf : Few4 ts) :
    Calls Try.prog 13 #[.agg #[v]] w fun e w' => e = .returned (.int .i64 (sizeA ts : Int)) ∧ Below w.heap.size w w' := by
  obtain ⟨a, c, rfl, _, _⟩ := h.shape
  have H := hide h
  have FF := hide hF
  have FW := hide hf
  clear h hf hF
  obtain ⟨ec, hec⟩ : ∃ e, checkS ts = e := ⟨_, rfl⟩
  have EC := hide hec
  by_cases h0 : ec = 0
  rotate_left
  · have h0' : (ec != 0) = true := by simpa using h0
    have T : Hid (sizeA ts = 0) := hide (by unfold sizeA; rw [hec, if_neg h0])
    clear h0 hec
    go_enter Try.func13, Try.ntmps13
    go_wp2_with (first | (go_at_call 11; go_must ((with_reducible refine (check_any F _ ts _ (H.out.keep ((Below.refl _ _).alloc (Nat.le_refl _) _)) (fun b q => by have := FF.out b q; simp; omega) FW.out).mono ?_); rw [EC.out]; rintro e w1 ⟨rfl, hb1⟩; have HB1 := hide (((Below.refl _ _).alloc (Nat.le_refl _) _).trans (hb1.mono (by simp))); have s1 := (Is.made w #[.slice a ts.length c] 24 rfl).below hb1; have S1 := hide s1; have x1 : w1.cell? ⟨w.heap.size, 0, none⟩ = some (.slice a ts.length c) := s1.cell 0 rfl; have z1 := s1.lt; have HH1 := hide (H.out.only (S := fun b => w.heap.size ≤ b) ⟨HB1.out.os, HB1.out.tape, HB1.out.output, HB1.out.size, fun b hb hn => HB1.out.block b (by omega)⟩ (fun b q => by have := FF.out b q; omega)); clear s1 hb1)))
    go_ret
    exact ⟨by rw [T.out]; rfl, HB1.out⟩
  subst h0
  obtain ⟨hV, hO, hL, hL2⟩ := checkS_ok hec
  have MM := hide (valid_may hV)
  have ES : Hid ((sizeH ts : Int) = (sizeA ts : Int)) := hide (by unfold sizeA; rw [hec, if_pos rfl, sizeH_len])
  clear hec hV hO hL hL2
  go_enter Try.func13, Try.ntmps13
  go_wp2_with (first | (go_at_call 11; go_must ((with_reducible refine (check_any F _ ts _ (H.out.keep ((Below.refl _ _).alloc (Nat.le_refl _) _)) (fun b q => by have := FF.out b q; simp; omega) FW.out).mono ?_); rw [EC.out]; rintro e w1 ⟨rfl, hb1⟩; have HB1 := hide (((Below.refl _ _).alloc (Nat.le_refl _) _).trans (hb1.mono (by simp))); have s1 := (Is.made w #[.slice a ts.length c] 24 rfl).below hb1; have S1 := hide s1; have x1 : w1.cell? ⟨w.heap.size, 0, none⟩ = some (.slice a ts.length c) := s1.cell 0 rfl; have z1 := s1.lt; have HH1 := hide (H.out.only (S := fun b => w.heap.size ≤ b) ⟨HB1.out.os, HB1.out.tape, HB1.out.output, HB1.out.size, fun b hb hn => HB1.out.block b (by omega)⟩ (fun b q => by have := FF.out b q; omega)); clear s1 hb1)) | (go_at_call 18; go_must ((with_reducible refine (size_any F _ ts _ HH1.out FW.out MM.out).mono ?_); rw [ES.out]; rintro e w2 ⟨rfl, hb2⟩; have s2 := S1.out.below hb2; have HB2 := hide (HB1.out.trans (hb2.mono HB1.out.size)); have x2 : w2.cell? ⟨w.heap.size, 0, none⟩ = some (.slice a ts.length c) := s2.cell 0 rfl; have z2 := s2.lt; have HH2 := hide (HH1.out.keep hb2); clear s2 hb2)))
  go_ret
  exact ⟨rfl, HB2.out⟩
end Go.Proofs.Ytigmgkcojifbcaa.Hist

/- The document's own example of layer 4, played: it answers true and writes nothing that was there. -/
namespace Go.Proofs.Ytigmgkcojifbcaa.Hist
open Go.RowKit Go.Proofs.Ytigmgkcojifbcaa.Dig Go.Proofs.Ytigmgkcojifbcaa.Mem
set_option linter.unusedVariables false
set_option linter.unusedSimpArgs false

/-- The bytes of a history, if it may be; else none. -/
def textA (ts : List TxnM) : List UInt8 := if checkS ts = 0 then textH8 ts else []
theorem sizeA_len (ts : List TxnM) : sizeA ts = (textA ts).length := by unfold sizeA textA; split <;> rfl
theorem BRow.conv {w : World} {g cap : Nat} {l : List UInt8} (h : BRow w g cap l) {n : Nat} (hn : l.length = n) : (convert 27 9 (.slice (some ⟨g, 0, none⟩) n cap)).run Try.prog w = .ok (.string ⟨l.toArray⟩) w := by
  subst hn
  exact run_convert_bytes_back (P := Try.prog) w 27 9 5 ⟨g, 0, none⟩ cap l Try.underlying27 Try.underlying5 Try.underlying9 (by
    intro j hj
    rw [Addr.add_lit, Nat.zero_add, World.ownsRow.cellAt h j (by omega)]
    simp [toI, List.getElem?_eq_getElem hj])
def exW : List TxnM := [⟨7, false, [⟨true, 1, 0, [5]⟩]⟩]
def exN : List TxnM := [⟨-1, false, []⟩]
theorem exW_chk : checkS exW = 0 := by decide +kernel
theorem exN_chk : checkS exN = 2 := by decide +kernel
theorem exW_txt : textH8 exW = [116, 32, 55, 32, 99, 10, 114, 32, 49, 32, 53, 10] := by decide +kernel
theorem exW_few : Few4 exW := ⟨by decide, by decide, fun t ht => by simp [exW] at ht; subst ht; exact ⟨by decide, by decide⟩⟩
theorem exN_few : Few4 exN := ⟨by decide, by decide, fun t ht => by simp [exN] at ht; subst ht; exact ⟨by decide, by simp⟩⟩
theorem exW_at (w : World) (T1 T2 T3 : TypeId) :
    TxnsAt (fun b => b < w.heap.size + 3) (((w.alloc (.cells #[.int .i64 5] T1)).alloc (.cells #[.bool true, .int .i64 1, .int .i64 0, .slice (some ⟨w.heap.size, 0, none⟩) 1 1] T2)).alloc (.cells #[.int .i64 7, .bool false, .slice (some ⟨w.heap.size + 1, 0, none⟩) 1 1] T3)) (.slice (some ⟨w.heap.size + 1 + 1, 0, none⟩) 1 1) exW := by
  have h2 := (((Is.made w #[.int .i64 5] T1 rfl).alloc (.cells #[.bool true, .int .i64 1, .int .i64 0, .slice (some ⟨w.heap.size, 0, none⟩) 1 1] T2)).alloc (.cells #[.int .i64 7, .bool false, .slice (some ⟨w.heap.size + 1, 0, none⟩) 1 1] T3))
  have k2 := ((Is.made (w.alloc (.cells #[.int .i64 5] T1)) #[.bool true, .int .i64 1, .int .i64 0, .slice (some ⟨w.heap.size, 0, none⟩) 1 1] T2 (by simp; rfl)).alloc (.cells #[.int .i64 7, .bool false, .slice (some ⟨w.heap.size + 1, 0, none⟩) 1 1] T3))
  have m2 := Is.made ((w.alloc (.cells #[.int .i64 5] T1)).alloc (.cells #[.bool true, .int .i64 1, .int .i64 0, .slice (some ⟨w.heap.size, 0, none⟩) 1 1] T2)) #[.int .i64 7, .bool false, .slice (some ⟨w.heap.size + 1, 0, none⟩) 1 1] T3 (b := w.heap.size + 1 + 1) (by simp)
  have r1 := RowAt.block (n := 1) (cs := [[Value.int .i64 5]]) (cap := 1) (by simp) h2 (by simp) (by unfold maxLen; omega)
  have r2 := RowAt.block (n := 4) (cs := [[.bool true, .int .i64 1, .int .i64 0, .slice (some ⟨w.heap.size, 0, none⟩) 1 1]]) (cap := 1) (by simp) k2 (by simp) (by unfold maxLen; omega)
  have r3 := RowAt.block (n := 3) (cs := [[Value.int .i64 7, .bool false, .slice (some ⟨w.heap.size + 1, 0, none⟩) 1 1]]) (cap := 1) (by simp) m2 (by simp) (by unfold maxLen; omega)
  refine ⟨_, r3.mono (fun b q => by omega), AllAt.one ⟨_, rfl, ⟨_, r2.mono (fun b q => by omega), AllAt.one ⟨_, rfl, ⟨r1.mono (fun b q => by omega), by decide⟩, by decide, by decide⟩⟩, by decide⟩⟩
theorem exN_at (w : World) (T1 : TypeId) : TxnsAt (fun b => b < w.heap.size + 1) (w.alloc (.cells #[.int .i64 (-1), .bool false, .slice none 0 0] T1)) (.slice (some ⟨w.heap.size, 0, none⟩) 1 1) exN := by
  have m2 := Is.made w #[.int .i64 (-1), .bool false, .slice none 0 0] T1 rfl
  have r3 := RowAt.block (n := 3) (cs := [[Value.int .i64 (-1), .bool false, .slice none 0 0]]) (cap := 1) (by simp) m2 (by simp) (by unfold maxLen; omega)
  exact ⟨_, r3.mono (fun b q => by omega), AllAt.one ⟨_, rfl, OpsAt.nil, by decide⟩⟩
theorem enc_exW (w : World) (T1 T2 T3 : TypeId) (b1 b2 b3 : Nat) (e1 : b1 = w.heap.size) (e2 : b2 = w.heap.size + 1) (e3 : b3 = w.heap.size + 1 + 1) :
    Calls Try.prog 9 #[.agg #[.slice (some ⟨b3, 0, none⟩) 1 1]] (((w.alloc (.cells #[.int .i64 5] T1)).alloc (.cells #[.bool true, .int .i64 1, .int .i64 0, .slice (some ⟨b1, 0, none⟩) 1 1] T2)).alloc (.cells #[.int .i64 7, .bool false, .slice (some ⟨b2, 0, none⟩) 1 1] T3)) fun e w' => ∃ g, e = .returned (.tuple #[.slice (some ⟨g, 0, none⟩) 12 12, .int .i64 0]) ∧ Hid (BRow w' g 12 [116, 32, 55, 32, 99, 10, 114, 32, 49, 32, 53, 10]) ∧ Hid (Below w.heap.size w w') := by
  subst e1 e2 e3
  refine (encode_any _ _ exW _ (exW_at w T1 T2 T3) (fun b q => by simp; omega) exW_few).mono ?_
  rintro e w' (⟨_, g, n, hn, rfl, h1, h2, h3⟩ | ⟨q, _⟩)
  · rw [exW_txt] at hn h1
    subst hn
    exact ⟨g, rfl, h1, ((((Below.refl _ _).alloc (Nat.le_refl _) _).alloc (by simp) _).alloc (by simp; omega) _).trans (h3.mono (by simp; omega))⟩
  · exact absurd exW_chk q
theorem chk_exN (w : World) (T1 : TypeId) (b : Nat) (hb : b = w.heap.size) :
    Calls Try.prog 11 #[.agg #[.slice (some ⟨b, 0, none⟩) 1 1]] (w.alloc (.cells #[.int .i64 (-1), .bool false, .slice none 0 0] T1)) fun e w' => e = .returned (.int .i64 2) ∧ Below w.heap.size w w' := by
  subst hb
  refine (check_any _ _ exN _ (exN_at w T1) (fun b q => by simp; omega) exN_few).mono ?_
  rw [exN_chk]
  rintro e w' ⟨rfl, h⟩
  exact ⟨rfl, ((Below.refl _ _).alloc (Nat.le_refl _) _).trans (h.mono (by simp))⟩
set_option maxHeartbeats 2000000 in
set_option maxRecDepth 20000 in
theorem works4_any (w : World) : Calls Try.prog 8 #[] w fun e w' => e = .returned (.bool true) ∧ Below w.heap.size w w' := by
  go_enter Try.func8, Try.ntmps8
  go_wp2_with (first
    | (go_at_call 9; go_must ((with_reducible refine (enc_exW w _ _ _ _ _ _ rfl rfl rfl).mono ?_); rintro e w1 ⟨g, rfl, h1, hb1⟩; have hcv := BRow.conv h1.out (n := 12) rfl))
    | (go_at_call 11; go_must ((with_reducible refine (chk_exN _ _ _ rfl).mono ?_); rintro e w2 ⟨rfl, hb2⟩)))
  go_ret
  exact ⟨rfl, hb1.out.trans (hb2.mono hb1.out.size)⟩
end Go.Proofs.Ytigmgkcojifbcaa.Hist

/- Encode's calls over a history that lies in a variable of a law's own. -/
namespace Go.Proofs.Ytigmgkcojifbcaa.Hist
open Go.RowKit Go.Proofs.Ytigmgkcojifbcaa.Dig Go.Proofs.Ytigmgkcojifbcaa.Mem
set_option linter.unusedVariables false
set_option linter.unusedSimpArgs false

/-- A history in memory, and in a variable of the call's own. -/
structure OneT (w : World) (tv : Value) (ts : List TxnM) (X : World → Prop) (wx : World) : Prop where
  below : Below w.heap.size w wx
  ext : ∀ wy, Below wx.heap.size wx wy → X wy
  c1 : wx.cell? ⟨w.heap.size, 0, none⟩ = some tv
  t : TxnsAt (fun b => b < w.heap.size) wx tv ts
theorem OneT.keep {w wx wy : World} {tv : Value} {ts : List TxnM} {X : World → Prop} (h : OneT w tv ts X wx) (hb : Below wx.heap.size wx wy) : OneT w tv ts X wy :=
  ⟨h.below.trans (hb.mono h.below.size), fun wz hz => h.ext wz (hb.trans (hz.mono hb.size)), (Only.of_below (S := fun _ => False) hb).cell h.c1 (fun q => q), h.t.keep hb⟩
theorem OneT.start {w : World} {tv : Value} {ts : List TxnM} (T : TypeId) (ht : TxnsAt (fun b => b < w.heap.size) w tv ts) : OneT w tv ts (fun _ => True) (w.alloc (.cells #[tv] T)) :=
  ⟨(Below.refl _ _).alloc (Nat.le_refl _) _, fun _ _ => trivial, (Is.made w #[tv] T rfl).cell 0 rfl, ht.keep ((Below.refl _ _).alloc (Nat.le_refl _) _)⟩
theorem OneT.with {w wx : World} {tv : Value} {ts : List TxnM} {X Y : World → Prop} (h : OneT w tv ts X wx) (hy : ∀ wy, Below wx.heap.size wx wy → Y wy) : OneT w tv ts Y wx := ⟨h.below, hy, h.c1, h.t⟩
theorem conv_nil (w : World) : (convert 27 9 (.slice none 0 0)).run Try.prog w = .ok (.string ⟨#[]⟩) w := by kernel_rfl
section
variable {w wx : World} {tv : Value} {ts : List TxnM} {X : World → Prop}
theorem encT {ec : Int} {L : List UInt8} (h : Hid (OneT w tv ts X wx)) (hf : Hid (Few4 ts)) (hc : Hid (checkS ts = ec)) (hL : Hid (textA ts = L)) :
    Calls Try.prog 9 #[.agg #[tv]] wx fun e w' => ∃ bv, e = .returned (.tuple #[bv, .int .i64 ec]) ∧ Hid (∀ wy, Below w'.heap.size w' wy → (convert 27 9 bv).run Try.prog wy = .ok (.string ⟨L.toArray⟩) wy) ∧ Hid (OneT w tv ts X w') := by
  refine (encode_any _ tv ts wx h.out.t (fun b q => Nat.lt_of_lt_of_le q h.out.below.size) hf.out).mono ?_
  rintro e w' (⟨h0, g, n, hn, rfl, h1, h2, h3⟩ | ⟨h0, rfl, h3⟩)
  · have e1 : ec = 0 := by rw [← hc.out, h0]
    subst e1
    have e2 : L = textH8 ts := by rw [← hL.out]; unfold textA; rw [if_pos h0]
    subst e2
    exact ⟨_, rfl, fun wy hb => BRow.conv (h1.below hb) hn.symm, h.out.keep h3⟩
  · have e2 : L = [] := by rw [← hL.out]; unfold textA; rw [if_neg h0]
    subst e2
    exact ⟨_, by rw [hc.out], fun wy hb => conv_nil wy, h.out.keep h3⟩
theorem chkT4 {ec : Int} (h : Hid (OneT w tv ts X wx)) (hf : Hid (Few4 ts)) (hc : Hid (checkS ts = ec)) :
    Calls Try.prog 11 #[.agg #[tv]] wx fun e w' => e = .returned (.int .i64 ec) ∧ Hid (OneT w tv ts X w') := by
  refine (check_any _ tv ts wx h.out.t (fun b q => Nat.lt_of_lt_of_le q h.out.below.size) hf.out).mono ?_
  rw [hc.out]
  rintro e w' ⟨rfl, hb⟩
  exact ⟨rfl, h.out.keep hb⟩
theorem szT4 {n : Int} (h : Hid (OneT w tv ts X wx)) (hf : Hid (Few4 ts)) (hn : Hid ((sizeA ts : Int) = n)) :
    Calls Try.prog 13 #[.agg #[tv]] wx fun e w' => e = .returned (.int .i64 n) ∧ Hid (OneT w tv ts X w') := by
  refine (psize_any _ tv ts wx h.out.t (fun b q => Nat.lt_of_lt_of_le q h.out.below.size) hf.out).mono ?_
  rw [hn.out]
  rintro e w' ⟨rfl, hb⟩
  exact ⟨rfl, h.out.keep hb⟩
theorem worksT4 (h : Hid (OneT w tv ts X wx)) : Calls Try.prog 8 #[] wx fun e w' => e = .returned (.bool true) ∧ Hid (OneT w tv ts X w') := by
  refine (works4_any wx).mono ?_
  rintro e w' ⟨rfl, hb⟩
  exact ⟨rfl, h.out.keep hb⟩
end
end Go.Proofs.Ytigmgkcojifbcaa.Hist

/- The contract of the document's mayOp. -/
namespace Go.Proofs.Ytigmgkcojifbcaa.Hist
open Go.RowKit Go.Proofs.Ytigmgkcojifbcaa.Dig Go.Proofs.Ytigmgkcojifbcaa.Mem
set_option linter.unusedVariables false
set_option linter.unusedSimpArgs false

set_option maxHeartbeats 1000000 in
theorem rmayop_any (F : Nat → Prop) (o : OpM) (rd : Bool) (lv : Value) (w : World) (hrd : o.read = rd) (h : IntsAt F w lv o.list) (hl : o.list.length ≤ 1000000) :
    Calls Try.prog 27 #[.agg #[.bool rd, .int .i64 o.key, .int .i64 o.value, lv]] w fun e w' => e = .returned (.bool (mayOpB o)) ∧ Below w.heap.size w w' := by
  obtain ⟨a, c, rfl, _, _⟩ := h.shape
  have H := hide (h.keep ((Below.refl w.heap.size w).alloc (Nat.le_refl _) (.cells #[.bool rd, .int .i64 o.key, .int .i64 o.value, .slice a o.list.length c] 45)))
  have HB := hide ((Below.refl w.heap.size w).alloc (Nat.le_refl _) (.cells #[.bool rd, .int .i64 o.key, .int .i64 o.value, .slice a o.list.length c] 45))
  have hT : mayOpB o = if rd = true then mayB o.key && o.list.all mayB && o.value == 0 else mayB o.key && mayB o.value && o.list.length == 0 := by unfold mayOpB; rw [hrd]
  clear h hrd
  obtain ⟨b1, hb1⟩ : ∃ b, mayB o.key = b := ⟨_, rfl⟩
  have B1 := hide hb1
  cases b1 with
  | false =>
    have T : Hid (mayOpB o = false) := hide (by rw [hT, hb1]; cases rd <;> rfl)
    clear hT hb1
    go_enter Try.func27, Try.ntmps27
    go_wp2_with (first | (go_at_call 26; (with_reducible refine (rmay_any o.key _).mono ?_); rw [B1.out]; rintro e w1 ⟨rfl, hq⟩; replace hq := hq.symm; subst hq))
    go_ret
    exact ⟨by rw [T.out]; rfl, HB.out⟩
  | true =>
  cases rd with
  | false =>
    obtain ⟨b2, hb2⟩ : ∃ b, mayB o.value = b := ⟨_, rfl⟩
    have B2 := hide hb2
    cases b2 with
    | false =>
      have T : Hid (mayOpB o = false) := hide (by rw [hT, hb1, hb2]; rfl)
      clear hT hb1 hb2
      go_enter Try.func27, Try.ntmps27
      go_wp2_with (first | (go_at_call 26; (with_reducible refine (rmay_any o.key _).mono ?_); rw [B1.out]; rintro e w1 ⟨rfl, hq⟩; replace hq := hq.symm; subst hq) | (go_at_call 26; (with_reducible refine (rmay_any o.value _).mono ?_); rw [B2.out]; rintro e w1 ⟨rfl, hq⟩; replace hq := hq.symm; subst hq))
      go_ret
      exact ⟨by rw [T.out]; rfl, HB.out⟩
    | true =>
      have T : Hid (mayOpB o = ((o.list.length : Int) == 0)) := hide (by rw [hT, hb1, hb2, Bool.eq_iff_iff]; simp)
      clear hT hb1 hb2
      go_enter Try.func27, Try.ntmps27
      go_wp2_with (first | (go_at_call 26; (with_reducible refine (rmay_any o.key _).mono ?_); rw [B1.out]; rintro e w1 ⟨rfl, hq⟩; replace hq := hq.symm; subst hq) | (go_at_call 26; (with_reducible refine (rmay_any o.value _).mono ?_); rw [B2.out]; rintro e w1 ⟨rfl, hq⟩; replace hq := hq.symm; subst hq))
      go_ret
      exact ⟨by rw [T.out]; rfl, HB.out⟩
  | true =>
    have hT' : mayOpB o = (o.list.all mayB && o.value == 0) := by rw [hT, hb1]; simp
    have HT := hide hT'
    clear hT hb1 hT'
    go_enter Try.func27, Try.ntmps27
    go_wp2_with (first | (go_at_call 26; (with_reducible refine (rmay_any o.key _).mono ?_); rw [B1.out]; rintro e w1 ⟨rfl, hq⟩; replace hq := hq.symm; subst hq))
    go_loop [3] (fun i => ∃ k : Nat, k ≤ o.list.length ∧ i = .int .i64 (k : Int) ∧ Hid ((o.list.take k).all mayB = true)) (fun i => o.list.length - (intOf i).toNat)
    case atStart => exact ⟨0, by omega, rfl, hide rfl⟩
    case round =>
      obtain ⟨k, hk, rfl, hj⟩ := hrel
      by_cases hlt : k < o.list.length
      · obtain ⟨b, off, rfl, hc, hw⟩ := ints_at H.out hl hlt
        obtain ⟨b2, hb2⟩ : ∃ b, mayB o.list[k] = b := ⟨_, rfl⟩
        have B2 := hide hb2
        cases b2 with
        | false =>
          have T : Hid (mayOpB o = false) := hide (by rw [HT.out, all_not hlt hb2]; rfl)
          clear hb2
          go_wp2_with (first | (go_at_call 26; (with_reducible refine (rmay_any o.list[k] _).mono ?_); rw [B2.out]; rintro e w1 ⟨rfl, hq⟩; replace hq := hq.symm; subst hq))
          go_ret
          exact ⟨by rw [T.out]; rfl, HB.out⟩
        | true =>
          have T : Hid ((o.list.take (k + 1)).all mayB = true) := hide (by rw [all_take hlt, hj.out, hb2]; rfl)
          clear hb2
          go_wp2_with (first | (go_at_call 26; (with_reducible refine (rmay_any o.list[k] _).mono ?_); rw [B2.out]; rintro e w1 ⟨rfl, hq⟩; replace hq := hq.symm; subst hq))
          go_round
          case rel => exact ⟨k + 1, by omega, by go_num, T⟩
          case measure => simp [intOf]; omega
      · have T : Hid (mayOpB o = (o.value == 0)) := hide (by rw [HT.out, all_done hlt hj.out]; rfl)
        go_wp2
        go_ret
        exact ⟨by rw [T.out]; rfl, HB.out⟩
end Go.Proofs.Ytigmgkcojifbcaa.Hist
