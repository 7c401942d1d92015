/- addLine: a line, put behind bytes that have room for it. -/
import Derived.Test.YtigmgkcojifbcaaEncChk
import Derived.Test.YtigmgkcojifbcaaJoin
import Derived.Test.YtigmgkcojifbcaaApp
import Derived.Test.YtigmgkcojifbcaaGrow
import Derived.Deep.DeepAppendRoom
import Derived.Deep.DeepMust
namespace Go.Proofs.Ytigmgkcojifbcaa.Hist
open Go.RowKit Go.Proofs.Ytigmgkcojifbcaa.Dig Go.Proofs.Ytigmgkcojifbcaa.Mem
set_option linter.unusedVariables false
set_option linter.unusedSimpArgs false

/-- Block g is a row of bytes of the call's own, with room for cap: l stands in it. -/
def BRow (w : World) (g cap : Nat) (l : List UInt8) : Prop := w.ownsRow g 5 1 (.slice (some ⟨g, 0, none⟩) l.length cap) l.length ((toI l).map (Value.int .u8))
theorem BRow.keep {w w' : World} {g cap : Nat} {l : List UInt8} {S : Nat → Prop} (h : BRow w g cap l) (ho : Only S w w') (hs : ¬ S g) : BRow w' g cap l := by
  refine ⟨h.1, ?_⟩
  rcases h.2 with hn | ⟨g', cap', cur, e, hg, hh, r⟩
  · exact .inl hn
  · have e' := e
    simp at e
    obtain ⟨rfl, rfl⟩ := e
    have hlt : g < w.heap.size := by
      rcases Nat.lt_or_ge g w.heap.size with q | q
      · exact q
      · rw [Array.getElem?_eq_none q] at hh; cases hh
    exact .inr ⟨g, cap, cur, e', hg, by rw [ho.block g hlt hs]; exact hh, r⟩
theorem BRow.lt {w : World} {g cap : Nat} {l : List UInt8} (h : BRow w g cap l) : g < w.heap.size := (World.ownsRow.lt h g rfl).2
theorem BRow.below {w w' : World} {g cap : Nat} {l : List UInt8} (h : BRow w g cap l) (ho : Below w.heap.size w w') : BRow w' g cap l := h.keep (Only.of_below (S := fun _ => False) ho) (fun q => q)
theorem strCells_toI (l : List UInt8) : Lib.strCells ⟨l.toArray⟩ = (toI l).map (Value.int .u8) := strCells_of l
section
variable {P : Program} {w : World} {ops : Array Oper} {rest : List Oper} {o : Oper} {a : Act} {Q : Exit → Act → World → Prop}
theorem spare_string (g cap : Nat) (l m : List UInt8) (h : BRow w g cap l) (t u ty : TypeId) (i : TypeInfo) (ht : P.underlying t = some (.slice 5)) (hu : P.underlying u = some .string) (hi : P.info? 5 = some i) (hsize : i.size = 1) (hroom : l.length + m.length ≤ cap) :
    ∃ w', (Builtin.append_ #[t, u] ty #[.slice (some ⟨g, 0, none⟩) l.length cap, .string ⟨m.toArray⟩]).run P w = .ok (.slice (some ⟨g, 0, none⟩) (l ++ m).length cap) w' ∧ BRow w' g cap (l ++ m) ∧ Only (fun k => k = g) w w' := by
  have hms : ByteArray.size ⟨m.toArray⟩ = m.length := by simp [ByteArray.size]
  rcases h.2 with ⟨e, _⟩ | ⟨g', cap', cur, hv, hbg, hg, hnc, hcm, hcs, htake⟩
  · cases e
  · cases hv
    have hcs' : cur.size = cap := by simpa using hcs
    have hr := Lib.run_append_room_string (P := P) w t u ty 5 i ht hu hi hsize g l.length cap cur hg ⟨m.toArray⟩ (by rw [hms]; exact hroom) (by rw [hms]; omega)
    rw [hms] at hr
    refine ⟨_, by rw [List.length_append]; exact hr, ⟨by simp [toI], .inr ⟨g, cap, _, rfl, hbg, setRow_heap w g cur _ 5 _ hg, by rw [List.length_append]; exact hroom, hcm, ?_, ?_⟩⟩, ⟨rfl, rfl, rfl, by simp, fun k _ hk => setRow_other w g k _ hk⟩⟩
    · simp [Lib.strCells_length, hms]
      omega
    · have ht' : cur.toList.take l.length = (toI l).map (Value.int .u8) := by simpa using htake
      rw [ht', strCells_toI, ← List.map_append]
      have e1 : toI l ++ toI m = toI (l ++ m) := by simp [toI]
      rw [e1]
      exact List.take_left' (by rw [List.length_map, toI_len]; omega)
theorem spare_bytes (g cap : Nat) (l m : List UInt8) (h : BRow w g cap l) (t ty : TypeId) (i : TypeInfo) (ht : P.underlying t = some (.slice 5)) (hi : P.info? 5 = some i) (hsize : i.size = 1) (b c : Nat) (hb : Is w b ((toI m).map (Value.int .u8)).toArray) (hroom : l.length + m.length ≤ cap) :
    ∃ w', (Builtin.append_ #[t, t] ty #[.slice (some ⟨g, 0, none⟩) l.length cap, .slice (some ⟨b, 0, none⟩) m.length c]).run P w = .ok (.slice (some ⟨g, 0, none⟩) (l ++ m).length cap) w' ∧ BRow w' g cap (l ++ m) ∧ Only (fun k => k = g) w w' := by
  obtain ⟨w', hr, h2, h3⟩ := run_append_own_spare (P := P) w g t ty 5 i 1 ht hi hsize g l.length cap ((toI l).map (Value.int .u8)) h ⟨b, 0, none⟩ m.length c ((toI m).map (Value.int .u8)) (by simp [toI]) (fun j u hu => by
    rw [Addr.add_lit, Nat.zero_add]
    exact hb.cell j (by simpa using hu)) (fun u hu => by obtain ⟨n, _, rfl⟩ := List.mem_map.1 hu; rfl) hroom
  refine ⟨w', by rw [List.length_append]; exact hr, ?_, ⟨h3.os, h3.tape, h3.output, h3.size, fun k hk hn => h3.block k hk (fun q => hn (by simpa using q))⟩⟩
  unfold BRow
  have e1 : toI (l ++ m) = toI l ++ toI m := by simp [toI]
  rw [List.length_append, e1, List.map_append]
  exact h2
theorem list_spare_string (hgd : o.guard = none) (s x : Operand) (t u : TypeId) (ho : o.op = .call { callee := .builtin .append, args := #[s, x], argTypes := #[t, u] })
    (g cap n n' : Nat) (l m r : List UInt8) (h : BRow w g cap l) (hn : l.length = n) (hr : l ++ m = r) (hn' : r.length = n') (i : TypeInfo) (ht : P.underlying t = some (.slice 5)) (hu : P.underlying u = some .string) (hi : P.info? 5 = some i) (hsize : i.size = 1) (hs : a.eval s = .slice (some ⟨g, 0, none⟩) n cap) (hx : a.eval x = .string ⟨m.toArray⟩) (hroom : n' ≤ cap)
    (hk : ∀ w', BRow w' g cap r → Only (fun k => k = g) w w' → wpList P ops Q rest (a.put o.dst (.slice (some ⟨g, 0, none⟩) n' cap)) w') : wpList P ops Q (o :: rest) a w := by
  subst hn hr hn'
  obtain ⟨w', hr, h2, h3⟩ := spare_string (P := P) g cap l m h t u o.type i ht hu hi hsize (by rw [List.length_append] at hroom; exact hroom)
  refine wpList_plain hgd fun K hK => ?_
  unfold Oper.wp execOp
  simp only [ho, resolve, invoke, builtin, Sem.run_bind, Sem.run_pure, Result.andThen_ok, List.map_toArray, List.map_cons, List.map_nil, hs, hx, hr]
  exact hK _ _ (hk w' h2 h3)
theorem list_spare_bytes (hgd : o.guard = none) (s x : Operand) (t : TypeId) (ho : o.op = .call { callee := .builtin .append, args := #[s, x], argTypes := #[t, t] })
    (g cap n n' k0 : Nat) (l m r : List UInt8) (h : BRow w g cap l) (hn : l.length = n) (hr : l ++ m = r) (hn' : r.length = n') (hm : m.length = k0) (i : TypeInfo) (ht : P.underlying t = some (.slice 5)) (hi : P.info? 5 = some i) (hsize : i.size = 1) (b c : Nat) (hb : Is w b ((toI m).map (Value.int .u8)).toArray) (hs : a.eval s = .slice (some ⟨g, 0, none⟩) n cap) (hx : a.eval x = .slice (some ⟨b, 0, none⟩) k0 c) (hroom : n' ≤ cap)
    (hk : ∀ w', BRow w' g cap r → Only (fun k => k = g) w w' → wpList P ops Q rest (a.put o.dst (.slice (some ⟨g, 0, none⟩) n' cap)) w') : wpList P ops Q (o :: rest) a w := by
  subst hn hr hn' hm
  obtain ⟨w', hr, h2, h3⟩ := spare_bytes (P := P) g cap l m h t o.type i ht hi hsize b c hb (by rw [List.length_append] at hroom; exact hroom)
  refine wpList_plain hgd fun K hK => ?_
  unfold Oper.wp execOp
  simp only [ho, resolve, invoke, builtin, Sem.run_bind, Sem.run_pure, Result.andThen_ok, List.map_toArray, List.map_cons, List.map_nil, hs, hx, hr]
  exact hK _ _ (hk w' h2 h3)
end
theorem Try.infoU8e : (Try.prog.info? 5).map (fun i => (i.zero, i.size, i.bytes)) = some (some (.int .u8 0), 1, 1) := by kernel_rfl
set_option maxHeartbeats 1000000 in
theorem addline_any (g cap bk c n n' m : Nat) (l r : List UInt8) (xs : List (List UInt8)) (w : World) (h : BRow w g cap l) (hn : l.length = n) (hr : l ++ joinB xs ++ [10] = r) (hn' : r.length = n') (hm : xs.length = m)
    (hcells : ∀ (j : Nat) x, xs[j]? = some x → w.cell? ⟨bk, j, none⟩ = some (.string ⟨x.toArray⟩)) (hbk : bk < w.heap.size) (hm1 : m ≤ 1000000) (hc : m ≤ c) (hroom : n' ≤ cap) (hcap : cap ≤ 100000000) :
    Calls Try.prog 19 #[.slice (some ⟨g, 0, none⟩) n cap, .slice (some ⟨bk, 0, none⟩) m c] w fun e w' => e = .returned (.slice (some ⟨g, 0, none⟩) n' cap) ∧ BRow w' g cap r ∧ Only (fun k => k = g) w w' := by
  obtain ⟨J, hJ⟩ : ∃ J, joinB xs = J := ⟨_, rfl⟩
  obtain ⟨r1, hr1⟩ : ∃ r1, l ++ J = r1 := ⟨_, rfl⟩
  obtain ⟨n1, hn1⟩ : ∃ n1, r1.length = n1 := ⟨_, rfl⟩
  rw [hJ, hr1] at hr
  have hr2 : n1 + 1 = n' := by rw [← hn', ← hr, List.length_append, hn1]; rfl
  have hr3 : n + J.length = n1 := by rw [← hn1, ← hr1, List.length_append, hn]
  have HJ : Hid (∀ w0, (∀ (j : Nat) x, xs[j]? = some x → w0.cell? ⟨bk, 0 + j, none⟩ = some (.string ⟨x.toArray⟩)) → bk < w0.heap.size → Calls Try.prog 39 #[.slice (some ⟨bk, 0, none⟩) m c, .string ⟨#[32]⟩] w0 fun e w' => e = .returned (.string ⟨J.toArray⟩) ∧ Below w0.heap.size w0 w') := hide (fun w0 h1 h2 => by
    have := join_any bk 0 c xs w0 h1 h2 (by omega) (by omega) (by rw [hJ]; omega)
    rw [hJ, hm] at this
    exact this)
  have H := hide h
  have HC := hide hcells
  have Hn := hide hn
  have Hr := hide hr
  have Hr1 := hide hr1
  have Hn' := hide hn'
  have Hn1 := hide hn1
  obtain ⟨i0, hi, hz0, hz1, hz2⟩ := info_parts Try.infoU8e
  have HI0 : Hid (Try.prog.info? 5 = some i0 ∧ i0.size = 1) := ⟨hi, hz1⟩
  have hmade : ∀ w0 : World, Is (w0.alloc (.cells #[.int .u8 10] 5)) w0.heap.size ((toI [10]).map (Value.int .u8)).toArray := fun w0 => Is.made w0 _ _ rfl
  clear h hcells hi hz0 hz1 hz2 hn hr hr1 hn' hn1 hJ
  go_enter Try.func19, Try.ntmps19
  go_wp2_with (first
    | (go_at_call 39; go_must ((with_reducible refine (HJ.out _ (fun j x hx => by rw [Nat.zero_add]; exact HC.out j x hx) hbk).mono ?_); rintro e w1 ⟨rfl, hb1⟩; have H1 := hide (H.out.below hb1); have O1 := hide (Only.of_below (S := fun k => k = g) hb1); clear hb1))
    | (at_builtin; (refine list_spare_string rfl (.tmp 5) (.tmp 7) 27 9 rfl g cap n n1 l J r1 H1.out Hn.out Hr1.out Hn1.out i0 Try.underlying27 Try.underlying9 HI0.out.1 HI0.out.2 rfl rfl (by omega) ?_); intro w2 h2 o2; have H2 := hide h2; have O2 := hide (O1.out.trans o2); clear h2 o2)
    | (at_builtin; go_must ((refine list_spare_bytes rfl (.tmp 9) (.tmp 10) 27 rfl g cap n1 n' 1 r1 [10] r (H2.out.keep ((Only.refl (fun _ => False) _).alloc _) (fun q => q)) Hn1.out Hr.out Hn'.out rfl i0 Try.underlying27 HI0.out.1 HI0.out.2 w2.heap.size 1 (hmade w2) rfl rfl (by omega) ?_); intro w3 h3 o3; have H3 := hide h3; have O3 := hide (((O2.out.alloc _).trans o3)); clear h3 o3)))
  go_ret
  exact ⟨rfl, H3.out, O3.out⟩
end Go.Proofs.Ytigmgkcojifbcaa.Hist
