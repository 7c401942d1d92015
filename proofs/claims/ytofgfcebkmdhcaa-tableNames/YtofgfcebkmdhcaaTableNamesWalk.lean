/- TableNames, walked. -/
import Derived.Test.YtofgfcebkmdhcaaAll16
namespace Go.Proofs.Ytofgfcebkmdhcaa.Walk
open Go.RowKit Go.Proofs.Ytofgfcebkmdhcaa.Dig Go.Proofs.Ytofgfcebkmdhcaa.Mem Go.Proofs.Ytofgfcebkmdhcaa.Hist Go.Proofs.Ytofgfcebkmdhcaa.Own Go.Proofs.Ytofgfcebkmdhcaa.Thing Go.Proofs.Ytofgfcebkmdhcaa.Sets Go.Shelf Go.Proofs.Ytofgfcebkmdhcaa.Keys Go.Proofs.Ytofgfcebkmdhcaa.Tab
set_option linter.unusedVariables false
set_option linter.unusedSimpArgs false
set_option maxRecDepth 100000 in
set_option maxHeartbeats 4000000 in
theorem walk_tableNames (w : World) (ta : Option Addr) (tcap : Nat) (ts : List TxnM) (ht : TxnsAt (fun b => b < w.heap.size) w (.slice ta ts.length tcap) ts) (id : Int) (hid : (Lit.int .i64 id).wf = true) :
    Calls Try.prog 3 #[.agg #[.slice ta ts.length tcap], .int .i64 id] w fun e w' => e = .returned (.bool true) ∧ Below w.heap.size w w' := by
  obtain ⟨n, hn⟩ : ∃ n, n = ts.length := ⟨_, rfl⟩
  rw [← hn] at ht ⊢
  have H0 := hide (LH.start ht)
  have c1 := H0.out.c
  obtain ⟨ec, hec⟩ : ∃ ec, ec = checkS ts := ⟨_, rfl⟩
  obtain ⟨k, hk⟩ : ∃ k : Int, k = rankL (docIds ts) id := ⟨_, rfl⟩
  obtain ⟨q, hq⟩ : ∃ q, q = decide (id ∈ docIds ts) := ⟨_, rfl⟩
  obtain ⟨mi, hmi⟩ : ∃ m, m = (docIds ts).length := ⟨_, rfl⟩
  obtain ⟨mk, hmk⟩ : ∃ m, m = (docKeys ts).length := ⟨_, rfl⟩
  have EC := hide hec
  have HK := hide hk
  have HQ := hide hq
  have HMI := hide hmi
  have HMK := hide hmk
  clear ht hec hk hq hmi hmk hn
  go_enter Try.func3, Try.ntmps3
  go_wp2_with fail
  refine (fewLH H0).mono ?_
  rintro e w1 ⟨r, rfl, hf, H1⟩
  cases r with
  | false =>
    go_wp2_with (go_at_call 8; go_must ((with_reducible refine (worksLT _).mono ?_); rintro e w2 ⟨rfl, hb⟩))
    go_ret
    exact ⟨rfl, (H1.out.keep hb.out).below⟩
  | true =>
    have HF : Hid (FewH ts) := hide (hf.out rfl)
    have c2 := H1.out.c
    clear hf c1
    have CN := hide (newLH H1 HF EC)
    go_wp2_with fail
    refine (Hid.out CN).mono ?_
    rintro e w2 (⟨hne, rfl, H2⟩ | ⟨rfl, bT, s, rfl, H2, hs⟩)
    · have c3 := H2.out.c
      have hne' := hne.out
      go_wp2_with (first
        | (go_at_call 10; go_must ((with_reducible refine (rcheckLH H2 HF EC).mono ?_); rintro e w3 ⟨rfl, hb3⟩))
        | (go_at_call 8; go_must ((with_reducible refine (worksLT _).mono ?_); rintro e w4 ⟨rfl, hb4⟩)))
      go_ret
      exact ⟨rfl, ((H2.out.keep hb3.out).keep hb4.out).below⟩
    · have c3 := H2.out.lh.c
      go_upto_region 10 with (first
        | (go_at_call 10; go_must ((with_reducible refine (rcheckLH (hide H2.out.lh) HF EC).mono ?_); rintro e w3 ⟨rfl, hb3⟩; have H3 := hide (H2.out.keep hb3.out); have c4 := H3.out.lh.c))
        | (go_at_call 11; go_must ((with_reducible refine (rankLT H3 HF HK HQ).mono ?_); rintro e w4 ⟨rfl, H4⟩; have c5 := H4.out.lh.c))
        | (go_at_call 12; go_must ((with_reducible refine (rrankLT H4 HF HK HQ).mono ?_); rintro e w5 ⟨rfl, H5⟩)))
      have hqq : (q == q) = true := by simp
      have hkk : (k == k) = true := by simp
      have K := hide (H5.out.keep (W' := w5.drew) ((Below.refl _ _).drew))
      have c0 := H5.out.lh.c
      clear c2 c3 c4 c5 CN
      go_region_held3 (fun w' : World => w'.cell? ⟨w.heap.size, 0, none⟩ = some (.slice ta n tcap)) (first | assumption | go_keep) (first
        | (go_at_call 14; (with_reducible refine (idsLT K HF HMI).mono ?_); go_must (rintro e w6 ⟨a1, i1, rfl, HR, hb⟩; replace K := hide (K.out.keep hb.out); try clear c0; have c0 := K.out.lh.c))
        | (go_at_call 15; (with_reducible refine (ridsLT K HF HMI).mono ?_); go_must (rintro e w6 ⟨a2, i2, rfl, HR2, hb⟩; replace HR := hide (HR.out.keep hb.out); replace K := hide (K.out.keep hb.out); try clear c0; have c0 := K.out.lh.c))
        | (go_at_call 16; (with_reducible refine (keysLT K HF HMK).mono ?_); go_must (rintro e w6 ⟨a3, i3, rfl, HS, hb⟩; replace K := hide (K.out.keep hb.out); try clear c0; have c0 := K.out.lh.c))
        | (go_at_call 17; (with_reducible refine (rkeysLT K HF HMK).mono ?_); go_must (rintro e w6 ⟨a4, i4, rfl, HS2, hb⟩; replace HS := hide (HS.out.keep hb.out); replace K := hide (K.out.keep hb.out); try clear c0; have c0 := K.out.lh.c))
        | (go_at_call 13; (first | (with_reducible refine (sameLT HR HR2 HMI).mono ?_) | (with_reducible refine (sameLT HS HS2 HMK).mono ?_)); go_must (rintro e w6 ⟨rfl, hb⟩; (try clear HR HR2); replace K := hide (K.out.keep hb.out); try clear c0; have c0 := K.out.lh.c))
        | (go_at_call 8; (with_reducible refine (worksLT _).mono ?_); go_must (rintro e w6 ⟨rfl, hb⟩; replace K := hide (K.out.keep hb.out); try clear c0; have c0 := K.out.lh.c)))
      all_goals
        go_simp
        go_wp2
        go_ret
        exact ⟨rfl, K.out.lh.below⟩
end Go.Proofs.Ytofgfcebkmdhcaa.Walk
