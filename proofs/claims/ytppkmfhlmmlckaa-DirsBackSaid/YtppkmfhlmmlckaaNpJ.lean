/-
  The program's Parse.
-/
import Derived.Test.YtppkmfhlmmlckaaNpG
import Derived.Test.YtppkmfhlmmlckaaNpH
import Derived.Test.YtppkmfhlmmlckaaNmT
import Derived.WalkMore
namespace Go.Proofs.Ytppkmfhlmmlckaa.nm
set_option maxRecDepth 100000
open Go.RowKit Go.Maps
set_option maxRecDepth 100000

theorem OkTo.app {l t : List Nm} {k : Nat} (h : OkTo l k) (hk : k ≤ l.length) : OkTo (l ++ t) k := fun i x hi hx => by
  rw [List.getElem?_append_left (by omega)] at hx
  obtain ⟨h1, h2⟩ := h i x hi hx
  refine ⟨h1, fun j y hj hy => ?_⟩
  rw [List.getElem?_append_left (by omega)] at hy
  exact h2 j y hj hy
theorem FolTo.snoc {out : List Nm} {x : Nm} {m : Nat} (hm : m = out.length) (h : FolTo out m) (hf : folB out x = true) : FolTo (out ++ [x]) (m + 1) := by
  subst hm
  refine FolTo.next ⟨h.1.app (Nat.le_refl _), h.2⟩ (x := x) (by simp) ?_
  rw [List.take_left]
  exact hf
/-- An entry that may not stand: what is parsed is no directory. -/
theorem PaTo.bad {b : List UInt8} {i m : Nat} {out : List Nm} {x : Nm} (h : PaTo b i (m + 1) (out ++ [x])) (hf : folB out x = false) : ∀ l, parP b = some l → ¬ RightN l := fun l hl => by
  obtain ⟨f, _, h⟩ := h
  rw [h] at hl
  obtain ⟨t, _, rfl⟩ := Option.map_eq_some_iff.1 hl
  refine FolTo.not (k := out.length) (x := x) (by simp) ?_
  rw [show ((out ++ [x]) ++ t).take out.length = out by simp]
  exact hf
def lenV : Value → Nat
  | .slice _ n _ => n
  | _ => 0

set_option maxHeartbeats 4000000 in
theorem pparse (w : World) (A : Option Addr) (cap : Nat) (b : List UInt8) (hr : Rd w w.heap.size A b) (hcap : b.length ≤ cap) (hb : b.length ≤ 140737488351232) :
    Calls Try.prog 10 #[.slice A b.length cap] w (AnsV w (parP b)) := by
  obtain ⟨n, hn⟩ : ∃ n, n = b.length := ⟨_, rfl⟩
  rw [← hn] at hb hcap ⊢
  have HN := Lib.hid hn
  obtain ⟨i0, hi, hz0, hz1, hz2⟩ := info_parts infoN
  have HI := Lib.hid (⟨hi, hz0, hz1, hz2⟩ : _ ∧ _ ∧ _ ∧ _)
  have H0 := Lib.hid (⟨hn, hcap, hr⟩ : n = b.length ∧ n ≤ cap ∧ Rd w w.heap.size A (b.drop 0))
  clear hr hn hi hz0 hz1 hz2 hcap
  go_enter Try.func10, Try.ntmps10
  go_wp2_with fail
  go_step3
  go_wp2_with fail
  go_step3
  go_wp2_with fail
  go_loopw [0, 4] (fun v0 v4 wr => ∃ (i q cq m c : Nat) (A p : Option Addr) (out : List Nm), i + q = n ∧ q ≤ cq ∧ m ≤ 256 ∧ v0 = .slice A q cq ∧ v4 = .slice p m c ∧ Hid (q = (b.drop i).length ∧ Rd wr w.heap.size A (b.drop i) ∧ m = out.length ∧ OwnN wr w.heap.size (.slice p m c) out ∧ Fr (fun _ => False) w wr ∧ PaTo b i m out ∧ WfN out ∧ FolTo out m)) (fun v0 _ _ => lenV v0)
  case atStart => exact ⟨0, n, cap, 0, 0, A, none, [], by omega, H0.out.2.1, by omega, rfl, rfl, (show _ ∧ _ from ⟨H0.out.1, H0.out.2.2, rfl, ⟨rfl, Or.inl ⟨rfl, rfl⟩⟩, Fr.refl _ _, PaTo.start b, (fun x hx => by cases hx), FolTo.zero _⟩)⟩
  case round =>
    obtain ⟨i, q, cq, m, c, A, p, out, hiq, hqc, hm, rfl, rfl, HK⟩ := hrel
    clear H0
    by_cases hlt : 0 < q
    · obtain ⟨x, hx⟩ : ∃ x, (b.drop i)[0]? = some x := ⟨_, List.getElem?_eq_getElem (by have := HK.out.1; omega)⟩
      have hxb : b[i]? = some x := by rw [List.getElem?_drop, Nat.add_zero] at hx; exact hx
      have hx256 := x.toNat_lt
      obtain ⟨k, hk⟩ : ∃ k : Nat, k = x.toNat := ⟨_, rfl⟩
      by_cases h3 : q < 1 + k + 2
      · have HTK := Lib.hid (ptake_no wr A cq (b.drop i) x hx (HK.out.2.1.more HK.out.2.2.2.2.1.size) (by have := HK.out.1; omega) (by rw [← hk, ← HK.out.1]; exact h3))
        rw [← HK.out.1] at HTK
        have HE := Lib.hid (HK.out.2.2.2.2.2.1.no hxb (Or.inl (by rw [← HN.out, ← hk]; omega)))
        clear hx hxb hx256 hk h3
        go_wp2_with fail
        refine HTK.out.mono ?_
        rintro e w2 ⟨rfl, hF2⟩
        have HF2 := Lib.hid ((HK.out.2.2.2.2.1.trans hF2 (fun _ _ e => e)).alloc (objX ⟨#[]⟩ 0))
        clear hF2 HTK
        go_wp2_with fail
        go_ret2
        exact Or.inr ⟨fun l hl => (by rw [HE.out] at hl; cases hl), none, 0, rfl, HF2.out⟩
      · have h3' : 1 + k + 2 ≤ q := by omega
        have HTK := Lib.hid (ptake_ok wr w.heap.size A cq (b.drop i) x hx HK.out.2.1 HK.out.2.2.2.2.1.size (by rw [← HK.out.1]; exact hqc) (by have := HK.out.1; omega) (by rw [← hk, ← HK.out.1]; exact h3'))
        rw [← HK.out.1, ← hk] at HTK
        have HPX := Lib.hid (HK.out.2.2.2.2.2.1.next hxb (by rw [← HN.out, ← hk]; omega) hm)
        rw [← hk] at HPX
        obtain ⟨tx, htx⟩ : ∃ tx, tx = ((b.drop i).drop 1).take k := ⟨_, rfl⟩
        obtain ⟨num, hnum⟩ : ∃ num, num = numAt (b.drop i) (1 + k) 2 := ⟨_, rfl⟩
        rw [← htx, ← hnum] at HTK
        have e1 : (b.drop (i + 1)).take k = tx := by rw [htx, List.drop_drop]
        have e2 : numAt b (i + 1 + k) 2 = num := by rw [hnum]; unfold numAt; rw [List.drop_drop, Nat.add_assoc]
        rw [e1, e2] at HPX
        have HNB := Lib.hid (show num < 65536 by rw [hnum]; exact numAt_lt2 _ _)
        have HTX := Lib.hid (show tx.length ≤ k by rw [htx]; exact List.length_take_le _ _)
        have hk3 : k < 256 := by omega
        have HDD := Lib.hid (show (b.drop i).drop (1 + k + 2) = b.drop (i + (1 + k + 2)) by rw [List.drop_drop])
        have HFO : Hid (∀ w2, Fr (fun _ => False) wr w2 → Calls Try.prog 26 #[.slice p m c, .agg #[.string ⟨tx.toArray⟩, .int .i64 (num : Int)]] w2 fun e w' => e = .returned (.bool (folB out (⟨tx.toArray⟩, (num : Int)))) ∧ Fr (fun _ => False) w2 w') := Lib.hid fun w2 hF => by
          have ho := HK.out.2.2.2.1
          have hm2 := HK.out.2.2.1
          rw [hm2] at ho
          have h := pfollows w2 p c out (⟨tx.toArray⟩, (num : Int)) (rdN_fr (OwnN.rd ho HK.out.2.2.2.2.2.2.1) hF) (by omega) (by have := HTX.out; show tx.length ≤ _; unfold maxLen; omega)
          rwa [← hm2] at h
        clear hx hxb hx256 hk htx hnum e1 e2 h3
        obtain ⟨q2, hq2⟩ : ∃ q2, q2 = q - (1 + k + 2) := ⟨_, rfl⟩
        obtain ⟨cq2, hcq2⟩ : ∃ cq2, cq2 = cq - (1 + k + 2) := ⟨_, rfl⟩
        rw [← hq2, ← hcq2] at HTK
        have HQ := Lib.hid (⟨hq2, hcq2⟩ : _ ∧ _)
        clear hq2 hcq2
        cases hfo : folB out (⟨tx.toArray⟩, (num : Int)) with
        | false =>
          rw [hfo] at HFO
          have HNR := Lib.hid (HPX.out.bad hfo)
          clear hfo
          go_wp2_with fail
          refine HTK.out.mono ?_
          rintro e w2 ⟨A2, rfl, hrd, hF2⟩
          have HF2 := Lib.hid (hF2.alloc (objX ⟨tx.toArray⟩ (num : Int)))
          have d0 : (w2.alloc (objX ⟨tx.toArray⟩ (num : Int))).cell? ⟨w2.heap.size, 0, none⟩ = some (.string ⟨tx.toArray⟩) := (cellAt (heap_alloc_new w2 _) 0).trans rfl
          have d1 : (w2.alloc (objX ⟨tx.toArray⟩ (num : Int))).cell? ⟨w2.heap.size, 1, none⟩ = some (.int .i64 (num : Int)) := (cellAt (heap_alloc_new w2 _) 1).trans rfl
          clear hrd hF2 HTK
          go_wp2_with fail
          refine (HFO.out _ HF2.out).mono ?_
          rintro e w3 ⟨rfl, hF3⟩
          have HF3 := Lib.hid ((HK.out.2.2.2.2.1.trans HF2.out (fun _ _ e => e)).trans hF3 (fun _ _ e => e))
          clear hF3 d0 d1
          go_wp2_with fail
          go_ret2
          exact Or.inr ⟨HNR.out, none, 0, rfl, HF3.out⟩
        | true =>
          rw [hfo] at HFO
          have HNX := Lib.hid (FolTo.snoc HK.out.2.2.1 HK.out.2.2.2.2.2.2.2 hfo)
          clear hfo
          go_wp2_with fail
          refine HTK.out.mono ?_
          rintro e w2 ⟨A2, rfl, hrd, hF2⟩
          have HRD := Lib.hid hrd
          have HF02 := Lib.hid (HK.out.2.2.2.2.1.trans hF2 (fun _ _ e => e))
          have HF2 := Lib.hid (hF2.alloc (objX ⟨tx.toArray⟩ (num : Int)))
          have HB2 := Lib.hid (heap_alloc_new w2 (objX ⟨tx.toArray⟩ (num : Int)))
          have d0 : (w2.alloc (objX ⟨tx.toArray⟩ (num : Int))).cell? ⟨w2.heap.size, 0, none⟩ = some (.string ⟨tx.toArray⟩) := (cellAt HB2.out 0).trans rfl
          have d1 : (w2.alloc (objX ⟨tx.toArray⟩ (num : Int))).cell? ⟨w2.heap.size, 1, none⟩ = some (.int .i64 (num : Int)) := (cellAt HB2.out 1).trans rfl
          clear hrd hF2 HTK
          go_wp2_with fail
          refine (HFO.out _ HF2.out).mono ?_
          rintro e w3 ⟨rfl, hF3⟩
          have hb3 := fr_keep HB2.out hF3
          have c0 : w3.cell? ⟨w2.heap.size, 0, none⟩ = some (.string ⟨tx.toArray⟩) := (cellAt hb3 0).trans rfl
          have c1 : w3.cell? ⟨w2.heap.size, 1, none⟩ = some (.int .i64 (num : Int)) := (cellAt hb3 1).trans rfl
          have HF3 := Lib.hid (HF2.out.trans hF3 (fun _ _ e => e))
          have HOW : Hid (w3.ownsRow w.heap.size 41 2 (.slice p m c) m (ncs out)) := Lib.hid (by
            have h := HK.out.2.2.2.1.kept HF3.out
            unfold OwnN at h
            rwa [← HK.out.2.2.1] at h)
          have HFX := Lib.hid ((HK.out.2.2.2.2.1.trans HF3.out (fun _ _ e => e)).alloc (objX ⟨tx.toArray⟩ (num : Int)))
          clear hF3 hb3 d0 d1
          go_wp2_with (at_builtin; refine wpList_append_own _ rfl (.tmp 24) (.tmp 26) 23 rfl w.heap.size 41 i0 zeroN 2 24 Try.underlying23 HI.out.1 HI.out.2.1 HI.out.2.2.1 HI.out.2.2.2 rfl (by omega) _ m (ncs out) rfl (World.ownsRow.alloc HOW.out _) ⟨w3.heap.size, 0, none⟩ 1 1 [.string ⟨tx.toArray⟩, .int .i64 (num : Int)] rfl rfl (newsT _ (heap_alloc_new _ _)) (oneX _ _) (by unfold maxLen; omega) (by omega) HFX.out.size ?_; intro v9 w9 hown9 hg9 _)
          obtain ⟨p', c', e', ho'⟩ := OwnN.shape (l := out ++ [((⟨tx.toArray⟩, (num : Int)) : Nm)]) (n := m + 1) (by rw [List.length_append, ← HK.out.2.2.1]; rfl) (by rw [ncs_append]; rfl) hown9
          rw [show (out ++ [((⟨tx.toArray⟩, (num : Int)) : Nm)]).length = m + 1 by rw [List.length_append, ← HK.out.2.2.1]; rfl] at e' ho'
          subst e'
          have hF9 : Fr (fun _ => False) w w9 := HFX.out.grown hg9 (fun q e => own_ge HOW.out e)
          have hq2 := HQ.out.1
          have hcq2 := HQ.out.2
          have hrd9 : Rd w9 w.heap.size A2 (b.drop (i + (1 + k + 2))) := by
            rw [← HDD.out]
            intro hne
            obtain ⟨blk, off, e, hbk, hcell⟩ := HRD.out hne
            refine ⟨blk, off, e, hbk, fun j y hj => ?_⟩
            have h2 := HF02.out.block blk hbk id
            have h9 := hF9.block blk hbk id
            exact (World.cell?_of_block (w := w2) (w' := w9) (a := ⟨blk, off + j, none⟩) (h9.trans h2.symm)).trans (hcell j y hj)
          have hm2 := HNX.out.2
          have H9 := Lib.hid (⟨(by have := HK.out.1; rw [List.length_drop] at this ⊢; omega), hrd9, (by rw [List.length_append, ← HK.out.2.2.1]; rfl), ho', hF9, HPX.out, wf_snoc HK.out.2.2.2.2.2.2.1 (by have := HTX.out; show tx.length ≤ _; unfold maxLen; omega) (by have := HNB.out; omega), HNX.out⟩ : q2 = (b.drop (i + (1 + k + 2))).length ∧ Rd w9 w.heap.size A2 (b.drop (i + (1 + k + 2))) ∧ m + 1 = (out ++ [((⟨tx.toArray⟩, (num : Int)) : Nm)]).length ∧ OwnN w9 w.heap.size (.slice p' (m + 1) c') (out ++ [((⟨tx.toArray⟩, (num : Int)) : Nm)]) ∧ Fr (fun _ => False) w w9 ∧ PaTo b (i + (1 + k + 2)) (m + 1) (out ++ [((⟨tx.toArray⟩, (num : Int)) : Nm)]) ∧ WfN (out ++ [((⟨tx.toArray⟩, (num : Int)) : Nm)]) ∧ FolTo (out ++ [((⟨tx.toArray⟩, (num : Int)) : Nm)]) (m + 1))
          clear hown9 hg9 ho' hF9 hrd9
          go_wp2_with fail
          go_roundw
          case rel => exact ⟨i + (1 + k + 2), q2, cq2, m + 1, c', A2, p', _, by omega, by omega, by omega, rfl, rfl, (show _ ∧ _ from H9.out)⟩
          case measure => simp [lenV]; omega
    · obtain rfl : q = 0 := by omega
      have HP := Lib.hid (show parP b = some out from PaTo.done (m := m) (by rw [← HN.out]; have h := HK.out.2.2.2.2.2.1; rwa [show i = n by omega] at h))
      go_wp2_with fail
      go_ret2
      obtain ⟨_, _, e3, e4, e5, _, _, e8⟩ := HK.out
      subst e3
      exact Or.inl ⟨out, HP.out, e8.right, p, c, rfl, e4, (own_cap e4).1, (own_cap e4).2, e5⟩
end Go.Proofs.Ytppkmfhlmmlckaa.nm
