/-
  DirsTurns over what is asked of the program's own functions.
-/
import Derived.Test.YtppkmfhlmmlckaaNmT
import Derived.Test.YtppkmfhlmmlckaaNmU
namespace Go.Proofs.Ytppkmfhlmmlckaa.nm
set_option maxRecDepth 100000
open Go.RowKit Go.Maps
set_option maxRecDepth 100000

theorem radd_any (w : World) (A : Option Addr) (cap : Nat) (l : List Nm) (s : ByteArray) (num : Int) (hl : In w A cap l) (hs : s.size ≤ maxLen) :
    Calls Try.prog 22 #[.slice A l.length cap, .string s, .int .i64 num] w (AnsN w (addZ l s num) (insL l s num)) := by
  by_cases hne : l = []
  · subst hne
    cases A with
    | none =>
      obtain rfl : cap = 0 := hl.none_ rfl
      exact radd_none w s num hs
    | some ad => exact radd_empty w ad cap s num hs
  · obtain ⟨b, o, rfl, _⟩ := hl.rd.cells hne
    exact radd w b o cap l s num hl.rd hl.cap hl.len hs
/-- What Add and Remove answer. -/
def valM (z : Int) (L : List Nm) : List Nm × Int := if z = 0 then (L, 0) else ([], z)
/-- Cells that may be written, in a block of the call's own. -/
def Wr (w : World) (B : Nat) (A : Option Addr) (L : Nat) : Prop := L = 0 ∨ ∃ g cur, A = some ⟨g, 0, none⟩ ∧ B ≤ g ∧ w.heap[g]? = some (.cells cur 41 (0, 0)) ∧ L * 2 ≤ cur.size
theorem Wr.fr {w w' : World} {B : Nat} {A : Option Addr} {L : Nat} (h : Wr w B A L) (hF : Fr (fun _ => False) w w') : Wr w' B A L := by
  rcases h with h | ⟨g, cur, e, hb, hg, hs⟩
  · exact Or.inl h
  · exact Or.inr ⟨g, cur, e, hb, fr_keep hg hF, hs⟩
theorem Wr.store {w : World} {B : Nat} {A : Option Addr} {L : Nat} (h : Wr w B A L) (g' o : Nat) (v : Value) : Wr (w.setCell ⟨g', o, none⟩ v) B A L := by
  rcases h with h | ⟨g, cur, e, hb, hg, hs⟩
  · exact Or.inl h
  · by_cases hgg : g = g'
    · subst hgg
      exact Or.inr ⟨g, cur.setIfInBounds o v, e, hb, heap_setCell_same _ _ _ _ _ _ hg, by rw [Array.size_setIfInBounds]; exact hs⟩
    · have hF := (Fr.refl (· = g') w).setCell (p := ⟨g', o, none⟩) (Or.inl rfl) v
      exact Or.inr ⟨g, cur, e, hb, (hF.block g (Array.getElem?_eq_some_iff.1 hg).1 hgg).trans hg, hs⟩
theorem Wr.at_ {w : World} {B : Nat} {A : Option Addr} {L k : Nat} (h : Wr w B A L) (hk : k < L) : ∃ g old, A = some ⟨g, 0, none⟩ ∧ B ≤ g ∧ w.cell? ⟨g, k * 2, none⟩ = some old ∧ w.frozen? ⟨g, k * 2, none⟩ = false := by
  rcases h with h | ⟨g, cur, e, hb, hg, hs⟩
  · omega
  · refine ⟨g, cur[k * 2]'(by omega), e, hb, ?_, freeAt hg _⟩
    rw [cellAt hg]
    exact Array.getElem?_eq_getElem (by omega)
theorem wr_of {w : World} {B cap : Nat} {A : Option Addr} {L : List Nm} (h : OwnN w B (.slice A L.length cap) L) : Wr w B A L.length := by
  rcases h.2 with ⟨_, h0⟩ | ⟨g, cap', cur, e, hg, hh, hn, hm, hs, _⟩
  · exact Or.inl h0
  · cases e
    exact Or.inr ⟨g, cur, rfl, hg, hh, by rw [hs]; omega⟩
def GotW (w : World) (r : List Nm × Int) (e : Ending) (w' : World) : Prop := ∃ A cap, e = .returned (.tuple #[.slice A r.1.length cap, .int .i64 r.2]) ∧ RdN w' w'.heap.size A r.1 ∧ Wr w' w.heap.size A r.1.length ∧ Fr (fun _ => False) w w'
theorem gotM {w w' : World} {z : Int} {L : List Nm} {e : Ending} (h : AnsM w z L e w') (hw : WfN L) : GotW w (valM z L) e w' := by
  unfold valM
  rcases h with ⟨hz, A, cap, rfl, ho, _, _, hF⟩ | ⟨hz, A, cap, rfl, hF⟩
  · rw [if_pos hz]
    exact ⟨A, cap, rfl, OwnN.rd ho hw, wr_of ho, hF⟩
  · rw [if_neg hz]
    exact ⟨A, cap, rfl, RdN.nil _ _ _, Or.inl rfl, hF⟩
theorem gotR {w w' : World} {z : Int} {L : List Nm} {e : Ending} (h : AnsN w z L e w') (hw : WfN L) : GotN w (valM z L) e w' := by
  unfold valM
  rcases h with ⟨hz, A, cap, rfl, ho, hF⟩ | ⟨hz, rfl, rfl⟩
  · rw [if_pos hz]
    exact ⟨A, cap, rfl, OwnN.rd ho hw, hF⟩
  · rw [if_neg hz]
    exact ⟨none, 0, rfl, RdN.nil _ _ _, Fr.refl _ _⟩
theorem wf_rm {l : List Nm} {s : ByteArray} (h : WfN l) : WfN (rmL l s) := fun x hx => by
  unfold rmL at hx
  rcases List.mem_append.1 hx with hx | hx
  · exact h x (List.mem_of_mem_take hx)
  · exact h x (List.mem_of_mem_drop hx)
theorem valM_ins_len {l : List Nm} {s : ByteArray} {n : Int} : (valM (addZ l s n) (insL l s n)).1.length ≤ 256 := by
  unfold valM
  by_cases h : addZ l s n = 0
  · rw [if_pos h, insL_length]
    have := (addZ_ok h).2.2.2
    omega
  · rw [if_neg h]
    simp
theorem valM_rm_len {l : List Nm} {s : ByteArray} : (valM (lookR l s).2 (rmL l s)).1.length ≤ l.length := by
  unfold valM
  by_cases h : (lookR l s).2 = 0
  · rw [if_pos h]
    have := rmL_length (look_ok h).2
    show (rmL l s).length ≤ _
    omega
  · rw [if_neg h]
    simp

theorem rdN_keep {w w' : World} {S : Nat → Prop} {B : Nat} {A : Option Addr} {l : List Nm} (h : RdN w B A l) (hF : Fr S w w') (hS : ∀ q, q < B → ¬ S q) (hB : B ≤ w.heap.size) : RdN w' B A l := by
  refine ⟨fun hne => ?_, h.wf⟩
  obtain ⟨blk, off, e, hb, hc⟩ := h.cells hne
  have k : ∀ o v, w.cell? ⟨blk, o, none⟩ = some v → w'.cell? ⟨blk, o, none⟩ = some v := fun o v hv => (World.cell?_of_block (w := w) (w' := w') (a := ⟨blk, o, none⟩) (hF.block blk (by omega) (hS blk hb))).trans hv
  exact ⟨blk, off, e, hb, fun i x hx => ⟨k _ _ (hc i x hx).1, k _ _ (hc i x hx).2⟩⟩

set_option maxHeartbeats 4000000 in
theorem turns_walk (HD : Dirs) (w : World) (A : Option Addr) (cap : Nat) (l : List Nm) (s : ByteArray) (num : Int) (hl : In w A cap l) (hs : s.size ≤ maxLen) (hn : -9223372036854775808 ≤ num ∧ num ≤ 9223372036854775807) :
    Calls Try.prog 4 #[.slice A l.length cap, .string s, .int .i64 num] w fun e w' => e = .returned (.bool true) ∧ Fr (fun _ => False) w w' := by
  obtain ⟨n, hn'⟩ : ∃ n, n = l.length := ⟨_, rfl⟩
  have HL := Lib.hid (⟨hl, hn', hs, hn⟩ : _ ∧ _ ∧ _ ∧ _)
  have hnl : n ≤ 5864062014805 := by rw [hn']; exact hl.len
  have HDD := Lib.hid HD
  have HNM := Lib.hid (names_any w A cap l hl.rd hl.none_ hl.len)
  rw [← hn'] at HNM
  rw [← hn']
  clear hl hn' hs hn HD
  go_enter Try.func4, Try.ntmps4
  go_wp2_with fail
  refine HNM.out.mono ?_
  rintro e w1 ⟨Ao, co, rfl, hoo, hF1⟩
  have HO1 := Lib.hid (⟨OwnN.rd hoo HL.out.1.rd.wf, (own_cap hoo).1, (own_cap hoo).2, HL.out.1.len⟩ : In w1 Ao co l)
  have HF1 := Lib.hid hF1
  clear hoo hF1 HNM
  obtain ⟨r0, h0⟩ : ∃ r0, r0 = (lookR l s).1 := ⟨_, rfl⟩
  obtain ⟨r1, h1⟩ : ∃ r1, r1 = (lookR l s).2 := ⟨_, rfl⟩
  obtain ⟨va, hva⟩ : ∃ va, va = valM (addZ l s num) (insL l s num) := ⟨_, rfl⟩
  obtain ⟨vr, hvr⟩ : ∃ vr, vr = valM (lookR l s).2 (rmL l s) := ⟨_, rfl⟩
  have HV := Lib.hid (⟨hva, hvr, by rw [hva]; exact valM_ins_len, by rw [hvr, HL.out.2.1]; exact valM_rm_len⟩ : _ ∧ _ ∧ va.1.length ≤ 256 ∧ vr.1.length ≤ n)
  have HWI := Lib.hid (wf_ins HL.out.1.rd.wf HL.out.2.2.1 HL.out.2.2.2)
  have HLK := Lib.hid (HDD.out.look w1 Ao co l s HO1.out HL.out.2.2.1)
  rw [← h0, ← h1, ← HL.out.2.1] at HLK
  rw [← HL.out.2.1]
  go_wp2_with fail
  refine HLK.out.mono ?_
  rintro e w2 ⟨rfl, hF2⟩
  have HF2 := Lib.hid hF2
  have HF02 := Lib.hid (HF1.out.trans hF2 (fun _ _ e => e))
  have HRL := Lib.hid (rlook w2 A cap l s (rdN_fr HL.out.1.rd HF02.out) (by have := HL.out.1.len; omega) HL.out.2.2.1)
  rw [← h0, ← h1, ← HL.out.2.1] at HRL
  clear hF2 HLK hva hvr h0 h1
  go_wp2_with fail
  refine HRL.out.mono ?_
  rintro e w' ⟨rfl, rfl⟩
  have HAD := Lib.hid ((HDD.out.add w2 Ao co l s num (HO1.out.fr HF2.out) HL.out.2.2.1 HL.out.2.2.2).mono fun _ _ h => gotM h HWI.out)
  rw [← HV.out.1, ← HL.out.2.1] at HAD
  clear HRL
  go_wp2_with fail
  refine HAD.out.mono ?_
  rintro e w3 ⟨Ac, cc, rfl, hrc, hwc, hF3⟩
  have HC3 := Lib.hid (⟨hrc, hwc⟩ : _ ∧ _)
  have HF3 := Lib.hid hF3
  have HF03 := Lib.hid (HF02.out.trans hF3 (fun _ _ e => e))
  have HRA := Lib.hid ((radd_any w3 A cap l s num (HL.out.1.fr HF03.out) HL.out.2.2.1).mono fun _ _ h => gotR h HWI.out)
  rw [← HV.out.1, ← HL.out.2.1] at HRA
  clear hrc hwc hF3 HAD
  go_wp2_with fail
  refine HRA.out.mono ?_
  rintro e w4 ⟨Ad, cd, rfl, hrd, hF4⟩
  have HD4 := Lib.hid hrd
  have HF4 := Lib.hid hF4
  have HF14 := Lib.hid ((HF2.out.trans HF3.out (fun _ _ e => e)).trans hF4 (fun _ _ e => e))
  have HRM := Lib.hid ((HDD.out.remove w4 Ao co l s (HO1.out.fr HF14.out) HL.out.2.2.1).mono fun _ _ h => gotM h (wf_rm HL.out.1.rd.wf))
  rw [← HV.out.2.1, ← HL.out.2.1] at HRM
  clear hrd hF4 HRA
  go_wp2_with fail
  refine HRM.out.mono ?_
  rintro e w5 ⟨Ax, cx, rfl, hrx, hwx, hF5⟩
  have HX5 := Lib.hid (⟨hrx, hwx⟩ : _ ∧ _)
  have HF5 := Lib.hid hF5
  have HF05 := Lib.hid ((HF1.out.trans HF14.out (fun _ _ e => e)).trans hF5 (fun _ _ e => e))
  have HRR := Lib.hid ((rremove w5 A cap l s (rdN_fr HL.out.1.rd HF05.out) HL.out.1.cap HL.out.1.len HL.out.2.2.1).mono fun _ _ h => gotR h (wf_rm HL.out.1.rd.wf))
  rw [← HV.out.2.1, ← HL.out.2.1] at HRR
  clear hrx hwx hF5 HRM
  go_wp2_with fail
  refine HRR.out.mono ?_
  rintro e w6 ⟨Ay, cy, rfl, hry, hF6⟩
  have HY6 := Lib.hid hry
  have HF6 := Lib.hid hF6
  have HF46 := Lib.hid (HF5.out.trans hF6 (fun _ _ e => e))
  have HF36 := Lib.hid (HF4.out.trans HF46.out (fun _ _ e => e))
  have hv3 := HV.out.2.2.1
  have hv4 := HV.out.2.2.2
  have HS1 := Lib.hid (sameN_any w6 Ac Ad w6.heap.size w6.heap.size cc cd va.1 va.1 (rdN_fr HC3.out.1 HF36.out) (rdN_fr HD4.out HF46.out) (Nat.le_refl _) (Nat.le_refl _) (by omega))
  have HS2 : Hid (∀ w7, Fr (fun _ => False) w6 w7 → Calls Try.prog 14 #[.slice Ax vr.1.length cx, .slice Ay vr.1.length cy] w7 fun e w' => e = .returned (.bool (decide (vr.1 = vr.1))) ∧ Calm w7 w') := Lib.hid fun w7 hF => sameN_any w7 Ax Ay w7.heap.size w7.heap.size cx cy vr.1 vr.1 (rdN_fr HX5.out.1 (HF6.out.trans hF (fun _ _ e => e))) (rdN_fr HY6.out hF) (Nat.le_refl _) (Nat.le_refl _) (by omega)
  rw [decide_eq_true rfl] at HS1 HS2
  have HWC := Lib.hid (show Wr w6 w2.heap.size Ac va.1.length from HC3.out.2.fr HF36.out)
  have HWX := Lib.hid (show Wr w6 w2.heap.size Ax vr.1.length by
    rcases HX5.out.2.fr HF6.out with h | ⟨g, cur, e, hb, h⟩
    · exact Or.inl h
    · exact Or.inr ⟨g, cur, e, Nat.le_trans (Nat.le_trans HF3.out.size HF4.out.size) hb, h⟩)
  have HF06 := Lib.hid (HF05.out.trans HF6.out (fun _ _ e => e))
  have HF16 := Lib.hid (HF14.out.trans HF46.out (fun _ _ e => e))
  obtain ⟨va1, va2⟩ := va
  obtain ⟨vr1, vr2⟩ := vr
  obtain ⟨qa, hqa⟩ : ∃ qa, qa = va1.length := ⟨_, rfl⟩
  obtain ⟨qr, hqr⟩ : ∃ qr, qr = vr1.length := ⟨_, rfl⟩
  simp only [← hqa, ← hqr] at HS1 HS2 HWC HWX hv3 hv4 ⊢
  clear hry hF6 HRR hqa hqr
  go_wp2_with fail
  refine HS1.out.mono ?_
  rintro e w7 ⟨rfl, hC7⟩
  have HF7 := Lib.hid hC7.fr
  clear hC7
  go_wp2_with fail
  refine (HS2.out w7 HF7.out).mono ?_
  rintro e w8 ⟨rfl, hC8⟩
  have HF8 := Lib.hid (HF7.out.trans hC8.fr (fun _ _ e => e))
  have HK0 := Lib.hid (⟨(HF8.out.mono (S := fun q => w2.heap.size ≤ q) (fun _ _ e => e.elim)), HWC.out.fr HF8.out, HWX.out.fr HF8.out⟩ : Fr (fun q => w2.heap.size ≤ q) w6 w8 ∧ Wr w8 w2.heap.size Ac qa ∧ Wr w8 w2.heap.size Ax qr)
  clear hC8
  go_wp2_with fail
  go_loopw [20] (fun v wr => ∃ k : Nat, k ≤ qa ∧ v = .int .i64 k ∧ Hid (Fr (fun q => w2.heap.size ≤ q) w6 wr ∧ Wr wr w2.heap.size Ac qa ∧ Wr wr w2.heap.size Ax qr)) (fun v _ => qa - (intOf v).toNat)
  case atStart => exact ⟨0, Nat.zero_le _, rfl, HK0⟩
  case round =>
    obtain ⟨k, hk, rfl, HK⟩ := hrel
    clear HK0
    by_cases hlt : k < qa
    · obtain ⟨g, old, hA, hg, hc, hf⟩ := (HK.out.2.1).at_ hlt
      have HG := Lib.hid hg
      have HA := Lib.hid hA
      subst hA
      have e0 : 0 + k * 2 = k * 2 := Nat.zero_add _
      have hc' : wr.cell? ⟨g, 0 + k * 2, none⟩ = some old := by rw [e0]; exact hc
      have hf' : wr.frozen? ⟨g, 0 + k * 2, none⟩ = false := by rw [e0]; exact hf
      clear e0
      go_wp2_with fail
      refine ⟨⟨k + 1, by omega, by push_cast; rfl, ⟨HK.out.1.setCell (Or.inl HG.out) _, HK.out.2.1.store _ _ _, HK.out.2.2.store _ _ _⟩⟩, ?_⟩
      show qa - ((k : Int) + 1).toNat < qa - (k : Int).toNat
      omega
    · have HK1 := HK
      clear HK
      go_wp2_with fail
      clear hk hlt
      go_loopw [21] (fun v wr => ∃ k : Nat, k ≤ qr ∧ v = .int .i64 k ∧ Hid (Fr (fun q => w2.heap.size ≤ q) w6 wr ∧ Wr wr w2.heap.size Ac qa ∧ Wr wr w2.heap.size Ax qr)) (fun v _ => qr - (intOf v).toNat)
      case atStart => exact ⟨0, Nat.zero_le _, rfl, HK1⟩
      case round =>
        obtain ⟨k, hk, rfl, HK⟩ := hrel
        clear HK1
        by_cases hlt : k < qr
        · obtain ⟨g, old, hA, hg, hc, hf⟩ := (HK.out.2.2).at_ hlt
          have HG := Lib.hid hg
          have HA := Lib.hid hA
          subst hA
          have e0 : 0 + k * 2 = k * 2 := Nat.zero_add _
          have hc' : wr.cell? ⟨g, 0 + k * 2, none⟩ = some old := by rw [e0]; exact hc
          have hf' : wr.frozen? ⟨g, 0 + k * 2, none⟩ = false := by rw [e0]; exact hf
          clear e0
          go_wp2_with fail
          refine ⟨⟨k + 1, by omega, by push_cast; rfl, ⟨HK.out.1.setCell (Or.inl HG.out) _, HK.out.2.1.store _ _ _, HK.out.2.2.store _ _ _⟩⟩, ?_⟩
          show qr - ((k : Int) + 1).toNat < qr - (k : Int).toNat
          omega
        · have H1 := Lib.hid ((HF16.out.mono (S := fun q => w2.heap.size ≤ q) (fun _ _ e => e.elim)).trans HK.out.1 (fun _ _ e => e))
          have H0 := Lib.hid ((HF1.out.mono (S := fun q => w2.heap.size ≤ q) (fun _ _ e => e.elim)).trans H1.out (fun _ _ e => e))
          have h12 := HF2.out.size
          have h01 := HF1.out.size
          have h1w := H1.out.size
          have hln := HL.out.2.1
          have HS3 := Lib.hid (sameN_any wr Ao A w1.heap.size w.heap.size co cap l l (rdN_keep HO1.out.rd H1.out (fun q hq e => by omega) (Nat.le_refl _)) (rdN_keep HL.out.1.rd H0.out (fun q hq e => by omega) (Nat.le_refl _)) h1w (Nat.le_trans h01 h1w) (by omega))
          rw [decide_eq_true rfl, ← hln] at HS3
          clear h12 h01 h1w hln
          go_wp2_with fail
          clear hk hlt
          refine HS3.out.mono ?_
          rintro e w9 ⟨rfl, hC9⟩
          have HF9 := Lib.hid hC9.fr
          clear hC9 HS3
          go_wp2_with fail
          refine (HDD.out.works w9).mono ?_
          rintro e w10 ⟨rfl, hF10⟩
          have HFz := Lib.hid (⟨rfl, ((H0.out.trans (HF9.out.mono (S := fun q => w2.heap.size ≤ q) (fun _ _ e => e.elim)) (fun _ _ e => e)).trans (hF10.mono (S := fun q => w2.heap.size ≤ q) (fun _ _ e => e.elim)) (fun _ _ e => e)).mono (fun q hq e => by have := HF02.out.size; omega)⟩ : Ending.returned (Value.bool true) = Ending.returned (.bool true) ∧ Fr (fun _ => False) w w10)
          clear hF10
          go_wp2_with fail
          go_ret
          exact ⟨rfl, HFz.out.2⟩
end Go.Proofs.Ytppkmfhlmmlckaa.nm
