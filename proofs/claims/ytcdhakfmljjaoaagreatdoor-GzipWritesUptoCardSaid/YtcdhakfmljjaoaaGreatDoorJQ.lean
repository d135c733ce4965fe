/-
  Texts that belong together, joined: GeG GeH.
-/
import Derived.Test.YtcdhakfmljjaoaaGreatDoorJP

/-
  The program's frame that is being read: its end; Open.
-/

namespace Go.Proofs.YtcdhakfmljjaoaaGreatDoor.gz
set_option maxRecDepth 100000
open Go.RowKit Go.Maps Go.Proofs.YtcdhakfmljjaoaaGreatDoor.fl Go.Proofs.YtcdhakfmljjaoaaGreatDoor.cd Go.Proofs.YtcdhakfmljjaoaaGreatDoor.ft
set_option maxRecDepth 100000

/-- What stands behind the stream of bytes o. -/
def endM : RdM Unit := fun B p => if B.length = p then .ok ((), p) else .error 120
def tailM (sum : By → Nat) (o : By) : RdM Unit := bnd (wantM (sum o) 4 121) fun _ => bnd (wantM o.length 4 121) fun _ => endM
section
variable {w0 w w' : World} {g n cap p : Nat} {A : Option Addr} {b : By}
set_option maxHeartbeats 2000000 in
theorem ptail (h : JZ w0 w g A n cap b p) (hT : DT w0) (Ao : Option Addr) (no co : Nat) (o : By) (ho : Rd w w.heap.size Ao o) (hl : no = o.length) (hm : no ≤ 262144) : Calls Tryz.prog 31 #[.pointer (some ⟨g, 0, none⟩), .slice Ao no co] w (Tells (tailM csum o) w0 w g A n cap b p) := by
  have HS := Lib.hid (psumOf w (hT.keep h.fr) Ao no co w.heap.size o ho hl (by omega))
  have HZ := Lib.hid (fun wx => psizeOf wx Ao no co (by omega))
  have HE := Lib.hid (pexpect h (csum o) 4 121 (by decide) (by decide) (by decide))
  have HL := Lib.hid hl
  obtain ⟨c, hc⟩ : ∃ c, c = csum o := ⟨_, rfl⟩
  have HTM := Lib.hid (show tailM csum o = bnd (wantM c 4 121) fun _ => bnd (wantM no 4 121) fun _ => endM from by rw [hc, hl]; rfl)
  rw [← hc] at HS HE
  clear h hT ho hl hc
  go_enter Tryz.func31, Tryz.ntmps31
  go_wp2_with (go_at_call 40; refine HS.out.mono ?_; rintro e w' ⟨rfl, rfl⟩)
  refine HE.out.mono ?_
  rintro e w1 ⟨k1, q1, rfl, j1, ok1, no1⟩
  by_cases hk1 : k1 = 0
  · subst hk1
    have H1 := Lib.hid j1
    have HO := Lib.hid (ok1 rfl)
    have HE2 := Lib.hid (pexpect j1.1 no 4 121 (by decide) (by decide) (by decide))
    clear j1 ok1 no1 HE
    go_wp2_with fail
    refine (HZ.out _).mono ?_
    rintro e w' ⟨rfl, rfl⟩
    go_wp2_with fail
    refine HE2.out.mono ?_
    rintro e w2 ⟨k2, q2, rfl, j2, ok2, no2⟩
    by_cases hk2 : k2 = 0
    · subst hk2
      have H2 := Lib.hid (H1.out.then j2)
      have HO2 := Lib.hid (ok2 rfl)
      have HR := Lib.hid (prest j2.1)
      have hqn := j2.1.le
      have HN := Lib.hid j2.1.len
      obtain ⟨nr, hnr⟩ : ∃ k, k = n - q2 := ⟨_, rfl⟩
      rw [← hnr] at HR
      clear j2 ok2 no2 HE2
      by_cases hend : n = q2
      · obtain rfl : nr = 0 := by omega
        have HX := Lib.hid (show tailM csum o (bitsOf b) (8 * p) = .ok ((), 8 * q2) from by
          rw [HTM.out, bnd_of HO.out, bnd_of HO2.out]
          unfold endM
          rw [if_pos (by rw [bitsOf_length, ← HN.out, hend])])
        clear hnr hend
        go_wp2_with fail
        refine HR.out.mono ?_
        rintro e w3 ⟨rfl, hC⟩
        have H3 := Lib.hid (H2.out.then (H2.out.1.step hC.fr))
        clear hC HR
        go_wp2_with fail
        go_ret
        exact Tells.ok rfl H3.out HX.out
      · have hnr0 : 0 < nr := by omega
        have HX := Lib.hid (show tailM csum o (bitsOf b) (8 * p) = .error 120 from by
          rw [HTM.out, bnd_of HO.out, bnd_of HO2.out]
          unfold endM
          rw [if_neg (by rw [bitsOf_length, ← HN.out]; omega)])
        clear hnr hend
        go_wp2_with fail
        refine HR.out.mono ?_
        rintro e w3 ⟨rfl, hC⟩
        have H3 := Lib.hid (H2.out.then (H2.out.1.step hC.fr))
        clear hC HR
        go_wp2_with fail
        go_ret
        exact Tells.no rfl H3.out (by decide) HX.out
    · have H2 := Lib.hid (show Tells (tailM csum o) w0 w g A n cap b p (.returned (.int .i64 k2)) w2 from Tells.no rfl (H1.out.then j2) hk2 (by rw [HTM.out, bnd_of HO.out, bnd_err (no2 hk2)]))
      clear j2 ok2 no2 HE2
      go_wp2_with fail
      go_ret
      exact H2.out
  · have H1 := Lib.hid (show Tells (tailM csum o) w0 w g A n cap b p (.returned (.int .i64 k1)) w1 from Tells.no rfl j1 hk1 (by rw [HTM.out, bnd_err (no1 hk1)]))
    clear j1 ok1 no1 HE
    go_wp2_with fail
    go_ret
    exact H1.out
end

/-! ### what Open answers, step by step -/
section
variable {b : By} {most q m p : Nat} {o : By} {e : Int}
theorem open_arg {sum : By → Nat} {most : Int} (h : most < 0 ∨ 262144 < most) : openV sum b most = ([], 2) := by unfold openV; rw [if_pos h]
theorem open_body {sum : By → Nat} (hm : most ≤ 262144) : openV sum b (most : Int) = match bodyM sum most (bitsOf b) 0 with
    | .error e => ([], e)
    | .ok (o, q) => if 8 * b.length = q then (o, 0) else ([], 120) := by
  unfold openV
  rw [if_neg (by omega), Int.toNat_natCast]
  rfl
theorem open_head {sum : By → Nat} (hm : most ≤ 262144) (h : headM sum (bitsOf b) 0 = .error e) : openV sum b (most : Int) = ([], e) := by
  rw [open_body hm]
  unfold bodyM
  rw [bnd_err h]
theorem stream_no (hq : q ≤ b.length) (hm : most ≤ 262144) (hi : inflV (b.drop q) (most : Int) = ([], 0, e)) (he : e ≠ 0) : streamM most (bitsOf b) (8 * q) = .error e := by
  obtain ⟨e2, h1, h2⟩ := inflV_zero hm (b := b.drop q) (by rw [hi]; exact he)
  rw [hi] at h2
  cases h2
  unfold streamM
  rw [bnd_err]
  rw [infl_behind most b q hq, h1]
  rfl
theorem stream_ok (hq : q ≤ b.length) (hm : most ≤ 262144) (hi : inflV (b.drop q) (most : Int) = (o, m, 0)) : streamM most (bitsOf b) (8 * q) = .ok (o, 8 * (q + m)) ∧ q + m ≤ b.length ∧ o.length ≤ most := by
  obtain ⟨o2, q2, h1, h2, h3, h4, h5⟩ := inflV_ok hm (b := b.drop q) (by rw [hi])
  rw [hi] at h2
  cases h2
  rw [List.length_drop] at h4
  refine ⟨?_, by omega, h3⟩
  unfold streamM
  have h6 : inflM most (bitsOf b) (8 * q) = .ok (o, 8 * q + q2) := by rw [infl_behind most b q hq, h1]; rfl
  rw [bnd_of h6]
  unfold al up8 bnd ret
  show Except.ok _ = Except.ok _
  congr 2
  omega
theorem open_stream {sum : By → Nat} (hm : most ≤ 262144) (h : headM sum (bitsOf b) 0 = .ok ((), 8 * q)) (hs : streamM most (bitsOf b) (8 * q) = .error e) : openV sum b (most : Int) = ([], e) := by
  rw [open_body hm]
  unfold bodyM
  rw [bnd_of h, bnd_err hs]
theorem tail_body {sum : By → Nat} : bnd (by8 4) (fun s => if num s = sum o then bnd (by8 4) fun n => if num n = o.length then ret o else err 121 else err 121) (bitsOf b) (8 * p) = bnd (wantM (sum o) 4 121) (fun _ => bnd (wantM o.length 4 121) fun _ => ret o) (bitsOf b) (8 * p) := by
  unfold wantM
  by_cases h4 : p + 4 ≤ b.length
  · rw [bnd_of (by8_in h4)]
    by_cases hs : num ((b.drop p).take 4) = sum o
    · have w1 : bnd (by8 4) (fun l => if num l = sum o then ret () else err 121) (bitsOf b) (8 * p) = .ok ((), 8 * (p + 4)) := by rw [bnd_of (by8_in h4), if_pos hs]; rfl
      rw [if_pos hs, bnd_of w1]
      by_cases h8 : p + 4 + 4 ≤ b.length
      · rw [bnd_of (by8_in h8)]
        by_cases hn : num ((b.drop (p + 4)).take 4) = o.length
        · have w2 : bnd (by8 4) (fun l => if num l = o.length then ret () else err 121) (bitsOf b) (8 * (p + 4)) = .ok ((), 8 * (p + 4 + 4)) := by rw [bnd_of (by8_in h8), if_pos hn]; rfl
          rw [if_pos hn, bnd_of w2]
        · have w2 : bnd (by8 4) (fun l => if num l = o.length then ret () else err 121) (bitsOf b) (8 * (p + 4)) = .error 121 := by rw [bnd_of (by8_in h8), if_neg hn]; rfl
          rw [if_neg hn, bnd_err w2]
          rfl
      · rw [bnd_err (by8_out (by omega)), bnd_err (bnd_err (by8_out (by omega)))]
    · have w1 : bnd (by8 4) (fun l => if num l = sum o then ret () else err 121) (bitsOf b) (8 * p) = .error 121 := by rw [bnd_of (by8_in h4), if_neg hs]; rfl
      rw [if_neg hs, bnd_err w1]
      rfl
  · rw [bnd_err (by8_out (by omega)), bnd_err (bnd_err (by8_out (by omega)))]
theorem open_tail {sum : By → Nat} (hm : most ≤ 262144) (h : headM sum (bitsOf b) 0 = .ok ((), 8 * q)) (hs : streamM most (bitsOf b) (8 * q) = .ok (o, 8 * p)) :
    (∀ r, tailM sum o (bitsOf b) (8 * p) = .ok ((), r) → openV sum b (most : Int) = (o, 0)) ∧ (tailM sum o (bitsOf b) (8 * p) = .error e → openV sum b (most : Int) = ([], e)) := by
  have hb : bodyM sum most (bitsOf b) 0 = bnd (wantM (sum o) 4 121) (fun _ => bnd (wantM o.length 4 121) fun _ => ret o) (bitsOf b) (8 * p) := by
    unfold bodyM
    rw [bnd_of h, bnd_of hs, tail_body]
  rw [open_body hm, hb]
  unfold tailM
  cases h1 : wantM (sum o) 4 121 (bitsOf b) (8 * p) with
  | error k => rw [bnd_err h1, bnd_err h1]; exact ⟨fun r e => (by cases e), fun e => (by cases e; rfl)⟩
  | ok v =>
    obtain ⟨⟨⟩, r1⟩ := v
    rw [bnd_of h1, bnd_of h1]
    cases h2 : wantM o.length 4 121 (bitsOf b) r1 with
    | error k => rw [bnd_err h2, bnd_err h2]; exact ⟨fun r e => (by cases e), fun e => (by cases e; rfl)⟩
    | ok v2 =>
      obtain ⟨⟨⟩, r2⟩ := v2
      rw [bnd_of h2, bnd_of h2]
      unfold endM ret
      rw [bitsOf_length]
      by_cases hr : 8 * b.length = r2
      · rw [if_pos hr]
        exact ⟨fun r _ => (by simp only [if_pos hr]), fun e => (by cases e)⟩
      · rw [if_neg hr]
        exact ⟨fun r e => (by cases e), fun e => (by cases e; simp only [if_neg hr])⟩
end
end Go.Proofs.YtcdhakfmljjaoaaGreatDoor.gz

/-
  The program's Open.
-/
namespace Go.Proofs.YtcdhakfmljjaoaaGreatDoor.gz
set_option maxRecDepth 100000
open Go.RowKit Go.Maps Go.Proofs.YtcdhakfmljjaoaaGreatDoor.fl Go.Proofs.YtcdhakfmljjaoaaGreatDoor.cd Go.Proofs.YtcdhakfmljjaoaaGreatDoor.ft
set_option maxRecDepth 100000

/-- Bytes do not lie where the reader lies. -/
theorem rd_off {w0 w w' : World} {g n cap p B : Nat} {A Ao : Option Addr} {b o : By} (h : JZ w0 w g A n cap b p) (ho : Rd w B Ao o) (hF : Fr (fun i => i = g) w w') (hB : B ≤ w.heap.size) : Rd w' B Ao o := fun hne => by
  obtain ⟨blk, off, e1, e2, hc⟩ := ho hne
  have hbg : blk ≠ g := by
    intro e
    subst e
    obtain ⟨x, r, rfl⟩ := List.exists_cons_of_ne_nil hne
    have h0 := hc 0 x rfl
    rw [cellAt h.blk] at h0
    rcases (show off + 0 = 0 ∨ off + 0 = 1 ∨ 2 ≤ off + 0 by omega) with e | e | e
    · rw [e] at h0; simp at h0
    · rw [e] at h0; simp at h0
    · rw [Array.getElem?_eq_none (by simpa using e)] at h0; cases h0
  exact ⟨blk, off, e1, e2, fun j x hj => (World.cell?_of_block (w := w) (w' := w') (hF.block blk (by omega) hbg)).trans (hc j x hj)⟩
/-- What Open answers: bytes that can be read, and an error. -/
def OpA (w : World) (V : By × Int) (e : Ending) (w' : World) : Prop := ∃ A' cap', e = .returned (.tuple #[.slice A' V.1.length cap', .int .i64 V.2]) ∧ Rd w' w'.heap.size A' V.1 ∧ Fr (fun _ => False) w w'
theorem OpA.no {w w' : World} {k : Int} (hF : Fr (fun _ => False) w w') : OpA w ([], k) (.returned (.tuple #[.slice none 0 0, .int .i64 k])) w' := ⟨none, 0, rfl, Rd.nil _ _ _, hF⟩
set_option maxHeartbeats 4000000 in
theorem pOpen (w : World) (A : Option Addr) (cap : Nat) (b : By) (most : Int) (hr : Rd w w.heap.size A b) (hA : A = none → cap = 0) (hc : b.length ≤ cap) (hb : b.length ≤ 4000000) (hm : Big most) (hT : DT w) :
    Calls Tryz.prog 14 #[.slice A b.length cap, .int .i64 most] w (OpA w (openV csum b most)) := by
  have HJ0 := jz_new w A cap b hr hA hc hb
  have HH := Lib.hid (pheader HJ0 hT)
  have HT := Lib.hid hT
  have HF0 := Lib.hid HJ0.fr
  obtain ⟨n, hn⟩ : ∃ n, n = b.length := ⟨_, rfl⟩
  rw [← hn] at HH ⊢
  have HN := Lib.hid hn
  clear hr hA hc hb hT hn HJ0
  by_cases h1 : most < 0
  · rw [open_arg (Or.inl h1)]
    clear HH
    go_enter Tryz.func14, Tryz.ntmps14
    go_wp2_with fail
    go_ret2
    exact OpA.no (Fr.refl _ _)
  · by_cases h2 : 262144 < most
    · rw [open_arg (Or.inr h2)]
      clear HH
      go_enter Tryz.func14, Tryz.ntmps14
      go_wp2_with fail
      go_ret2
      exact OpA.no (Fr.refl _ _)
    · obtain ⟨mm, rfl⟩ : ∃ mm : Nat, most = mm := ⟨most.toNat, by omega⟩
      have hmm : mm ≤ 262144 := by omega
      obtain ⟨V, hV⟩ : ∃ V, V = openV csum b (mm : Int) := ⟨_, rfl⟩
      rw [← hV]
      have HV := Lib.hid hV
      clear hV
      go_enter Tryz.func14, Tryz.ntmps14
      go_wp2_with fail
      refine HH.out.mono ?_
      rintro e w1 ⟨k1, q, rfl, j1, ok1, no1⟩
      by_cases hk1 : k1 = 0
      · subst hk1
        have H1 := Lib.hid j1.1
        have HO := Lib.hid (show headM csum (bitsOf b) 0 = .ok ((), 8 * q) from ok1 rfl)
        have HR := Lib.hid (prest j1.1)
        have hqn := j1.1.le
        have hn4 := j1.1.sm
        have hcap := j1.1.cap
        have HI := Lib.hid (fun (w2 : World) (hC : Calm w1 w2) => pinflate w2 (cutA A cap q) (cap - q) (b.drop q) (mm : Int) ((cutA_rd (j1.1.still hC.fr)).more ((j1.1.still hC.fr).fr.size)) (cutA_none j1.1) (by rw [List.length_drop]; have := HN.out; omega) (by rw [List.length_drop]; have := HN.out; omega) hm (HT.out.keep (j1.1.still hC.fr).fr).fla)
        rw [List.length_drop, ← HN.out] at HI
        have HQ := Lib.hid (show q ≤ b.length by rw [← HN.out]; exact hqn)
        obtain ⟨IV, hIV⟩ : ∃ V, V = inflV (b.drop q) (mm : Int) := ⟨_, rfl⟩
        rw [← hIV] at HI
        have HIV := Lib.hid hIV
        clear hIV
        obtain ⟨o, m, x⟩ := IV
        simp only at HI
        obtain ⟨A1, hA1⟩ : ∃ A1, A1 = cutA A cap q := ⟨_, rfl⟩
        obtain ⟨n1, hn1⟩ : ∃ k, k = n - q := ⟨_, rfl⟩
        obtain ⟨c1, hc1⟩ : ∃ k, k = cap - q := ⟨_, rfl⟩
        rw [← hA1, ← hn1, ← hc1] at HI HR
        clear hA1 hn1 hc1 j1 ok1 no1 HH
        go_wp2_with fail
        refine HR.out.mono ?_
        rintro e w2 ⟨rfl, hC⟩
        have H2 := Lib.hid (H1.out.still hC.fr)
        have HI2 := Lib.hid (HI.out w2 hC)
        clear HI HR hC
        go_wp2_with fail
        refine HI2.out.mono ?_
        rintro e w3 ⟨A3, c3, rfl, ho, hF3⟩
        have H3 := Lib.hid (H2.out.still hF3)
        obtain ⟨no, hno⟩ : ∃ k, k = o.length := ⟨_, rfl⟩
        rw [← hno]
        by_cases hx : x = 0
        · subst hx
          obtain ⟨s1, s2, s3⟩ := stream_ok HQ.out hmm HIV.out.symm
          have hqm : q + m ≤ n := by have := HN.out; omega
          have d1 := H3.out.c1
          have f1 := H3.out.f1
          have HM := Lib.hid (H3.out.move hqm)
          have hFm : Fr (fun i => i = w.heap.size) w3 (w3.setCell ⟨w.heap.size, 1, none⟩ (.int .i64 ((q + m : Nat) : Int))) := (H3.out.go (Fr.refl _ w3) hqm).2
          have hqw : IntKind.i64.wrap ((q : Int) + (m : Int)) = ((q + m : Nat) : Int) := by rw [IntWalk.i64_in _ (by omega)]; omega
          have HO4 := Lib.hid ((rd_off H3.out ho hFm (Nat.le_refl _)).more hFm.size)
          have HTL := Lib.hid (ptail HM.out HT.out A3 no c3 o HO4.out hno (by omega))
          have HTB := Lib.hid (fun (e : Int) => open_tail (e := e) (p := q + m) hmm HO.out s1)
          have HNO := Lib.hid hno
          clear ho hF3 hno s1 s2 s3 hFm HI2
          go_wp2_with fail
          refine HTL.out.mono ?_
          rintro e w4 ⟨k4, q4, rfl, j4, ok4, no4⟩
          have H4 := Lib.hid j4.1.fr
          by_cases hk4 : k4 = 0
          · subst hk4
            have HV2 := Lib.hid (show V = (o, 0) from by rw [HV.out]; exact (HTB.out 0).1 _ (ok4 rfl))
            have HR4 := Lib.hid ((rd_off HM.out HO4.out j4.2 (Nat.le_refl _)).more j4.2.size)
            clear j4 ok4 no4 HTL
            go_wp2_with fail
            go_ret2
            rw [HV2.out]
            exact ⟨A3, c3, by rw [HNO.out]; rfl, HR4.out, H4.out⟩
          · have HV2 := Lib.hid (show V = ([], k4) from by rw [HV.out]; exact (HTB.out k4).2 (no4 hk4))
            clear j4 ok4 no4 HTL
            go_wp2_with fail
            go_ret2
            rw [HV2.out]
            exact OpA.no H4.out
        · have HV2 := Lib.hid (show V = ([], x) from by
            have h0 := inflV_zero (b := b.drop q) hmm (by rw [← HIV.out]; exact hx)
            obtain ⟨e2, _, h2⟩ := h0
            rw [← HIV.out] at h2
            cases h2
            rw [HV.out]
            exact open_stream hmm HO.out (stream_no HQ.out hmm HIV.out.symm hx))
          have HF := Lib.hid H3.out.fr
          clear ho hF3 hno HI2
          go_wp2_with fail
          go_ret2
          rw [HV2.out]
          exact OpA.no HF.out
      · have HV2 := Lib.hid (show V = ([], k1) from by rw [HV.out]; exact open_head hmm (no1 hk1))
        have HF := Lib.hid j1.1.fr
        clear j1 ok1 no1 HH
        go_wp2_with fail
        go_ret2
        rw [HV2.out]
        exact OpA.no HF.out
end Go.Proofs.YtcdhakfmljjaoaaGreatDoor.gz
