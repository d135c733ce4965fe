/-
  The program's Read: the walk.
-/
import Derived.Test.YtcdhakfmljjaoaaGreatDoorCpI
import Derived.BigRegion
namespace Go.Proofs.YtcdhakfmljjaoaaGreatDoor.cd
set_option maxRecDepth 100000
open Go.RowKit Go.Maps Go.Proofs.YtcdhakfmljjaoaaGreatDoor.fl
set_option maxRecDepth 100000

set_option maxHeartbeats 4000000 in
theorem pread {R : RP} {V : VP} (HF : FlowP R V) (w : World) (g gw gs : Nat) (l sy : List Int) (S : Nat → Prop) (r : Addr) (b : List UInt8) (p : Nat) (T : Nat → Prop) (h : CodM w g gw gs l sy S) (hr : R w r b p T) (hST : ∀ i, S i → ¬ T i) :
    Calls Tryz.prog 116 #[.pointer (some ⟨g, 0, none⟩), .pointer (some r)] w fun e w' => e = .returned (.tuple #[.int .i64 ((rdC l (bitsOf b) p).1 : Nat), .int .i64 (rdC l (bitsOf b) p).2.1]) ∧ RAft R w r b T (rdC l (bitsOf b) p).2.2 w' := by
  have HFF := Lib.hid HF
  have HM := Lib.hid (pmissing h)
  have HT := Lib.hid (HF.r_in hr).1
  have HSS := Lib.hid (show ∀ i, S i → i < w.heap.size ∧ ¬ T i from fun i hi => ⟨h.low i hi, hST i hi⟩)
  have HOK := Lib.hid (⟨h.ok, h.inb⟩ : _ ∧ _)
  have HB := Lib.hid (bitsOf_bits b)
  have h1 := most_in h.inb
  have c0 := h.reach
  have hgs : g < w.heap.size := h.low g h.own.1
  obtain ⟨z, hz⟩ : ∃ z, z = mostW (wordsL l) := ⟨_, rfl⟩
  have HK0 := Lib.hid (RdK.start (B := bitsOf b) (p := p) hz)
  have H0 := Lib.hid (RdS.start HF h hr)
  rw [← hz] at c0 h1
  obtain ⟨u, hu⟩ : ∃ u, u = rdC l (bitsOf b) p := ⟨_, rfl⟩
  have HU := Lib.hid hu
  rw [← hu]
  clear hu hz h hr hST HF
  go_enter Tryz.func116, Tryz.ntmps116
  go_wp2_with fail
  go_step3
  go_wp2_with (go_at_call 134; refine HM.out.mono ?_; rintro e w' ⟨rfl, rfl⟩)
  go_step3
  go_wp2_with fail
  go_loopw [7, 8, 9, 10, 11, 12, 13, 20, 44, 48] (fun v7 v8 v9 _ _ _ _ i _ _ wr => ∃ (k v : Nat), k ≤ z ∧ v7 = .int .i64 v ∧ v8 = .int .i64 0 ∧ v9 = .int .i64 110 ∧ i = .int .i64 k ∧ Hid (∃ (got : List Int) (p2 : Nat), RdK l (bitsOf b) p z k got p2 v ∧ RdS R w g gw gs l sy S r b T (fiN l k : Nat) (shN l k : Nat) p2 wr)) (fun _ _ _ _ _ _ _ i _ _ _ => z - (intOf i).toNat)
  case atStart => exact ⟨0, 0, Nat.zero_le _, rfl, rfl, rfl, rfl, (show ∃ _ _, _ from ⟨[], p, HK0.out, H0.out⟩)⟩
  case round =>
    obtain ⟨k, v, hk, rfl, rfl, rfl, rfl, HC⟩ := hrel
    by_cases hlt : k < z
    · obtain ⟨got, p2, hK, hS⟩ := HC.out
      have HK := Lib.hid hK
      have hv := hK.small (by omega)
      have HTK := Lib.hid (hS.take HFF.out HT.out HSS.out)
      obtain ⟨f, hf⟩ : ∃ f, f = fiN l k := ⟨_, rfl⟩
      obtain ⟨s, hs⟩ : ∃ s, s = shN l k := ⟨_, rfl⟩
      obtain ⟨c, hc⟩ : ∃ c, c = cn l k := ⟨_, rfl⟩
      have hfs := fi_small HOK.out.1 (n := k) (by omega)
      have HLM := Lib.hid (fi_lim l k)
      rw [← hf, ← hs, ← hc] at hfs
      rw [← hf, ← hc] at HLM
      rw [← hf, ← hs] at HTK
      have HSH := Lib.hid (show s + c = shN l (k + 1) by rw [shN, hs, hc])
      have HFI := Lib.hid (show (f + c) * 2 = fiN l (k + 1) by rw [fiN, hf, hc]; omega)
      have HNX := Lib.hid (fun wx => pnext wx (f : Int) (s : Int) (c : Int) (by omega) (by omega) (by omega))
      have HCN := Lib.hid hc
      clear hK hS hf hs hc HC
      have HDR := Lib.hid (fun (wx : World) => (Fr.refl (fun _ => False) wx).drew)
      have hk0 : (0 : Int) ≤ (k : Int) := by omega
      have hk16 : (k : Int) < 16 := by omega
      have hj0 : (0 : Int) ≤ (k : Int) + 1 := by omega
      have hj16 : (k : Int) + 1 < 16 := by omega
      have hkw : IntKind.i64.wrap ((k : Int) + 1) = (k : Int) + 1 := IntWalk.i64_in _ (by omega)
      have hvw : IntKind.i64.wrap ((v : Int) * 2) = (v : Int) * 2 := IntWalk.i64_in _ (by omega)
      cases hB : (bitsOf b)[p2]? with
      | none =>
        rw [(take1_none hB).1, (take1_none hB).2] at HTK
        have HE := Lib.hid (show u = (0, 7, p2) by rw [HU.out]; exact HK.out.none hlt hB)
        have hor : bits .or .i64 ((v : Int) * 2) 0 = (v : Int) * 2 := by simpa using or_bit (v := v) (x := 0) (by omega) (by omega)
        have hbw : IntKind.i64.wrap ((v : Int) * 2 - ((f : Int) + c) * 2) = (v : Int) * 2 - ((f : Int) + c) * 2 := IntWalk.i64_in _ (by omega)
        clear hB HK
        go_upto_region 9 with (go_at_call 75; refine HTK.out.mono ?_; rintro e w1 ⟨rfl, hS1⟩; have HS1 := Lib.hid hS1; clear hS1)
        obtain ⟨y0, y1, _, _⟩ := (HS1.out.set HFF.out HT.out (fun i hi => (HSS.out i hi).1) 0 0).1
        have y2 := HS1.out.cod.count (n := k) (by omega)
        rw [← HCN.out] at y2
        go_region_with
          (go_at_call 135; refine (HNX.out _).mono ?_; rintro e w2 ⟨rfl, hF2⟩; have HS2 := Lib.hid (HS1.out.still HFF.out ((HDR.out _).trans hF2 (fun _ _ e => e))); obtain ⟨a0, a1, b0, b1⟩ := (HS2.out.set HFF.out HT.out (fun i hi => (HSS.out i hi).1) 0 0).1; have HS3 := Lib.hid (HS2.out.set HFF.out HT.out (fun i hi => (HSS.out i hi).1) (((f : Int) + c) * 2) ((s : Int) + c)).2; clear hF2)
        all_goals
          have z0 := (cellAt HS3.out.lev 0).trans rfl
          go_wp2_with fail
          rw [Exit.noGoto_ret]
          go_ret2
          rw [HE.out]
          exact ⟨rfl, HS3.out.after⟩
      | some x =>
        have hx := HB.out x (List.mem_of_getElem? hB)
        obtain ⟨x, rfl⟩ : ∃ y : Nat, x = y := ⟨x.toNat, by omega⟩
        have hx1 : x ≤ 1 := by omega
        have hor := or_bit (v := v) (x := x) (by omega) hx1
        rw [(take1_some hB).1, (take1_some hB).2] at HTK
        have hbw : IntKind.i64.wrap ((v : Int) * 2 + x - ((f : Int) + c) * 2) = (v : Int) * 2 + x - ((f : Int) + c) * 2 := IntWalk.i64_in _ (by omega)
        obtain ⟨q, hq⟩ : ∃ q, q = cnt l (k + 1) := ⟨_, rfl⟩
        have hd : (v : Int) * 2 + x = 2 * (lim l k : Int) + ((v : Int) * 2 + x - ((f : Int) + c) * 2) := by have := HLM.out; omega
        have HQ := Lib.hid (show cn l (k + 1) = q by rw [cn_pos l (by omega), hq])
        by_cases hh : (v : Int) * 2 + x - ((f : Int) + c) * 2 < q
        · obtain ⟨h0, i, hi, hpl, he⟩ := HK.out.hit HOK.out.1 hlt hx1 hB hd (by rw [← hq]; exact hh)
          have HE := Lib.hid (show u = (i, 0, p2 + 1) by rw [HU.out]; exact he)
          have hpa := hi.place_all HOK.out.2
          obtain ⟨j, hj⟩ : ∃ j, j = plN l i := ⟨_, rfl⟩
          obtain ⟨t, ht⟩ : ∃ t, t = codesN l := ⟨_, rfl⟩
          have hjj : (s : Int) + c + ((v : Int) * 2 + x - ((f : Int) + c) * 2) = (j : Int) := by have := HSH.out; omega
          have hjw : IntKind.i64.wrap ((s : Int) + c + ((v : Int) * 2 + x - ((f : Int) + c) * 2)) = (j : Int) := by rw [hjj]; exact IntWalk.i64_in _ (by have := sh_le l 16; rw [sh_all l HOK.out.2] at this; have := ((okB_iff l).1 HOK.out.1).1; omega)
          have hj0' : (0 : Int) ≤ (j : Int) := by omega
          have hjt : (j : Int) < (t : Int) := by omega
          have HI := Lib.hid (⟨hi, hj, ht⟩ : Has l i (k + 1) ∧ j = plN l i ∧ t = codesN l)
          clear hB hx HK hd he hpl hi hpa hj ht hq h0
          go_upto_region 9 with (go_at_call 75; refine HTK.out.mono ?_; rintro e w1 ⟨rfl, hS1⟩; have HS1 := Lib.hid hS1; clear hS1)
          obtain ⟨y0, y1, _, _⟩ := (HS1.out.set HFF.out HT.out (fun i hi => (HSS.out i hi).1) 0 0).1
          have y2 := HS1.out.cod.count (n := k) (by omega)
          rw [← HCN.out] at y2
          go_region_with
            (go_at_call 135; refine (HNX.out _).mono ?_; rintro e w2 ⟨rfl, hF2⟩; have HS2 := Lib.hid (HS1.out.still HFF.out ((HDR.out _).trans hF2 (fun _ _ e => e))); obtain ⟨a0, a1, b0, b1⟩ := (HS2.out.set HFF.out HT.out (fun i hi => (HSS.out i hi).1) 0 0).1; have HS3 := Lib.hid (HS2.out.set HFF.out HT.out (fun i hi => (HSS.out i hi).1) (((f : Int) + c) * 2) ((s : Int) + c)).2; clear hF2)
          all_goals
            obtain ⟨w3, hw3⟩ : ∃ w3, w3 = ((w2.setCell ⟨w.heap.size, 0, none⟩ (.int .i64 (((f : Int) + c) * 2))).setCell ⟨w.heap.size, 1, none⟩ (.int .i64 ((s : Int) + c))) := ⟨_, rfl⟩
            rw [← hw3] at HS3 ⊢
            clear hw3 HS2 HS1
            have z0 : w3.cell? ⟨w.heap.size, 0, none⟩ = some (.int .i64 (((f : Int) + c) * 2)) := (cellAt HS3.out.lev 0).trans rfl
            have z1 : w3.cell? ⟨w.heap.size, 1, none⟩ = some (.int .i64 ((s : Int) + c)) := (cellAt HS3.out.lev 1).trans rfl
            have z2 := HS3.out.cod.count (n := k + 1) (by omega)
            rw [HQ.out] at z2
            have z3 := HS3.out.cod.syms
            have z4 := HS3.out.cod.sym_at HI.out.1
            rw [← HI.out.2.2] at z3
            rw [← HI.out.2.1] at z4
            go_wp2_with fail
            go_region
            all_goals
              go_wp2_with fail
              rw [Exit.noGoto_ret]
              go_ret2
              rw [HE.out]
              exact ⟨rfl, (HS3.out.still HFF.out (HDR.out _)).after⟩
        · have HN := Lib.hid (HK.out.next HOK.out.1 hlt hx1 hB hd (by rw [← hq]; exact hh))
          clear hB hx HK hd hq
          go_upto_region 9 with (go_at_call 75; refine HTK.out.mono ?_; rintro e w1 ⟨rfl, hS1⟩; have HS1 := Lib.hid hS1; clear hS1)
          obtain ⟨y0, y1, _, _⟩ := (HS1.out.set HFF.out HT.out (fun i hi => (HSS.out i hi).1) 0 0).1
          have y2 := HS1.out.cod.count (n := k) (by omega)
          rw [← HCN.out] at y2
          go_region_with
            (go_at_call 135; refine (HNX.out _).mono ?_; rintro e w2 ⟨rfl, hF2⟩; have HS2 := Lib.hid (HS1.out.still HFF.out ((HDR.out _).trans hF2 (fun _ _ e => e))); obtain ⟨a0, a1, b0, b1⟩ := (HS2.out.set HFF.out HT.out (fun i hi => (HSS.out i hi).1) 0 0).1; have HS3 := Lib.hid (HS2.out.set HFF.out HT.out (fun i hi => (HSS.out i hi).1) (((f : Int) + c) * 2) ((s : Int) + c)).2; clear hF2)
          all_goals
            obtain ⟨w3, hw3⟩ : ∃ w3, w3 = ((w2.setCell ⟨w.heap.size, 0, none⟩ (.int .i64 (((f : Int) + c) * 2))).setCell ⟨w.heap.size, 1, none⟩ (.int .i64 ((s : Int) + c))) := ⟨_, rfl⟩
            rw [← hw3] at HS3 ⊢
            clear hw3 HS2 HS1
            have z0 : w3.cell? ⟨w.heap.size, 0, none⟩ = some (.int .i64 (((f : Int) + c) * 2)) := (cellAt HS3.out.lev 0).trans rfl
            have z1 : w3.cell? ⟨w.heap.size, 1, none⟩ = some (.int .i64 ((s : Int) + c)) := (cellAt HS3.out.lev 1).trans rfl
            have z2 := HS3.out.cod.count (n := k + 1) (by omega)
            rw [HQ.out] at z2
            have HZ := Lib.hid (show ∃ (got : List Int) (p3 : Nat), RdK l (bitsOf b) p z (k + 1) got p3 (v * 2 + x) ∧ RdS R w g gw gs l sy S r b T (fiN l (k + 1) : Nat) (shN l (k + 1) : Nat) p3 w3 from ⟨_, _, HN.out, by rw [← HFI.out, ← HSH.out]; exact HS3.out⟩)
            go_wp2_with fail
            go_roundw
            case rel => exact ⟨k + 1, v * 2 + x, by omega, by go_num, rfl, rfl, by go_num, HZ⟩
            case measure => simp [intOf]; omega
    · obtain rfl : k = z := by omega
      obtain ⟨got, p2, hK, hS⟩ := HC.out
      have HE := Lib.hid (show u = (0, 110, p2) by rw [HU.out]; exact hK.end_)
      have HA := Lib.hid hS.after
      clear hK hS
      go_wp2_with fail
      rw [Exit.noGoto_ret]
      go_ret2
      rw [HE.out]
      exact ⟨rfl, HA.out⟩
end Go.Proofs.YtcdhakfmljjaoaaGreatDoor.cd
