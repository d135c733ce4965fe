/-
  The document's Dress.
-/
import Derived.Test.YtcdhakfmljjaoaaGreatDoorGzS
import Derived.BigQuiet
import Derived.Deep.DeepCutAuto
import Derived.Deep.CutBlock
namespace Go.Proofs.YtcdhakfmljjaoaaGreatDoor.gz
set_option maxRecDepth 100000
open Go.RowKit Go.Maps Go.Proofs.YtcdhakfmljjaoaaGreatDoor.fl Go.Proofs.YtcdhakfmljjaoaaGreatDoor.cd Go.Proofs.YtcdhakfmljjaoaaGreatDoor.ft
set_option maxRecDepth 100000

def OutE (w : World) (L : By) (E : Int) (e : Ending) (w' : World) : Prop := ∃ A cap, e = .returned (.tuple #[.slice A L.length cap, .int .i64 E]) ∧ Own w' w.heap.size (.slice A L.length cap) L ∧ Fr (fun _ => False) w w'
theorem hdA_pre (name note extra : By) (hc : Bool) : hdA name note extra hc = pre (flagN name note extra hc) (exB extra ++ (txB name ++ txB note)) := rfl
theorem rnum (w : World) (n k : Nat) (h1 : 1 ≤ k) (h4 : k ≤ 4) (hn : n < 256 ^ k) : Calls Tryz.prog 25 #[.int .i64 (n : Int), .int .i64 (k : Int)] w fun e w' => ∃ A c, e = .returned (.slice A k c) ∧ Hid (SrcB w' A c (numL n k)) ∧ Hid (Fr (fun _ => False) w w') := by
  refine (rnumber w n k h1 h4 hn).mono ?_
  rintro e w' ⟨A, c, rfl, ho, hF⟩
  have hs := srcB_own ho
  rw [numL_len]
  exact ⟨A, c, rfl, hs, hF⟩
theorem out_made (w : World) : Out w (w.alloc (.cells #[.int .u8 31, .int .u8 139, .int .u8 8, .int .u8 0, .int .u8 0, .int .u8 0, .int .u8 0, .int .u8 0, .int .u8 0, .int .u8 0] 5)) w.heap.size 10 10 (pre 0 []) := ⟨own_made w (pre 0 []) (by decide), rfl, (Fr.refl _ w).alloc _⟩
theorem out_made4 (w : World) : Out w (w.alloc (.cells #[.int .u8 31, .int .u8 139, .int .u8 8, .int .u8 4, .int .u8 0, .int .u8 0, .int .u8 0, .int .u8 0, .int .u8 0, .int .u8 0] 5)) w.heap.size 10 10 (pre 4 []) := ⟨own_made w (pre 4 []) (by decide), rfl, (Fr.refl _ w).alloc _⟩
theorem u8_add {f f' : Nat} {d : Int} (h : (f' : Int) = f + d) (h2 : f' < 256) : IntKind.u8.wrap ((f : Int) + d) = (f' : Int) := by rw [wrap8]; omega
theorem rbts (w0 w : World) (g n c : Nat) (L : By) (h : Out w0 w g n c L) (hn : n ≤ 100000000) : Calls Tryz.prog 8 #[.slice (some ⟨g, 0, none⟩) n c] w fun e w' => ∃ A' c', e = .returned (.slice A' n c') ∧ Hid (Rd w' w'.heap.size A' L) ∧ Hid (Fr (fun _ => False) w w') := by
  have h1 := h.own.rd
  have h2 := h.len
  subst h2
  refine (bytes_any w _ c L h1 (fun e => by cases e) (by omega)).mono ?_
  rintro e w' ⟨A, cc, rfl, ho, hF⟩
  exact ⟨A, cc, rfl, ho.rd, hF⟩
theorem rsm (w : World) (A : Option Addr) (n c B : Nat) (L : By) (h : Rd w B A L) (hl : n = L.length) (hn : n ≤ 100000000) : Calls Tryz.prog 26 #[.slice A n c] w fun e w' => e = .returned (.int .u32 (csum L : Nat)) ∧ w = w' := by
  subst hl
  exact rsum_any w A c B L h (by omega)
theorem rrn (w wx : World) (A : Option Addr) (n cap z : Nat) (b : By) (hr : Rd w w.heap.size A b) (hF : Fr (fun _ => False) w wx) (hn : n = b.length) (hb : n ≤ 100000) (hz : z = (runsV rls b).length) :
    Calls Tryz.prog 27 #[.slice A n cap] wx fun e w' => ∃ A' c', e = .returned (.slice A' z c') ∧ Hid (SrcB w' A' c' (runsV rls b)) ∧ Hid (Fr (fun _ => False) wx w') := by
  subst hn
  subst hz
  refine (rruns wx A cap b ((hr.still hF (Nat.le_refl _)).more hF.size) hb).mono ?_
  rintro e w' ⟨A', cc, rfl, ho, hF'⟩
  exact ⟨A', cc, rfl, srcB_own ho, hF'⟩
theorem isEmpty_dec (l : By) : l.isEmpty = decide (l = []) := by cases l <;> simp
theorem pre_app (f : Nat) (t u : By) : pre f t ++ u = pre f (t ++ u) := List.append_assoc _ _ _
set_option maxHeartbeats 400000 in
theorem rdress (w : World) (A : Option Addr) (cap : Nat) (b : By) (name note : ByteArray) (A2 : Option Addr) (cap2 : Nat) (extra : By) (hc : Bool) (hr : Rd w w.heap.size A b) (hb : b.length ≤ 100000) (hn1 : name.size ≤ 1048576) (hn2 : note.size ≤ 1048576)
    (hr2 : Rd w w.heap.size A2 extra) (hA2 : A2 = none → cap2 = 0) (hx : extra.length ≤ 1048576) :
    Calls Tryz.prog 10 #[.slice A b.length cap, .string name, .string note, .slice A2 extra.length cap2, .bool hc] w (OutE w (dressV csum rls b name.data.toList note.data.toList extra hc).1 (dressV csum rls b name.data.toList note.data.toList extra hc).2) := by
  have HR := Lib.hid (⟨hr, hr2, hA2⟩ : _ ∧ _ ∧ _)
  have HZ1 := Lib.hid (fun wx => rzero wx name hn1)
  have HZ2 := Lib.hid (fun wx => rzero wx note hn2)
  obtain ⟨n, hn⟩ : ∃ n, n = b.length := ⟨_, rfl⟩
  obtain ⟨m, hm⟩ : ∃ m, m = extra.length := ⟨_, rfl⟩
  obtain ⟨N1, hN1⟩ : ∃ l, l = name.data.toList := ⟨_, rfl⟩
  obtain ⟨N2, hN2⟩ : ∃ l, l = note.data.toList := ⟨_, rfl⟩
  rw [← hN1, ← hN2]
  rw [← hN1] at HZ1
  rw [← hN2] at HZ2
  have HN := Lib.hid (⟨hn, hm, hN1, hN2⟩ : _ ∧ _ ∧ _ ∧ _)
  rw [← hn, ← hm] 
  rw [← hn] at hb
  rw [← hm] at hx
  clear hr hr2 hA2 hn hm
  by_cases hmay : mayD N1 N2 extra = true
  · rw [show dressV csum rls b N1 N2 extra hc = (dressB csum rls b N1 N2 extra hc, 0) from if_pos hmay]
    obtain ⟨m1, m2, m3⟩ := (mayD_iff _ _ _).1 hmay
    have z1 : N1.contains 0 = false := by
      rw [← Bool.not_eq_true, List.contains_iff_mem]
      exact fun h => m1 0 h rfl
    have z2 : N2.contains 0 = false := by
      rw [← Bool.not_eq_true, List.contains_iff_mem]
      exact fun h => m2 0 h rfl
    rw [z1] at HZ1
    rw [z2] at HZ2
    have hm65 : m ≤ 65535 := by rw [HN.out.2.1]; exact m3
    have hm6 : ¬ (65535 : Int) < (m : Int) := by omega
    clear m1 m2 m3 z1 z2 hN1 hN2 hmay
    go_enter Tryz.func10, Tryz.ntmps10
    obtain ⟨f1, hf1⟩ : ∃ f, f = hasN extra 4 := ⟨_, rfl⟩
    obtain ⟨t1, ht1⟩ : ∃ t, t = exB extra := ⟨_, rfl⟩
    have HFT := Lib.hid (⟨hf1, ht1⟩ : _ ∧ _)
    obtain ⟨f2, hf2⟩ : ∃ f, f = f1 + hasN N1 8 := ⟨_, rfl⟩
    obtain ⟨t2, ht2⟩ : ∃ t, t = t1 ++ txB N1 := ⟨_, rfl⟩
    obtain ⟨f3, hf3⟩ : ∃ f, f = f2 + hasN N2 16 := ⟨_, rfl⟩
    obtain ⟨t3, ht3⟩ : ∃ t, t = t2 ++ txB N2 := ⟨_, rfl⟩
    obtain ⟨f4, hf4⟩ : ∃ f, f = f3 + (if hc = true then 2 else 0) := ⟨_, rfl⟩
    obtain ⟨T4, hT4⟩ : ∃ T, T = pre f4 t3 ++ (if hc = true then numL (csum (pre f4 t3) % 65536) 2 else []) := ⟨_, rfl⟩
    have HDB := Lib.hid (show hdB csum N1 N2 extra hc = T4 by
      have e1 : hdA N1 N2 extra hc = pre f4 t3 := by rw [hdA_pre, hf4, hf3, hf2, hf1, ht3, ht2, ht1, List.append_assoc]; rfl
      rw [hT4]
      unfold hdB hdS
      rw [e1])
    have HF4 := Lib.hid (⟨hf4, hT4⟩ : _ ∧ _)
    have HF2 := Lib.hid (⟨hf2, ht2⟩ : _ ∧ _)
    have HF3 := Lib.hid (⟨hf3, ht3⟩ : _ ∧ _)
    have hf1b : f1 ≤ 4 := by rw [hf1]; unfold hasN; split <;> omega
    have hf2b : f2 ≤ 12 := by rw [hf2]; unfold hasN; split <;> omega
    have hf3b : f3 ≤ 28 := by rw [hf3]; unfold hasN; split <;> omega
    clear hf2 ht2 hf3 ht3 hf4 hT4
    have HM0 := Lib.hid (show extra = [] ↔ m = 0 by rw [HN.out.2.1, List.length_eq_zero_iff])
    have HNU := Lib.hid (fun wx => rnum wx m 2 (by decide) (by decide) (by omega))
    clear hf1 ht1
    go_wp2_with fail
    refine (HZ1.out _).mono ?_
    rintro e w' ⟨rfl, rfl⟩
    go_wp2_with fail
    refine (HZ2.out _).mono ?_
    rintro e w' ⟨rfl, rfl⟩
    go_upto_if 27 with (fail)
    go_cut [12] (fun s12 wz => ∃ g nn c : Nat, s12 = .slice (some ⟨g, 0, none⟩) nn c ∧ 10 ≤ nn ∧ nn ≤ 70000 ∧ Hid (Out w wz g nn c (pre f1 t1)))
    case first =>
      by_cases h0 : m = 0
      · have hmz : ¬ (0 : Int) < (m : Int) := by omega
        have HO1 := Lib.hid (show Out w _ _ 10 10 (pre f1 t1) from by
          have e := HM0.out.2 h0
          have e1 : f1 = 0 := by rw [HFT.out.1, e]; rfl
          have e2 : t1 = [] := by rw [HFT.out.2, e]; rfl
          rw [e1, e2]
          exact out_made w)
        clear h0
        go_wp2_with fail
        go_meet
        exact ⟨_, 10, 10, rfl, by omega, by omega, HO1⟩
      · have hmz : (0 : Int) < (m : Int) := by omega
        have hmn : 0 < m := by omega
        have HE := Lib.hid (show f1 = 4 ∧ [] ++ numL m 2 ++ extra = t1 by
          rw [HFT.out.1, HFT.out.2]
          unfold hasN exB
          rw [if_neg (fun e => h0 (HM0.out.1 e)), if_neg (fun e => h0 (HM0.out.1 e)), HN.out.2.1]
          exact ⟨rfl, rfl⟩)
        have HO1 := Lib.hid (show Out w _ _ 10 10 (pre f1 []) from by
          rw [HE.out.1]
          exact out_made4 w)
        go_wp2_with (first
          | (go_at_call 25; refine (HNU.out _).mono ?_; rintro e w6 ⟨A6, c6, rfl, hs6, hF6⟩; have H6 := Lib.hid (⟨HO1.out.still hF6.out, hs6.out⟩ : _ ∧ _); clear hs6 hF6)
          | (at_builtin; refine wpList_appB rfl (.tmp 34) (.tmp 37) rfl rfl H6.out.1 A6 2 c6 _ (numL_len 2 m).symm rfl H6.out.2 (by omega) ?_; intro g7 n7 c7 w7 hn7 ho7; have H7 := Lib.hid ho7; have HL7 := Lib.hid hn7; clear ho7 hn7)
          | (at_builtin; refine wpList_appB rfl (.tmp 38) (.tmp 39) rfl rfl H7.out A2 m cap2 extra HN.out.2.1 rfl (srcB_rd (HR.out.2.1.still H7.out.fr (Nat.le_refl _)) HR.out.2.2) (by have := HL7.out; omega) ?_; intro g8 n8 c8 w8 hn8 ho8; have H8 := Lib.hid ho8; have HL8 := Lib.hid hn8; clear ho8 hn8))
        go_meet
        refine ⟨g8, n8, c8, rfl, by have := HL8.out; have := HL7.out; omega, by have := HL8.out; have := HL7.out; omega, ?_⟩
        have h := H8.out
        rw [pre_app, pre_app, HE.out.2] at h
        exact h
    obtain ⟨g1, nn1, c1, rfl, hge1, hle1, HO1⟩ := hcut
    go_upto_if 42 with (fail)
    go_cut [12] (fun s12 wz => ∃ g nn c : Nat, s12 = .slice (some ⟨g, 0, none⟩) nn c ∧ 10 ≤ nn ∧ nn ≤ 1200000 ∧ Hid (Out w wz g nn c (pre f2 t2)))
    case first =>
      obtain ⟨em, hem⟩ : ∃ em, em = name.toList.isEmpty := ⟨_, rfl⟩
      have HEM := Lib.hid (show em = decide (N1 = []) by
        rw [hem, ByteArray.toList_eq, ← HN.out.2.2.1]
        exact isEmpty_dec _)
      have hsz := name.size
      cases em with
      | true =>
        have HE := Lib.hid (show f1 = f2 ∧ t1 = t2 by
          have e : N1 = [] := of_decide_eq_true HEM.out.symm
          rw [HF2.out.1, HF2.out.2, e]
          unfold hasN txB
          rw [if_pos rfl, if_pos rfl, List.append_nil]
          exact ⟨rfl, rfl⟩)
        rw [← hem, Bool.not_true]
        clear hem
        go_wp2_with fail
        go_meet
        exact ⟨_, _, _, rfl, hge1, by omega, by have h := HO1.out; rw [HE.out.1, HE.out.2] at h; exact h⟩
      | false =>
        have HE := Lib.hid (show f2 = f1 + 8 ∧ t1 ++ N1 ++ [0] = t2 by
          have e : ¬ N1 = [] := of_decide_eq_false HEM.out.symm
          rw [HF2.out.1, HF2.out.2]
          unfold hasN txB
          rw [if_neg e, if_neg e, List.append_assoc]
          exact ⟨rfl, rfl⟩)
        rw [← hem, Bool.not_false]
        obtain ⟨hc3, hz3, hs3⟩ := HO1.out.bump (by omega)
        have hfk : f2 < 256 := by rw [HE.out.1]; omega
        have HOs := Lib.hid (hs3 f2 hfk)
        have hadd : IntKind.u8.wrap ((f1 : Int) + 8) = (f2 : Int) := u8_add (by rw [HE.out.1]; omega) hfk
        have h3n : (3 : Int) < (nn1 : Int) := by omega
        clear hs3 hem
        go_wp2_with (first
          | (at_builtin; refine wpList_appS rfl (.tmp 49) (.tmp 50) rfl rfl HOs.out name rfl (by omega) ?_; intro g7 n7 c7 w7 hn7 ho7; have H7 := Lib.hid (ho7.still ((Fr.refl _ w7).alloc (.cells #[.int .u8 0] 5))); have HS7 := Lib.hid (srcB_block (c := 1) (L := [0]) (heap_alloc_new w7 (.cells #[.int .u8 0] 5))); have HL7 := Lib.hid hn7; clear ho7 hn7)
          | (at_builtin; refine wpList_appB rfl (.tmp 51) (.tmp 52) rfl rfl H7.out (some ⟨w7.heap.size, 0, none⟩) 1 1 [0] rfl rfl HS7.out (by have := HL7.out; omega) ?_; intro g8 n8 c8 w8 hn8 ho8; have H8 := Lib.hid ho8; have HL8 := Lib.hid hn8; clear ho8 hn8))
        go_meet
        refine ⟨g8, n8, c8, rfl, by have := HL8.out; have := HL7.out; omega, by have := HL8.out; have := HL7.out; omega, ?_⟩
        have h := H8.out
        rw [pre_app, pre_app, ← HN.out.2.2.1, HE.out.2] at h
        exact h
    obtain ⟨g2, nn2, c2, rfl, hge2, hle2, HO2⟩ := hcut
    go_upto_if 55 with (fail)
    go_cut [12] (fun s12 wz => ∃ g nn c : Nat, s12 = .slice (some ⟨g, 0, none⟩) nn c ∧ 10 ≤ nn ∧ nn ≤ 2300000 ∧ Hid (Out w wz g nn c (pre f3 t3)))
    case first =>
      obtain ⟨em, hem⟩ : ∃ em, em = note.toList.isEmpty := ⟨_, rfl⟩
      have HEM := Lib.hid (show em = decide (N2 = []) by
        rw [hem, ByteArray.toList_eq, ← HN.out.2.2.2]
        exact isEmpty_dec _)
      have hsz := note.size
      cases em with
      | true =>
        have HE := Lib.hid (show f2 = f3 ∧ t2 = t3 by
          have e : N2 = [] := of_decide_eq_true HEM.out.symm
          rw [HF3.out.1, HF3.out.2, e]
          unfold hasN txB
          rw [if_pos rfl, if_pos rfl, List.append_nil]
          exact ⟨rfl, rfl⟩)
        rw [← hem, Bool.not_true]
        clear hem
        go_wp2_with fail
        go_meet
        exact ⟨_, _, _, rfl, hge2, by omega, by have h := HO2.out; rw [HE.out.1, HE.out.2] at h; exact h⟩
      | false =>
        have HE := Lib.hid (show f3 = f2 + 16 ∧ t2 ++ N2 ++ [0] = t3 by
          have e : ¬ N2 = [] := of_decide_eq_false HEM.out.symm
          rw [HF3.out.1, HF3.out.2]
          unfold hasN txB
          rw [if_neg e, if_neg e, List.append_assoc]
          exact ⟨rfl, rfl⟩)
        rw [← hem, Bool.not_false]
        obtain ⟨hc3, hz3, hs3⟩ := HO2.out.bump (by omega)
        have hfk : f3 < 256 := by rw [HE.out.1]; omega
        have HOs := Lib.hid (hs3 f3 hfk)
        have hadd : IntKind.u8.wrap ((f2 : Int) + 16) = (f3 : Int) := u8_add (by rw [HE.out.1]; omega) hfk
        have h3n : (3 : Int) < (nn2 : Int) := by omega
        clear hs3 hem
        go_wp2_with (first
          | (at_builtin; refine wpList_appS rfl (.tmp 62) (.tmp 63) rfl rfl HOs.out note rfl (by omega) ?_; intro g7 n7 c7 w7 hn7 ho7; have H7 := Lib.hid (ho7.still ((Fr.refl _ w7).alloc (.cells #[.int .u8 0] 5))); have HS7 := Lib.hid (srcB_block (c := 1) (L := [0]) (heap_alloc_new w7 (.cells #[.int .u8 0] 5))); have HL7 := Lib.hid hn7; clear ho7 hn7)
          | (at_builtin; refine wpList_appB rfl (.tmp 64) (.tmp 65) rfl rfl H7.out (some ⟨w7.heap.size, 0, none⟩) 1 1 [0] rfl rfl HS7.out (by have := HL7.out; omega) ?_; intro g8 n8 c8 w8 hn8 ho8; have H8 := Lib.hid ho8; have HL8 := Lib.hid hn8; clear ho8 hn8))
        go_meet
        refine ⟨g8, n8, c8, rfl, by have := HL8.out; have := HL7.out; omega, by have := HL8.out; have := HL7.out; omega, ?_⟩
        have h := H8.out
        rw [pre_app, pre_app, ← HN.out.2.2.2, HE.out.2] at h
        exact h
    obtain ⟨g3, nn3, c3, rfl, hge3, hle3, HO3⟩ := hcut
    go_upto_if 67 with (fail)
    go_cut [12] (fun s12 wz => ∃ g nn c : Nat, s12 = .slice (some ⟨g, 0, none⟩) nn c ∧ nn ≤ 2300010 ∧ Hid (Out w wz g nn c T4))
    case first =>
      cases hc with
      | false =>
        have HE := Lib.hid (show pre f3 t3 = T4 by
          rw [HF4.out.2, HF4.out.1]
          exact (List.append_nil _).symm)
        go_wp2_with fail
        go_meet
        exact ⟨_, _, _, rfl, by omega, by have h := HO3.out; rw [HE.out] at h; exact h⟩
      | true =>
        obtain ⟨S, hS⟩ : ∃ S, S = csum (pre f4 t3) := ⟨_, rfl⟩
        obtain ⟨R, hR⟩ : ∃ R, R = S % 65536 := ⟨_, rfl⟩
        have HE := Lib.hid (show f4 = f3 + 2 ∧ pre f4 t3 ++ numL R 2 = T4 by
          rw [HF4.out.2, hR, hS]
          exact ⟨HF4.out.1, rfl⟩)
        obtain ⟨hc3, hz3, hs3⟩ := HO3.out.bump (by omega)
        have hfk : f4 < 256 := by rw [HE.out.1]; omega
        have HOs := Lib.hid (hs3 f4 hfk)
        have hadd : IntKind.u8.wrap ((f3 : Int) + 2) = (f4 : Int) := u8_add (by rw [HE.out.1]; omega) hfk
        have h3n : (3 : Int) < (nn3 : Int) := by omega
        have HBY := Lib.hid (fun wx h => rbts w wx g3 nn3 c3 (pre f4 t3) h (by omega))
        have HSM := Lib.hid (fun wx A c h => rsm wx A nn3 c wx.heap.size (pre f4 t3) h HOs.out.len (by omega))
        rw [← hS] at HSM
        have hR6 : R ≤ 65535 := by omega
        have hS4 : S < 4294967296 := by rw [hS]; exact csum_lt _
        have hr1 : (S : Int) % 65536 = (R : Int) := by omega
        have hr2 : (S : Int).tmod 65536 = (R : Int) := by rw [Int.tmod_eq_emod_of_nonneg (by omega)]; exact hr1
        have HNR := Lib.hid (fun wx => rnum wx R 2 (by decide) (by decide) (by omega))
        clear hs3 hS hR
        go_wp2_with (first
          | (go_at_call 8; refine (HBY.out _ HOs.out).mono ?_; rintro e w4 ⟨A4, c4, rfl, hr4, hF4⟩; have H4 := Lib.hid (⟨hr4.out, HOs.out.still hF4.out⟩ : _ ∧ _); clear hr4 hF4)
          | (go_at_call 26; refine (HSM.out _ _ _ H4.out.1).mono ?_; rintro e w' ⟨rfl, rfl⟩)
          | (go_at_call 25; refine (HNR.out _).mono ?_; rintro e w6 ⟨A6, c6, rfl, hs6, hF6⟩; have H6 := Lib.hid (⟨H4.out.2.still hF6.out, hs6.out⟩ : _ ∧ _); clear hs6 hF6)
          | (at_builtin; refine wpList_appB rfl (.tmp 74) (.tmp 80) rfl rfl H6.out.1 A6 2 c6 _ (numL_len 2 R).symm rfl H6.out.2 (by omega) ?_; intro g7 n7 c7 w7 hn7 ho7; have H7 := Lib.hid ho7; have HL7 := Lib.hid hn7; clear ho7 hn7))
        go_meet
        refine ⟨g7, n7, c7, rfl, by have := HL7.out; omega, ?_⟩
        have h := H7.out
        rw [HE.out.2] at h
        exact h
    obtain ⟨g4, nn4, c4, rfl, hle4, HO4⟩ := hcut
    obtain ⟨Z, hZ⟩ : ∃ Z, Z = runsV rls b := ⟨_, rfl⟩
    obtain ⟨z, hz⟩ : ∃ z, z = Z.length := ⟨_, rfl⟩
    obtain ⟨S, hS⟩ : ∃ S, S = csum b := ⟨_, rfl⟩
    have hzb : z ≤ 200020 := by
      rw [hz, hZ]
      have := runs_small rls_sym b
      have := HN.out.1
      omega
    have HRU := Lib.hid (fun wx hF => rrn w wx A n cap z b HR.out.1 hF HN.out.1 hb (by rw [hz, hZ]))
    rw [← hZ] at HRU
    have HSB := Lib.hid (fun wx hF => rsm wx A n cap w.heap.size b (HR.out.1.still hF (Nat.le_refl _)) HN.out.1 (by omega))
    rw [← hS] at HSB
    have hS4 : S < 4294967296 := by rw [hS]; exact csum_lt _
    have HNS := Lib.hid (fun wx => rnum wx S 4 (by decide) (by decide) (by omega))
    have HNL := Lib.hid (fun wx => rnum wx n 4 (by decide) (by decide) (by omega))
    have HZZ := Lib.hid hz
    have HEND := Lib.hid (show T4 ++ Z ++ numL S 4 ++ numL n 4 = dressB csum rls b N1 N2 extra hc by
      unfold dressB
      rw [HDB.out, ← hZ, ← hS, ← HN.out.1, List.append_assoc, List.append_assoc])
    clear hZ hz hS
    go_wp2_with fail
    refine (HRU.out _ HO4.out.fr).mono ?_
    rintro e w5 ⟨A5, c5, rfl, hs5, hF5⟩
    have H5 := Lib.hid (⟨HO4.out.still hF5.out, hs5.out⟩ : _ ∧ _)
    clear hs5 hF5
    go_wp2_with (first
      | (at_builtin; refine wpList_appB rfl (.tmp 82) (.tmp 84) rfl rfl H5.out.1 A5 z c5 Z HZZ.out rfl H5.out.2 (by omega) ?_; intro g6 n6 c6 w6 hn6 ho6; have H6 := Lib.hid ho6; have HL6 := Lib.hid hn6; clear ho6 hn6)
      | (go_at_call 26; refine (HSB.out _ H6.out.fr).mono ?_; rintro e w' ⟨rfl, rfl⟩))
    refine (HNS.out _).mono ?_
    rintro e w7 ⟨A7, c7, rfl, hs7, hF7⟩
    have H7 := Lib.hid (⟨H6.out.still hF7.out, hs7.out⟩ : _ ∧ _)
    clear hs7 hF7
    go_wp2_with (at_builtin; refine wpList_appB rfl (.tmp 86) (.tmp 90) rfl rfl H7.out.1 A7 4 c7 _ (numL_len 4 S).symm rfl H7.out.2 (by have := HL6.out; omega) ?_; intro g8 n8 c8 w8 hn8 ho8; have H8 := Lib.hid ho8; have HL8 := Lib.hid hn8; clear ho8 hn8)
    refine (HNL.out _).mono ?_
    rintro e w9 ⟨A9, c9, rfl, hs9, hF9⟩
    have H9 := Lib.hid (⟨H8.out.still hF9.out, hs9.out⟩ : _ ∧ _)
    clear hs9 hF9
    go_wp2_with (at_builtin; refine wpList_appB rfl (.tmp 92) (.tmp 95) rfl rfl H9.out.1 A9 4 c9 _ (numL_len 4 n).symm rfl H9.out.2 (by have := HL6.out; have := HL8.out; omega) ?_; intro ga na ca wa hna hoa; have HA := Lib.hid hoa; clear hoa hna)
    go_ret2
    have h := HA.out
    rw [HEND.out] at h
    obtain ⟨h1, h2, h3⟩ := h
    subst h2
    exact ⟨_, _, rfl, h1, h3⟩
  · rw [show dressV csum rls b N1 N2 extra hc = ([], 2) from if_neg hmay]
    have HE := Lib.hid (show OutE w [] 2 (.returned (.tuple #[.slice none 0 0, .int .i64 2])) w from ⟨none, 0, rfl, ⟨rfl, Or.inl ⟨rfl, rfl⟩⟩, Fr.refl _ w⟩)
    obtain ⟨B1, hB1⟩ : ∃ B, B = N1.contains 0 := ⟨_, rfl⟩
    obtain ⟨B2, hB2⟩ : ∃ B, B = N2.contains 0 := ⟨_, rfl⟩
    have hlast : B1 = true ∨ (B1 = false ∧ B2 = true) ∨ (B1 = false ∧ B2 = false ∧ (65535 : Int) < (m : Int)) := by
      cases h1 : B1 with
      | true => exact Or.inl rfl
      | false =>
        cases h2 : B2 with
        | true => exact Or.inr (Or.inl ⟨rfl, rfl⟩)
        | false =>
          refine Or.inr (Or.inr ⟨rfl, rfl, ?_⟩)
          apply Decidable.byContradiction
          intro h3
          apply hmay
          unfold mayD
          rw [← hB1, ← hB2, h1, h2, ← HN.out.2.1]
          simp
          omega
    rw [← hB1] at HZ1
    rw [← hB2] at HZ2
    clear hB1 hB2 hN1 hN2 hmay
    rcases hlast with rfl | ⟨rfl, rfl⟩ | ⟨rfl, rfl, hm6⟩
    · go_enter Tryz.func10, Tryz.ntmps10
      go_wp2_with fail
      refine (HZ1.out _).mono ?_
      rintro e w' ⟨rfl, rfl⟩
      go_wp2_with fail
      go_ret2
      exact HE.out
    · go_enter Tryz.func10, Tryz.ntmps10
      go_wp2_with fail
      refine (HZ1.out _).mono ?_
      rintro e w' ⟨rfl, rfl⟩
      go_wp2_with fail
      refine (HZ2.out _).mono ?_
      rintro e w' ⟨rfl, rfl⟩
      go_wp2_with fail
      go_ret2
      exact HE.out
    · go_enter Tryz.func10, Tryz.ntmps10
      go_wp2_with fail
      refine (HZ1.out _).mono ?_
      rintro e w' ⟨rfl, rfl⟩
      go_wp2_with fail
      refine (HZ2.out _).mono ?_
      rintro e w' ⟨rfl, rfl⟩
      go_wp2_with fail
      go_ret2
      exact HE.out
end Go.Proofs.YtcdhakfmljjaoaaGreatDoor.gz
