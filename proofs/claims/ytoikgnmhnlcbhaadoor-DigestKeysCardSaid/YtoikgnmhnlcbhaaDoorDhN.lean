/-
  The program's Of, Same: its digests are what is asked of them.
-/
import Derived.Test.YtoikgnmhnlcbhaaDoorDhK
namespace Go.Proofs.YtoikgnmhnlcbhaaDoor.dg
set_option maxRecDepth 100000
open Go.RowKit Go.Maps
set_option maxRecDepth 100000

set_option maxHeartbeats 4000000 in
theorem pof (w : World) (hT : DT w) (b : Bts) (hb : b.length ≤ 100000) : Calls Tryd.prog 13 #[.string (tx b)] w fun e w' => e = .returned (.string (tx (ofV b))) ∧ Fr (fun _ => False) w w' := by
  have kc := Lib.run_convert_string_bytes (P := Tryd.prog) w 9 22 5 (tx b) Tryd.underlying9 Tryd.underlying22 Tryd.underlying5
  have hd : (tx b).data.toList = b := rfl
  have HRD := conv_rd w (tx b)
  have HF := Lib.hid (conv_fr w (tx b))
  rw [hd] at HRD
  have hsz : (tx b).size = b.length := tx_size b
  have hG0 := grownCap_ge w (tx b).size 0 5
  obtain ⟨W1, hW1⟩ : ∃ W, W = Lib.bytesWorld w 5 (tx b) := ⟨_, rfl⟩
  obtain ⟨G, hG⟩ : ∃ G, G = grownCap w (tx b).size 0 5 := ⟨_, rfl⟩
  rw [← hG, ← hW1] at kc
  rw [← hG, hsz] at hG0
  rw [← hW1] at HRD HF
  have HS := Lib.hid (psum W1 (hT.keep HF.out id id id) (some ⟨w.heap.size, 0, none⟩) G b HRD hG0 hb)
  rw [hsz] at kc
  obtain ⟨S, hS⟩ : ∃ S, S = tx b := ⟨_, rfl⟩
  obtain ⟨n, hn⟩ : ∃ n, n = b.length := ⟨_, rfl⟩
  obtain ⟨d, hdd⟩ : ∃ d, d = digV [] b := ⟨_, rfl⟩
  have HDE := Lib.hid (show ofV b = hexV d from by rw [hdd]; rfl)
  have hdl : d.length = 32 := by rw [hdd]; exact digV_length _ _
  have HH := Lib.hid (fun wx => phex wx d hdl)
  rw [HDE.out]
  rw [← hS, ← hn] at kc
  rw [← hn, ← hdd] at HS
  rw [← hS]
  clear hS hW1 hG hsz hd HRD hn hdd hdl hb hG0 hT
  go_enter Tryd.func13, Tryd.ntmps13
  go_wp2_with (first
    | (go_at_call 9; refine HS.out.mono ?_; rintro e w2 ⟨rfl, hF2⟩; have HF2 := Lib.hid hF2; clear hF2)
    | (go_at_call 11; refine (HH.out _).mono ?_; rintro e w3 ⟨rfl, hF3⟩; have HF3 := Lib.hid hF3; clear hF3))
  go_ret
  exact ⟨rfl, (HF.out.trans HF2.out (fun _ _ e => e)).trans HF3.out (fun _ _ e => e)⟩
set_option maxHeartbeats 4000000 in
theorem psame (w : World) (hT : DT w) (s : Bts) (B : Option Addr) (bc : Nat) (b : Bts) (hr : Rd w w.heap.size B b) (hbc : b.length ≤ bc) (hb : b.length ≤ 100000) :
    Calls Tryd.prog 21 #[.string (tx s), .slice B b.length bc] w fun e w' => e = .returned (.bool (decide (s = ofV b))) ∧ Fr (fun _ => False) w w' := by
  have HS := Lib.hid (psum w hT B bc b hr hbc hb)
  obtain ⟨n, hn⟩ : ∃ n, n = b.length := ⟨_, rfl⟩
  obtain ⟨d, hdd⟩ : ∃ d, d = digV [] b := ⟨_, rfl⟩
  have HDE := Lib.hid (show ofV b = hexV d from by rw [hdd]; rfl)
  have hdl : d.length = 32 := by rw [hdd]; exact digV_length _ _
  have HH := Lib.hid (fun wx => phex wx d hdl)
  rw [HDE.out]
  rw [← hn, ← hdd] at HS
  rw [← hn]
  obtain ⟨t, ht⟩ : ∃ t, t = hexV d := ⟨_, rfl⟩
  rw [← ht] at HH ⊢
  clear hr hbc hb hn hdd hdl hT ht HDE
  rcases tx_dec s t with h | ⟨h1, h2⟩
  · subst h
    have HE := Lib.hid (decide_eq_true (rfl : s = s))
    rw [HE.out]
    obtain ⟨S, hS⟩ : ∃ S, S = tx s := ⟨_, rfl⟩
    rw [← hS] at HH ⊢
    clear hS
    go_enter Tryd.func21, Tryd.ntmps21
    go_wp2_with (first
      | (go_at_call 9; refine HS.out.mono ?_; rintro e w2 ⟨rfl, hF2⟩; have HF2 := Lib.hid hF2; clear hF2)
      | (go_at_call 11; refine (HH.out _).mono ?_; rintro e w3 ⟨rfl, hF3⟩; have HF3 := Lib.hid hF3; clear hF3))
    go_ret
    exact ⟨rfl, HF2.out.trans HF3.out (fun _ _ e => e)⟩
  · rw [decide_eq_false h1]
    obtain ⟨S, hS⟩ : ∃ S, S = tx s := ⟨_, rfl⟩
    obtain ⟨T, hT2⟩ : ∃ T, T = tx t := ⟨_, rfl⟩
    rw [← hS, ← hT2] at h2
    rw [← hT2] at HH
    rw [← hS]
    clear hS hT2 h1
    go_enter Tryd.func21, Tryd.ntmps21
    go_wp2_with (first
      | (go_at_call 9; refine HS.out.mono ?_; rintro e w2 ⟨rfl, hF2⟩; have HF2 := Lib.hid hF2; clear hF2)
      | (go_at_call 11; refine (HH.out _).mono ?_; rintro e w3 ⟨rfl, hF3⟩; have HF3 := Lib.hid hF3; clear hF3))
    go_ret
    exact ⟨rfl, HF2.out.trans HF3.out (fun _ _ e => e)⟩
/-- The program's digests are what the chapter asks. -/
theorem digest_all : DigP DT where
  d_keep h hF := h.keep hF id id id
  sum w B bc b hr _ hbc hb hD := psum w hD B bc b hr hbc hb
  keyed w A kc key B bc b hk _ _ hk2 hr _ hbc hb hD := pkeyed w hD A kc key B bc b hk hk2 hr hbc hb
  hex w d hd _ := phex w d hd
  parse w s hs _ := pparse w s hs
  of_ w b hb hD := pof w hD b hb
  same w s B bc b _ hr _ hbc hb hD := psame w hD s B bc b hr hbc hb
end Go.Proofs.YtoikgnmhnlcbhaaDoor.dg
