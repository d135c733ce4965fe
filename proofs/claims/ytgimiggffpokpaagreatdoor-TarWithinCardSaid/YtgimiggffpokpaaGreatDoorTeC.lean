/-
  The program's cutRecord.
-/
import Derived.Test.YtgimiggffpokpaaGreatDoorTeB
import Derived.Lib.SlBytesConst
namespace Go.Proofs.YtgimiggffpokpaaGreatDoor.ta
set_option maxRecDepth 100000
open Go.RowKit Go.Maps
open Go.Proofs.YtgimiggffpokpaaGreatDoor.pt (Tx tx tx_toL tx_size toL toL_len)
open Go.Proofs.YtgimiggffpokpaaGreatDoor.he (Bts text_conv)
open Go.Proofs.YtgimiggffpokpaaGreatDoor.vr (wholeV wholeB numL digB)
set_option maxRecDepth 100000

/-- What cutRecord answers: a record's text, and what is behind it; or that there is none. -/
def RecA (w : World) (B blk off cap : Nat) (b : Bts) (e : Ending) (w' : World) : Prop :=
  ((cutR b = none ∧ e = .returned (.tuple #[.slice none 0 0, .slice none 0 0, .bool false])) ∨
    (∃ (f n : Nat) (A2 : Option Addr), cutR b = some (f, n) ∧ Rd w B A2 (b.drop n) ∧ (A2 = none → False) ∧ e = .returned (.tuple #[.slice (some ⟨blk, off + f, none⟩) (n - 1 - f) (cap - f), .slice A2 (b.length - n) (cap - n), .bool true]))) ∧ Fr (fun _ => False) w w'
theorem cut_ans {w w' : World} {B : Nat} {A : Option Addr} {cap : Nat} {l b : Bts} {e : Ending} (hl : l = b.take 7) (h : CutA w B A cap l 32 e w') : ∃ v2, e = .returned (.tuple #[.slice A (digR b).length cap, v2, .bool (decide ((32 : UInt8) ∈ b.take 7))]) ∧ Calm w w' := by
  subst hl
  obtain ⟨h, hC⟩ := h
  have hd : digR b = (b.take 7).takeWhile (fun x => decide (x ≠ 32)) := rfl
  rcases h with ⟨h1, h2, h3⟩ | ⟨i, A2, h1, h2, h3, _, _, h4⟩
  · rw [hd, h2, decide_eq_false h1]
    exact ⟨_, h3, hC⟩
  · rw [hd, h3, decide_eq_true h1, List.length_take, Nat.min_eq_left (by omega)]
    exact ⟨_, h4, hC⟩
theorem tconv {w : World} {B : Nat} {ad : Addr} {b : Bts} (hr : Rd w B (some ad) b) (cap i : Nat) (hi : i ≤ b.length) : (convert 22 9 (.slice (some ad) i cap)).run Tryz.prog w = .ok (.string (tx (b.take i))) w := text_conv hr cap i hi
theorem dig_take (b : Bts) : b.take (digR b).length = digR b := by
  have h1 : digR b <+: b.take 7 := by unfold digR; exact List.takeWhile_prefix _
  have h2 := h1.trans (List.take_prefix 7 b)
  exact (List.prefix_iff_eq_take.1 h2).symm
set_option maxHeartbeats 16000000 in
theorem pcutRecord (w : World) (blk off B cap : Nat) (b : Bts) (h : Rd w B (some ⟨blk, off, none⟩) b) (hB : B ≤ w.heap.size) (hne : b ≠ []) (hc : b.length ≤ cap) (hb : b.length ≤ 140737488355328) :
    Calls Tryz.prog 54 #[.slice (some ⟨blk, off, none⟩) b.length cap] w (RecA w B blk off cap b) := by
  obtain ⟨n, hn⟩ : ∃ n, n = b.length := ⟨_, rfl⟩
  have HN := Lib.hid hn
  obtain ⟨m, hm⟩ : ∃ m, m = min n 7 := ⟨_, rfl⟩
  obtain ⟨k, hk⟩ : ∃ k, k = (digR b).length := ⟨_, rfl⟩
  obtain ⟨hk7, hkb⟩ := digR_le b
  rw [← hk] at hk7 hkb
  rw [← hn] at hc hb hkb ⊢
  obtain ⟨o, ho⟩ : ∃ o : Obj, o = .cells #[.int .u8 32] 5 (1, 2) := ⟨_, rfl⟩
  have kc : (convert 22 22 (.slice (some ⟨w.heap.size, 0, none⟩) 1 1)).run Tryz.prog (w.alloc (.cells #[.int .u8 32] 5)) = .ok (.slice (some ⟨w.heap.size, 0, none⟩) 1 1) (w.alloc (.cells #[.int .u8 32] 5 (1, 2))) := Lib.run_convert_bytes_const (P := Tryz.prog) w 22 5 #[.int .u8 32] 1 1 Tryz.underlying22 Tryz.underlying5
  have hF0 : Fr (fun _ => False) w (w.alloc o) := (Fr.refl _ w).alloc o
  have hml : m = (b.take 7).length := by rw [List.length_take, ← hn, hm]; omega
  have HC := Lib.hid ((pcut (w.alloc o) blk off B m cap w.heap.size (b.take 7) 32 32 rfl ((h.still hF0 hB).take 7) hml (by omega) (by omega) (by rw [ho, World.cell?_alloc_mark]; rfl)).mono fun _ _ => cut_ans rfl)
  rw [← hk] at HC
  have HF0 := Lib.hid hF0
  have HCV := Lib.hid (fun wx (hF : Fr (fun _ => False) w wx) => tconv (h.still hF hB) cap k (by omega))
  rw [show b.take k = digR b from by rw [hk]; exact dig_take b] at HCV
  have HNU := Lib.hid (fun wx => pnumber wx (tx (digR b)) 6 (by omega) (by rw [tx_size]; unfold maxLen; omega))
  rw [tx_toL (digR b), show ((6 : Nat) : Int) = 6 from rfl] at HNU
  obtain ⟨X, hX⟩ : ∃ X, X = tx (digR b) := ⟨_, rfl⟩
  rw [← hX] at HNU HCV
  obtain ⟨F, hF⟩ : ∃ F, F = decide ((32 : UInt8) ∈ b.take 7) := ⟨_, rfl⟩
  rw [← hF] at HC
  have HRD := Lib.hid h
  have HBB := Lib.hid hB
  have HAT := Lib.hid (fun wx (hFx : Fr (fun _ => False) w wx) (q : Nat) (hq : q < b.length) => (h.still hFx hB).at_ hq)
  have n0 : 0 < n := by rw [hn]; exact List.length_pos_iff.2 hne
  have hmi : (min (n : Int) 7) = (m : Int) := by rw [hm]; omega
  have hm0 : (0 : Int) ≤ m := by omega
  have hmc : (m : Int) ≤ cap := by omega
  have hmc' : m ≤ cap := by omega
  obtain ⟨f, hf⟩ : ∃ f, f = k + 1 := ⟨_, rfl⟩
  have hfw : IntKind.i64.wrap ((k : Int) + 1) = (f : Int) := by rw [IntWalk.i64_in _ (by omega)]; omega
  -- the answer that there is no record
  have HNO := Lib.hid (fun (hcu : cutR b = none) wx (hFx : Fr (fun _ => False) w wx) => (show RecA w B blk off cap b (.returned (.tuple #[.slice none 0 0, .slice none 0 0, .bool false])) wx from ⟨Or.inl ⟨hcu, rfl⟩, hFx⟩))
  have HCU := Lib.hid (show cutR b = match wholeV (digR b) 6 with
    | none => none
    | some s => if s ≤ k + 1 ∨ n < s ∨ b[s - 1]? ≠ some 10 ∨ F = false then none else some (k + 1, s) from by
      unfold cutR
      rw [← hk, ← hn]
      cases wholeV (digR b) 6 with
      | none => rfl
      | some s =>
        dsimp only
        have : ((32 : UInt8) ∉ b.take 7) ↔ F = false := by rw [hF, decide_eq_false_iff_not]
        simp only [this])
  rw [ho] at HC HF0
  cases hw : wholeV (digR b) 6 with
  | none =>
    have hcu : cutR b = none := by rw [HCU.out, hw]
    have HEND := Lib.hid (HNO.out hcu)
    rw [hw] at HNU
    have HNU := Lib.hid (show ∀ wx, Calls Tryz.prog 70 #[.string X, .int .i64 6] wx fun e w' => e = .returned (.tuple #[.int .i64 0, .bool false]) ∧ Fr (fun _ => False) wx w' from HNU.out)
    clear HNO HCU hcu hw h hB hne hm hk hml hF0 ho hX hF hn hf
    rcases F with _ | _
    all_goals
      go_enter Tryz.func54, Tryz.ntmps54
      go_wp2_with fail
      refine HC.out.mono ?_
      rintro e w1 ⟨v2, rfl, hC⟩
      have HF1 := Lib.hid (HF0.out.trans hC.fr (fun _ _ e => e))
      have hcv := HCV.out w1 HF1.out
      clear hC HC HF0
      go_wp2_with fail
      refine (HNU.out _).mono ?_
      rintro e w2 ⟨rfl, hF2⟩
      have HF2 := Lib.hid (HF1.out.trans hF2 (fun _ _ e => e))
      clear hF2 hcv
      go_wp2_with fail
      go_ret3
      exact HEND.out _ HF2.out
  | some s =>
    have hs6 := (whole_some hw).2.2.2.2.2
    rw [hw] at HNU HCU
    have HNU := Lib.hid (show ∀ wx, Calls Tryz.prog 70 #[.string X, .int .i64 6] wx fun e w' => e = .returned (.tuple #[.int .i64 (s : Int), .bool true]) ∧ Fr (fun _ => False) wx w' from HNU.out)
    have HCU := Lib.hid (show cutR b = if s ≤ k + 1 ∨ n < s ∨ b[s - 1]? ≠ some 10 ∨ F = false then none else some (k + 1, s) from HCU.out)
    clear hw h hB hne hm hk hml hF0 ho hX hF hn
    obtain ⟨q, hq⟩ : ∃ q, q = s - 1 := ⟨_, rfl⟩
    by_cases c1 : F = false
    · have HEND := Lib.hid (HNO.out (by rw [HCU.out, if_pos (Or.inr (Or.inr (Or.inr c1)))]))
      subst c1
      clear HNO HCU hf hq
      go_enter Tryz.func54, Tryz.ntmps54
      go_wp2_with fail
      refine HC.out.mono ?_
      rintro e w1 ⟨v2, rfl, hC⟩
      have HF1 := Lib.hid (HF0.out.trans hC.fr (fun _ _ e => e))
      have hcv := HCV.out w1 HF1.out
      clear hC HC HF0
      go_wp2_with fail
      refine (HNU.out _).mono ?_
      rintro e w2 ⟨rfl, hF2⟩
      have HF2 := Lib.hid (HF1.out.trans hF2 (fun _ _ e => e))
      clear hF2 hcv
      go_wp2_with fail
      go_ret3
      exact HEND.out _ HF2.out
    obtain rfl : F = true := by simpa using c1
    by_cases c2 : s ≤ k + 1
    · have HEND := Lib.hid (HNO.out (by rw [HCU.out, if_pos (Or.inl c2)]))
      have k1 : (s : Int) ≤ (f : Int) := by omega
      clear HNO HCU c1 c2 hf hq
      go_enter Tryz.func54, Tryz.ntmps54
      go_wp2_with fail
      refine HC.out.mono ?_
      rintro e w1 ⟨v2, rfl, hC⟩
      have HF1 := Lib.hid (HF0.out.trans hC.fr (fun _ _ e => e))
      have hcv := HCV.out w1 HF1.out
      clear hC HC HF0
      go_wp2_with fail
      refine (HNU.out _).mono ?_
      rintro e w2 ⟨rfl, hF2⟩
      have HF2 := Lib.hid (HF1.out.trans hF2 (fun _ _ e => e))
      clear hF2 hcv
      go_wp2_with fail
      go_ret3
      exact HEND.out _ HF2.out
    have k1 : ¬ (s : Int) ≤ (f : Int) := by omega
    by_cases c3 : n < s
    · have HEND := Lib.hid (HNO.out (by rw [HCU.out, if_pos (Or.inr (Or.inl c3))]))
      have k2 : (n : Int) < (s : Int) := by omega
      clear HNO HCU c1 c2 c3 hf hq
      go_enter Tryz.func54, Tryz.ntmps54
      go_wp2_with fail
      refine HC.out.mono ?_
      rintro e w1 ⟨v2, rfl, hC⟩
      have HF1 := Lib.hid (HF0.out.trans hC.fr (fun _ _ e => e))
      have hcv := HCV.out w1 HF1.out
      clear hC HC HF0
      go_wp2_with fail
      refine (HNU.out _).mono ?_
      rintro e w2 ⟨rfl, hF2⟩
      have HF2 := Lib.hid (HF1.out.trans hF2 (fun _ _ e => e))
      clear hF2 hcv
      go_wp2_with fail
      go_ret3
      exact HEND.out _ HF2.out
    have k2 : ¬ (n : Int) < (s : Int) := by omega
    have hqb : q < b.length := by rw [← HN.out]; omega
    have hqw : IntKind.i64.wrap ((s : Int) - 1) = (q : Int) := by rw [IntWalk.i64_in _ (by omega)]; omega
    have hq0 : (0 : Int) ≤ (q : Int) := by omega
    have hqn : (q : Int) < (n : Int) := by omega
    have HQ := Lib.hid (fun wx hFx => HAT.out wx hFx q hqb)
    obtain ⟨y, hy⟩ : ∃ y, y = b[q] := ⟨_, rfl⟩
    rw [← hy] at HQ
    have hbq : b[s - 1]? = some y := by rw [← hq, hy]; exact List.getElem?_eq_getElem hqb
    by_cases c4 : y = 10
    case neg =>
      have HEND := Lib.hid (HNO.out (by rw [HCU.out, if_pos (Or.inr (Or.inr (Or.inl (by rw [hbq]; exact fun e => c4 (Option.some.inj e)))))]))
      have k4 : ((y.toNat : Int) == 10) = false := beq_eq_false_iff_ne.2 (fun e => c4 (UInt8.toNat_inj.1 (by have : (10 : UInt8).toNat = 10 := rfl; omega)))
      obtain ⟨z, hz⟩ : ∃ z, z = y.toNat := ⟨_, rfl⟩
      rw [← hz] at k4 HQ
      have k4' : ((z : Int) != 10) = true := by unfold bne; rw [k4]; rfl
      clear HNO HCU HAT c1 c2 c3 c4 hf hq hqb hy hbq hz
      go_enter Tryz.func54, Tryz.ntmps54
      go_wp2_with fail
      refine HC.out.mono ?_
      rintro e w1 ⟨v2, rfl, hC⟩
      have HF1 := Lib.hid (HF0.out.trans hC.fr (fun _ _ e => e))
      have hcv := HCV.out w1 HF1.out
      clear hC HC HF0
      go_wp2_with fail
      refine (HNU.out _).mono ?_
      rintro e w2 ⟨rfl, hF2⟩
      have HF2 := Lib.hid (HF1.out.trans hF2 (fun _ _ e => e))
      obtain ⟨b2, o2, he, hlt, hcell⟩ := HQ.out _ HF2.out
      cases he
      clear hF2 hcv hlt
      go_wp2_with fail
      go_ret3
      exact HEND.out _ HF2.out
    case pos =>
      subst c4
      have hcu : cutR b = some (f, s) := by
        rw [HCU.out, if_neg, hf]
        rintro (e | e | e | e)
        · exact c2 e
        · exact c3 e
        · exact e hbq
        · cases e
      have HEND := Lib.hid (fun wx (hFx : Fr (fun _ => False) w wx) A2 (hA2 : A2 = (if cap = s then some ⟨blk, off, none⟩ else (some ⟨blk, off, none⟩ : Option Addr).map (·.add s))) => (show RecA w B blk off cap b (.returned (.tuple #[.slice (some ⟨blk, off + f, none⟩) (q - f) (cap - f), .slice A2 (n - s) (cap - s), .bool true])) wx from ⟨Or.inr ⟨f, s, A2, hcu, by rw [hA2]; exact HRD.out.drop (cap := cap) (by rw [← HN.out]; exact hc), (by intro e; rw [e] at hA2; split at hA2 <;> cases hA2), by rw [hq, HN.out]⟩, hFx⟩))
      rw [show ((10 : UInt8).toNat : Int) = 10 from rfl] at HQ
      have HJ := Lib.hid (show (0 : Int) ≤ (f : Int) ∧ (f : Int) ≤ (q : Int) ∧ (q : Int) ≤ (cap : Int) ∧ (0 : Int) ≤ (s : Int) ∧ (s : Int) ≤ (n : Int) ∧ f ≤ q ∧ q ≤ cap ∧ s ≤ n ∧ ¬ cap = f by omega)
      by_cases hci : cap = s
      · rw [if_pos hci] at HEND
        have HNS := Lib.hid (show n = s by omega)
        have HCI := Lib.hid hci
        clear hci
        clear HNO HCU HAT c1 c2 c3 hf hqb hy hbq hcu HRD
        clear hq
        go_enter Tryz.func54, Tryz.ntmps54
        go_wp2_with fail
        refine HC.out.mono ?_
        rintro e w1 ⟨v2, rfl, hC⟩
        have HF1 := Lib.hid (HF0.out.trans hC.fr (fun _ _ e => e))
        have hcv := HCV.out w1 HF1.out
        clear hC HC HF0
        go_wp2_with fail
        refine (HNU.out _).mono ?_
        rintro e w2 ⟨rfl, hF2⟩
        have HF2 := Lib.hid (HF1.out.trans hF2 (fun _ _ e => e))
        obtain ⟨b2, o2, he, hlt, hcell⟩ := HQ.out _ HF2.out
        cases he
        clear hF2 hcv hlt
        go_wp2_with fail
        obtain ⟨k5, k6, k7, k8, k9, j6, j7, j9, j10⟩ := HJ.out
        go_quiet (fail)
        go_wp2_with fail
        go_ret3
        have := HEND.out _ (HF2.out.drewN nq) _ rfl
        simpa [add_plain, HCI.out, HNS.out] using this
      · rw [if_neg hci] at HEND
        clear HNO HCU HAT c1 c2 c3 hf hqb hy hbq hcu HRD
        clear hq
        go_enter Tryz.func54, Tryz.ntmps54
        go_wp2_with fail
        refine HC.out.mono ?_
        rintro e w1 ⟨v2, rfl, hC⟩
        have HF1 := Lib.hid (HF0.out.trans hC.fr (fun _ _ e => e))
        have hcv := HCV.out w1 HF1.out
        clear hC HC HF0
        go_wp2_with fail
        refine (HNU.out _).mono ?_
        rintro e w2 ⟨rfl, hF2⟩
        have HF2 := Lib.hid (HF1.out.trans hF2 (fun _ _ e => e))
        obtain ⟨b2, o2, he, hlt, hcell⟩ := HQ.out _ HF2.out
        cases he
        clear hF2 hcv hlt
        go_wp2_with fail
        obtain ⟨k5, k6, k7, k8, k9, j6, j7, j9, j10⟩ := HJ.out
        go_quiet (fail)
        go_wp2_with fail
        go_ret3
        have := HEND.out _ (HF2.out.drewN nq) _ rfl
        simpa [add_plain] using this
end Go.Proofs.YtgimiggffpokpaaGreatDoor.ta
