/-
  The program's isName and Check.
-/
import Derived.Test.YtgimiggffpokpaaGreatDoorPuA
namespace Go.Proofs.YtgimiggffpokpaaGreatDoor.pt
set_option maxRecDepth 100000
open Go.RowKit Go.Maps
set_option maxRecDepth 100000
attribute [local go_sem] Oper.semAt_some

theorem ch_two (b : UInt8) (h : b ≠ 47) : ((b.toNat : Int) < 33 ∧ chT b = false) ∨ (¬ (b.toNat : Int) < 33 ∧ 126 < (b.toNat : Int) ∧ chT b = false) ∨ (¬ (b.toNat : Int) < 33 ∧ ¬ 126 < (b.toNat : Int) ∧ chT b = true) := by
  unfold chT
  by_cases h1 : (b.toNat : Int) < 33
  · exact Or.inl ⟨h1, by rw [decide_eq_false (p := 33 ≤ b.toNat) (by omega)]; rfl⟩
  by_cases h2 : 126 < (b.toNat : Int)
  · exact Or.inr (Or.inl ⟨h1, h2, by rw [decide_eq_false (p := b.toNat ≤ 126) (by omega)]; simp⟩)
  · exact Or.inr (Or.inr ⟨h1, h2, by rw [decide_eq_true (p := 33 ≤ b.toNat) (by omega), decide_eq_true (p := b.toNat ≤ 126) (by omega), decide_eq_true h]; rfl⟩)
set_option maxHeartbeats 4000000 in
theorem pisname (w : World) (s : ByteArray) (hs : s.size ≤ maxLen) (hf : (47 : UInt8) ∉ s.toList) : Calls Tryz.prog 13 #[.string s] w fun e w' => e = .returned (.bool (nmT s.toList)) ∧ w = w' := by
  unfold maxLen at hs
  have HLEN := Lib.hid (toL_len s)
  by_cases h0 : s.toList = []
  · obtain rfl : s = ⟨#[]⟩ := empty_tx h0
    rw [h0]
    clear HLEN
    go_enter Tryz.func13, Tryz.ntmps13
    go_wp2_with fail
    go_ret
    exact ⟨rfl, rfl⟩
  have h0s : 0 < s.size := by rw [← toL_len]; exact List.length_pos_iff.2 h0
  have h0i : ¬ (s.size : Int) < 1 := by omega
  by_cases h1 : 32 < s.size
  · have hv : nmT s.toList = false := by
      unfold nmT
      rw [decide_eq_false (p := s.toList.length ≤ 32) (by rw [toL_len]; omega)]
      simp
    rw [hv]
    have h1i : (32 : Int) < s.size := by omega
    clear hv h0 hf
    go_enter Tryz.func13, Tryz.ntmps13
    go_wp2_with fail
    go_ret
    exact ⟨rfl, rfl⟩
  have h1i : ¬ (32 : Int) < s.size := by omega
  by_cases h2 : s.toList = [46]
  · obtain rfl : s = ⟨#[46]⟩ := by rw [← tx_of s, h2]
    rw [h2]
    clear h0 hf HLEN
    go_enter Tryz.func13, Tryz.ntmps13
    go_wp2_with fail
    go_ret
    exact ⟨rfl, rfl⟩
  by_cases h3 : s.toList = [46, 46]
  · obtain rfl : s = ⟨#[46, 46]⟩ := by rw [← tx_of s, h3]
    rw [h3]
    clear h0 hf HLEN h2
    go_enter Tryz.func13, Tryz.ntmps13
    go_wp2_with fail
    go_ret
    exact ⟨rfl, rfl⟩
  have h2' : (s.toList == [46]) = false := beq_eq_false_iff_ne.2 h2
  have h3' : (s.toList == [46, 46]) = false := beq_eq_false_iff_ne.2 h3
  have HEND := Lib.hid (fun (h : s.toList.all chT = true) => show nmT s.toList = true by
    unfold nmT
    rw [h, decide_eq_true h0, decide_eq_true (p := s.toList.length ≤ 32) (by rw [toL_len]; omega), decide_eq_true h2, decide_eq_true h3]
    rfl)
  have HNE := Lib.hid (fun (k : Nat) (hk : k < s.size) => show s[k] ≠ 47 from fun e => hf (List.mem_of_getElem? (by rw [← e]; exact toL_get s k hk)))
  obtain ⟨z, hz⟩ : ∃ z, z = nmT s.toList := ⟨_, rfl⟩
  have HZ := Lib.hid hz
  rw [← hz]
  clear hz h0 h2 h3 hf HLEN
  go_enter Tryz.func13, Tryz.ntmps13
  go_wp2_with fail
  go_loop [22] (fun i => ∃ k : Nat, k ≤ s.size ∧ i = .int .i64 k ∧ Hid (ChTo s k)) (fun i => s.size - (intOf i).toNat)
  case atStart => exact ⟨0, Nat.zero_le _, rfl, (show ChTo s 0 from rfl)⟩
  case round =>
    obtain ⟨k, hk, rfl, HK⟩ := hrel
    by_cases hlt : k < s.size
    · rcases ch_two s[k] (HNE.out k hlt) with ⟨c1, hb⟩ | ⟨c1, c2, hb⟩ | ⟨c1, c2, hb⟩
      · have HB := Lib.hid (nm_no hlt hb)
        clear hb
        go_wp2_with fail
        go_ret
        exact ⟨by rw [HZ.out, HB.out]; rfl, rfl⟩
      · have HB := Lib.hid (nm_no hlt hb)
        clear hb
        go_wp2_with fail
        go_ret
        exact ⟨by rw [HZ.out, HB.out]; rfl, rfl⟩
      · have HB := Lib.hid (HK.out.next hlt hb)
        clear hb
        go_wp2_with fail
        go_round
        case rel => exact ⟨k + 1, by omega, by go_num, HB⟩
        case measure => simp [intOf]; omega
    · obtain rfl : k = s.size := by omega
      have HB := Lib.hid (HEND.out HK.out.all)
      go_wp2_with fail
      go_ret
      exact ⟨by rw [HZ.out, HB.out]; rfl, rfl⟩
/-- A part has no /, and is no longer than the text. -/
theorem pk_free (l : Tx) (k : Nat) : (47 : UInt8) ∉ pkB l k ∧ (pkB l k).length ≤ l.length := by
  unfold pkB
  cases h : (splitB 47 l)[k]? with
  | none => exact ⟨by simp, Nat.zero_le _⟩
  | some p => exact ⟨split_all p (List.mem_of_getElem? h), split_len.1 p (List.mem_of_getElem? h)⟩
theorem pk_all {l : Tx} (h : ∀ k, k < (splitB 47 l).length → nmT (pkB l k) = true) : ∀ p ∈ splitB 47 l, nmT p = true := fun p hp => by
  obtain ⟨k, hk, e⟩ := List.getElem_of_mem hp
  have := h k hk
  unfold pkB at this
  rw [List.getElem?_eq_getElem hk, e] at this
  exact this
theorem pk_mem {l : Tx} {k : Nat} (h : k < (splitB 47 l).length) : pkB l k ∈ splitB 47 l := by
  unfold pkB
  rw [List.getElem?_eq_getElem h]
  exact List.getElem_mem h
theorem res_check (tmps : Array Value) (w : World) (B : Nat) (v : Value) (hp : tmps[2]?.getD undef = .pointer (some ⟨B, 0, none⟩)) (hc : w.cell? ⟨B, 0, none⟩ = some v) : (results Tryz.f6 tmps).run Tryz.prog w = .ok v w := by
  simp [results, Tryz.f6, go_sem, hp, hc]
set_option maxHeartbeats 8000000 in
theorem pcheck (w : World) (s : ByteArray) (hs : s.size ≤ maxLen) : Calls Tryz.prog 6 #[.string s] w fun e w' => e = .returned (.int .i64 (checkZ s.toList)) ∧ Fr (fun _ => False) w w' := by
  unfold maxLen at hs
  have hbox := Boxed.new w 25 (.int .i64 0)
  have HFS := Lib.hid (fun v => (Fr.refl (fun _ => False) w).alloc (.cells #[v] 25))
  have HCS := Lib.hid (fun v => (Boxed.new w 25 v).cell)
  by_cases h0 : s.toList = []
  · obtain rfl : s = ⟨#[]⟩ := empty_tx h0
    rw [h0]
    clear hbox
    go_enter Tryz.func6, Tryz.ntmps6
    go_wp2_with fail
    exact bodyPost_ret (res_check _ _ w.heap.size _ rfl (HCS.out _)) rfl ⟨rfl, HFS.out _⟩
  have h0' := isE h0
  by_cases h1 : 200 < s.size
  · have h1i : (200 : Int) < s.size := by omega
    have hv : checkZ s.toList = 140 := checkZ_no (okT_long (by rw [toL_len]; exact h1))
    rw [hv]
    clear hbox hv h0
    go_enter Tryz.func6, Tryz.ntmps6
    go_wp2_with fail
    exact bodyPost_ret (res_check _ _ w.heap.size _ rfl (HCS.out _)) rfl ⟨rfl, HFS.out _⟩
  have h1i : ¬ (200 : Int) < s.size := by omega
  obtain ⟨N, hN⟩ : ∃ N, N = (splitB 47 s.toList).length := ⟨_, rfl⟩
  have HN := Lib.hid hN
  have HOK := Lib.hid (fun (h : ∀ k, k < N → nmT (pkB s.toList k) = true) => checkZ_ok (okT_of (l := s.toList) (by rw [toL_len]; omega) (pk_all (by rw [← hN]; exact h))))
  have HNO := Lib.hid (fun (k : Nat) (hk : k < N) (h : nmT (pkB s.toList k) = false) => checkZ_no (okT_part h0 (pk_mem (by rw [← hN]; exact hk)) h))
  have HPP := Lib.hid (fun wx => callsIn_wide (n := 2) |>.2 (pparts wx s))
  refine (callsIn_wide (n := 3)).1 ?_
  refine callsIn_of_wp_marks Tryz.func6 rfl trivial ?_ rfl
  simp only [Tryz.ntmps6, List.size_toArray, List.length_cons, List.length_nil, Nat.reduceAdd, Nat.reduceSub, Array.replicate_succ, Array.replicate_zero, List.push_toArray, List.append_toArray, List.nil_append, List.cons_append]
  gi_wp2_with (refine ⟨trivial, ?_⟩; gi_at_call 12; refine (HPP.out _).mono ?_; rintro e w' ⟨rfl, rfl⟩)
  have HSEQ : rn.SeqN Fence.wide 2 Tryz.prog 21 #[.pointer (some ⟨w.heap.size + 1, 0, none⟩)] (encP s.toList) N ((w.alloc (.cells #[.int .i64 0] 25)).alloc (.cells #[.string s] 9)) := by
    have hb := Boxed.new (w.alloc (.cells #[.int .i64 0] 25)) 9 (.string s)
    rw [World.size_alloc] at hb
    rw [hN]
    exact parts_seq 2 (by omega) s (by omega) _ _ hb.lt hb.cell
  refine rn.rangeN rfl (by omega) (gf := 21) (lb := #[.pointer (some ⟨w.heap.size + 1, 0, none⟩)]) rfl trivial (enters_of Tryz.func21 (by kernel_rfl) rfl) HSEQ (Below.refl _ _) (fun _ => rfl)
    (fun k W => (∀ j, j < k → nmT (pkB s.toList j) = true) ∧ Boxed W w.heap.size 25 (.int .i64 0) ∧ Below w.heap.size w W)
    (fun k W => (∃ j, j < N ∧ nmT (pkB s.toList j) = false) ∧ Boxed W w.heap.size 25 (.int .i64 140) ∧ Below w.heap.size w W)
    (OwnFrom.and (ownFrom_pure _ _) (OwnFrom.and (Own.from (boxed_own _ _ _) _) (ownFrom_below (Nat.le_refl _) (by simp; omega))))
    (OwnFrom.and (ownFrom_pure _ _) (OwnFrom.and (Own.from (boxed_own _ _ _) _) (ownFrom_below (Nat.le_refl _) (by simp; omega))))
    ⟨fun j hj => absurd hj (Nat.not_lt_zero _), hbox.alloc _, ((Below.refl _ w).alloc (Nat.le_refl _) _).alloc (by simp) _⟩
    (fun k => { tmps := #[.string s, undef, .pointer (some ⟨w.heap.size, 0, none⟩), .string (tx (pkB s.toList k)), .string s, .bool false, .string s, .int .i64 s.size, .bool false, .string s, .func (.func 21) #[] #[.pointer (some ⟨w.heap.size + 1, 0, none⟩)], .string (tx (pkB s.toList k)), undef, undef, undef], defers := [] }) ?assign ?body ?done ?stop
  case assign =>
    intro l k W K hK
    gi_wp2
    exact hK
  case body =>
    rintro l k W hk ⟨hp, hb, hB⟩
    have hc := hb.cell
    have hf := hb.frozen
    have hpf := pk_free s.toList k
    rw [toL_len] at hpf
    have HIN := Lib.hid (fun wx => pisname wx (tx (pkB s.toList k)) (by unfold maxLen; rw [tx_size (pkB s.toList k)]; omega) (by rw [tx_toL (pkB s.toList k)]; exact hpf.1))
    rw [tx_toL (pkB s.toList k)] at HIN
    have hn1 : 1 ≤ 3 - 1 - 1 := by omega
    have HB := Lib.hid hb
    have HBL := Lib.hid hB
    have HP := Lib.hid hp
    obtain ⟨X, hX⟩ : ∃ X, X = tx (pkB s.toList k) := ⟨_, rfl⟩
    rw [← hX] at HIN ⊢
    cases hv : nmT (pkB s.toList k) with
    | true =>
      rw [hv] at HIN
      have HV := Lib.hid hv
      clear hX hpf hp hb hB hv
      gi_wp2_with (refine ⟨trivial, ?_⟩; gi_at_call 13; refine (CallsIn.inRound l (callsIn_wide.2 (HIN.out W))).mono ?_; rintro e w' ⟨rfl, rfl⟩)
      refine ⟨KeepsFrom.refl _ _, fun j hj => ?_, HB.out, HBL.out⟩
      by_cases e : j = k
      · rw [e]; exact HV.out
      · exact HP.out j (by omega)
    | false =>
      rw [hv] at HIN
      have HV := Lib.hid hv
      clear hX hpf hp hb hB hv
      gi_wp2_with (refine ⟨trivial, ?_⟩; gi_at_call 13; refine (CallsIn.inRound l (callsIn_wide.2 (HIN.out W))).mono ?_; rintro e w' ⟨rfl, rfl⟩)
      exact ⟨(KeepsOthers.setCell _ _ _).from _, ⟨k, hk, HV.out⟩, HB.out.set _, HBL.out.setCell (p := ⟨w.heap.size, 0, none⟩) (Nat.le_refl _) _⟩
  case done =>
    rintro D W hD ⟨hp, hb, hB⟩ hK
    have hc := hb.cell
    have hf := hb.frozen
    have HO := HOK.out hp
    have hD2 : w.heap.size ≤ D := by simp at hD; omega
    clear hp
    gi_wp2
    have hK' := (KeepsOthers.setCell W ⟨w.heap.size, 0, none⟩ (.int .i64 0)).same D _ hK rfl
    refine ⟨by simp, .inl ⟨_, _, rfl, run_takeDeferred hK', ?_⟩⟩
    exact ⟨_, res_check _ _ w.heap.size _ rfl (cell_kept (hb.set _).cell (grownBy_putObj' _ D (.deferred none)) (fun r e => by cases e; exact ⟨_, hK', rfl⟩)), by rw [HO], rn.fr_of_below ((hB.setCell (p := ⟨w.heap.size, 0, none⟩) (Nat.le_refl _) _).trans (belowK_b (w := w) (Nat.le_refl _) _ D _ _ hD2 hK' rfl rfl))⟩
  case stop =>
    rintro D k W hD hk ⟨⟨j, hj, hjn⟩, hb, hB⟩ hK
    have HO := HNO.out j hj hjn
    have hD2 : w.heap.size ≤ D := by simp at hD; omega
    clear hjn
    gi_wp2
    refine ⟨by simp, .inl ⟨_, _, rfl, run_takeDeferred hK, ?_⟩⟩
    exact ⟨_, res_check _ _ w.heap.size _ rfl (cell_kept hb.cell (grownBy_putObj' _ D (.deferred none)) (fun r e => by cases e; exact ⟨_, hK, rfl⟩)), by rw [HO], rn.fr_of_below (hB.trans (belowK_b (w := w) (Nat.le_refl _) _ D _ _ hD2 hK rfl rfl))⟩
end Go.Proofs.YtgimiggffpokpaaGreatDoor.pt
