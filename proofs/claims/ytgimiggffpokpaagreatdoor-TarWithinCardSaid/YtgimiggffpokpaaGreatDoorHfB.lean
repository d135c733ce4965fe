/-
  The library's IndexByte, Index and Cut at a byte 0; the program's text, join, kind, hasNought.
-/
import Derived.Test.YtgimiggffpokpaaGreatDoorHfA
import Derived.Lib.SlBytesConst
import Derived.Shelf.Bytes.SlIndexAt
import Derived.Lib.BytesEntry
import Derived.Lib.Bytealg
namespace Go.Proofs.YtgimiggffpokpaaGreatDoor.he
set_option maxRecDepth 100000
open Go.RowKit Go.Maps
set_option maxRecDepth 100000

/-! ### where a byte 0 is -/
theorem index_text : ∀ l : Bts, (Lib.indexByte l 0 = -1 ∧ textL l = l) ∨ (∃ i : Nat, Lib.indexByte l 0 = i ∧ i < l.length ∧ textL l = l.take i)
  | [] => Or.inl ⟨rfl, rfl⟩
  | b :: l => by
    by_cases hb : b = 0
    · refine Or.inr ⟨0, ?_, by simp, ?_⟩
      · unfold Lib.indexByte
        rw [if_pos (by rw [hb]; rfl)]
        rfl
      · unfold textL
        rw [hb]
        rfl
    · have hi : Lib.indexByte (b :: l) 0 = if Lib.indexByte l 0 == -1 then -1 else Lib.indexByte l 0 + 1 := by
        conv => lhs; unfold Lib.indexByte
        rw [if_neg (by simpa using hb)]
      have ht : textL (b :: l) = b :: textL l := by
        unfold textL
        rw [List.takeWhile_cons, if_pos (by simpa using hb)]
      rcases index_text l with ⟨h1, h2⟩ | ⟨i, h1, h2, h3⟩
      · exact Or.inl ⟨by rw [hi, h1]; rfl, by rw [ht, h2]⟩
      · refine Or.inr ⟨i + 1, ?_, by simpa using h2, ?_⟩
        · rw [hi, h1, if_neg (by simp)]
          omega
        · rw [ht, h3, List.take_succ_cons]
theorem bytesOf_nums (l : Bts) : Lib.bytesOf (l.map fun x => (x.toNat : Int)) = l := by
  unfold Lib.bytesOf
  rw [List.map_map]
  conv => rhs; rw [← List.map_id l]
  apply List.map_congr_left
  intro x _
  simp
set_option maxHeartbeats 1000000 in
theorem bytes_at (w : World) (A : Option Addr) (B n cap : Nat) (l : Bts) (h : Rd w B A l) (hn : n = l.length) : (Extern.BytealgIndexByte.indexByte #[.slice A n cap, .int .u8 0]).run Tryz.prog w = .ok (.int .i64 (Lib.indexByte l 0)) w := by
  subst hn
  cases A with
  | none =>
    have e : l = [] := by
      apply Decidable.byContradiction
      intro hne
      obtain ⟨_, _, e2, _⟩ := h hne
      cases e2
    subst e
    exact Lib.run_indexByteNil (P := Tryz.prog) w 0 cap 0
  | some a =>
    have h1 := Lib.run_indexByteAt (P := Tryz.prog) w a l.length cap (l.map fun x => (x.toNat : Int)) (by rw [List.length_map]) (fun i hi => by
      rw [h.src i (.int .u8 (l[i].toNat : Int)) (by rw [bs_get, List.getElem?_eq_getElem hi]; rfl), List.getD_eq_getElem?_getD, List.getElem?_map, List.getElem?_eq_getElem hi]
      rfl) 0
    rw [bytesOf_nums] at h1
    exact h1
set_option maxHeartbeats 1000000 in
theorem pindex (w : World) (A : Option Addr) (B n cap : Nat) (l : Bts) (h : Rd w B A l) (hn : n = l.length) : Calls Tryz.prog 102 #[.slice A n cap, .int .u8 0] w fun e w' => e = .returned (.int .i64 (Lib.indexByte l 0)) ∧ w = w' := by
  have H := Lib.hid (bytes_at w A B n cap l h hn)
  obtain ⟨R, hR⟩ : ∃ R, R = Lib.indexByte l 0 := ⟨_, rfl⟩
  rw [← hR] at H ⊢
  clear h hn hR
  go_enter Tryz.func102, Tryz.ntmps102
  go_wp2
  rw [run_callFunc_extern Tryz.func127 (by kernel_rfl) (by kernel_rfl) (by kernel_rfl) (e := Extern.BytealgIndexByte.indexByte) (by kernel_rfl), H.out]
  simp only [Result.andThen]
  rw [Oper.upon_value]
  go_wp2
  go_ret
  exact ⟨rfl, rfl⟩
set_option maxHeartbeats 1000000 in
theorem psindex0 (w : World) (s : ByteArray) : Calls Tryz.prog 78 #[.string s, .int .u8 0] w fun e w' => e = .returned (.int .i64 (Lib.indexByte s.data.toList 0)) ∧ w = w' := by
  have H := Lib.hid (Lib.run_indexByteString (P := Tryz.prog) s 0 w)
  go_enter Tryz.func78, Tryz.ntmps78
  go_wp2
  rw [run_callFunc_extern Tryz.func106 (by kernel_rfl) (by kernel_rfl) (by kernel_rfl) (e := Extern.BytealgIndexByte.indexByte) (by kernel_rfl), H.out]
  simp only [Result.andThen]
  rw [Oper.upon_value]
  go_wp2
  go_ret
  exact ⟨rfl, rfl⟩
set_option maxHeartbeats 1000000 in
theorem psindex (w : World) (s : ByteArray) : Calls Tryz.prog 109 #[.string s, .int .u8 0] w fun e w' => e = .returned (.int .i64 (Lib.indexByte s.data.toList 0)) ∧ w = w' := by
  have H := Lib.hid (psindex0 w s)
  obtain ⟨R, hR⟩ : ∃ R, R = Lib.indexByte s.data.toList 0 := ⟨_, rfl⟩
  rw [← hR] at H ⊢
  clear hR
  go_enter Tryz.func109, Tryz.ntmps109
  go_wp2_with (go_at_call 78; refine H.out.mono ?_; rintro e w' ⟨rfl, rfl⟩)
  go_ret
  exact ⟨rfl, rfl⟩
set_option maxHeartbeats 1000000 in
theorem pnought (w : World) (s : ByteArray) : Calls Tryz.prog 84 #[.string s] w fun e w' => e = .returned (.bool (decide ((0 : UInt8) ∈ s.data.toList))) ∧ w = w' := by
  have H := Lib.hid (psindex w s)
  have hc : decide ((0 : UInt8) ∈ s.data.toList) = decide (0 ≤ Lib.indexByte s.data.toList 0) := by
    rcases index_text s.data.toList with ⟨h1, h2⟩ | ⟨i, h1, h2, h3⟩
    · rw [h1, decide_eq_false (textL_eq.1 h2)]
      rfl
    · rw [h1, decide_eq_true (show (0 : Int) ≤ (i : Int) by omega), decide_eq_true]
      apply Decidable.byContradiction
      intro hn
      have h4 := textL_eq.2 hn
      rw [h3] at h4
      have := congrArg List.length h4
      rw [List.length_take] at this
      omega
  have hg : -1 ≤ Lib.indexByte s.data.toList 0 := Lib.indexByte_ge _ 0
  rw [hc]
  obtain ⟨R, hR⟩ : ∃ R, R = Lib.indexByte s.data.toList 0 := ⟨_, rfl⟩
  rw [← hR] at H hg ⊢
  clear hR hc
  go_enter Tryz.func84, Tryz.ntmps84
  go_wp2_with (go_at_call 109; refine H.out.mono ?_; rintro e w' ⟨rfl, rfl⟩)
  go_ret
  exact ⟨rfl, rfl⟩
set_option maxHeartbeats 2000000 in
theorem pidx (w : World) (A : Option Addr) (B n cap g : Nat) (l : Bts) (h : Rd w B A l) (hn : n = l.length) (hg : w.cell? ⟨g, 0, none⟩ = some (.int .u8 0)) : Calls Tryz.prog 77 #[.slice A n cap, .slice (some ⟨g, 0, none⟩) 1 1] w fun e w' => e = .returned (.int .i64 (Lib.indexByte l 0)) ∧ w = w' := by
  have H := Lib.hid (pindex w A B n cap l h hn)
  obtain ⟨R, hR⟩ : ∃ R, R = Lib.indexByte l 0 := ⟨_, rfl⟩
  rw [← hR] at H ⊢
  clear hR h hn
  go_enter Tryz.func77, Tryz.ntmps77
  go_wp2_with fail
  refine H.out.mono ?_
  rintro e w' ⟨rfl, rfl⟩
  go_wp2_with fail
  go_ret
  exact ⟨rfl, rfl⟩
/-- What Cut answers: what is ahead; the rest does not matter here. -/
def CutA (A : Option Addr) (k cap : Nat) (w : World) (e : Ending) (w' : World) : Prop := ∃ v2 v3, e = .returned (.tuple #[.slice A k cap, v2, v3]) ∧ Calm w w'
set_option maxHeartbeats 4000000 in
theorem pcut (w : World) (blk off B n cap g : Nat) (l : Bts) (h : Rd w B (some ⟨blk, off, none⟩) l) (hn : n = l.length) (hc : n ≤ cap) (hb : n ≤ 140737488351232) (hg : w.cell? ⟨g, 0, none⟩ = some (.int .u8 0)) : Calls Tryz.prog 55 #[.slice (some ⟨blk, off, none⟩) n cap, .slice (some ⟨g, 0, none⟩) 1 1] w (CutA (some ⟨blk, off, none⟩) (textL l).length cap w) := by
  have H := Lib.hid (pidx w (some ⟨blk, off, none⟩) B n cap g l h hn hg)
  rcases index_text l with ⟨h1, h2⟩ | ⟨i, h1, h2, h3⟩
  · rw [h1] at H
    rw [h2, ← hn]
    have HEND := Lib.hid (show CutA (some ⟨blk, off, none⟩) n cap w (.returned (.tuple #[.slice (some ⟨blk, off, none⟩) n cap, .slice none 0 0, .bool false])) w from ⟨_, _, rfl, Calm.refl _⟩)
    clear h h1 h2 hn
    go_enter Tryz.func55, Tryz.ntmps55
    go_wp2_with fail
    refine H.out.mono ?_
    rintro e w' ⟨rfl, rfl⟩
    go_wp2_with fail
    go_ret3
    exact HEND.out
  · have h4 : (textL l).length = i := by rw [h3, List.length_take]; omega
    rw [h1] at H
    rw [h4]
    have h5 : i < n := by omega
    have HEND := Lib.hid (fun v2 v3 wx (hC : Calm w wx) => (show CutA (some ⟨blk, off, none⟩) i cap w (.returned (.tuple #[.slice (some ⟨blk, off, none⟩) i cap, v2, v3])) wx from ⟨_, _, rfl, hC⟩))
    have k1 : IntKind.i64.wrap ((i : Int) + 1) = ((i + 1 : Nat) : Int) := by rw [IntWalk.i64_in _ (by omega)]; omega
    have k2 : i + 1 ≤ n := by omega
    have k3 : i ≤ cap := by omega
    clear h h1 h2 h3 h4 hn
    have k4 : (0 : Int) ≤ (i : Int) + 1 := by omega
    by_cases hci : cap = i + 1
    · subst hci
      go_enter Tryz.func55, Tryz.ntmps55
      go_wp2_with fail
      refine H.out.mono ?_
      rintro e w' ⟨rfl, rfl⟩
      go_wp2_with fail
      go_quiet (fail)
      go_wp2_with fail
      go_ret3
      exact HEND.out _ _ _ ⟨nq, rfl⟩
    · go_enter Tryz.func55, Tryz.ntmps55
      go_wp2_with fail
      refine H.out.mono ?_
      rintro e w' ⟨rfl, rfl⟩
      go_wp2_with fail
      go_quiet (fail)
      go_wp2_with fail
      go_ret3
      exact HEND.out _ _ _ ⟨nq, rfl⟩
set_option maxHeartbeats 2000000 in
theorem ptext (w : World) (blk off B n cap : Nat) (l : Bts) (h : Rd w B (some ⟨blk, off, none⟩) l) (hB : B ≤ w.heap.size) (hn : n = l.length) (hc : n ≤ cap) (hb : n ≤ 140737488351232) : Calls Tryz.prog 45 #[.slice (some ⟨blk, off, none⟩) n cap] w fun e w' => e = .returned (.string (tx (textL l))) ∧ Fr (fun _ => False) w w' := by
  obtain ⟨o, ho⟩ : ∃ o : Obj, o = .cells #[.int .u8 0] 5 := ⟨_, rfl⟩
  have hF : Fr (fun _ => False) w (w.alloc o) := (Fr.refl _ w).alloc o
  have hr1 := h.still hF hB
  have HC := Lib.hid (pcut (w.alloc o) blk off B n cap w.heap.size l hr1 hn hc hb (by rw [ho]; unfold World.cell?; rw [heap_alloc_new]; rfl))
  have HT := Lib.hid (fun wx (hC : Calm (w.alloc o) wx) => text_conv (hr1.calm hC) cap (textL l).length (text_le l))
  have hT : l.take (textL l).length = textL l := by
    rcases index_text l with ⟨_, h2⟩ | ⟨i, _, h2, h3⟩
    · rw [h2, List.take_length]
    · rw [h3, List.length_take, Nat.min_eq_left (by omega)]
  rw [hT] at HT
  have HF := Lib.hid hF
  have hkl := text_le l
  rw [← hn] at hkl
  obtain ⟨k, hk⟩ : ∃ k, k = (textL l).length := ⟨_, rfl⟩
  obtain ⟨S, hS⟩ : ∃ S, S = tx (textL l) := ⟨_, rfl⟩
  rw [← hk, ← hS] at HT
  rw [← hk] at HC hkl
  rw [← hS]
  rw [ho] at HC HT HF
  clear h hB hn hr1 hT hF ho hk hS
  go_enter Tryz.func45, Tryz.ntmps45
  go_wp2_with fail
  refine HC.out.mono ?_
  intro e w1 hP
  obtain ⟨v2, v3, rfl, hC⟩ := hP
  have hcv := HT.out w1 hC
  have HF1 := Lib.hid (HF.out.trans hC.fr (fun _ _ e => e))
  clear hC HC HT HF
  go_wp2_with fail
  go_ret
  exact ⟨rfl, HF1.out⟩
set_option maxHeartbeats 1000000 in
theorem pkind (w : World) (x : UInt8) : Calls Tryz.prog 48 #[.int .u8 (x.toNat : Int)] w fun e w' => e = .returned (.int .u8 ((kindV x).toNat : Int)) ∧ w = w' := by
  unfold kindV
  by_cases hx : x = 0
  · rw [if_pos hx, hx]
    go_enter Tryz.func48, Tryz.ntmps48
    go_wp2_with fail
    go_ret
    exact ⟨rfl, rfl⟩
  · rw [if_neg hx]
    have hb : ((x.toNat : Int) == 0) = false := u8_ne (y := 0) hx
    clear hx
    go_enter Tryz.func48, Tryz.ntmps48
    go_wp2_with fail
    go_ret
    exact ⟨rfl, rfl⟩
def joinV (p n : Bts) : Bts := if p = [] then n else p ++ 47 :: n
set_option maxHeartbeats 1000000 in
theorem pjoin (w : World) (p n : Bts) (h1 : p.length ≤ 1000) (h2 : n.length ≤ 1000) : Calls Tryz.prog 47 #[.string (tx p), .string (tx n)] w fun e w' => e = .returned (.string (tx (joinV p n))) ∧ w = w' := by
  obtain ⟨S, hS⟩ : ∃ S, S = tx (joinV p n) := ⟨_, rfl⟩
  rw [← hS]
  rcases str_dec p with ⟨e1, e2⟩ | ⟨e1, e2, e3⟩
  · rw [e1]
    have HS := Lib.hid (show S = tx n from by rw [hS]; unfold joinV; rw [if_pos e2])
    obtain ⟨b, hb⟩ : ∃ b, b = tx n := ⟨_, rfl⟩
    rw [← hb] at HS ⊢
    clear e1 e2 hS hb
    go_enter Tryz.func47, Tryz.ntmps47
    go_wp2_with fail
    go_ret
    exact ⟨by rw [HS.out]; rfl, rfl⟩
  · have HS := Lib.hid (show S = tx p ++ (⟨#[47]⟩ : ByteArray) ++ tx n from by
      rw [hS]
      unfold joinV
      rw [if_neg e3, tx_app, tx_app, tx_toL, tx_toL, tx_toL, tx_toL, List.append_assoc]
      rfl)
    have s1 : (tx p).size ≤ 1000 := by show p.toArray.size ≤ 1000; rw [List.size_toArray]; exact h1
    have s2 : (tx n).size ≤ 1000 := by show n.toArray.size ≤ 1000; rw [List.size_toArray]; exact h2
    obtain ⟨b, hb⟩ : ∃ b, b = tx n := ⟨_, rfl⟩
    obtain ⟨a, ha⟩ : ∃ b, b = tx p := ⟨_, rfl⟩
    rw [← hb] at HS s2 ⊢
    rw [← ha] at HS s1 e1 e2 ⊢
    have s3 : a.size + 1 ≤ 9223372036854775807 := by omega
    have s4 : a.size + 1 + b.size ≤ 9223372036854775807 := by omega
    clear e3 hS hb ha h1 h2
    go_enter Tryz.func47, Tryz.ntmps47
    go_wp2_with fail
    go_ret
    exact ⟨by rw [HS.out]; rfl, rfl⟩
end Go.Proofs.YtgimiggffpokpaaGreatDoor.he
