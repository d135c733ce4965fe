/-
  The program's number and sizeOf.
-/
import Derived.Test.YtgimiggffpokpaaGreatDoorTeM
import Derived.Test.YtgimiggffpokpaaGreatDoorTaA
import Derived.Test.YtgimiggffpokpaaGreatDoorShelf
import Derived.Lib.AtoiErrMem
import Derived.Lib.SlBytesConst
namespace Go.Proofs.YtgimiggffpokpaaGreatDoor.ta
set_option maxRecDepth 100000
open Go.RowKit Go.Maps
open Go.Proofs.YtgimiggffpokpaaGreatDoor.pt (Tx tx tx_toL tx_size toL toL_len)
open Go.Proofs.YtgimiggffpokpaaGreatDoor.he (Bts)
open Go.Proofs.YtgimiggffpokpaaGreatDoor.vr (wholeV wholeB numL digB)
set_option maxRecDepth 100000

theorem at_tx {s : ByteArray} {l : Tx} (hs : s = tx l) (k : Nat) (hk : k < l.length) (w : World) : (Instr.index 9 (.string s) (.int .i64 (k : Int))).run Tryz.prog w = .ok (.int .u8 ((l.getD k 0).toNat : Int)) w := by
  have hsz : s.size = l.length := by rw [hs, tx_size]
  rw [run_index_string (P := Tryz.prog) w 9 s .i64 k Tryz.underlying9, dif_pos ⟨by omega, by omega⟩]
  subst hs
  rw [List.getD_eq_getElem?_getD, List.getElem?_eq_getElem hk]
  rfl
/-- What number answers. -/
def numR (o : Option Nat) : Value := match o with
  | some n => .tuple #[.int .i64 (n : Int), .bool true]
  | none => .tuple #[.int .i64 0, .bool false]
theorem ptrim (w : World) (s : ByteArray) (hs : s.size ≤ 9223372036854775807) : Calls Tryz.prog 93 #[.string s, .string ⟨#[48, 49, 50, 51, 52, 53, 54, 55, 56, 57]⟩] w fun e w' => ∃ X : ByteArray, e = .returned (.string X) ∧ (X.toList = [] ↔ s.toList.all digB = true) ∧ Fr (fun _ => False) w w' :=
  (Any.strings_Trim_laid Tryz.trim (by kernel_rfl) s ⟨#[48, 49, 50, 51, 52, 53, 54, 55, 56, 57]⟩ w hs (by decide) (ascii_of_all (by decide))).mono fun e w' ⟨h1, h2⟩ => ⟨_, h1, by rw [toL, toL]; exact trim_digits _, Fr.ofBelow h2 (fun _ h _ => h)⟩
theorem patoi (w : World) (s : ByteArray) (hne : s.toList ≠ []) (hd : s.toList.all digB = true) (hl : s.size ≤ 18) : Calls Tryz.prog 94 #[.string s] w fun e w' => e = .returned (.tuple #[.int .i64 (numL s.toList : Nat), .nilIface]) ∧ Fr (fun _ => False) w w' :=
  (Any.strconv_Atoi Tryz.atoi s (numL s.toList : Nat) hl (by rw [← toL]; exact atoi_num hne hd) w).mono fun e w' ⟨h1, ⟨t, h2⟩⟩ => ⟨h1, by subst h2; exact Fr.ofBelow (Lib.bytesWorld_below w _ t) (fun _ h _ => h)⟩
set_option maxHeartbeats 8000000 in
theorem pnumber (w : World) (s : ByteArray) (d : Nat) (hd : d ≤ 18) (hs : s.size ≤ maxLen) : Calls Tryz.prog 70 #[.string s, .int .i64 (d : Int)] w fun e w' => e = .returned (numR (wholeV s.toList d)) ∧ Fr (fun _ => False) w w' := by
  have hs9 : s.size ≤ 9223372036854775807 := hs
  have HT := Lib.hid (ptrim w s hs9)
  have HF0 := Lib.hid (Fr.refl (fun _ => False) w)
  obtain ⟨n, hn⟩ : ∃ n, n = s.toList.length := ⟨_, rfl⟩
  have hsz : s.size = n := by rw [hn, toL_len]
  have HST := Lib.hid (show s = tx s.toList by rw [pt.tx_of])
  have HNN := Lib.hid hn
  cases hw : wholeV s.toList d with
  | none =>
    have HR := Lib.hid (show numR none = .tuple #[.int .i64 0, .bool false] from rfl)
    obtain ⟨V, hV⟩ : ∃ V, V = numR none := ⟨_, rfl⟩
    rw [← hV] at HR ⊢
    have hcs := whole_none hw
    clear hw hV
    by_cases h0 : s.toList = []
    · obtain rfl : s = ⟨#[]⟩ := by rw [HST.out, h0]
      clear h0 hcs hn hsz HNN
      go_enter Tryz.func70, Tryz.ntmps70
      go_wp2_with fail
      go_ret2
      exact ⟨by rw [HR.out]; rfl, HF0.out⟩
    have p1 : (s.toList == []) = false := beq_eq_false_iff_ne.2 h0
    have p2 : (s.toList == (⟨#[]⟩ : ByteArray).toList) = false := by rw [show (⟨#[]⟩ : ByteArray).toList = [] from tx_toL []]; exact p1
    have p3 : s.toList.isEmpty = false := List.isEmpty_eq_false_iff.2 h0
    have hn0 : 0 < n := by rw [hn]; exact List.length_pos_iff.2 h0
    by_cases h1 : d < n
    · have k1 : (d : Int) < (n : Int) := by omega
      clear hcs hn h1
      go_enter Tryz.func70, Tryz.ntmps70
      go_wp2_with fail
      go_ret2
      exact ⟨by rw [HR.out]; rfl, HF0.out⟩
    have k1 : ¬ ((d : Int) < (n : Int)) := by omega
    have hix0 := at_tx HST.out 0 (by rw [← hn]; exact hn0)
    rw [show ((0 : Nat) : Int) = 0 from rfl] at hix0
    obtain ⟨x, hx⟩ : ∃ x : Nat, x = (s.toList.getD 0 0).toNat := ⟨_, rfl⟩
    rw [← hx] at hix0
    have hhd : s.toList.head? = some (s.toList.getD 0 0) := by
      cases hsl : s.toList with
      | nil => exact absurd hsl h0
      | cons y r => rfl
    have h48 : s.toList.head? = some 48 ↔ x = 48 := by
      rw [hhd, hx]
      exact ⟨fun e => by rw [Option.some.inj e]; rfl, fun e => by rw [show s.toList.getD 0 0 = 48 from UInt8.toNat_inj.1 e]⟩
    rw [h48, ← hn] at hcs
    clear hhd h48 hx
    by_cases h2 : x = 48 ∧ 1 < n
    · obtain ⟨rfl, h2⟩ := h2
      have k2 : (1 : Int) < (n : Int) := by omega
      clear hcs hn h2 h1
      go_enter Tryz.func70, Tryz.ntmps70
      go_wp2_with fail
      go_ret2
      exact ⟨by rw [HR.out]; rfl, HF0.out⟩
    have h3 : ¬ s.toList.all digB = true := by
      rcases hcs with e | e | e | e
      · exact absurd e h0
      · exact absurd e h1
      · exact absurd e h2
      · exact e
    have HN3 := Lib.hid h3
    clear hcs hn h3
    have k2 : (((x : Int) == 48) = false) ∨ (((x : Int) == 48) = true ∧ ¬ (1 : Int) < (n : Int)) := by
      by_cases e : x = 48
      · exact Or.inr ⟨beq_iff_eq.2 (by omega), by omega⟩
      · exact Or.inl (beq_eq_false_iff_ne.2 (by omega))
    clear h0 h1 h2
    rcases k2 with k2 | ⟨k2, k3⟩
    all_goals
      go_enter Tryz.func70, Tryz.ntmps70
      go_wp2_with fail
      refine HT.out.mono ?_
      rintro e w1 ⟨X, rfl, hX, hF1⟩
      have HF1 := Lib.hid hF1
      have hX0 : X.toList ≠ [] := fun e => HN3.out (hX.1 e)
      have q1 : (X.toList == []) = false := beq_eq_false_iff_ne.2 hX0
      have q2 : (X.toList == (⟨#[]⟩ : ByteArray).toList) = false := by rw [show (⟨#[]⟩ : ByteArray).toList = [] from tx_toL []]; exact q1
      have q3 : X.toList.isEmpty = false := List.isEmpty_eq_false_iff.2 hX0
      clear hX hX0 hF1
      go_wp2_with fail
      go_ret2
      exact ⟨by rw [HR.out]; rfl, HF1.out⟩
  | some m =>
    obtain ⟨h0, h1, h2, h3, h4, h5⟩ := whole_some hw
    have HA := Lib.hid (fun wx => patoi wx s h0 h3 (by rw [hsz, hn]; omega))
    rw [← h4] at HA
    have HR := Lib.hid (show numR (some m) = .tuple #[.int .i64 (m : Int), .bool true] from rfl)
    obtain ⟨V, hV⟩ : ∃ V, V = numR (some m) := ⟨_, rfl⟩
    rw [← hV] at HR ⊢
    have p1 : (s.toList == []) = false := beq_eq_false_iff_ne.2 h0
    have p2 : (s.toList == (⟨#[]⟩ : ByteArray).toList) = false := by rw [show (⟨#[]⟩ : ByteArray).toList = [] from tx_toL []]; exact p1
    have p3 : s.toList.isEmpty = false := List.isEmpty_eq_false_iff.2 h0
    have hn0 : 0 < n := by rw [hn]; exact List.length_pos_iff.2 h0
    have k1 : ¬ ((d : Int) < (n : Int)) := by omega
    have hix0 := at_tx HST.out 0 (by rw [← hn]; exact hn0)
    rw [show ((0 : Nat) : Int) = 0 from rfl] at hix0
    obtain ⟨x, hx⟩ : ∃ x : Nat, x = (s.toList.getD 0 0).toNat := ⟨_, rfl⟩
    rw [← hx] at hix0
    have hhd : s.toList.head? = some (s.toList.getD 0 0) := by
      cases hsl : s.toList with
      | nil => exact absurd hsl h0
      | cons y r => rfl
    have h48 : s.toList.head? ≠ some 48 → x ≠ 48 := by
      rw [hhd, hx]
      exact fun h e => h (by rw [show s.toList.getD 0 0 = 48 from UInt8.toNat_inj.1 e])
    have k2 : (((x : Int) == 48) = false) ∨ (((x : Int) == 48) = true ∧ ¬ (1 : Int) < (n : Int)) := by
      by_cases e : x = 48
      · refine Or.inr ⟨beq_iff_eq.2 (by omega), ?_⟩
        rcases h2 with h2 | h2
        · omega
        · exact absurd e (h48 h2)
      · exact Or.inl (beq_eq_false_iff_ne.2 (by omega))
    have HH3 := Lib.hid h3
    clear hw h0 h1 h2 h3 h4 h5 hV hx hhd h48 hn
    rcases k2 with k2 | ⟨k2, k3⟩
    all_goals
      go_enter Tryz.func70, Tryz.ntmps70
      go_wp2_with fail
      refine HT.out.mono ?_
      rintro e w1 ⟨X, rfl, hX, hF1⟩
      have HF1 := Lib.hid hF1
      obtain rfl : X = ⟨#[]⟩ := by rw [← pt.tx_of X, hX.2 HH3.out]
      clear hX hF1
      go_wp2_with fail
      refine (HA.out w1).mono ?_
      rintro e w2 ⟨rfl, hF2⟩
      have HF2 := Lib.hid (HF1.out.trans hF2 (fun _ _ e => e))
      clear hF2
      go_wp2_with fail
      go_quiet (fail)
      go_wp2_with fail
      go_ret2
      exact ⟨by rw [HR.out]; rfl, HF2.out.drewN _⟩
/-- What sizeOf answers. -/
def sizR (v : Tx) : Value := .tuple #[.int .i64 (((wholeV v 9).getD 0 : Nat) : Int), .bool (sizeB v)]
set_option maxHeartbeats 4000000 in
theorem psizeOf (w : World) (s : ByteArray) (hs : s.size ≤ maxLen) : Calls Tryz.prog 49 #[.string s] w fun e w' => e = .returned (sizR s.toList) ∧ Fr (fun _ => False) w w' := by
  have HN := Lib.hid (pnumber w s 9 (by omega) hs)
  rw [show ((9 : Nat) : Int) = 9 from rfl] at HN
  cases hw : wholeV s.toList 9 with
  | none =>
    have HR := Lib.hid (show sizR s.toList = .tuple #[.int .i64 0, .bool false] from by unfold sizR sizeB; rw [hw]; rfl)
    rw [hw] at HN
    obtain ⟨V, hV⟩ : ∃ V, V = sizR s.toList := ⟨_, rfl⟩
    rw [← hV] at HR ⊢
    have HN := Lib.hid (show Calls Tryz.prog 70 #[.string s, .int .i64 9] w fun e w' => e = .returned (.tuple #[.int .i64 0, .bool false]) ∧ Fr (fun _ => False) w w' from HN.out)
    clear hw hV
    go_enter Tryz.func49, Tryz.ntmps49
    go_wp2_with fail
    refine HN.out.mono ?_
    rintro e w1 ⟨rfl, hF1⟩
    have HF1 := Lib.hid hF1
    clear hF1
    go_wp2_with fail
    go_ret2
    exact ⟨by rw [HR.out]; rfl, HF1.out⟩
  | some m =>
    have HR := Lib.hid (show sizR s.toList = .tuple #[.int .i64 (m : Int), .bool (decide (m ≤ 262144))] from by unfold sizR sizeB; rw [hw]; rfl)
    rw [hw] at HN
    obtain ⟨V, hV⟩ : ∃ V, V = sizR s.toList := ⟨_, rfl⟩
    rw [← hV] at HR ⊢
    have HN := Lib.hid (show Calls Tryz.prog 70 #[.string s, .int .i64 9] w fun e w' => e = .returned (.tuple #[.int .i64 (m : Int), .bool true]) ∧ Fr (fun _ => False) w w' from HN.out)
    clear hw hV
    rw [show decide (m ≤ 262144) = decide ((m : Int) ≤ 262144) from by rw [decide_eq_decide]; omega] at HR
    go_enter Tryz.func49, Tryz.ntmps49
    go_wp2_with fail
    refine HN.out.mono ?_
    rintro e w1 ⟨rfl, hF1⟩
    have HF1 := Lib.hid hF1
    clear hF1
    go_wp2_with fail
    go_ret2
    exact ⟨by rw [HR.out]; rfl, HF1.out⟩
end Go.Proofs.YtgimiggffpokpaaGreatDoor.ta
