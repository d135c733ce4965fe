/-
  The document's Number and Pack.
-/
import Derived.Test.YtddkgihobcjmmaaFlA
import Derived.Deep.AppendLies
namespace Go.Proofs.Ytddkgihobcjmmaa.fl
set_option maxRecDepth 100000
open Go.RowKit Go.Maps
set_option maxRecDepth 100000

theorem num_drop {l : List Int} {k : Nat} {x : Int} (h : l[k]? = some x) : numI (l.drop k) = x + 2 * numI (l.drop (k + 1)) := by
  obtain ⟨h1, h2⟩ := List.getElem?_eq_some_iff.1 h
  rw [List.drop_eq_getElem_cons h1, h2, numI]
theorem num_drop_in {l : List Int} (h : AllBit l) (hl : l.length ≤ 24) (k : Nat) : 0 ≤ numI (l.drop k) ∧ numI (l.drop k) < 16777216 := by
  have h1 := numI_in (l.drop k) (h.sub (List.drop_sublist _ _))
  have hp : (2 : Int) ^ (l.drop k).length ≤ 2 ^ 24 := by exact_mod_cast Nat.pow_le_pow_right (n := 2) (by omega) (by rw [List.length_drop]; omega)
  omega

set_option maxHeartbeats 2000000 in
theorem rnumber (w : World) (A : Option Addr) (cap B : Nat) (l : List Int) (hr : RdI w B A l) (hl : l.length ≤ 24) (hb : AllBit l) :
    Calls Try.prog 38 #[.slice A l.length cap] w fun e w' => e = .returned (.int .i64 (numI l)) ∧ w = w' := by
  obtain ⟨n, hn⟩ : ∃ n, n = l.length := ⟨_, rfl⟩
  have HR := Lib.hid (⟨hr, hn, hb, hl⟩ : _ ∧ _ ∧ _ ∧ _)
  rw [← hn] at hl ⊢
  clear hr hn hb
  go_enter Try.func38, Try.ntmps38
  go_wp2_with fail
  go_loop [3, 4] (fun v3 v4 => ∃ N t : Int, -1 ≤ t ∧ t < n ∧ v3 = .int .i64 N ∧ v4 = .int .i64 t ∧ Hid (N = numI (l.drop (t + 1).toNat))) (fun _ v => (intOf v + 1).toNat)
  case atStart => exact ⟨0, (n : Int) - 1, by omega, by omega, rfl, by go_num, (show _ = _ by
    have hn := HR.out.2.1
    rw [show ((n : Int) - 1 + 1).toNat = l.length by omega, List.drop_length]
    rfl)⟩
  case round =>
    obtain ⟨N, t, h1, h2, rfl, rfl, HN⟩ := hrel
    by_cases hlt : 0 ≤ t
    · obtain ⟨k, rfl⟩ : ∃ k : Nat, t = k := ⟨t.toNat, by omega⟩
      have hkl : k < l.length := by have := HR.out.2.1; omega
      obtain ⟨blk, off, rfl, -, hc, -, -⟩ := HR.out.1.at_ hkl
      have hd := num_drop (List.getElem?_eq_getElem hkl)
      have hbit := HR.out.2.2.1 l[k] (List.getElem_mem hkl)
      have hin := num_drop_in HR.out.2.2.1 HR.out.2.2.2 (k + 1)
      have hN := HN.out
      rw [show ((k : Int) + 1).toNat = k + 1 by omega] at hN
      rw [← hN] at hd hin
      obtain ⟨x, hx⟩ : ∃ x, x = l[k] := ⟨_, rfl⟩
      rw [← hx] at hc hd hbit
      have HD := Lib.hid hd
      obtain ⟨b1, b2⟩ := hin
      have hx0 : 0 ≤ x := by omega
      have hx1 : x ≤ 1 := by omega
      clear hd hbit hx hkl hN
      go_wp2_with fail
      go_round
      case rel => exact ⟨N * 2 + x, (k : Int) - 1, by omega, by omega, by go_num, by go_num, (show _ = _ by
        rw [show ((k : Int) - 1 + 1).toNat = k by omega, HD.out]
        omega)⟩
      case measure => simp [intOf]
    · have HE := Lib.hid (show N = numI l by rw [HN.out, show (t + 1).toNat = 0 by omega]; rfl)
      go_wp2_with fail
      go_ret
      exact ⟨by rw [HE.out]; rfl, rfl⟩

theorem num_take_succ {l : List Int} {i j : Nat} {x : Int} (h : l[i + j]? = some x) : numI ((l.drop i).take (j + 1)) = numI ((l.drop i).take j) + x * 2 ^ j := by
  have hd : (l.drop i)[j]? = some x := by rw [List.getElem?_drop]; exact h
  have hl : ((l.drop i).take j).length = j := by
    have := (List.getElem?_eq_some_iff.1 hd).1
    rw [List.length_take]
    omega
  rw [List.take_add_one, hd, numI_append, hl]
  simp [numI, Int.mul_comm]
theorem snocB {w0 w w' : World} {p : Option Addr} {m c : Nat} {L : List UInt8} {x : UInt8} {v : Value} (hm : m = L.length) (ho : w.ownsRow w0.heap.size 5 1 (.slice p m c) m (bs L)) (hF : Fr (fun _ => False) w0 w)
    (hown : w'.ownsRow w0.heap.size 5 1 v (m + 1) (bs L ++ [.int .u8 (x.toNat : Int)])) (hg : w.grownBy w' (Value.slice p m c).ownBlock) : ∃ p' c', v = .slice p' (m + 1) c' ∧ m + 1 = (L ++ [x]).length ∧ w'.ownsRow w0.heap.size 5 1 (.slice p' (m + 1) c') (m + 1) (bs (L ++ [x])) ∧ Fr (fun _ => False) w0 w' := by
  have hl : m + 1 = (L ++ [x]).length := by rw [List.length_append, ← hm]; rfl
  have hq : ∀ q, (Value.slice p m c).ownBlock = some q → False ∨ w0.heap.size ≤ q := fun q e => by
    rcases ho.2 with ⟨h, _⟩ | ⟨g, cap, cur, h, hb, _⟩
    · rw [h] at e; cases e
    · rw [h] at e; cases e
      exact Or.inr hb
  rw [show bs L ++ [.int .u8 (x.toNat : Int)] = bs (L ++ [x]) by rw [bs_append]; rfl] at hown
  rcases hown.2 with ⟨_, h0⟩ | ⟨g, cap, cur, rfl, _⟩
  · omega
  · exact ⟨_, cap, rfl, hl, hown, hF.grown hg hq⟩

set_option maxHeartbeats 4000000 in
theorem rpack (w : World) (A : Option Addr) (cap : Nat) (l : List Int) (hr : RdI w w.heap.size A l) (hl : l.length ≤ 100000000) (hb : AllBit l) :
    Calls Try.prog 34 #[.slice A l.length cap] w fun e w' => ∃ A' cap', e = .returned (.slice A' (packI l).length cap') ∧ Own w' w.heap.size (.slice A' (packI l).length cap') (packI l) ∧ Fr (fun _ => False) w w' := by
  obtain ⟨n, hn⟩ : ∃ n, n = l.length := ⟨_, rfl⟩
  have HR := Lib.hid (⟨hr, hn, hb⟩ : _ ∧ _ ∧ _)
  rw [← hn] at hl ⊢
  obtain ⟨i0, hi, hz0, hz1, hz2⟩ := info_parts infoB
  have HI := Lib.hid (⟨hi, hz0, hz1, hz2⟩ : _ ∧ _ ∧ _ ∧ _)
  have H0 : Hid ((w.alloc (.cells #[] 5)).ownsRow w.heap.size 5 1 (.slice (some ⟨w.heap.size, 0, none⟩) 0 0) 0 (bs []) ∧ Fr (fun _ => False) w (w.alloc (.cells #[] 5))) := Lib.hid ⟨World.ownsRow_made w #[] 0 (Nat.le_refl _) (Nat.zero_le _) (by simp), (Fr.refl _ w).alloc _⟩
  clear hr hn hb hi hz0 hz1 hz2
  go_enter Try.func34, Try.ntmps34
  go_wp2_with fail
  go_loopw [3, 4] (fun v3 v4 wr => ∃ (i k : Nat) (p : Option Addr) (c : Nat), i = 8 * k ∧ i < n + 8 ∧ v4 = .int .i64 i ∧ v3 = .slice p k c ∧ Hid (wr.ownsRow w.heap.size 5 1 (.slice p k c) k (bs (packTo l k)) ∧ Fr (fun _ => False) w wr)) (fun _ v _ => n + 8 - (intOf v).toNat)
  case atStart => exact ⟨0, 0, _, _, rfl, by omega, rfl, rfl, (show _ ∧ _ from H0.out)⟩
  case round =>
    obtain ⟨i, k, p, c, hik, hin, rfl, rfl, HK⟩ := hrel
    have HIK := Lib.hid hik
    have hk2 : k ≤ 100000000 := by omega
    clear H0 hik
    by_cases hlt : i < n
    · go_wp2_with fail
      go_loop [5, 6, 7] (fun v5 v6 v7 => ∃ (j : Nat) (N W : Int), j ≤ 8 ∧ i + j ≤ n ∧ 0 ≤ N ∧ N < 256 ∧ 1 ≤ W ∧ W ≤ 256 ∧ v7 = .int .i64 ((i + j : Nat) : Int) ∧ v5 = .int .i64 N ∧ v6 = .int .i64 W ∧ Hid (N = numI ((l.drop i).take j) ∧ W = 2 ^ j)) (fun _ _ v => i + 8 - (intOf v).toNat)
      case atStart => exact ⟨0, 0, 1, by omega, by omega, by omega, by omega, by omega, by omega, rfl, rfl, rfl, (show _ ∧ _ from ⟨rfl, rfl⟩)⟩
      case round =>
        obtain ⟨j, N, W, hj, hjn, hN0, hN1, hW0, hW1, rfl, rfl, rfl, HJ⟩ := hrel
        by_cases hlt2 : j < 8 ∧ i + j < n
        · obtain ⟨hj8, hjn2⟩ := hlt2
          have hkl : i + j < l.length := by have := HR.out.2.1; omega
          obtain ⟨blk, off, rfl, -, hc, -, -⟩ := (HR.out.1.still HK.out.2 (Nat.le_refl _)).at_ hkl
          have hs := num_take_succ (List.getElem?_eq_getElem hkl)
          have hbit := HR.out.2.2 l[i + j] (List.getElem_mem hkl)
          have hbt := byte_in (l := (l.drop i).take (j + 1)) (HR.out.2.2.sub ((List.take_sublist _ _).trans (List.drop_sublist _ _))) (by rw [List.length_take]; omega)
          obtain ⟨x, hx⟩ : ∃ x, x = l[i + j] := ⟨_, rfl⟩
          rw [← hx] at hc hs hbit
          rw [← HJ.out.1, ← HJ.out.2] at hs
          have HS := Lib.hid hs
          have hxw : 0 ≤ x * W ∧ x * W ≤ 256 := by rcases hbit with e | e <;> subst e <;> omega
          have hpw : W * 2 = 2 ^ (j + 1) := by rw [HJ.out.2, Int.pow_succ]
          have hp8 : (2 : Int) ^ (j + 1) ≤ 2 ^ 8 := by exact_mod_cast Nat.pow_le_pow_right (n := 2) (by omega) (by omega)
          rw [hs] at hbt
          obtain ⟨g1, g2⟩ := hbt
          obtain ⟨g3, g4⟩ := hxw
          obtain ⟨y, hy⟩ : ∃ y, y = x * W := ⟨_, rfl⟩
          rw [← hy] at g1 g2 g3 g4 HS
          have hyw : IntKind.i64.wrap (x * W) = y := by rw [← hy]; exact IntWalk.i64_in _ (by omega)
          have HPW := Lib.hid (⟨hpw, hp8, HS.out⟩ : _ ∧ _ ∧ _)
          have hw2 : W * 2 ≤ 256 := by have := HPW.out.1; have := HPW.out.2.1; omega
          have hii : ((i + j : Nat) : Int) < (i : Int) + 8 := by omega
          have hii2 : ((i + j : Nat) : Int) < n := by omega
          clear hs hbit hx hkl hpw hp8 hy HS
          go_wp2_with fail
          go_round
          case rel => exact ⟨j + 1, N + y, W * 2, by omega, by omega, by omega, by omega, by omega, by omega, by go_num, by go_num, by go_num, (show _ ∧ _ from ⟨HPW.out.2.2.symm, HPW.out.1⟩)⟩
          case measure => simp [intOf]; omega
        · have HE : Hid (N = numI ((l.drop (8 * k)).take 8)) := Lib.hid (by
            have h := HJ.out.1
            rw [← HIK.out, h]
            rcases Nat.lt_or_ge j 8 with h8 | h8
            · rw [List.take_of_length_le (i := 8) (by rw [List.length_drop]; have := HR.out.2.1; omega), List.take_of_length_le (by rw [List.length_drop]; have := HR.out.2.1; omega)]
            · rw [show j = 8 by omega])
          have hnot : ¬ (((i + j : Nat) : Int) < (i : Int) + 8 ∧ ((i + j : Nat) : Int) < n) := by omega
          have hwu : IntKind.u8.wrap N = ((UInt8.ofNat N.toNat).toNat : Int) := by
            rw [UInt8.toNat_ofNat', IntKind.wrap_u8]
            omega
          obtain ⟨y, hy⟩ : ∃ y, y = UInt8.ofNat N.toNat := ⟨_, rfl⟩
          have HY := Lib.hid (show y = UInt8.ofNat (numI ((l.drop (8 * k)).take 8)).toNat by rw [hy, HE.out])
          rw [← hy] at hwu
          have HFX := Lib.hid (HK.out.2.alloc (.cells #[.int .u8 (y.toNat : Int)] 5))
          have HKP := Lib.hid (show k = (packTo l k).length from (packTo_length _ _).symm)
          have hcase : (((i + j : Nat) : Int) < (i : Int) + 8 ∧ ¬ ((i + j : Nat) : Int) < n) ∨ ¬ ((i + j : Nat) : Int) < (i : Int) + 8 := by omega
          clear hnot hy hlt2
          rcases hcase with ⟨g1, g2⟩ | g1
          all_goals
            go_wp2_with (at_builtin; refine wpList_append_own _ rfl (.tmp 38) (.tmp 41) 22 rfl w.heap.size 5 i0 (.int .u8 0) 1 1 Try.underlying22 HI.out.1 HI.out.2.1 HI.out.2.2.1 HI.out.2.2.2 rfl (by omega) _ k (bs (packTo l k)) rfl (World.ownsRow.alloc HK.out.1 _) ⟨wr.heap.size, 0, none⟩ 1 1 [.int .u8 (y.toNat : Int)] rfl rfl (World.news_of_block (heap_alloc_new wr _)) (by intro u hu; simp at hu; subst hu; rfl) (by unfold maxLen; omega) (by omega) HFX.out.size ?_; intro v9 w9 hown9 hg9 _)
            obtain ⟨p', c', e', hl', ho', hF'⟩ := snocB HKP.out (World.ownsRow.alloc HK.out.1 _) HFX.out hown9 hg9
            subst e'
            have H9 := Lib.hid (⟨by rw [HY.out, ← packTo_succ] at ho'; exact ho', hF'⟩ : w9.ownsRow w.heap.size 5 1 (.slice p' (k + 1) c') (k + 1) (bs (packTo l (k + 1))) ∧ Fr (fun _ => False) w w9)
            have hik := HIK.out
            clear hown9 hg9 hl' ho' hF'
            go_wp2_with fail
            go_roundw
            case rel => exact ⟨i + 8, k + 1, p', c', by omega, by omega, by go_num, rfl, (show _ ∧ _ from H9.out)⟩
            case measure => simp [intOf]; omega
    · have hik := HIK.out
      have HE := Lib.hid (show packI l = packTo l k by unfold packI; rw [show (l.length + 7) / 8 = k by have := HR.out.2.1; omega])
      go_wp2_with fail
      go_ret
      have h := HK.out.1
      rw [HE.out, packTo_length]
      exact ⟨p, c, rfl, (show World.ownsRow _ _ _ _ _ _ _ by rw [packTo_length]; exact h), HK.out.2⟩
end Go.Proofs.Ytddkgihobcjmmaa.fl
