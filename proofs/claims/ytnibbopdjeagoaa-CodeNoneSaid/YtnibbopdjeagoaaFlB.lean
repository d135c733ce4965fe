/-
  The document's Number and Pack.
-/
import Derived.Test.YtnibbopdjeagoaaFlA
import Derived.Deep.AppendLies
namespace Go.Proofs.Ytnibbopdjeagoaa.fl
set_option maxRecDepth 100000
open Go.RowKit Go.Maps
set_option maxRecDepth 100000

theorem num_drop {l : List Int} {k : Nat} {x : Int} (h : l[k]? = some x) : numI (l.drop k) = x + 2 * numI (l.drop (k + 1)) := by
  obtain ⟨h1, h2⟩ := List.getElem?_eq_some_iff.1 h
  rw [List.drop_eq_getElem_cons h1, h2, numI]
theorem num_drop_in {l : List Int} (h : AllBit l) (hl : l.length ≤ 24) (k : Nat) : 0 ≤ numI (l.drop k) ∧ numI (l.drop k) < 16777216 := by
  have h1 := numI_in (l.drop k) (h.sub (List.drop_sublist _ _))
  have hp : (2 : Int) ^ (l.drop k).length ≤ 2 ^ 24 := by exact_mod_cast Nat.pow_le_pow_right (n := 2) (by omega) (by rw [List.length_drop]; omega)
  omega

set_option maxHeartbeats 2000000 in
theorem rnumber (w : World) (A : Option Addr) (cap B : Nat) (l : List Int) (hr : RdI w B A l) (hl : l.length ≤ 24) (hb : AllBit l) :
    Calls Try.prog 62 #[.slice A l.length cap] w fun e w' => e = .returned (.int .i64 (numI l)) ∧ w = w' := by
  obtain ⟨n, hn⟩ : ∃ n, n = l.length := ⟨_, rfl⟩
  have HR := Lib.hid (⟨hr, hn, hb, hl⟩ : _ ∧ _ ∧ _ ∧ _)
  rw [← hn] at hl ⊢
  clear hr hn hb
  go_enter Try.func62, Try.ntmps62
  go_wp2_with fail
  go_loop [3, 4] (fun v3 v4 => ∃ N t : Int, -1 ≤ t ∧ t < n ∧ v3 = .int .i64 N ∧ v4 = .int .i64 t ∧ Hid (N = numI (l.drop (t + 1).toNat))) (fun _ v => (intOf v + 1).toNat)
  case atStart => exact ⟨0, (n : Int) - 1, by omega, by omega, rfl, by go_num, (show _ = _ by
    have hn := HR.out.2.1
    rw [show ((n : Int) - 1 + 1).toNat = l.length by omega, List.drop_length]
    rfl)⟩
  case round =>
    obtain ⟨N, t, h1, h2, rfl, rfl, HN⟩ := hrel
    by_cases hlt : 0 ≤ t
    · obtain ⟨k, rfl⟩ : ∃ k : Nat, t = k := ⟨t.toNat, by omega⟩
      have hkl : k < l.length := by have := HR.out.2.1; omega
      obtain ⟨blk, off, rfl, -, hc, -, -⟩ := HR.out.1.at_ hkl
      have hd := num_drop (List.getElem?_eq_getElem hkl)
      have hbit := HR.out.2.2.1 l[k] (List.getElem_mem hkl)
      have hin := num_drop_in HR.out.2.2.1 HR.out.2.2.2 (k + 1)
      have hN := HN.out
      rw [show ((k : Int) + 1).toNat = k + 1 by omega] at hN
      rw [← hN] at hd hin
      obtain ⟨x, hx⟩ : ∃ x, x = l[k] := ⟨_, rfl⟩
      rw [← hx] at hc hd hbit
      have HD := Lib.hid hd
      obtain ⟨b1, b2⟩ := hin
      have hx0 : 0 ≤ x := by omega
      have hx1 : x ≤ 1 := by omega
      clear hd hbit hx hkl hN
      go_wp2_with fail
      go_round
      case rel => exact ⟨N * 2 + x, (k : Int) - 1, by omega, by omega, by go_num, by go_num, (show _ = _ by
        rw [show ((k : Int) - 1 + 1).toNat = k by omega, HD.out]
        omega)⟩
      case measure => simp [intOf]
    · have HE := Lib.hid (show N = numI l by rw [HN.out, show (t + 1).toNat = 0 by omega]; rfl)
      go_wp2_with fail
      go_ret
      exact ⟨by rw [HE.out]; rfl, rfl⟩

theorem num_take_succ {l : List Int} {i j : Nat} {x : Int} (h : l[i + j]? = some x) : numI ((l.drop i).take (j + 1)) = numI ((l.drop i).take j) + x * 2 ^ j := by
  have hd : (l.drop i)[j]? = some x := by rw [List.getElem?_drop]; exact h
  have hl : ((l.drop i).take j).length = j := by
    have := (List.getElem?_eq_some_iff.1 hd).1
    rw [List.length_take]
    omega
  rw [List.take_add_one, hd, numI_append, hl]
  simp [numI, Int.mul_comm]
theorem snocB {w0 w w' : World} {p : Option Addr} {m c : Nat} {L : List UInt8} {x : UInt8} {v : Value} (hm : m = L.length) (ho : w.ownsRow w0.heap.size 5 1 (.slice p m c) m (bs L)) (hF : Fr (fun _ => False) w0 w)
    (hown : w'.ownsRow w0.heap.size 5 1 v (m + 1) (bs L ++ [.int .u8 (x.toNat : Int)])) (hg : w.grownBy w' (Value.slice p m c).ownBlock) : ∃ p' c', v = .slice p' (m + 1) c' ∧ m + 1 = (L ++ [x]).length ∧ w'.ownsRow w0.heap.size 5 1 (.slice p' (m + 1) c') (m + 1) (bs (L ++ [x])) ∧ Fr (fun _ => False) w0 w' := by
  have hl : m + 1 = (L ++ [x]).length := by rw [List.length_append, ← hm]; rfl
  have hq : ∀ q, (Value.slice p m c).ownBlock = some q → False ∨ w0.heap.size ≤ q := fun q e => by
    rcases ho.2 with ⟨h, _⟩ | ⟨g, cap, cur, h, hb, _⟩
    · rw [h] at e; cases e
    · rw [h] at e; cases e
      exact Or.inr hb
  rw [show bs L ++ [.int .u8 (x.toNat : Int)] = bs (L ++ [x]) by rw [bs_append]; rfl] at hown
  rcases hown.2 with ⟨_, h0⟩ | ⟨g, cap, cur, rfl, _⟩
  · omega
  · exact ⟨_, cap, rfl, hl, hown, hF.grown hg hq⟩

end Go.Proofs.Ytnibbopdjeagoaa.fl
