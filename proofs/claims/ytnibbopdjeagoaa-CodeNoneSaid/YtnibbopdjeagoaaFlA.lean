/-
  The document's Bits and Number.
-/
import Derived.Test.YtnibbopdjeagoaaFlM
import Derived.Deep.LoopGhost
namespace Go.Proofs.Ytnibbopdjeagoaa.fl
set_option maxRecDepth 100000
open Go.RowKit Go.Maps
set_option maxRecDepth 100000

/-- A new slice of these numbers. -/
def NewL (w : World) (l : List Int) (e : Ending) (w' : World) : Prop := ∃ A cap, e = .returned (.slice A l.length cap) ∧ OwnI w' w.heap.size (.slice A l.length cap) l ∧ Fr (fun _ => False) w w'
theorem ownI_nil (w : World) : OwnI (w.alloc (.cells #[] 3)) w.heap.size (.slice (some ⟨w.heap.size, 0, none⟩) 0 0) [] := World.ownsRow_made w #[] 0 (Nat.le_refl _) (Nat.zero_le _) (by simp)
theorem own_geI {w0 w : World} {n : Nat} {v : Value} {xs : List Value} {q : Nat} (h : w.ownsRow w0.heap.size 3 1 v n xs) (e : v.ownBlock = some q) : False ∨ w0.heap.size ≤ q := by
  rcases h.2 with ⟨rfl, _⟩ | ⟨g, cap, cur, rfl, hg, _⟩
  · cases e
  · cases e
    exact Or.inr hg
theorem newsI (w : World) {g : Nat} {x : Int} (h : w.heap[g]? = some (.cells #[.int .i64 x] 3 (0, 0))) : ∀ j u, [Value.int .i64 x][j]? = some u → w.cell? ((⟨g, 0, none⟩ : Addr).add j) = some u := fun j u hu => by
  rw [add_plain, cellAt h, Nat.zero_add, ← Array.getElem?_toList]
  exact hu
theorem oneI (x : Int) : ∀ u ∈ [Value.int IntKind.i64 x], u.oneCell' = true := by
  intro u hu
  obtain rfl := List.mem_singleton.1 hu
  rfl
/-- What an append of one number leaves. -/
theorem snocI {w0 w w' : World} {p : Option Addr} {m c : Nat} {L : List Int} {x : Int} {v : Value} (hm : m = L.length) (ho : w.ownsRow w0.heap.size 3 1 (.slice p m c) m (is L)) (hF : Fr (fun _ => False) w0 w)
    (hown : w'.ownsRow w0.heap.size 3 1 v (m + 1) (is L ++ [.int .i64 x])) (hg : w.grownBy w' (Value.slice p m c).ownBlock) : ∃ p' c', v = .slice p' (m + 1) c' ∧ m + 1 = (L ++ [x]).length ∧ w'.ownsRow w0.heap.size 3 1 (.slice p' (m + 1) c') (m + 1) (is (L ++ [x])) ∧ Fr (fun _ => False) w0 w' := by
  have hl : m + 1 = (L ++ [x]).length := by rw [List.length_append, ← hm]; rfl
  obtain ⟨p', c', e, h⟩ := OwnI.shape (l := L ++ [x]) hl (by rw [is_append]; rfl) hown
  rw [← hl] at e h
  unfold OwnI at h
  rw [← hl] at h
  exact ⟨p', c', e, hl, h, hF.grown hg (fun q e => own_geI ho e)⟩

set_option maxHeartbeats 4000000 in
theorem rbits (w : World) (A : Option Addr) (cap : Nat) (b : List UInt8) (hr : Rd w w.heap.size A b) (hb : b.length ≤ 1000000) :
    Calls Try.prog 23 #[.slice A b.length cap] w (NewL w (bitsOf b)) := by
  obtain ⟨n, hn⟩ : ∃ n, n = b.length := ⟨_, rfl⟩
  rw [← hn] at hb ⊢
  have HR := Lib.hid hr
  have HN := Lib.hid hn
  obtain ⟨i0, hi, hz0, hz1, hz2⟩ := info_parts infoI
  have HI := Lib.hid (⟨hi, hz0, hz1, hz2⟩ : _ ∧ _ ∧ _ ∧ _)
  have H0 := Lib.hid (⟨ownI_nil w, (Fr.refl (fun _ => False) w).alloc (.cells #[] 3)⟩ : _ ∧ _)
  clear hr hn hi hz0 hz1 hz2
  go_enter Try.func23, Try.ntmps23
  go_wp2_with fail
  go_loopw [3, 4] (fun v3 v4 wr => ∃ (i m : Nat) (p : Option Addr) (c : Nat) (L : List Int), i ≤ n ∧ m = 8 * i ∧ v4 = .int .i64 i ∧ v3 = .slice p m c ∧ Hid (m = L.length ∧ L = bitsOf (b.take i) ∧ wr.ownsRow w.heap.size 3 1 (.slice p m c) m (is L) ∧ Fr (fun _ => False) w wr)) (fun _ v _ => n - (intOf v).toNat)
  case atStart => exact ⟨0, 0, _, _, [], Nat.zero_le _, rfl, rfl, rfl, (show _ ∧ _ from ⟨rfl, rfl, H0.out⟩)⟩
  case round =>
    obtain ⟨i, m, p, c, L, hi, hm, rfl, rfl, HK⟩ := hrel
    have HM := Lib.hid hm
    have hm2 : m ≤ 8000000 := by omega
    clear H0 hm
    by_cases hlt : i < n
    · have hil : i < b.length := by have := HN.out; omega
      obtain ⟨blk, off, rfl, hblk, hc⟩ := (HR.out.still HK.out.2.2.2 (Nat.le_refl _)).at_ hil
      obtain ⟨x, hx⟩ : ∃ x, x = b[i].toNat := ⟨_, rfl⟩
      have HS := Lib.hid (bitsOf_snoc (List.getElem?_eq_getElem hil))
      rw [← hx] at hc HS
      have hx256 : x < 256 := by rw [hx]; exact b[i].toNat_lt
      clear hil hx hblk
      go_wp2_with fail
      have HK0 := HK
      clear HK
      go_loopw [3, 5, 6] (fun v3 v5 v6 wr => ∃ (k q z : Nat) (p : Option Addr) (c : Nat) (L : List Int), k ≤ 8 ∧ q ≤ 8000008 ∧ z < 256 ∧ v6 = .int .i64 k ∧ v5 = .int .i64 z ∧ v3 = .slice p q c ∧ Hid (q = L.length ∧ q = m + k ∧ L = bitsOf (b.take i) ++ lowI (x : Int) k ∧ (z : Int) = (x : Int) / 2 ^ k ∧ wr.ownsRow w.heap.size 3 1 (.slice p q c) q (is L) ∧ Fr (fun _ => False) w wr)) (fun _ _ v _ => 8 - (intOf v).toNat)
      case atStart => exact ⟨0, m, x, _, _, L, by omega, by omega, hx256, rfl, rfl, rfl, (show _ ∧ _ from ⟨HK0.out.1, rfl, by rw [HK0.out.2.1]; simp [lowI], by simp, HK0.out.2.2.1, HK0.out.2.2.2⟩)⟩
      case round =>
        obtain ⟨k, q, z, p, c, L, hk, hq, hz, rfl, rfl, rfl, HK⟩ := hrel
        clear HK0 hc
        by_cases hlt2 : k < 8
        · have hmod : ((z : Int)).tmod 2 = ((z % 2 : Nat) : Int) := rfl
          have hdiv : ((z : Int)).tdiv 2 = ((z / 2 : Nat) : Int) := rfl
          obtain ⟨u, hu⟩ : ∃ u, u = ((z % 2 : Nat) : Int) := ⟨_, rfl⟩
          rw [← hu] at hmod
          have HU := Lib.hid hu
          have HFX := Lib.hid (HK.out.2.2.2.2.2.alloc (.cells #[.int .i64 u] 3))
          have hq2 : q ≤ 8000007 := by
            have h1 := HK.out.2.1
            have h2 := HM.out
            omega
          clear hu
          go_wp2_with (at_builtin; refine wpList_append_own _ rfl (.tmp 23) (.tmp 26) 22 rfl w.heap.size 3 i0 (.int .i64 0) 1 8 Try.underlying22 HI.out.1 HI.out.2.1 HI.out.2.2.1 HI.out.2.2.2 rfl (by omega) _ q (is L) rfl (World.ownsRow.alloc HK.out.2.2.2.2.1 _) ⟨wr.heap.size, 0, none⟩ 1 1 [.int .i64 u] rfl rfl (newsI _ (heap_alloc_new _ _)) (oneI _) (by unfold maxLen; omega) (by omega) HFX.out.size ?_; intro v9 w9 hown9 hg9 _)
          obtain ⟨p', c', e', hl', ho', hF'⟩ := snocI HK.out.1 (World.ownsRow.alloc HK.out.2.2.2.2.1 _) HFX.out hown9 hg9
          subst e'
          have H9 := Lib.hid (⟨hl', (by have := HK.out.2.1; omega), (by
            rw [HK.out.2.2.1, lowI_snoc, ← HK.out.2.2.2.1, HU.out, List.append_assoc]
            rfl), (by
            have h1 := HK.out.2.2.2.1
            rw [Int.pow_succ, ← Int.ediv_ediv_of_nonneg (Int.pow_nonneg (by omega)), ← h1]
            rfl), ho', hF'⟩ : q + 1 = (L ++ [u]).length ∧ q + 1 = m + (k + 1) ∧ L ++ [u] = bitsOf (b.take i) ++ lowI (x : Int) (k + 1) ∧ ((z / 2 : Nat) : Int) = (x : Int) / 2 ^ (k + 1) ∧ w9.ownsRow w.heap.size 3 1 (.slice p' (q + 1) c') (q + 1) (is (L ++ [u])) ∧ Fr (fun _ => False) w w9)
          clear hown9 hg9 hl' ho' hF'
          go_wp2_with fail
          go_roundw
          case rel => exact ⟨k + 1, q + 1, z / 2, p', c', _, by omega, by omega, by omega, by go_num, by first | rfl | go_num, rfl, (show _ ∧ _ from H9.out)⟩
          case measure => simp [intOf]; omega
        · obtain rfl : k = 8 := by omega
          have HE := Lib.hid (⟨HK.out.1, (by rw [HK.out.2.2.1]; exact HS.out.symm), HK.out.2.2.2.2.1, HK.out.2.2.2.2.2⟩ : q = L.length ∧ L = bitsOf (b.take (i + 1)) ∧ wr.ownsRow w.heap.size 3 1 (.slice p q c) q (is L) ∧ Fr (fun _ => False) w wr)
          have hqe := HK.out.2.1
          have hme := HM.out
          go_wp2_with fail
          go_roundw
          case rel => exact ⟨i + 1, q, p, c, L, by omega, by omega, by go_num, rfl, (show _ ∧ _ from HE.out)⟩
          case measure => simp [intOf]; omega
    · obtain rfl : i = n := by omega
      go_wp2_with fail
      go_ret
      obtain ⟨h1, h2, h3, h4⟩ := HK.out
      rw [List.take_of_length_le (by rw [← HN.out]; exact Nat.le_refl _)] at h2
      subst h2
      exact ⟨p, c, by rw [h1]; rfl, (by rw [h1] at h3; exact h3), h4⟩
end Go.Proofs.Ytnibbopdjeagoaa.fl
