/-
  The program's writer: a bit more.
-/
import Derived.Test.YtnibbopdjeagoaaFmA
import Derived.BigRegion
namespace Go.Proofs.Ytnibbopdjeagoaa.fl
set_option maxRecDepth 100000
open Go.RowKit Go.Maps
set_option maxRecDepth 100000

/-- A writer of the bits L behind a call. -/
def WrA (w : World) (g : Nat) (S : Nat → Prop) (L : List Int) (w' : World) : Prop := ∃ A' cap' S', WrM w' g A' cap' L.length (packI L) S' ∧ (∀ i, S' i → S i ∨ w.heap.size ≤ i) ∧ Fr S w w'
theorem or_up8 {x y : Int} {i : Nat} (hy0 : 0 ≤ y) (hy : y < 2 ^ i) (hi : i < 8) (hx : x = 0 ∨ x = 1) : bits .or .u8 y (IntKind.u8.wrap (wrap64 (x * 2 ^ i))) = y + x * 2 ^ i := by
  have h1 : (2 : Int) ^ i ≤ 2 ^ 7 := by exact_mod_cast Nat.pow_le_pow_right (n := 2) (by omega) (by omega : i ≤ 7)
  have h2 : (0 : Int) < 2 ^ i := Int.pow_pos (by omega)
  rcases hx with rfl | rfl
  · rw [Int.zero_mul, Int.add_zero]
    obtain ⟨b, rfl⟩ := Int.eq_ofNat_of_zero_le hy0
    have := (bits_nat .u8 8 (by decide) wraps_u8 b 0 (by omega) (by omega)).2
    rw [Nat.or_zero] at this
    rw [IntWalk.wrap64_in 0 ⟨by omega, by omega⟩, wraps_u8 0 (by omega) (by omega)]
    exact this
  · rw [Int.one_mul, IntWalk.wrap64_in _ ⟨by omega, by omega⟩, wraps_u8 _ (by omega) (by omega)]
    obtain ⟨b, rfl⟩ := Int.eq_ofNat_of_zero_le hy0
    have hb : b < 2 ^ i := by exact_mod_cast hy
    have hc : ((2 : Int) ^ i) = ((2 ^ i : Nat) : Int) := by simp
    have hi2 : 2 ^ i < 2 ^ 8 := Nat.pow_lt_pow_right (by omega) hi
    rw [hc, (bits_nat .u8 8 (by decide) wraps_u8 b (2 ^ i) (by omega) hi2).2, Nat.or_comm]
    have := Nat.two_pow_add_eq_or_of_lt hb 1
    rw [Nat.mul_one] at this
    rw [← this]
    omega
theorem byte_up {x y : Int} {i : Nat} (hy0 : 0 ≤ y) (hy : y < 2 ^ i) (hi : i < 8) (hx : x = 0 ∨ x = 1) : ∃ V : Int, V = ((UInt8.ofNat (y + x * 2 ^ i).toNat).toNat : Int) ∧ bits .or .u8 y (wrap64 (x * 2 ^ i) % 256) = V := by
  refine ⟨_, rfl, ?_⟩
  rw [← IntKind.wrap_u8]
  rw [or_up8 hy0 hy hi hx]
  have h1 : (2 : Int) ^ i ≤ 2 ^ 7 := by exact_mod_cast Nat.pow_le_pow_right (n := 2) (by omega) (by omega : i ≤ 7)
  have h2 : (0 : Int) < 2 ^ i := Int.pow_pos (by omega)
  have h3 : 0 ≤ y + x * 2 ^ i ∧ y + x * 2 ^ i < 256 := by rcases hx with rfl | rfl <;> omega
  rw [UInt8.toNat_ofNat']
  omega
theorem WrA.still {w w1 w2 : World} {g : Nat} {S : Nat → Prop} {L : List Int} (h : WrA w g S L w1) (hF : Fr (fun _ => False) w1 w2) : WrA w g S L w2 := by
  obtain ⟨A, c, T, h1, h2, h3⟩ := h
  exact ⟨A, c, T, h1.still hF, h2, h3.trans hF (fun _ _ e => e.elim)⟩
/-- The last step of a bit: its byte is set, the place goes on. -/
theorem wr_step {w w1 : World} {g p k : Nat} {A : Option Addr} {cap : Nat} {S T : Nat → Prop} {M : List UInt8} {y c : UInt8} {L' : List Int} (h : WrM w1 g A cap p (M ++ [y]) T) (hT : ∀ i, T i → S i ∨ w.heap.size ≤ i) (hF : Fr S w w1) (hk : M.length = k) (he : packI L' = M ++ [c]) (hl : L'.length = p + 1) :
    ∃ q, A = some ⟨q, 0, none⟩ ∧ q ≠ g ∧ w1.cell? ⟨q, k, none⟩ = some (.int .u8 (y.toNat : Int)) ∧ w1.frozen? ⟨q, k, none⟩ = false ∧ WrA w g S L' (((w1.setCell ⟨q, k, none⟩ (.int .u8 (c.toNat : Int))).setCell ⟨g, 0, none⟩ (.int .i64 ((p : Int) + 1))).drew) := by
  obtain ⟨q, e, hne, hc, hf, hs⟩ := h.at_ (k := k) (by rw [List.length_append, hk]; simp)
  obtain ⟨s1, s2⟩ := hs c
  obtain ⟨m1, m2⟩ := s1.move (p + 1)
  refine ⟨q, e, hne, by rw [hc]; simp [← hk], hf, A, cap, T, ?_, hT, ?_⟩
  · have es : (M ++ [y]).set k c = M ++ [c] := by rw [← hk]; simp
    rw [es] at m1
    rw [hl, he]
    exact m1.still (Fr.refl _ _).drew
  · exact (hF.trans (s2.trans m2 (fun _ _ e => e)) (fun i hi e => (hT i e).elim id (fun e2 => absurd hi (by omega)))).drew
theorem wr_grow {w w1 w2 : World} {g p m cap : Nat} {A : Option Addr} {S : Nat → Prop} {B : List UInt8} {v2 : Value} (h : WrM w g A cap p B S) (hF : Fr (fun _ => False) w w1) (hm : m = B.length) (hown : w2.ownsRow 0 5 1 v2 (m + 1) (bs B ++ [.int .u8 0]))
    (hg : (w1.alloc (.cells #[.int .u8 0] 5)).grownBy w2 (Value.slice A m cap).ownBlock) (hat : v2.ownBlock = (Value.slice A m cap).ownBlock ∨ v2.ownBlock = some (w1.alloc (.cells #[.int .u8 0] 5)).heap.size) :
    ∃ A2 cap2, v2 = .slice A2 (m + 1) cap2 ∧ w2.cell? ⟨g, 2, none⟩ = some (.slice A m cap) ∧ w2.frozen? ⟨g, 2, none⟩ = false ∧ Hid (∃ T, WrM (w2.setCell ⟨g, 2, none⟩ (.slice A2 (m + 1) cap2)) g A2 cap2 p (B ++ [0]) T ∧ (∀ i, T i → S i ∨ w.heap.size ≤ i) ∧ Fr S w (w2.setCell ⟨g, 2, none⟩ (.slice A2 (m + 1) cap2))) := by
  have hFa := hF.alloc (.cells #[.int .u8 0] 5)
  obtain ⟨A2, cap2, rfl, h1, h2⟩ := (h.still hFa).grow (B' := B ++ [0]) (by rw [List.length_append, hm]; rfl) (by rw [bs_append]; rfl) hown hg hat
  have hb := (hg.block g ((h.still hFa).low g h.own) (fun e => h.off m cap e.symm)).trans (h.still hFa).blk
  refine ⟨A2, cap2, rfl, by rw [cellAt hb, hm]; rfl, freeAt hb 2, ⟨_, h1, fun i hi => ?_, (hFa.mono (fun _ _ e => e.elim)).trans h2 (fun _ _ e => e)⟩⟩
  rcases hi with hi | hi
  · exact Or.inl hi
  · exact Or.inr (Nat.le_trans hFa.size hi.1)
section
variable {w : World} {g cap : Nat} {A : Option Addr} {S : Nat → Prop}
set_option maxHeartbeats 4000000 in
theorem wbit {L : List Int} (h : WrM w g A cap L.length (packI L) S) (hb : AllBit L) (x : Int) (hx : x = 0 ∨ x = 1) (hl : L.length ≤ 2000000) :
    Calls Try.prog 65 #[.pointer (some ⟨g, 0, none⟩), .int .i64 x] w fun e w' => (∃ v, e = .returned v) ∧ WrA w g S (L ++ [x]) w' := by
  obtain ⟨p, hp⟩ : ∃ p, p = L.length := ⟨_, rfl⟩
  rw [← hp] at h
  have HW := Lib.hid (fun wx => pwithin wx p true (by omega))
  have HX := Lib.hid h
  have c0 := h.c0
  have c1 := h.c1
  obtain ⟨r, hr⟩ : ∃ r, r = p % 8 := ⟨_, rfl⟩
  obtain ⟨k, hk⟩ : ∃ k, k = p / 8 := ⟨_, rfl⟩
  have hdk : (p : Int) / 8 = (k : Int) := by omega
  have hdr : (p : Int) % 8 = (r : Int) := by omega
  obtain ⟨m, hm⟩ : ∃ m, m = (packI L).length := ⟨_, rfl⟩
  have hm9 : m ≤ 2000000 := by rw [hm, packI_length]; omega
  have HM := Lib.hid hm
  have hk0 : (0 : Int) ≤ (k : Int) := by omega
  have hr8 : r < 8 := by omega
  by_cases h0 : p % 8 = 0
  · have hkm : k = m := by rw [hm, packI_length]; omega
    have h00 : ¬ (p % 8 ≠ 0) := fun e => e h0
    rw [decide_eq_false h00] at HW
    have he := pack_snoc0 (L := L) (x := x) (by omega)
    obtain ⟨V, hV, hor⟩ := byte_up (y := 0) (i := r) (by omega) (Int.pow_pos (by omega)) hr8 hx
    have hr0 : r = 0 := by omega
    have hV2 : V = ((UInt8.ofNat x.toNat).toNat : Int) := by rw [hV, hr0]; simp
    have HE := Lib.hid he
    have HLN := Lib.hid (show (L ++ [x]).length = p + 1 by rw [List.length_append, ← hp]; rfl)
    have HV := Lib.hid hV2
    obtain ⟨i0, hi, hz0, hz1, hz2⟩ := info_parts infoB
    have HI := Lib.hid (⟨hi, hz0, hz1, hz2⟩ : _ ∧ _ ∧ _ ∧ _)
    have hk1 : (k : Int) < (m : Int) + 1 := by omega
    have hk2 : (k : Int) < ((m + 1 : Nat) : Int) := by omega
    have hk3 : k < m + 1 := by omega
    have HKM := Lib.hid hkm
    clear hV hr hk hb h0 h00 he hr0 hV2 hi hz0 hz1 hz2 hp hm h hkm
    go_enter Try.func65, Try.ntmps65
    go_wp2_with (first
      | (go_at_call 69; refine (HW.out _).mono ?_; rintro e w1 ⟨rfl, hF⟩; have d0 := (HX.out.still hF).c0; have d2 := (HX.out.still hF).c2; have f2 := (HX.out.still hF).f2; rw [← HM.out] at d2; have HF := Lib.hid hF; clear hF)
      | (at_builtin; refine wpList_append_own_at _ rfl (.tmp 14) (.tmp 15) 39 rfl 0 5 i0 (.int .u8 0) 1 1 Try.underlying39 HI.out.1 HI.out.2.1 HI.out.2.2.1 HI.out.2.2.2 rfl (by omega) _ m (bs (packI L)) rfl (by rw [HM.out]; exact (HX.out.still (HF.out.alloc _)).row) ⟨w1.heap.size, 0, none⟩ 1 1 [.int .u8 0] rfl rfl (fun j u hu => by rw [add_plain, cellAt (heap_alloc_new _ _), Nat.zero_add, ← Array.getElem?_toList]; exact hu) (fun u hu => by obtain rfl := List.mem_singleton.1 hu; rfl) (by unfold maxLen; omega) (by omega) (Nat.zero_le _) ?_; intro v2 w2 hown hg _ hat; obtain ⟨A2, cap2, hv, e2, g2, HG⟩ := wr_grow HX.out HF.out HM.out hown hg hat; subst hv; clear hown hg hat))
    obtain ⟨w3, hw3⟩ : ∃ w3, w3 = w2.setCell ⟨g, 2, none⟩ (.slice A2 (m + 1) cap2) := ⟨_, rfl⟩
    rw [← hw3]
    have HG3 := HG.out
    rw [← hw3] at HG3
    obtain ⟨T, hW3, hT, hF3⟩ := HG3
    have d0 := hW3.c0
    have d2 := hW3.c2
    have f0 := hW3.f0
    obtain ⟨q, hA, hne, dk, fk, HR⟩ := wr_step hW3 hT hF3 (HM.out.symm.trans HKM.out.symm) HE.out HLN.out
    rw [← HV.out] at HR
    have HRR := Lib.hid HR
    have hn : (packI L ++ [(0 : UInt8)]).length = m + 1 := by rw [List.length_append, HM.out]; rfl
    rw [hn, hA] at d2
    have dk : w3.cell? ⟨q, k, none⟩ = some (.int .u8 0) := dk
    clear hA HR hF3 hW3 hT hw3 HG hn
    go_region
    go_wp2_with fail
    go_end0
    exact ⟨⟨_, rfl⟩, HRR.out⟩
  · rw [decide_eq_true h0] at HW
    obtain ⟨l, z, e1, e2, e3, e4, e5⟩ := pack_snoc (L := L) (x := x) (by omega)
    obtain ⟨y, hy⟩ : ∃ y : Nat, (y : Int) = numI z := ⟨(numI z).toNat, by have := numI_in z (hb.sub e4); omega⟩
    have hyr : (y : Int) < 2 ^ r := by have := (numI_in z (hb.sub e4)).2; rw [e3, ← hp, ← hr] at this; omega
    obtain ⟨V, hV, hor⟩ := byte_up (by omega) hyr hr8 hx
    rw [← hp, ← hr, ← hy] at e5
    rw [← hy, Int.toNat_natCast] at e1
    rw [← hp, ← hk] at e2
    have hy8 : (UInt8.ofNat y).toNat = y := by
      have : (2 : Int) ^ r ≤ 2 ^ 7 := by exact_mod_cast Nat.pow_le_pow_right (n := 2) (by omega) (by omega : r ≤ 7)
      rw [UInt8.toNat_ofNat']
      omega
    have hkm : k < m := by rw [hm, e1, List.length_append, e2]; simp
    have hk1 : (k : Int) < (m : Int) := by omega
    have HQ := Lib.hid (show ∀ w1 : World, Fr (fun _ => False) w w1 → ∃ q, A = some ⟨q, 0, none⟩ ∧ q ≠ g ∧ w1.cell? ⟨q, k, none⟩ = some (.int .u8 (y : Int)) ∧ w1.frozen? ⟨q, k, none⟩ = false ∧ WrA w g S (L ++ [x]) (((w1.setCell ⟨q, k, none⟩ (.int .u8 V)).setCell ⟨g, 0, none⟩ (.int .i64 ((p : Int) + 1))).drew) by
      intro w1 hF
      have h1 := h.still hF
      rw [e1] at h1
      have := wr_step h1 (fun i hi => Or.inl hi) (hF.mono (fun _ _ e => e.elim)) e2 e5 (by rw [List.length_append, ← hp]; rfl)
      rw [hy8, ← hV] at this
      exact this)
    clear hV e1 e2 e3 e4 e5 hy hyr hy8 h hr hk hp hm hb h0
    go_enter Try.func65, Try.ntmps65
    go_wp2_with (go_at_call 69; refine (HW.out _).mono ?_; rintro e w1 ⟨rfl, hF⟩; have d0 := (HX.out.still hF).c0; have d2 := (HX.out.still hF).c2; have f0 := (HX.out.still hF).f0; rw [← HM.out] at d2; obtain ⟨q, hA, hne, dk, fk, HR⟩ := HQ.out w1 hF; rw [hA] at d2; have HRR := Lib.hid HR; clear hA HR hF)
    go_region
    go_wp2_with fail
    go_end0
    exact ⟨⟨_, rfl⟩, HRR.out⟩
end
end Go.Proofs.Ytnibbopdjeagoaa.fl
