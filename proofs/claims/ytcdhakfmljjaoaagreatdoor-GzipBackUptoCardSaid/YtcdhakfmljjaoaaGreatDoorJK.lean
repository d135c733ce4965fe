/-
  Texts that belong together, joined: FeD FeE FeF.
-/
import Derived.Test.YtcdhakfmljjaoaaGreatDoorFeC

/-
  The program's stream: what comes out grows; single, size, plain.
-/

namespace Go.Proofs.YtcdhakfmljjaoaaGreatDoor.ft
set_option maxRecDepth 100000
open Go.RowKit Go.Maps Go.Proofs.YtcdhakfmljjaoaaGreatDoor.fl Go.Proofs.YtcdhakfmljjaoaaGreatDoor.cd
set_option maxRecDepth 100000

theorem xor_nat (a b : Nat) (ha : a < 65536) (hb : b < 65536) : bits .xor .i64 (a : Int) (b : Int) = ((a ^^^ b : Nat) : Int) ∧ (a ^^^ b = 65535 ↔ a + b = 65535) := by
  have hx : a ^^^ b < 2 ^ 16 := Nat.xor_lt_two_pow (by omega) (by omega)
  refine ⟨?_, ?_⟩
  · have h1 : (BitVec.ofInt 64 (a : Int)).toNat = a := by rw [BitVec.ofInt_natCast, BitVec.toNat_ofNat]; exact Nat.mod_eq_of_lt (by omega)
    have h2 : (BitVec.ofInt 64 (b : Int)).toNat = b := by rw [BitVec.ofInt_natCast, BitVec.toNat_ofNat]; exact Nat.mod_eq_of_lt (by omega)
    show IntKind.i64.wrap ((BitVec.ofInt 64 (a : Int) ^^^ BitVec.ofInt 64 (b : Int)).toNat : Int) = _
    rw [BitVec.toNat_xor, h1, h2, IntKind.wrap_i64]
    omega
  · have key : a ^^^ (2 ^ 16 - (a + 1)) = 65535 := by
      apply Nat.eq_of_testBit_eq
      intro i
      rw [Nat.testBit_xor, Nat.testBit_two_pow_sub_succ (by omega), show (65535 : Nat) = 2 ^ 16 - 1 from rfl, Nat.testBit_two_pow_sub_one]
      by_cases hi : i < 16
      · rw [decide_eq_true hi]; cases a.testBit i <;> rfl
      · rw [decide_eq_false hi, Nat.testBit_lt_two_pow (show a < 2 ^ i from Nat.lt_of_lt_of_le (by omega) (Nat.pow_le_pow_right (by omega) (by omega : 16 ≤ i)))]; rfl
    constructor
    · intro h
      have : b = 2 ^ 16 - (a + 1) := by
        have e : a ^^^ (a ^^^ b) = a ^^^ (a ^^^ (2 ^ 16 - (a + 1))) := by rw [h, key]
        rwa [← Nat.xor_assoc, ← Nat.xor_assoc, Nat.xor_self, Nat.zero_xor, Nat.zero_xor] at e
      omega
    · intro h
      rw [show b = 2 ^ 16 - (a + 1) by omega, key]

/-- What an append of bytes to what came out leaves. -/
theorem JS.grow {E : En} {K : Nat → Prop} {w wx w2 : World} {p : Nat} {out d : By} {T : Nat → Prop} {A : Option Addr} {cap m nd : Nat} {v2 : Value} (h : JS E K w p out) (h1 : w.heap[E.g]? = some (strC E out A cap)) (h2 : PR w E.rd E.b p T) (h3 : Own w E.w0.heap.size (.slice A out.length cap) out) (h4 : ∀ i, T i → E.w0.heap.size ≤ i ∧ ¬ K i ∧ ¬ E.F i ∧ i ≠ E.g ∧ oB A ≠ some i) (h5 : ∀ i, oB A = some i → ¬ K i ∧ ¬ E.F i ∧ i ≠ E.g)
    (hF : Fr (fun _ => False) w wx) (hm : m = out.length) (hd : nd = d.length) (hle : out.length + d.length ≤ E.most) (hown : w2.ownsRow E.w0.heap.size 5 1 v2 (m + nd) (bs out ++ bs d)) (hg : wx.grownBy w2 (Value.slice A m cap).ownBlock) (hat : v2.ownBlock = (Value.slice A m cap).ownBlock ∨ v2.ownBlock = some wx.heap.size) :
    ∃ A2 cap2, v2 = .slice A2 (m + nd) cap2 ∧ w2.cell? ⟨E.g, 4, none⟩ = some (.slice A m cap) ∧ w2.frozen? ⟨E.g, 4, none⟩ = false ∧ Hid (JS E K (w2.setCell ⟨E.g, 4, none⟩ (.slice A2 (m + nd) cap2)) p (out ++ d) ∧ Kp K w (w2.setCell ⟨E.g, 4, none⟩ (.slice A2 (m + nd) cap2))) := by
  obtain ⟨A2, cap2, rfl⟩ : ∃ A2 cap2, v2 = .slice A2 (m + nd) cap2 := by
    rcases hown.2 with ⟨e, e2⟩ | ⟨q, c, cur, e, _⟩
    · exact ⟨none, 0, by rw [e, e2]⟩
    · exact ⟨some ⟨q, 0, none⟩, c, e⟩
  rw [oB_is, oB_is] at hat
  rw [oB_is] at hg
  have hgs := lt_of_block h1
  have hgx := Nat.lt_of_lt_of_le hgs hF.size
  have hF2 : Fr (fun i => oB A = some i) w w2 := (hF.mono (fun _ _ e => e.elim)).grown hg (fun k hk => Or.inl hk)
  have hb2 : w2.heap[E.g]? = some (strC E out A cap) := (hF2.block _ hgs (fun e => (h5 _ e).2.2 rfl)).trans h1
  have hF3 : Fr (fun i => i = E.g ∨ oB A = some i) w (w2.setCell ⟨E.g, 4, none⟩ (.slice A2 (m + nd) cap2)) := Fr.setCell (S := fun i => i = E.g ∨ oB A = some i) (hF2.mono (fun _ _ e => Or.inr e)) (p := ⟨E.g, 4, none⟩) (Or.inl (Or.inl rfl)) _
  have hl : m + nd = (out ++ d).length := by rw [List.length_append, ← hm, ← hd]
  have hsz : (w2.setCell ⟨E.g, 4, none⟩ (.slice A2 (m + nd) cap2)).heap.size = w2.heap.size := by simp [World.setCell]
  have h2' := flow_all.r_in h2
  obtain ⟨S1, S2, f1, f2, f3, f4, f5⟩ := h.fx
  have hk : Kp K w (w2.setCell ⟨E.g, 4, none⟩ (.slice A2 (m + nd) cap2)) := fun i hi => hF3.block i (h.k i hi).2 (fun e => by
    rcases e with rfl | e
    · exact h.g_.2.1 hi
    · exact (h5 i e).1 hi)
  have hn : ∀ i, oB A2 = some i → oB A = some i ∨ (i = wx.heap.size ∧ i < w2.heap.size) := fun i hi => by
    rcases hat with e | e
    · rw [e] at hi; exact Or.inl hi
    · have := (own_le hown hi).2
      rw [e] at hi
      cases hi
      exact Or.inr ⟨rfl, this⟩
  refine ⟨A2, cap2, rfl, by rw [cellAt hb2, hm]; rfl, freeAt hb2 4, ⟨⟨T, A2, cap2, ?_, flow_all.r_keep h2 hF3 (fun i hi e => ?_), ?_, fun i hi => ⟨(h4 i hi).1, (h4 i hi).2.1, (h4 i hi).2.2.1, (h4 i hi).2.2.2.1, fun e => ?_⟩, fun i hi => ?_⟩, h.g_, ?_, fun i hi => ⟨(h.k i hi).1, Nat.lt_of_lt_of_le (h.k i hi).2 hF3.size⟩, ?_, ⟨by rw [List.length_append]; exact hle, h.le.2⟩, h.pl⟩, hk⟩
  · rw [heap_setCell_same _ _ _ _ _ _ hb2, hl]
    rfl
  · rcases e with e | e
    · exact (h4 i hi).2.2.2.1 e
    · exact (h4 i hi).2.2.2.2 e
  · refine own_keep (w := w2) (by rw [← hl]; unfold Own; rw [← hl, bs_append]; exact hown) (fun q hq => Below.heap_setCell _ _ _ _ (fun e => ?_))
    rw [oB_is] at hq
    rcases hn q hq with e2 | ⟨e2, _⟩
    · exact (h5 q e2).2.2 e
    · have e3 : q = E.g := e
      omega
  · rcases hn i e with e2 | ⟨e2, _⟩
    · exact (h4 i hi).2.2.2.2 e2
    · have := h2'.1 i hi
      have := hF.size
      omega
  · rcases hn i hi with e2 | ⟨e2, _⟩
    · exact h5 i e2
    · have := hF.size
      exact ⟨fun e => by have := (h.k i e).2; omega, fun e => by have := (f5 i e).2; omega, by omega⟩
  · exact h.fr.trans hF3 (fun i hi e => by
      rcases e with rfl | e
      · have := h.g_.1; omega
      · have := (own_le h3 e).1; omega)
  · have hkf : ∀ i, E.F i → (w2.setCell ⟨E.g, 4, none⟩ (.slice A2 (m + nd) cap2)).heap[i]? = w.heap[i]? := fun i hi => hF3.block i (f5 i hi).2 (fun e => by
      rcases e with rfl | e
      · exact h.g_.2.2 hi
      · exact (h5 i e).2.1 hi)
    exact ⟨S1, S2, pc_kept f1 (fun i hi => hkf i (f3 i hi)) hF3.size, pc_kept f2 (fun i hi => hkf i (f4 i hi)) hF3.size, f3, f4, fun i hi => ⟨(f5 i hi).1, Nat.lt_of_lt_of_le (f5 i hi).2 hF3.size⟩⟩
def sizeM : RdM Int := bnd al fun _ => bnd (tk 16) fun n => bnd (tk 16) fun m => if n + m ≠ 65535 then err 110 else ret n
theorem plain_size (most : Nat) (out : By) (B : List Int) (p : Nat) : plainM most out B p = bnd sizeM (fun n => if most < out.length + n.toNat then err 3 else bnd (by8 n.toNat) fun b => ret (out ++ b)) B p := by
  unfold plainM sizeM
  unfold bnd
  cases al B p with
  | error e => rfl
  | ok v =>
    obtain ⟨u, q⟩ := v
    simp only
    cases tk 16 B q with
    | error e => rfl
    | ok v =>
      obtain ⟨x, q2⟩ := v
      simp only
      cases tk 16 B q2 with
      | error e => rfl
      | ok v =>
        obtain ⟨y, q3⟩ := v
        simp only
        by_cases h : x + y ≠ 65535
        · rw [if_pos h, if_pos h]; rfl
        · rw [if_neg h, if_neg h]; rfl
theorem size_eq (B : List Int) (p : Nat) : sizeM B p = bnd (tk 16) (fun n => bnd (tk 16) fun m => if n + m ≠ 65535 then err 110 else ret n) B (alignA p) := by
  unfold sizeM
  rw [bnd_of (al_is B p)]
section
variable {E : En} {K : Nat → Prop} {w : World} {p : Nat} {out : By}
set_option maxHeartbeats 4000000 in
theorem psingle (h : JS E K w p out) (c : UInt8) : Calls Tryz.prog 117 #[.pointer (some ⟨E.g, 0, none⟩), .int .u8 (c.toNat : Int)] w fun e w' => (E.most < out.length + 1 ∧ e = .returned (.int .i64 3) ∧ JS E K w' p out ∧ Kp K w w') ∨ (out.length + 1 ≤ E.most ∧ e = .returned (.int .i64 0) ∧ JS E K w' p (out ++ [c]) ∧ Kp K w w') := by
  have HR := Lib.hid (proom h)
  have hle := h.le
  obtain ⟨x, hx⟩ : ∃ x : Nat, x = c.toNat := ⟨_, rfl⟩
  have HX := Lib.hid hx
  obtain ⟨r, hr⟩ : ∃ r, r = E.most - out.length := ⟨_, rfl⟩
  rw [← hr] at HR
  rw [← hx]
  by_cases h0 : E.most < out.length + 1
  · obtain rfl : r = 0 := by omega
    have HJ := Lib.hid h
    clear h hx hr
    go_enter Tryz.func117, Tryz.ntmps117
    go_wp2_with (go_at_call 111; refine HR.out.mono ?_; rintro e w1 ⟨rfl, hC⟩)
    go_ret
    exact Or.inl ⟨h0, rfl, HJ.out.still hC.fr, HJ.out.kp hC.fr⟩
  · have hr0 : ¬ (r : Int) = 0 := by omega
    obtain ⟨T, A, cap, h1, h2, h3, h4, h5⟩ := h.st
    obtain ⟨m, hm⟩ : ∃ m, m = out.length := ⟨_, rfl⟩
    have hm9 : m ≤ 262144 := by omega
    have HM := Lib.hid hm
    have HP := Lib.hid (⟨h1, h2, h3, h4, h5, h⟩ : _ ∧ _ ∧ _ ∧ _ ∧ _ ∧ JS E K w p out)
    have HC4 := Lib.hid (show ∀ wx, Fr (fun _ => False) w wx → wx.cell? ⟨E.g, 4, none⟩ = some (.slice A m cap) ∧ wx.ownsRow E.w0.heap.size 5 1 (.slice A m cap) m (bs out) from fun wx hF => by
      rw [hm]
      exact ⟨cell_keep ((cellAt h1 4).trans rfl) hF, Own.kept h3 hF⟩)
    have HE := Lib.hid (h.fr.size)
    have HLE := Lib.hid (show out.length + [c].length ≤ E.most by simp; omega)
    obtain ⟨i0, hi, hz0, hz1, hz2⟩ := info_parts infoB
    have HI := Lib.hid (⟨hi, hz0, hz1, hz2⟩ : _ ∧ _ ∧ _ ∧ _)
    clear h h1 h2 h3 h4 h5 hi hz0 hz1 hz2 hx hr hm hle
    go_enter Tryz.func117, Tryz.ntmps117
    go_wp2_with (first
      | (go_at_call 111; refine HR.out.mono ?_; rintro e w1 ⟨rfl, hC⟩; have HF := Lib.hid hC.fr; obtain ⟨c4, _⟩ := HC4.out _ HF.out; clear hC)
      | (at_builtin; refine wpList_append_own_at _ rfl (.tmp 12) (.tmp 14) 22 rfl E.w0.heap.size 5 i0 (.int .u8 0) 1 1 Tryz.underlying22 HI.out.1 HI.out.2.1 HI.out.2.2.1 HI.out.2.2.2 rfl (by omega) _ m (bs out) rfl ((HC4.out _ (HF.out.alloc _)).2) ⟨w1.heap.size, 0, none⟩ 1 1 [.int .u8 (x : Int)] rfl rfl (fun j u hu => by rw [add_plain, cellAt (heap_alloc_new _ _), Nat.zero_add, ← Array.getElem?_toList]; exact hu) (fun u hu => by obtain rfl := List.mem_singleton.1 hu; rfl) (by unfold maxLen; omega) (by omega) (by have h8 := HF.out.size; have h9 := HE.out; rw [World.size_alloc]; omega) ?_; intro v2 w2 hown hg _ hat; obtain ⟨A2, cap2, hv, e2, g2, HG⟩ := JS.grow (d := [c]) (nd := 1) HP.out.2.2.2.2.2 HP.out.1 HP.out.2.1 HP.out.2.2.1 HP.out.2.2.2.1 HP.out.2.2.2.2.1 (HF.out.alloc _) HM.out rfl HLE.out (by rw [show bs [c] = [.int .u8 (x : Int)] by rw [HX.out]; rfl]; exact hown) hg hat; subst hv; clear hown hg hat))
    go_ret
    exact Or.inr ⟨by have := HLE.out; simpa using this, rfl, HG.out⟩
set_option maxHeartbeats 4000000 in
theorem psize (h : JS E K w p out) : Calls Tryz.prog 110 #[.pointer (some ⟨E.g, 0, none⟩)] w fun e w' => (∃ x : Int, x ≠ 0 ∧ sizeM (bitsOf E.b) p = .error x ∧ e = .returned (.tuple #[.int .i64 0, .int .i64 x]) ∧ Fr (fun _ => False) E.w0 w' ∧ Kp K w w') ∨ ∃ n q : Nat, n ≤ 65535 ∧ q % 8 = 0 ∧ sizeM (bitsOf E.b) p = .ok ((n : Int), q) ∧ e = .returned (.tuple #[.int .i64 (n : Int), .int .i64 0]) ∧ JS E K w' q out ∧ Kp K w w' := by
  have HA := Lib.hid h.align
  have HJ := Lib.hid h
  have HZ := Lib.hid (size_eq (bitsOf E.b) p)
  have H8 := Lib.hid (alignA8 p)
  obtain ⟨q, hq⟩ : ∃ q, q = alignA p := ⟨_, rfl⟩
  rw [← hq] at HA HZ H8
  have c0 := h.c0
  rcases tk_two (n := 16) (by omega) E q with ht | ⟨x, ht, hx⟩
  · have HE := Lib.hid (show sizeM (bitsOf E.b) p = .error 7 by rw [HZ.out, bnd_err ht])
    have HT := Lib.hid (fun (w1 : World) (hj : JS E K w1 q out) => hj.take_no (by omega) ht w1 (Fr.refl _ _))
    clear h ht hq
    go_enter Tryz.func110, Tryz.ntmps110
    go_wp2_with (first
      | (go_at_call 131; refine HA.out.mono ?_; rintro e w1 ⟨rfl, hj, hk⟩; have c0 := hj.c0; have HJ1 := Lib.hid (⟨hj, hk⟩ : _ ∧ _); clear hj hk)
      | (go_at_call 75; refine (HT.out _ HJ1.out.1).mono ?_; rintro e w2 ⟨rfl, hf, hk⟩; have H2 := Lib.hid (⟨hf, HJ1.out.2.trans hk⟩ : _ ∧ _); clear hf hk))
    go_ret2
    exact Or.inl ⟨7, by decide, HE.out, rfl, H2.out⟩
  · have hx : x < 65536 := hx
    rcases tk_two (n := 16) (by omega) E (q + 16) with ht2 | ⟨y, ht2, hy⟩
    · have HE := Lib.hid (show sizeM (bitsOf E.b) p = .error 7 by rw [HZ.out, bnd_of ht, bnd_err ht2])
      have HT := Lib.hid (fun (w1 : World) (hj : JS E K w1 q out) => hj.take_ok (by omega) ht w1 (Fr.refl _ _))
      have HT2 := Lib.hid (fun (w1 : World) (hj : JS E K w1 (q + 16) out) => hj.take_no (by omega) ht2 w1 (Fr.refl _ _))
      clear h ht ht2 hq
      go_enter Tryz.func110, Tryz.ntmps110
      go_wp2_with (first
        | (go_at_call 131; refine HA.out.mono ?_; rintro e w1 ⟨rfl, hj, hk⟩; have c0 := hj.c0; have HJ1 := Lib.hid (⟨hj, hk⟩ : _ ∧ _); clear hj hk)
        | (go_at_call 75; refine (HT.out _ HJ1.out.1).mono ?_; rintro e w2 ⟨rfl, hj, hk⟩; have c0 := hj.c0; have HJ2 := Lib.hid (⟨hj, HJ1.out.2.trans hk⟩ : _ ∧ _); clear hj hk HJ1)
        | (go_at_call 75; refine (HT2.out _ HJ2.out.1).mono ?_; rintro e w3 ⟨rfl, hf, hk⟩; have H2 := Lib.hid (⟨hf, HJ2.out.2.trans hk⟩ : _ ∧ _); clear hf hk))
      go_ret2
      exact Or.inl ⟨7, by decide, HE.out, rfl, H2.out⟩
    · have hy : y < 65536 := hy
      obtain ⟨hxor, hiff⟩ := xor_nat x y hx hy
      obtain ⟨z, hz⟩ : ∃ z, z = x ^^^ y := ⟨_, rfl⟩
      rw [← hz] at hxor hiff
      have HT := Lib.hid (fun (w1 : World) (hj : JS E K w1 q out) => hj.take_ok (by omega) ht w1 (Fr.refl _ _))
      have HT2 := Lib.hid (fun (w1 : World) (hj : JS E K w1 (q + 16) out) => hj.take_ok (by omega) ht2 w1 (Fr.refl _ _))
      by_cases hne : x + y = 65535
      · have HE := Lib.hid (show sizeM (bitsOf E.b) p = .ok ((x : Int), q + 16 + 16) by rw [HZ.out, bnd_of ht, bnd_of ht2, if_neg (by omega)]; rfl)
        have hz1 : (z : Int) = 65535 := by have := hiff.2 hne; omega
        clear h ht ht2 hq hz hiff
        go_enter Tryz.func110, Tryz.ntmps110
        go_wp2_with (first
          | (go_at_call 131; refine HA.out.mono ?_; rintro e w1 ⟨rfl, hj, hk⟩; have c0 := hj.c0; have HJ1 := Lib.hid (⟨hj, hk⟩ : _ ∧ _); clear hj hk)
          | (go_at_call 75; refine (HT.out _ HJ1.out.1).mono ?_; rintro e w2 ⟨rfl, hj, hk⟩; have c0 := hj.c0; have HJ2 := Lib.hid (⟨hj, HJ1.out.2.trans hk⟩ : _ ∧ _); clear hj hk HJ1)
          | (go_at_call 75; refine (HT2.out _ HJ2.out.1).mono ?_; rintro e w3 ⟨rfl, hf, hk⟩; have H2 := Lib.hid (⟨hf, HJ2.out.2.trans hk⟩ : _ ∧ _); clear hf hk))
        go_ret2
        exact Or.inr ⟨x, q + 16 + 16, by omega, by have := H8.out; omega, HE.out, rfl, H2.out⟩
      · have HE := Lib.hid (show sizeM (bitsOf E.b) p = .error 110 by rw [HZ.out, bnd_of ht, bnd_of ht2, if_pos (by omega)]; rfl)
        have hz1 : ¬ (z : Int) = 65535 := by omega
        clear h ht ht2 hq hz hiff
        go_enter Tryz.func110, Tryz.ntmps110
        go_wp2_with (first
          | (go_at_call 131; refine HA.out.mono ?_; rintro e w1 ⟨rfl, hj, hk⟩; have c0 := hj.c0; have HJ1 := Lib.hid (⟨hj, hk⟩ : _ ∧ _); clear hj hk)
          | (go_at_call 75; refine (HT.out _ HJ1.out.1).mono ?_; rintro e w2 ⟨rfl, hj, hk⟩; have c0 := hj.c0; have HJ2 := Lib.hid (⟨hj, HJ1.out.2.trans hk⟩ : _ ∧ _); clear hj hk HJ1)
          | (go_at_call 75; refine (HT2.out _ HJ2.out.1).mono ?_; rintro e w3 ⟨rfl, hf, hk⟩; have H2 := Lib.hid (⟨hf, HJ2.out.2.trans hk⟩ : _ ∧ _); clear hf hk))
        go_ret2
        exact Or.inl ⟨110, by decide, HE.out, rfl, H2.out.1.fr, H2.out.2⟩
end
end Go.Proofs.YtcdhakfmljjaoaaGreatDoor.ft

/-
  The program's stream: plain, distance.
-/
namespace Go.Proofs.YtcdhakfmljjaoaaGreatDoor.ft
set_option maxRecDepth 100000
open Go.RowKit Go.Maps Go.Proofs.YtcdhakfmljjaoaaGreatDoor.fl Go.Proofs.YtcdhakfmljjaoaaGreatDoor.cd
set_option maxRecDepth 100000

/-- What a reading that makes bytes come out leaves. -/
def Aft (E : En) (K : Nat → Prop) (w : World) (r : Except Int (By × Nat)) (e : Ending) (w' : World) : Prop := (∃ x : Int, x ≠ 0 ∧ r = .error x ∧ e = .returned (.int .i64 x) ∧ Fr (fun _ => False) E.w0 w' ∧ Kp K w w') ∨ ∃ o q, r = .ok (o, q) ∧ e = .returned (.int .i64 0) ∧ JS E K w' q o ∧ Kp K w w'
def distM (ds : List Int) (out : By) : RdM Nat := bnd (sy ds) fun d => if 29 < d then err 110 else bnd (tk (farX d)) fun y => if out.length < farB d + y.toNat then err 110 else ret (farB d + y.toNat)
theorem copy_dist (most : Nat) (ds : List Int) (out : By) (k : Nat) (B : List Int) (p : Nat) : copyM most ds out k B p = (if 28 < k then err 110 else bnd (tk (spanX k)) fun x => bnd (distM ds out) fun back => if most < out.length + (spanB k + x.toNat) then err 3 else ret (copyL back (spanB k + x.toNat) out)) B p := by
  unfold copyM
  by_cases hk : 28 < k
  · rw [if_pos hk, if_pos hk]
  · rw [if_neg hk, if_neg hk]
    unfold distM
    unfold bnd
    cases tk (spanX k) B p with
    | error e => rfl
    | ok v =>
      obtain ⟨x, q⟩ := v
      simp only
      cases sy ds B q with
      | error e => rfl
      | ok v =>
        obtain ⟨d, q2⟩ := v
        simp only
        by_cases hd : 29 < d
        · rw [if_pos hd, if_pos hd]; rfl
        · rw [if_neg hd, if_neg hd]
          cases tk (farX d) B q2 with
          | error e => rfl
          | ok v =>
            obtain ⟨y, q3⟩ := v
            simp only
            by_cases hb : out.length < farB d + y.toNat
            · rw [if_pos hb, if_pos hb]; rfl
            · rw [if_neg hb, if_neg hb]; rfl
section
variable {E : En} {K : Nat → Prop} {w : World} {p : Nat} {out : By}
theorem JS.parts (h : JS E K w p out) : ∃ A cap, w.cell? ⟨E.g, 4, none⟩ = some (.slice A out.length cap) ∧ Own w E.w0.heap.size (.slice A out.length cap) out := by
  obtain ⟨T, A, cap, h1, _, h3, _⟩ := h.st
  exact ⟨A, cap, (cellAt h1 4).trans rfl, h3⟩
set_option maxHeartbeats 4000000 in
theorem pdistance (hT : Tabs E.w0) (h : JS E K w p out) {c : Addr} {ds : List Int} {S : Nat → Prop} (hc : PC w c ds S) (hS : ∀ i, S i → K i ∨ E.F i) : Calls Tryz.prog 136 #[.pointer (some ⟨E.g, 0, none⟩), .pointer (some c)] w fun e w' => (∃ x : Int, x ≠ 0 ∧ distM ds out (bitsOf E.b) p = .error x ∧ e = .returned (.tuple #[.int .i64 0, .int .i64 x]) ∧ Fr (fun _ => False) E.w0 w' ∧ Kp K w w') ∨ ∃ n q : Nat, 1 ≤ n ∧ n ≤ out.length ∧ distM ds out (bitsOf E.b) p = .ok (n, q) ∧ e = .returned (.tuple #[.int .i64 (n : Int), .int .i64 0]) ∧ JS E K w' q out ∧ Kp K w w' := by
  have hl := ((okB_iff ds).1 (code_all.c_in hc).2).1
  have c0 := h.c0
  rcases sy_two hl E p with ⟨x, hx, ht⟩ | ⟨s, q, ht, hpq, hs⟩
  · have HE := Lib.hid (show distM ds out (bitsOf E.b) p = .error x by unfold distM; rw [bnd_err ht])
    have HR := Lib.hid (h.read_no hc hS ht w (Fr.refl _ _))
    clear h ht hc hS
    go_enter Tryz.func136, Tryz.ntmps136
    go_wp2_with (go_at_call 116; refine HR.out.mono ?_; rintro e w1 ⟨⟨s, rfl⟩, hf, hk⟩; have H1 := Lib.hid (⟨hf, hk⟩ : _ ∧ _); clear hf hk)
    go_ret2
    exact Or.inl ⟨x, hx, HE.out, rfl, H1.out⟩
  · have HR := Lib.hid (h.read_ok hc hS ht w (Fr.refl _ _))
    by_cases h29 : 29 < s
    · have HE := Lib.hid (show distM ds out (bitsOf E.b) p = .error 110 by unfold distM; rw [bnd_of ht, if_pos h29]; rfl)
      clear h ht hc hS
      go_enter Tryz.func136, Tryz.ntmps136
      go_wp2_with (go_at_call 116; refine HR.out.mono ?_; rintro e w1 ⟨rfl, hf, hk⟩; have H1 := Lib.hid (⟨hf.fr, hk⟩ : _ ∧ _); clear hf hk)
      go_ret2
      exact Or.inl ⟨110, by decide, HE.out, rfl, H1.out⟩
    · obtain ⟨hf1, hf2, hf3⟩ := far_le (k := s) (by omega)
      have HTB := Lib.hid (show ∀ w1, JS E K w1 q out → _ from fun w1 hj => (hj.tab hT).far s (by omega))
      obtain ⟨fx, hfx⟩ : ∃ fx, fx = farX s := ⟨_, rfl⟩
      obtain ⟨fb, hfb⟩ : ∃ fb, fb = farB s := ⟨_, rfl⟩
      rw [← hfx] at hf1
      rw [← hfb] at hf2 hf3
      rw [← hfx, ← hfb] at HTB
      rcases tk_two (n := fx) (by omega) E q with ht2 | ⟨y, ht2, hy⟩
      · have HE := Lib.hid (show distM ds out (bitsOf E.b) p = .error 7 by unfold distM; rw [bnd_of ht, if_neg h29, ← hfx, bnd_err ht2])
        have HN := Lib.hid (fun w1 (hj : JS E K w1 q out) => number_no hj fb (by omega) (by omega) ht2 w1 (Fr.refl _ _))
        clear h ht hc hS ht2 hfx hfb
        go_enter Tryz.func136, Tryz.ntmps136
        go_wp2_with (first
          | (go_at_call 116; refine HR.out.mono ?_; rintro e w1 ⟨rfl, hj, hk⟩; have H1 := Lib.hid (⟨hj, hk⟩ : _ ∧ _); obtain ⟨y0, y1⟩ := HTB.out w1 hj; clear hj hk)
          | (go_at_call 113; refine (HN.out _ H1.out.1).mono ?_; rintro e w2 ⟨⟨v, rfl⟩, hf, hk⟩; have H2 := Lib.hid (⟨hf, H1.out.2.trans hk⟩ : _ ∧ _); clear hf hk))
        go_ret2
        exact Or.inl ⟨7, by decide, HE.out, rfl, H2.out⟩
      · have HN := Lib.hid (fun w1 (hj : JS E K w1 q out) => number_ok hj fb (by omega) (by omega) ht2 (by have : (2 : Nat) ^ fx ≤ 2 ^ 13 := Nat.pow_le_pow_right (by omega) hf1; omega) w1 (Fr.refl _ _))
        have hy13 : y < 2 ^ 13 := Nat.lt_of_lt_of_le hy (Nat.pow_le_pow_right (by omega) hf1)
        have hle := h.le
        obtain ⟨m, hm⟩ : ∃ m, m = out.length := ⟨_, rfl⟩
        have HC4 := Lib.hid (show ∀ w2, JS E K w2 (q + fx) out → ∃ A cap, w2.cell? ⟨E.g, 4, none⟩ = some (.slice A m cap) from fun w2 hj => by
          obtain ⟨A, cap, h1, _⟩ := hj.parts
          exact ⟨A, cap, by rw [hm]; exact h1⟩)
        obtain ⟨n, hn⟩ : ∃ n, n = fb + y := ⟨_, rfl⟩
        rw [← hn] at HN
        by_cases hb : m < n
        · have HE := Lib.hid (show distM ds out (bitsOf E.b) p = .error 110 by unfold distM; rw [bnd_of ht, if_neg h29, ← hfx, bnd_of ht2, ← hfb, Int.toNat_natCast, ← hn, ← hm, if_pos hb]; rfl)
          have hn9 : n ≤ 40000 := by omega
          have hm9 : m ≤ 262144 := by omega
          clear h ht hc hS ht2 hfx hfb hn hm hy hle
          go_enter Tryz.func136, Tryz.ntmps136
          go_wp2_with (first
            | (go_at_call 116; refine HR.out.mono ?_; rintro e w1 ⟨rfl, hj, hk⟩; have H1 := Lib.hid (⟨hj, hk⟩ : _ ∧ _); obtain ⟨y0, y1⟩ := HTB.out w1 hj; clear hj hk)
            | (go_at_call 113; refine (HN.out _ H1.out.1).mono ?_; rintro e w2 ⟨rfl, hf, hk⟩; have H2 := Lib.hid (⟨hf, H1.out.2.trans hk⟩ : _ ∧ _); obtain ⟨A, cap, c4⟩ := HC4.out _ hf; clear hf hk))
          go_ret2
          exact Or.inl ⟨110, by decide, HE.out, rfl, H2.out.1.fr, H2.out.2⟩
        · have HE := Lib.hid (show distM ds out (bitsOf E.b) p = .ok (n, q + fx) by unfold distM; rw [bnd_of ht, if_neg h29, ← hfx, bnd_of ht2, ← hfb, Int.toNat_natCast, ← hn, ← hm, if_neg hb]; rfl)
          have hn9 : n ≤ 40000 := by omega
          have hn1 : 1 ≤ n := by omega
          have hm9 : m ≤ 262144 := by omega
          have HMM := Lib.hid hm
          clear h ht hc hS ht2 hfx hfb hn hm hy hle
          go_enter Tryz.func136, Tryz.ntmps136
          go_wp2_with (first
            | (go_at_call 116; refine HR.out.mono ?_; rintro e w1 ⟨rfl, hj, hk⟩; have H1 := Lib.hid (⟨hj, hk⟩ : _ ∧ _); obtain ⟨y0, y1⟩ := HTB.out w1 hj; clear hj hk)
            | (go_at_call 113; refine (HN.out _ H1.out.1).mono ?_; rintro e w2 ⟨rfl, hf, hk⟩; have H2 := Lib.hid (⟨hf, H1.out.2.trans hk⟩ : _ ∧ _); obtain ⟨A, cap, c4⟩ := HC4.out _ hf; clear hf hk))
          go_ret2
          exact Or.inr ⟨n, _, hn1, by have := HMM.out; omega, HE.out, rfl, H2.out⟩
end
end Go.Proofs.YtcdhakfmljjaoaaGreatDoor.ft

/-
  The program's stream: plain.
-/
namespace Go.Proofs.YtcdhakfmljjaoaaGreatDoor.ft
set_option maxRecDepth 100000
open Go.RowKit Go.Maps Go.Proofs.YtcdhakfmljjaoaaGreatDoor.fl Go.Proofs.YtcdhakfmljjaoaaGreatDoor.cd
set_option maxRecDepth 100000

section
variable {E : En} {K : Nat → Prop} {w : World} {p : Nat} {out : By}
/-- Bytes of one's own, behind what came out. -/
theorem own_none {w : World} {base n cap : Nat} {l : By} (hn : n = l.length) (h : Own w base (.slice none n cap) l) : l = [] ∧ n = 0 ∧ cap = 0 := by
  rcases h.2 with ⟨e, h0⟩ | ⟨g, c, cur, e, _⟩
  · cases e
    exact ⟨List.eq_nil_of_length_eq_zero h0, by omega, rfl⟩
  · cases e
set_option maxHeartbeats 4000000 in
theorem pplain (h : JS E K w p out) : Calls Tryz.prog 97 #[.pointer (some ⟨E.g, 0, none⟩)] w (Aft E K w (plainM E.most out (bitsOf E.b) p)) := by
  have HS := Lib.hid (psize h)
  have HPZ := Lib.hid (plain_size E.most out (bitsOf E.b) p)
  have hle := h.le
  obtain ⟨m, hm⟩ : ∃ m, m = out.length := ⟨_, rfl⟩
  have HM := Lib.hid hm
  obtain ⟨i0, hi, hz0, hz1, hz2⟩ := info_parts infoB
  have HI := Lib.hid (⟨hi, hz0, hz1, hz2⟩ : _ ∧ _ ∧ _ ∧ _)
  have hm9 : m ≤ 262144 := by omega
  have HE0 := Lib.hid h.fr.size
  have HLE := Lib.hid hle
  clear hi hz0 hz1 hz2 hm hle h
  go_enter Tryz.func97, Tryz.ntmps97
  go_wp2_with fail
  refine HS.out.mono ?_
  rintro e w1 (⟨x, hx, ht, rfl, hf, hk⟩ | ⟨n, q, hn, h8, ht, rfl, hj, hk⟩)
  · have HE := Lib.hid (show plainM E.most out (bitsOf E.b) p = .error x by rw [HPZ.out, bnd_err ht])
    have H1 := Lib.hid (⟨hf, hk⟩ : _ ∧ _)
    clear ht hf hk
    go_wp2_with fail
    go_ret
    exact Or.inl ⟨x, hx, HE.out, rfl, H1.out⟩
  · have HR := Lib.hid (proom hj)
    have HJ := Lib.hid (⟨hj, hk⟩ : _ ∧ _)
    have c0 := fun w2 (hC : Calm w1 w2) => (hj.still hC.fr).c0
    have HC0 := Lib.hid c0
    obtain ⟨r, hr⟩ : ∃ r, r = E.most - out.length := ⟨_, rfl⟩
    rw [← hr] at HR
    have hr9 : r ≤ 262144 := by have := HLE.out; omega
    have HRR := Lib.hid hr
    have HPY := Lib.hid (show plainM E.most out (bitsOf E.b) p = (if E.most < out.length + ((n : Int)).toNat then err 3 else bnd (by8 ((n : Int)).toNat) fun b => ret (out ++ b)) (bitsOf E.b) q by rw [HPZ.out, bnd_of ht])
    rw [Int.toNat_natCast] at HPY
    clear hj hk c0 ht hr
    by_cases hrn : r < n
    · have HE := Lib.hid (show plainM E.most out (bitsOf E.b) p = .error 3 by rw [HPY.out, if_pos (by have := HRR.out; omega)]; rfl)
      go_wp2_with (go_at_call 111; refine HR.out.mono ?_; rintro e w2 ⟨rfl, hC⟩; have HC := Lib.hid hC; clear hC)
      go_ret
      exact Or.inl ⟨3, by decide, HE.out, rfl, HJ.out.1.fr.trans HC.out.fr (fun _ _ e => e), HJ.out.2.trans (HJ.out.1.kp HC.out.fr)⟩
    · have HBY := Lib.hid (show plainM E.most out (bitsOf E.b) p = bnd (by8 n) (fun b => ret (out ++ b)) (bitsOf E.b) q by rw [HPY.out, if_neg (by have := HRR.out; have := HLE.out; omega)])
      have HBB := Lib.hid (fun (w2 : World) (hC : Calm w1 w2) => (HJ.out.1.still hC.fr).bytes n (by omega) h8)
      go_wp2_with (go_at_call 111; refine HR.out.mono ?_; rintro e w2 ⟨rfl, hC⟩; have c0 := HC0.out _ hC; have HC := Lib.hid hC; clear hC)
      refine (HBB.out _ HC.out).mono ?_
      rintro e w3 ⟨A2, cap2, l, x, rfl, ho, -, hcase, hk3⟩
      have hJS : ∃ q2, JS E K w3 q2 out ∧ l.length ≤ n ∧ ((x = 7 ∧ l = [] ∧ by8 n (bitsOf E.b) q = .error 7) ∨ (x = 0 ∧ by8 n (bitsOf E.b) q = .ok (l, q2))) := by
        rcases hcase with ⟨e1, e2, e3, q2, e4⟩ | ⟨e1, e2, e3, e4⟩
        · exact ⟨q2, e4, by rw [e2]; exact Nat.zero_le _, Or.inl ⟨e1, e2, e3⟩⟩
        · exact ⟨_, e4, by omega, Or.inr ⟨e1, e3⟩⟩
      obtain ⟨q2, hj3, hln, hcs⟩ := hJS
      have HK3 := Lib.hid ((HJ.out.2.trans (HJ.out.1.kp HC.out.fr)).trans hk3)
      have HFIN := Lib.hid (show ∀ w4, JS E K w4 q2 (out ++ l) → Kp K w3 w4 → Aft E K w (plainM E.most out (bitsOf E.b) p) (.returned (.int .i64 x)) w4 from fun w4 k1 k2 => by
        rcases hcs with ⟨e1, e2, e3⟩ | ⟨e1, e3⟩
        · exact Or.inl ⟨7, by decide, by rw [HBY.out, bnd_err e3], by rw [e1], k1.fr, HK3.out.trans k2⟩
        · exact Or.inr ⟨_, q2, by rw [HBY.out, bnd_of e3]; rfl, by rw [e1], k1, HK3.out.trans k2⟩)
      obtain ⟨T, A, cap, h1, h2, h3, h4, h5⟩ := hj3.st
      have c4 : w3.cell? ⟨E.g, 4, none⟩ = some (.slice A m cap) := by rw [HM.out]; exact (cellAt h1 4).trans rfl
      obtain ⟨nd, hnd⟩ : ∃ nd, nd = l.length := ⟨_, rfl⟩
      have HP := Lib.hid (⟨h1, h2, h3, h4, h5, hj3⟩ : _ ∧ _ ∧ _ ∧ _ ∧ _ ∧ JS E K w3 q2 out)
      have HO := Lib.hid ho
      have HND := Lib.hid hnd
      have hnd9 : nd ≤ 262144 := by omega
      have HLL := Lib.hid (show out.length + l.length ≤ E.most by have := HRR.out; have := HLE.out; omega)
      have HROW := Lib.hid (show w3.ownsRow E.w0.heap.size 5 1 (.slice A m cap) m (bs out) by rw [HM.out]; exact h3)
      rw [← hnd] at ho ⊢
      clear hcase hcs hk3 hj3 h1 h2 h3 h4 h5 hln HBB HR HBY HPY HPZ HS
      cases A2 with
      | none =>
        obtain ⟨rfl, rfl, rfl⟩ := own_none hnd ho
        obtain ⟨A3, cap3, hv, e2, g2, HG⟩ := JS.grow (d := []) (nd := 0) (v2 := .slice A m cap) (w2 := w3) HP.out.2.2.2.2.2 HP.out.1 HP.out.2.1 HP.out.2.2.1 HP.out.2.2.2.1 HP.out.2.2.2.2.1 (Fr.refl _ _) HM.out rfl HLL.out (by rw [Nat.add_zero, show bs [] = [] from rfl, List.append_nil]; exact HROW.out) ⟨rfl, rfl, rfl, Nat.le_refl _, fun _ _ _ => rfl⟩ (Or.inl rfl)
        cases hv
        clear ho hnd
        go_wp2_with (at_builtin; refine wpList_append_own_none rfl (.tmp 33) (.tmp 34) 22 rfl E.w0.heap.size 5 i0 1 Tryz.underlying22 HI.out.1 _ m (bs out) rfl HROW.out rfl ?_)
        go_ret
        exact HFIN.out _ HG.out.1 HG.out.2
      | some ad =>
        clear ho hnd
        go_wp2_with (at_builtin; refine wpList_append_own_at _ rfl (.tmp 33) (.tmp 34) 22 rfl E.w0.heap.size 5 i0 (.int .u8 0) 1 1 Tryz.underlying22 HI.out.1 HI.out.2.1 HI.out.2.2.1 HI.out.2.2.2 rfl (by omega) _ m (bs out) rfl HROW.out ad nd cap2 (bs l) rfl (by rw [bs_length, ← HND.out, Nat.mul_one]) (HO.out.rd).src (bs_one l) (by unfold maxLen; omega) (by omega) (by have h8 := HP.out.2.2.2.2.2.fr.size; omega) ?_; intro v2 w4 hown hg _ hat; obtain ⟨A3, cap3, hv, e2, g2, HG⟩ := JS.grow (d := l) HP.out.2.2.2.2.2 HP.out.1 HP.out.2.1 HP.out.2.2.1 HP.out.2.2.2.1 HP.out.2.2.2.2.1 (Fr.refl _ _) HM.out HND.out HLL.out hown hg hat; subst hv; clear hown hg hat)
        go_ret
        exact HFIN.out _ HG.out.1 HG.out.2
end
end Go.Proofs.YtcdhakfmljjaoaaGreatDoor.ft
