/-
  The program's stream: symbols.
-/
import Derived.Test.YtcdhakfmljjaoaaGreatDoorFeG
namespace Go.Proofs.YtcdhakfmljjaoaaGreatDoor.ft
set_option maxRecDepth 100000
open Go.RowKit Go.Maps Go.Proofs.YtcdhakfmljjaoaaGreatDoor.fl Go.Proofs.YtcdhakfmljjaoaaGreatDoor.cd
set_option maxRecDepth 100000

section
variable {most : Nat} {ls ds : List Int} {b out : By} {p : Nat}
theorem symsE_err (hp : p ≤ 8 * b.length) {x : Int} (h : symS most ls ds out (bitsOf b) p = .error x) : symsM most ls ds out (bitsOf b) p = .error x := by
  unfold symsM
  rw [loopM_eq (good_symS most ls ds) (prog_symS most ls ds) out (bitsOf b) p (bits8 b) (by rw [bitsOf_length]; exact hp), h]
theorem symsE_on (hp : p ≤ 8 * b.length) {o : By} {q : Nat} (h : symS most ls ds out (bitsOf b) p = .ok (.inl o, q)) : symsM most ls ds out (bitsOf b) p = symsM most ls ds o (bitsOf b) q := by
  unfold symsM
  rw [loopM_eq (good_symS most ls ds) (prog_symS most ls ds) out (bitsOf b) p (bits8 b) (by rw [bitsOf_length]; exact hp), h]
theorem symsE_end (hp : p ≤ 8 * b.length) {o : By} {q : Nat} (h : symS most ls ds out (bitsOf b) p = .ok (.inr o, q)) : symsM most ls ds out (bitsOf b) p = .ok (o, q) := by
  unfold symsM
  rw [loopM_eq (good_symS most ls ds) (prog_symS most ls ds) out (bitsOf b) p (bits8 b) (by rw [bitsOf_length]; exact hp), h]
end
section
variable {E : En} {K K1 : Nat → Prop} {w wA : World} {p : Nat} {out : By}
theorem Cds.more {c : Addr} {ds : List Int} (h : Cds E K w c ds) (hK : ∀ i, K i → K1 i) (hkp : Kp K w wA) : Cds E K1 wA c ds := fun w1 p1 o1 hj hk => by
  obtain ⟨S, h1, h2⟩ := h w1 p1 o1 (hj.less hK) (hkp.trans (hk.mono hK))
  exact ⟨S, h1, fun i hi => (h2 i hi).imp (hK i) id⟩
theorem Cds.len {c : Addr} {ds : List Int} (h : Cds E K w c ds) (hj : JS E K w p out) : ds.length ≤ 288 := by
  obtain ⟨S, h1, _⟩ := h w p out hj (fun _ _ => rfl)
  exact ((okB_iff ds).1 (code_all.c_in h1).2).1
/-- A code that lies there reads. -/
theorem Cds.read_no {c : Addr} {ds : List Int} (h : Cds E K w c ds) (hj : JS E K w p out) {x : Int} (ht : sy ds (bitsOf E.b) p = .error x) (wx : World) (hF : Fr (fun _ => False) w wx) : Calls Tryz.prog 116 #[.pointer (some c), .pointer (some E.rd)] wx fun e w' => (∃ s : Int, e = .returned (.tuple #[.int .i64 s, .int .i64 x])) ∧ Fr (fun _ => False) E.w0 w' ∧ Kp K w w' := by
  obtain ⟨S, h1, h2⟩ := h w p out hj (fun _ _ => rfl)
  exact hj.read_no h1 h2 ht wx hF
theorem Cds.read_ok {c : Addr} {ds : List Int} (h : Cds E K w c ds) (hj : JS E K w p out) {s q : Nat} (ht : sy ds (bitsOf E.b) p = .ok (s, q)) (wx : World) (hF : Fr (fun _ => False) w wx) : Calls Tryz.prog 116 #[.pointer (some c), .pointer (some E.rd)] wx fun e w' => e = .returned (.tuple #[.int .i64 (s : Int), .int .i64 0]) ∧ JS E K w' q out ∧ Kp K w w' := by
  obtain ⟨S, h1, h2⟩ := h w p out hj (fun _ _ => rfl)
  exact hj.read_ok h1 h2 ht wx hF
theorem JS.c0_at (h : JS E K w p out) (wx : World) (hF : Fr (fun _ => False) w wx) : wx.cell? ⟨E.g, 0, none⟩ = some (.pointer (some E.rd)) := (h.still hF).c0
set_option maxHeartbeats 8000000 in
theorem psymbols (hT : Tabs E.w0) (h : JS E K w p out) {a c : Addr} {ls ds : List Int} (ha : Cds E K w a ls) (hc : Cds E K w c ds) : Calls Tryz.prog 99 #[.pointer (some ⟨E.g, 0, none⟩), prV (some a) (some c)] w (Aft E K w (symsM E.most ls ds out (bitsOf E.b) p)) := by
  have hA := (Fr.refl (fun _ => False) w).alloc (prC (some a) (some c))
  have hJ := h.new hA
  obtain ⟨wA, hwA⟩ : ∃ wA, wA = w.alloc (prC (some a) (some c)) := ⟨_, rfl⟩
  have hn0 : wA.heap[w.heap.size]? = some (prC (some a) (some c)) := by rw [hwA]; exact heap_alloc_new _ _
  rw [← hwA] at hA hJ
  obtain ⟨K1, hK1⟩ : ∃ K1 : Nat → Prop, K1 = fun i => K i ∨ (w.heap.size ≤ i ∧ i < wA.heap.size) := ⟨_, rfl⟩
  rw [← hK1] at hJ
  have hKK : ∀ i, K i → K1 i := fun i hi => by rw [hK1]; exact Or.inl hi
  have hkA := h.kp hA
  have HCA := Lib.hid (ha.more hKK hkA)
  have HCC := Lib.hid (hc.more hKK hkA)
  have HNC := Lib.hid (show ∀ w1, Kp K1 wA w1 → w1.cell? ⟨w.heap.size, 0, none⟩ = some (.pointer (some a)) ∧ w1.cell? ⟨w.heap.size, 1, none⟩ = some (.pointer (some c)) from fun w1 hk => by
    have hg : K1 w.heap.size := by rw [hK1]; exact Or.inr ⟨Nat.le_refl _, lt_of_block hn0⟩
    exact ⟨(kp_cell hk hg).trans ((cellAt hn0 0).trans rfl), (kp_cell hk hg).trans ((cellAt hn0 1).trans rfl)⟩)
  have HOUT := Lib.hid (show ∀ r e w1, Aft E K1 wA r e w1 → Aft E K w r e w1 from fun r e w1 hg => by
    rcases hg with ⟨x, g1, g2, g3, g4, g5⟩ | ⟨o, q, g1, g2, g3, g4⟩
    · exact Or.inl ⟨x, g1, g2, g3, g4, hkA.trans (g5.mono hKK)⟩
    · exact Or.inr ⟨o, q, g1, g2, g3.less hKK, hkA.trans (g4.mono hKK)⟩)
  obtain ⟨U, hU⟩ : ∃ U, U = symsM E.most ls ds out (bitsOf E.b) p := ⟨_, rfl⟩
  have H0 := Lib.hid (⟨hJ, hU⟩ : JS E K1 wA p out ∧ _)
  have HT := Lib.hid hT
  rw [← hU]
  clear h hA hJ hn0 hK1 hkA ha hc hU hKK
  go_enter Tryz.func99, Tryz.ntmps99
  go_wp2_with fail
  rw [← hwA]
  clear hwA
  go_loopw [5, 6] (fun _ _ wr => ∃ (p1 : Nat) (o1 : By), Hid (JS E K1 wr p1 o1 ∧ Kp K1 wA wr ∧ U = symsM E.most ls ds o1 (bitsOf E.b) p1)) (fun _ _ wr => 8 * E.b.length - posW E wr)
  case atStart => exact ⟨p, out, (show _ ∧ _ ∧ _ from ⟨H0.out.1, fun _ _ => rfl, H0.out.2⟩)⟩
  case round =>
    obtain ⟨p1, o1, HC⟩ := hrel
    have hp1 := HC.out.1.pl
    obtain ⟨y0, y1⟩ := HNC.out _ HC.out.2.1
    have c0 := HC.out.1.c0
    have hCA := HCA.out.on HC.out.2.1
    have hCC := HCC.out.on HC.out.2.1
    clear H0
    rcases sy_two (hCA.len HC.out.1) E p1 with ⟨x, hx, ht⟩ | ⟨s, q, ht, hpq, hs⟩
    · have HR := Lib.hid (hCA.read_no HC.out.1 ht)
      have HE := Lib.hid (show U = .error x by rw [HC.out.2.2]; exact symsE_err hp1 (by unfold symS; rw [bnd_err ht]))
      clear ht hCA hCC
      go_wp2_with fail
      go_region_with (go_at_call 116; refine (HR.out _ (by first | exact Fr.refl _ _ | exact (Fr.refl _ _).drew | exact (Fr.refl _ _).drewN _)).mono ?_; rintro e w1 ⟨⟨s, rfl⟩, hf, hk⟩; have H1 := Lib.hid (⟨hf, HC.out.2.1.trans hk⟩ : _ ∧ _); clear hf hk)
      all_goals
        go_wp2_with fail
        go_ret
        exact HOUT.out _ _ _ (Or.inl ⟨x, hx, HE.out, rfl, H1.out⟩)
    · have HR := Lib.hid (hCA.read_ok HC.out.1 ht)
      by_cases h256 : s = 256
      · have HE := Lib.hid (show U = .ok (o1, q) by rw [HC.out.2.2]; exact symsE_end hp1 (by unfold symS; rw [bnd_of ht, if_pos h256]; rfl))
        subst h256
        clear ht hCA hCC
        go_wp2_with fail
        go_region_with (go_at_call 116; refine (HR.out _ (by first | exact Fr.refl _ _ | exact (Fr.refl _ _).drew | exact (Fr.refl _ _).drewN _)).mono ?_; rintro e w1 ⟨rfl, hf, hk⟩; have H1 := Lib.hid (⟨hf, HC.out.2.1.trans hk⟩ : _ ∧ _); clear hf hk)
        all_goals
          go_wp2_with fail
          go_ret
          exact HOUT.out _ _ _ (Or.inr ⟨o1, q, HE.out, rfl, H1.out⟩)
      · have hne : ¬ (s : Int) = 256 := by omega
        by_cases hlt : s < 256
        · have hconv : IntKind.u8.wrap (s : Int) = ((UInt8.ofNat s).toNat : Int) := by
            rw [IntKind.wrap_u8, UInt8.toNat_ofNat']
            omega
          have HS := Lib.hid (fun w1 (hj : JS E K1 w1 q o1) => psingle hj (UInt8.ofNat s))
          have HY := Lib.hid (show (E.most < o1.length + 1 → symS E.most ls ds o1 (bitsOf E.b) p1 = .error 3) ∧ (o1.length + 1 ≤ E.most → symS E.most ls ds o1 (bitsOf E.b) p1 = .ok (.inl (o1 ++ [UInt8.ofNat s]), q)) from by
            unfold symS
            rw [bnd_of ht, if_neg h256, if_neg (by omega)]
            exact ⟨fun h => by rw [if_pos h]; rfl, fun h => by rw [if_neg (by omega)]; rfl⟩)
          obtain ⟨c, hc⟩ : ∃ c, c = UInt8.ofNat s := ⟨_, rfl⟩
          rw [← hc] at hconv HS HY
          clear ht hCA hCC hc
          go_wp2_with fail
          go_region_with (go_at_call 116; refine (HR.out _ (by first | exact Fr.refl _ _ | exact (Fr.refl _ _).drew | exact (Fr.refl _ _).drewN _)).mono ?_; rintro e w1 ⟨rfl, hf, hk⟩; have H1 := Lib.hid (⟨hf, HC.out.2.1.trans hk⟩ : _ ∧ _); clear hf hk)
          all_goals
            go_wp2_with fail
            refine (HS.out _ H1.out.1).mono ?_
            rintro e w2 (⟨g1, rfl, g2, g3⟩ | ⟨g1, rfl, g2, g3⟩)
            · have H2 := Lib.hid (⟨g2.fr, H1.out.2.trans g3⟩ : _ ∧ _)
              have HE := Lib.hid (show U = .error 3 by rw [HC.out.2.2]; exact symsE_err hp1 (HY.out.1 g1))
              clear g2 g3
              go_wp2_with fail
              go_ret
              exact HOUT.out _ _ _ (Or.inl ⟨3, by decide, HE.out, rfl, H2.out⟩)
            · have H2 := Lib.hid (show JS E K1 w2 q (o1 ++ [c]) ∧ Kp K1 wA w2 ∧ U = symsM E.most ls ds (o1 ++ [c]) (bitsOf E.b) q from ⟨g2, H1.out.2.trans g3, by rw [HC.out.2.2]; exact symsE_on hp1 (HY.out.2 g1)⟩)
              clear g2 g3
              go_wp2_with fail
              go_roundw
              case rel => exact ⟨q, o1 ++ [c], H2⟩
              case measure =>
                rw [H2.out.1.pos, HC.out.1.pos]
                have := H2.out.1.pl
                omega
        · obtain ⟨k, hk⟩ : ∃ k, k = s - 257 := ⟨_, rfl⟩
          have hk1 : (s : Int) - 256 - 1 = (k : Int) := by omega
          have hw1 : IntKind.i64.wrap ((s : Int) - 256) = (s : Int) - 256 := IntWalk.i64_in _ (by omega)
          have hw2 : IntKind.i64.wrap (k : Int) = (k : Int) := IntWalk.i64_in _ (by omega)
          have HP := Lib.hid (show ∀ w1, JS E K1 w1 q o1 → Kp K1 wr w1 → _ from fun w1 hj hkp => pcopies HT.out hj k (by omega) (hCC.on hkp))
          have HY := Lib.hid (show symS E.most ls ds o1 (bitsOf E.b) p1 = bnd (copyM E.most ds o1 k) (fun o => ret (.inl o)) (bitsOf E.b) q from by
            unfold symS
            rw [bnd_of ht, if_neg h256, if_pos (by omega), ← hk])
          have HPQ := Lib.hid (good_copy E.most ds o1 k)
          clear ht hCA hCC hk
          go_wp2_with fail
          go_region_with (go_at_call 116; refine (HR.out _ (by first | exact Fr.refl _ _ | exact (Fr.refl _ _).drew | exact (Fr.refl _ _).drewN _)).mono ?_; rintro e w1 ⟨rfl, hf, hk⟩; have H1 := Lib.hid (⟨hf, hk⟩ : _ ∧ _); clear hf hk; have y2 := (HNC.out _ (HC.out.2.1.trans H1.out.2)).2)
          all_goals
            go_wp2_with fail
            refine (HP.out _ H1.out.1 H1.out.2).mono ?_
            rintro e w2 (⟨x, hx, g1, rfl, g2, g3⟩ | ⟨o2, q2, g1, rfl, g2, g3⟩)
            · have H2 := Lib.hid (⟨g2, (HC.out.2.1.trans H1.out.2).trans g3⟩ : _ ∧ _)
              have HE := Lib.hid (show U = .error x by rw [HC.out.2.2]; exact symsE_err hp1 (by rw [HY.out, bnd_err g1]))
              clear g1 g2 g3
              go_wp2_with fail
              go_ret
              exact HOUT.out _ _ _ (Or.inl ⟨x, hx, HE.out, rfl, H2.out⟩)
            · have H2 := Lib.hid (show JS E K1 w2 q2 o2 ∧ Kp K1 wA w2 ∧ U = symsM E.most ls ds o2 (bitsOf E.b) q2 from ⟨g2, (HC.out.2.1.trans H1.out.2).trans g3, by rw [HC.out.2.2]; exact symsE_on hp1 (by rw [HY.out, bnd_of g1]; rfl)⟩)
              have hq2 := (HPQ.out.ok (bits8 E.b) (by rw [bitsOf_length]; exact H1.out.1.pl) g1).1
              clear g1 g2 g3
              go_wp2_with fail
              go_roundw
              case rel => exact ⟨q2, o2, H2⟩
              case measure =>
                rw [H2.out.1.pos, HC.out.1.pos]
                have := H2.out.1.pl
                omega
end
end Go.Proofs.YtcdhakfmljjaoaaGreatDoor.ft
