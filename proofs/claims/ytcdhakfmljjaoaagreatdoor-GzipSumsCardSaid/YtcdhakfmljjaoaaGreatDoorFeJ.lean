/-
  The program's stream: a row of lengths.
-/
import Derived.Test.YtcdhakfmljjaoaaGreatDoorFeI
namespace Go.Proofs.YtcdhakfmljjaoaaGreatDoor.ft
set_option maxRecDepth 100000
open Go.RowKit Go.Maps Go.Proofs.YtcdhakfmljjaoaaGreatDoor.fl Go.Proofs.YtcdhakfmljjaoaaGreatDoor.cd
set_option maxRecDepth 100000

def againN (x : Int) (bs n : Nat) : RdM (Int × Nat) := bnd (tk n) fun t => ret (x, bs + t.toNat)
def rowM (first L : List Int) : RdM (Int × Nat) := bnd (sy first) fun k => if k ≤ 15 then ret ((k : Int), 1) else if k = 16 then (match L.getLast? with
    | none => err 110
    | some x => againN x 3 2) else if k = 17 then againN 0 3 3 else againN 0 11 7
theorem againN_err {x : Int} {bs n : Nat} {B : List Int} {p : Nat} {e : Int} (h : tk n B p = .error e) : againN x bs n B p = .error e := by unfold againN; rw [bnd_err h]
theorem againN_ok {x : Int} {bs n t q : Nat} {B : List Int} {p : Nat} (h : tk n B p = .ok ((t : Int), q)) : againN x bs n B p = .ok ((x, bs + t), q) := by unfold againN; rw [bnd_of h]; rfl
section
variable {E : En} {K : Nat → Prop} {w : World} {p : Nat} {out : By}
/-- What row answers. -/
def RowR (E : En) (K : Nat → Prop) (w : World) (out : By) (r : Except Int ((Int × Nat) × Nat)) (e : Ending) (w' : World) : Prop := (∃ x a b : Int, x ≠ 0 ∧ r = .error x ∧ e = .returned (.tuple #[.int .i64 a, .int .i64 b, .int .i64 x]) ∧ Fr (fun _ => False) E.w0 w' ∧ Kp K w w') ∨ ∃ (x : Int) (t q : Nat), r = .ok ((x, t), q) ∧ 1 ≤ t ∧ t ≤ 138 ∧ p < q ∧ e = .returned (.tuple #[.int .i64 x, .int .i64 (t : Int), .int .i64 0]) ∧ JS E K w' q out ∧ Kp K w w'
set_option maxHeartbeats 8000000 in
theorem prow (hT : Tabs E.w0) (h : JS E K w p out) {c : Addr} {first : List Int} (hc : Cds E K w c first) (h19 : first.length ≤ 19) (A : Option Addr) (cap : Nat) (L : List Int) (hm : L.length ≤ 1000) (hl : ∀ x, L.getLast? = some x → ∃ ga, A = some ⟨ga, 0, none⟩ ∧ K ga ∧ w.cell? ⟨ga, L.length - 1, none⟩ = some (.int .i64 x)) :
    Calls Tryz.prog 133 #[.pointer (some ⟨E.g, 0, none⟩), .pointer (some c), .slice A L.length cap] w (RowR (p := p) E K w out (rowM first L (bitsOf E.b) p)) := by
  have c0 := h.c0
  obtain ⟨m, hmm⟩ : ∃ m, m = L.length := ⟨_, rfl⟩
  have HMM := Lib.hid hmm
  rw [← hmm] at hm hl ⊢
  rcases sy_two (hc.len h) E p with ⟨x, hx, ht⟩ | ⟨s, q, ht, hpq, hs⟩
  · have HE := Lib.hid (show rowM first L (bitsOf E.b) p = .error x by unfold rowM; rw [bnd_err ht])
    have HR := Lib.hid (hc.read_no h ht w (Fr.refl _ _))
    clear h hc ht hl hmm
    go_enter Tryz.func133, Tryz.ntmps133
    go_wp2_with (go_at_call 116; refine HR.out.mono ?_; rintro e w1 ⟨⟨s, rfl⟩, hf, hk⟩; have H1 := Lib.hid (⟨hf, hk⟩ : _ ∧ _); clear hf hk)
    go_ret3
    exact Or.inl ⟨x, _, _, hx, HE.out, rfl, H1.out⟩
  · have hs19 : s < 19 := Nat.lt_of_lt_of_le (sy_lt ht) h19
    have HR := Lib.hid (hc.read_ok h ht w (Fr.refl _ _))
    by_cases h15 : s ≤ 15
    · have HE := Lib.hid (show rowM first L (bitsOf E.b) p = .ok (((s : Int), 1), q) by unfold rowM; rw [bnd_of ht, if_pos h15]; rfl)
      clear h hc ht hl hmm
      go_enter Tryz.func133, Tryz.ntmps133
      go_wp2_with (go_at_call 116; refine HR.out.mono ?_; rintro e w1 ⟨rfl, hf, hk⟩; have H1 := Lib.hid (⟨hf, hk⟩ : _ ∧ _); clear hf hk)
      go_ret3
      exact Or.inr ⟨_, _, _, HE.out, by omega, by omega, hpq, rfl, H1.out⟩
    · by_cases h16 : s = 16
      · cases hla : L.getLast? with
        | none =>
          have HE := Lib.hid (show rowM first L (bitsOf E.b) p = .error 110 by unfold rowM; rw [bnd_of ht, if_neg h15, if_pos h16, hla]; rfl)
          have hm0 : m = 0 := by rw [hmm, List.getLast?_eq_none_iff.1 hla]; rfl
          subst hm0 h16
          clear h hc ht hl hmm hla
          go_enter Tryz.func133, Tryz.ntmps133
          go_wp2_with (go_at_call 116; refine HR.out.mono ?_; rintro e w1 ⟨rfl, hf, hk⟩; have H1 := Lib.hid (⟨hf.fr, hk⟩ : _ ∧ _); clear hf hk)
          go_ret3
          exact Or.inl ⟨110, _, _, by decide, HE.out, rfl, H1.out⟩
        | some x =>
          obtain ⟨ga, rfl, hga, hcell⟩ := hl x hla
          have hm1 : 1 ≤ m := by
            rw [hmm]
            apply Decidable.byContradiction
            intro hn
            rw [List.eq_nil_of_length_eq_zero (l := L) (by omega)] at hla
            cases hla
          have hEQ := show rowM first L (bitsOf E.b) p = againN x 3 2 (bitsOf E.b) q by unfold rowM; rw [bnd_of ht, if_neg h15, if_pos h16, hla]
          have HF := Lib.hid (show ∀ w1, JS E K w1 q out → Kp K w w1 → w1.cell? ⟨ga, m - 1, none⟩ = some (.int .i64 x) ∧ w1.cell? ⟨6, 0, none⟩ = some (.int .i64 3) ∧ w1.cell? ⟨6, 1, none⟩ = some (.int .i64 2) from fun w1 hj hk => ⟨(kp_cell hk hga).trans hcell, (hj.tab hT).rep 0 (by omega)⟩)
          obtain ⟨z, hz⟩ : ∃ z, z = m - 1 := ⟨_, rfl⟩
          rw [← hz] at HF
          have hz1 : (m : Int) - 1 = (z : Int) := by omega
          have hz2 : IntKind.i64.wrap (z : Int) = (z : Int) := IntWalk.i64_in _ (by omega)
          have hz3 : (0 : Int) ≤ (z : Int) := by omega
          have hz4 : (z : Int) < (m : Int) := by omega
          have hm0 : ¬ (m : Int) = 0 := by omega
          subst h16
          rcases tk_two (n := 2) (by omega) E q with ht2 | ⟨t, ht2, hlt⟩
          · have HE := Lib.hid (show rowM first L (bitsOf E.b) p = .error 7 by rw [hEQ, againN_err ht2])
            have HN := Lib.hid (fun w1 (hj : JS E K w1 q out) => number_no hj 3 (by omega) (by omega) ht2 w1 (Fr.refl _ _))
            clear h hc ht hl hmm hla hEQ ht2 hcell hz
            go_enter Tryz.func133, Tryz.ntmps133
            go_wp2_with (first
              | (go_at_call 116; refine HR.out.mono ?_; rintro e w1 ⟨rfl, hf, hk⟩; obtain ⟨y0, y1, y2⟩ := HF.out _ hf hk; have H1 := Lib.hid (⟨hf, hk⟩ : _ ∧ _); clear hf hk)
              | (go_at_call 113; refine (HN.out _ H1.out.1).mono ?_; rintro e w2 ⟨⟨v, rfl⟩, hf, hk⟩; have H2 := Lib.hid (⟨hf, H1.out.2.trans hk⟩ : _ ∧ _); clear hf hk))
            go_ret3
            exact Or.inl ⟨7, _, _, by decide, HE.out, rfl, H2.out⟩
          · have ht4 : t < 4 := hlt
            have HE := Lib.hid (show rowM first L (bitsOf E.b) p = .ok ((x, 3 + t), q + 2) by rw [hEQ, againN_ok ht2])
            have HN := Lib.hid (fun w1 (hj : JS E K w1 q out) => number_ok hj 3 (by omega) (by omega) ht2 (by omega) w1 (Fr.refl _ _))
            clear h hc ht hl hmm hla hEQ ht2 hcell hz
            go_enter Tryz.func133, Tryz.ntmps133
            go_wp2_with (first
              | (go_at_call 116; refine HR.out.mono ?_; rintro e w1 ⟨rfl, hf, hk⟩; obtain ⟨y0, y1, y2⟩ := HF.out _ hf hk; have H1 := Lib.hid (⟨hf, hk⟩ : _ ∧ _); clear hf hk)
              | (go_at_call 113; refine (HN.out _ H1.out.1).mono ?_; rintro e w2 ⟨rfl, hf, hk⟩; have H2 := Lib.hid (⟨hf, H1.out.2.trans hk⟩ : _ ∧ _); clear hf hk))
            go_ret3
            exact Or.inr ⟨_, _, _, HE.out, by omega, by omega, by omega, rfl, H2.out⟩
      · obtain ⟨k, hk⟩ : ∃ k, k = s - 16 := ⟨_, rfl⟩
        have hk3 : k < 3 := by omega
        have hk0 : (0 : Int) ≤ (k : Int) := by omega
        have hk3' : (k : Int) < 3 := by omega
        have hk1 : (s : Int) - 16 = (k : Int) := by omega
        have hkw : IntKind.i64.wrap (k : Int) = (k : Int) := IntWalk.i64_in _ (by omega)
        obtain ⟨bs, hbs⟩ : ∃ bs, bs = repB k := ⟨_, rfl⟩
        obtain ⟨n, hn⟩ : ∃ n, n = repX k := ⟨_, rfl⟩
        have hbn : bs ≤ 11 ∧ 1 ≤ bs ∧ n ≤ 7 := by
          have : ∀ k, k < 3 → repB k ≤ 11 ∧ 1 ≤ repB k ∧ repX k ≤ 7 := by decide
          rw [hbs, hn]
          exact this k hk3
        have hEQ : rowM first L (bitsOf E.b) p = againN 0 bs n (bitsOf E.b) q := by
          unfold rowM
          rw [bnd_of ht, if_neg h15, if_neg h16]
          rcases (show s = 17 ∨ s = 18 by omega) with rfl | rfl
          · rw [if_pos rfl, hbs, hn, hk]; rfl
          · rw [if_neg (by omega), hbs, hn, hk]; rfl
        have HF := Lib.hid (show ∀ w1, JS E K w1 q out → w1.cell? ⟨6, k * 2, none⟩ = some (.int .i64 (bs : Int)) ∧ w1.cell? ⟨6, k * 2 + 1, none⟩ = some (.int .i64 (n : Int)) from fun w1 hj => by rw [hbs, hn]; exact (hj.tab hT).rep k hk3)
        have hs1 : ¬ (s : Int) < 16 := by omega
        have hs2 : ¬ (s : Int) = 16 := by omega
        rcases tk_two (n := n) (by omega) E q with ht2 | ⟨t, ht2, hlt⟩
        · have HE := Lib.hid (show rowM first L (bitsOf E.b) p = .error 7 by rw [hEQ, againN_err ht2])
          have HN := Lib.hid (fun w1 (hj : JS E K w1 q out) => number_no hj bs (by omega) (by omega) ht2 w1 (Fr.refl _ _))
          clear h hc ht hl hmm hEQ ht2 hk hbs hn
          go_enter Tryz.func133, Tryz.ntmps133
          go_wp2_with (first
            | (go_at_call 116; refine HR.out.mono ?_; rintro e w1 ⟨rfl, hf, hk⟩; obtain ⟨y1, y2⟩ := HF.out _ hf; have H1 := Lib.hid (⟨hf, hk⟩ : _ ∧ _); clear hf hk)
            | (go_at_call 113; refine (HN.out _ H1.out.1).mono ?_; rintro e w2 ⟨⟨v, rfl⟩, hf, hk⟩; have H2 := Lib.hid (⟨hf, H1.out.2.trans hk⟩ : _ ∧ _); clear hf hk))
          go_ret3
          exact Or.inl ⟨7, _, _, by decide, HE.out, rfl, H2.out⟩
        · have ht7 : t < 2 ^ 7 := Nat.lt_of_lt_of_le hlt (Nat.pow_le_pow_right (by omega) hbn.2.2)
          have HE := Lib.hid (show rowM first L (bitsOf E.b) p = .ok ((0, bs + t), q + n) by rw [hEQ, againN_ok ht2])
          have HN := Lib.hid (fun w1 (hj : JS E K w1 q out) => number_ok hj bs (by omega) (by omega) ht2 (by omega) w1 (Fr.refl _ _))
          clear h hc ht hl hmm hEQ ht2 hk hbs hn hlt
          go_enter Tryz.func133, Tryz.ntmps133
          go_wp2_with (first
            | (go_at_call 116; refine HR.out.mono ?_; rintro e w1 ⟨rfl, hf, hk⟩; obtain ⟨y1, y2⟩ := HF.out _ hf; have H1 := Lib.hid (⟨hf, hk⟩ : _ ∧ _); clear hf hk)
            | (go_at_call 113; refine (HN.out _ H1.out.1).mono ?_; rintro e w2 ⟨rfl, hf, hk⟩; have H2 := Lib.hid (⟨hf, H1.out.2.trans hk⟩ : _ ∧ _); clear hf hk))
          go_ret3
          exact Or.inr ⟨_, _, _, HE.out, by omega, by omega, by omega, rfl, H2.out⟩
end
end Go.Proofs.YtcdhakfmljjaoaaGreatDoor.ft
