/-
  The program's stream: lengths.
-/
import Derived.Test.YtcdhakfmljjaoaaGreatDoorFeJ
namespace Go.Proofs.YtcdhakfmljjaoaaGreatDoor.ft
set_option maxRecDepth 100000
open Go.RowKit Go.Maps Go.Proofs.YtcdhakfmljjaoaaGreatDoor.fl Go.Proofs.YtcdhakfmljjaoaaGreatDoor.cd
set_option maxRecDepth 100000

theorem row_in {first L B : List Int} {p q t : Nat} {x : Int} (hL : ∀ y ∈ L, 0 ≤ y ∧ y ≤ 15) (h : rowM first L B p = .ok ((x, t), q)) : 0 ≤ x ∧ x ≤ 15 := by
  unfold rowM at h
  obtain ⟨k, q1, h1, h2⟩ := bnd_ok h
  by_cases h15 : k ≤ 15
  · rw [if_pos h15] at h2
    cases h2
    omega
  · rw [if_neg h15] at h2
    have hag : ∀ (y : Int) (bs n : Nat), againN y bs n B q1 = .ok ((x, t), q) → x = y := fun y bs n h => by
      unfold againN at h
      obtain ⟨u, q2, _, h3⟩ := bnd_ok h
      cases h3
      rfl
    by_cases h16 : k = 16
    · rw [if_pos h16] at h2
      cases hl : L.getLast? with
      | none => rw [hl] at h2; cases h2
      | some y =>
        rw [hl] at h2
        rw [hag y 3 2 h2]
        exact hL y (List.mem_of_getLast? hl)
    · rw [if_neg h16] at h2
      by_cases h17 : k = 17
      · rw [if_pos h17] at h2
        rw [hag 0 3 3 h2]
        omega
      · rw [if_neg h17] at h2
        rw [hag 0 11 7 h2]
        omega
theorem lenS_row (first : List Int) (n : Nat) (L B : List Int) (p : Nat) (hn : ¬ n ≤ L.length) : lenS first n L B p = bnd (rowM first L) (fun xt => if n < L.length + xt.2 then err 110 else ret (.inl (L ++ List.replicate xt.2 xt.1))) B p := by
  unfold lenS
  rw [if_neg hn]
  unfold rowM
  unfold bnd
  cases sy first B p with
  | error e => rfl
  | ok v =>
    obtain ⟨k, q⟩ := v
    simp only
    by_cases h15 : k ≤ 15
    · rw [if_pos h15, if_pos h15]
      unfold ret
      simp only
      rw [if_neg (by omega)]
      rfl
    · rw [if_neg h15, if_neg h15]
      by_cases h16 : k = 16
      · rw [if_pos h16, if_pos h16]
        cases L.getLast? with
        | none => rfl
        | some x =>
          simp only
          unfold againN bnd
          cases tk 2 B q with
          | error e => rfl
          | ok v => rfl
      · rw [if_neg h16, if_neg h16]
        by_cases h17 : k = 17
        · rw [if_pos h17, if_pos h17]
          unfold againN bnd
          cases tk 3 B q with
          | error e => rfl
          | ok v => rfl
        · rw [if_neg h17, if_neg h17]
          unfold againN bnd
          cases tk 7 B q with
          | error e => rfl
          | ok v => rfl
section
variable {first : List Int} {n : Nat} {L : List Int} {b : By} {p : Nat}
theorem lens_more (hp : p ≤ 8 * b.length) : loopM (lenS first n) L (bitsOf b) p = match lenS first n L (bitsOf b) p with
    | .error e => .error e
    | .ok (.inl s', q) => loopM (lenS first n) s' (bitsOf b) q
    | .ok (.inr o, q) => .ok (o, q) := by
  rw [loopM_eq (good_lenS first n) (prog_lenS first n) L (bitsOf b) p (bits8 b) (by rw [bitsOf_length]; exact hp)]
  cases lenS first n L (bitsOf b) p with
  | error e => rfl
  | ok v =>
    obtain ⟨r, q⟩ := v
    cases r with
    | inl s => rfl
    | inr o => rfl
theorem lens_end (hp : p ≤ 8 * b.length) (hn : n ≤ L.length) : loopM (lenS first n) L (bitsOf b) p = .ok (L, p) := by
  rw [lens_more hp]
  unfold lenS
  rw [if_pos hn]
  rfl
theorem lens_err (hp : p ≤ 8 * b.length) (hn : ¬ n ≤ L.length) {x : Int} (h : rowM first L (bitsOf b) p = .error x) : loopM (lenS first n) L (bitsOf b) p = .error x := by
  rw [lens_more hp, lenS_row _ _ _ _ _ hn, bnd_err h]
theorem lens_far (hp : p ≤ 8 * b.length) (hn : ¬ n ≤ L.length) {x : Int} {t q : Nat} (h : rowM first L (bitsOf b) p = .ok ((x, t), q)) (ht : n < L.length + t) : loopM (lenS first n) L (bitsOf b) p = .error 110 := by
  rw [lens_more hp, lenS_row _ _ _ _ _ hn, bnd_of h, if_pos ht]
  rfl
theorem lens_on (hp : p ≤ 8 * b.length) (hn : ¬ n ≤ L.length) {x : Int} {t q : Nat} (h : rowM first L (bitsOf b) p = .ok ((x, t), q)) (ht : ¬ n < L.length + t) : loopM (lenS first n) L (bitsOf b) p = loopM (lenS first n) (L ++ List.replicate t x) (bitsOf b) q := by
  rw [lens_more hp, lenS_row _ _ _ _ _ hn, bnd_of h, if_neg ht]
  rfl
end
section
variable {E : En} {K : Nat → Prop} {w : World} {p : Nat} {out : By}
/-- One number more, in a row of the caller's own. -/
theorem lens_snoc {wr w2 : World} {q m cap : Nat} {A : Option Addr} {L : List Int} {x : Int} {v : Value} {o : Obj} (hd : ∀ i, oB A = some i → ¬ K i ∧ ¬ E.F i) (hj : JS E (fun i => K i ∨ oB A = some i) wr q out) (hk : Kp K w wr) (hm : m = L.length)
    (hown : w2.ownsRow E.w0.heap.size 3 1 v (m + 1) (is L ++ [.int .i64 x])) (hg : (wr.alloc o).grownBy w2 (Value.slice A m cap).ownBlock) (hat : v.ownBlock = (Value.slice A m cap).ownBlock ∨ v.ownBlock = some (wr.alloc o).heap.size) :
    ∃ A' cap', v = .slice A' (m + 1) cap' ∧ m + 1 = (L ++ [x]).length ∧ w2.ownsRow E.w0.heap.size 3 1 (.slice A' (m + 1) cap') (m + 1) (is (L ++ [x])) ∧ JS E (fun i => K i ∨ oB A' = some i) w2 q out ∧ Kp K w w2 ∧ ∀ i, oB A' = some i → ¬ K i ∧ ¬ E.F i := by
  have hl : m + 1 = (L ++ [x]).length := by rw [List.length_append, ← hm]; rfl
  obtain ⟨A', cap', rfl⟩ : ∃ A' cap', v = .slice A' (m + 1) cap' := by
    rcases hown.2 with ⟨e, e2⟩ | ⟨q, c, cur, e, _⟩
    · exact ⟨none, 0, by rw [e, e2]⟩
    · exact ⟨some ⟨q, 0, none⟩, c, e⟩
  rw [oB_is] at hg
  rw [oB_is, oB_is] at hat
  have hF : Fr (fun i => oB A = some i) wr w2 := ((Fr.refl (fun i => oB A = some i) wr).alloc o).grown hg (fun k hk => Or.inl hk)
  have hn : ∀ i, oB A' = some i → oB A = some i ∨ (wr.heap.size ≤ i ∧ i < w2.heap.size) := fun i hi => by
    rcases hat with e | e
    · rw [e] at hi; exact Or.inl hi
    · have := (own_le hown hi).2
      rw [e] at hi
      cases hi
      exact Or.inr ⟨by rw [World.size_alloc]; omega, this⟩
  refine ⟨A', cap', rfl, hl, by rw [is_append]; exact hown, (hj.mine hF (fun i hi => ⟨Or.inr hi, fun e => ?_⟩)).less (fun i hi => ?_), hk.trans (fun i hi => hF.block i (hj.k i (Or.inl hi)).2 (fun e => ?_)), fun i hi => ?_⟩
  · exact (hd i hi).2 e
  · rcases hi with hi | hi
    · exact Or.inl (Or.inl hi)
    · rcases hn i hi with e | e
      · exact Or.inl (Or.inr e)
      · exact Or.inr e
  · exact (hd i e).1 hi
  · rcases hn i hi with e | e
    · exact hd i e
    · obtain ⟨_, _, _, _, _, _, f5⟩ := hj.fx
      exact ⟨fun e2 => by have := (hj.k i (Or.inl e2)).2; omega, fun e2 => by have := (f5 i e2).2; omega⟩
/-- What lengths answers. -/
def LensR (E : En) (K : Nat → Prop) (w : World) (out : By) (n : Nat) (r : Except Int (List Int × Nat)) (e : Ending) (w' : World) : Prop := (∃ x : Int, x ≠ 0 ∧ r = .error x ∧ e = .returned (.tuple #[.slice none 0 0, .int .i64 x]) ∧ Fr (fun _ => False) E.w0 w' ∧ Kp K w w') ∨ ∃ L q A cap, r = .ok (L, q) ∧ L.length = n ∧ (∀ x ∈ L, 0 ≤ x ∧ x ≤ 15) ∧ e = .returned (.tuple #[.slice A n cap, .int .i64 0]) ∧ w'.ownsRow E.w0.heap.size 3 1 (.slice A n cap) n (is L) ∧ JS E (fun i => K i ∨ oB A = some i) w' q out ∧ Kp K w w'
theorem Cds.wide {wr : World} {c : Addr} {ds : List Int} {X : Nat → Prop} (h : Cds E K w c ds) (hk : Kp K w wr) : Cds E (fun i => K i ∨ X i) wr c ds := h.more (fun _ e => Or.inl e) hk
set_option maxHeartbeats 8000000 in
theorem plengths (hT : Tabs E.w0) (h : JS E K w p out) {c : Addr} {first : List Int} (hc : Cds E K w c first) (h19 : first.length ≤ 19) (n : Nat) (hn : n ≤ 320) :
    Calls Tryz.prog 115 #[.pointer (some ⟨E.g, 0, none⟩), .pointer (some c), .int .i64 (n : Int)] w (LensR E K w out n (lensM first n (bitsOf E.b) p)) := by
  obtain ⟨U, hU⟩ : ∃ U, U = lensM first n (bitsOf E.b) p := ⟨_, rfl⟩
  have H0 := Lib.hid (show JS E (fun i => K i ∨ oB none = some i) w p out ∧ U = loopM (lenS first n) [] (bitsOf E.b) p from ⟨h.less (fun i hi => hi.elim id (fun e => by cases e)), hU⟩)
  have HCC := Lib.hid hc
  have HT := Lib.hid hT
  obtain ⟨i0, hi, hz0, hz1, hz2⟩ := info_parts infoI
  have HI := Lib.hid (⟨hi, hz0, hz1, hz2⟩ : _ ∧ _ ∧ _ ∧ _)
  rw [← hU]
  clear h hc hU hT hi hz0 hz1 hz2
  go_enter Tryz.func115, Tryz.ntmps115
  go_wp2_with fail
  go_loopw [8, 9, 10, 11] (fun v8 _ _ _ wr => ∃ (m p1 : Nat) (A : Option Addr) (cap : Nat) (L : List Int), m ≤ n ∧ v8 = .slice A m cap ∧ Hid ((∀ i, oB A = some i → ¬ K i ∧ ¬ E.F i) ∧ m = L.length ∧ (∀ x ∈ L, 0 ≤ x ∧ x ≤ 15) ∧ JS E (fun i => K i ∨ oB A = some i) wr p1 out ∧ Kp K w wr ∧ wr.ownsRow E.w0.heap.size 3 1 (.slice A m cap) m (is L) ∧ U = loopM (lenS first n) L (bitsOf E.b) p1)) (fun _ _ _ _ wr => 8 * E.b.length - posW E wr)
  case atStart => exact ⟨0, p, none, 0, [], Nat.zero_le _, rfl, (show _ ∧ _ from ⟨(fun _ e => by cases e), rfl, (fun x hx => by cases hx), H0.out.1, fun _ _ => rfl, World.ownsRow_nil w _ _ _, H0.out.2⟩)⟩
  case round =>
    obtain ⟨m, p1, A, cap, L, hm, rfl, HC⟩ := hrel
    clear H0
    by_cases hlt : m < n
    · have HR := Lib.hid (show Calls Tryz.prog 133 #[.pointer (some ⟨E.g, 0, none⟩), .pointer (some c), .slice A m cap] wr (RowR (p := p1) E (fun i => K i ∨ oB A = some i) wr out (rowM first L (bitsOf E.b) p1)) from by
        have := prow HT.out HC.out.2.2.2.1 (HCC.out.wide HC.out.2.2.2.2.1) h19 A cap L (by have := HC.out.2.1; omega) (fun x hx => by
          obtain ⟨_, hm1, _, _, _, ho, _⟩ := HC.out
          rcases ho.2 with ⟨e, e0⟩ | ⟨q, c, cur, e, _⟩
          · rw [List.eq_nil_of_length_eq_zero (l := L) (by omega)] at hx; cases hx
          · have hO : OwnI wr E.w0.heap.size (.slice A L.length cap) L := by unfold OwnI; rw [← hm1]; exact ho
            have hne : 0 < L.length := by
              apply Decidable.byContradiction
              intro hz
              rw [List.eq_nil_of_length_eq_zero (l := L) (by omega)] at hx
              cases hx
            obtain ⟨ga, h1, h2, h3, h4, _⟩ := hO.at_ (k := L.length - 1) (by omega)
            refine ⟨ga, h1, Or.inr (by rw [h1]; rfl), ?_⟩
            rw [h4]
            rw [List.getLast?_eq_getElem?, List.getElem?_eq_getElem (by omega)] at hx
            rw [Option.some.inj hx])
        rw [← HC.out.2.1] at this
        exact this)
      have hp1 := HC.out.2.2.2.1.pl
      go_wp2_with fail
      refine HR.out.mono ?_
      rintro e w1 (⟨x, a, b, hx, g1, rfl, g2, g3⟩ | ⟨x, t, q, g1, ht1, ht2, hpq, rfl, g2, g3⟩)
      · have HE := Lib.hid (show U = .error x by rw [HC.out.2.2.2.2.2.2]; exact lens_err hp1 (by have := HC.out.2.1; omega) g1)
        have H1 := Lib.hid (⟨g2, HC.out.2.2.2.2.1.trans (g3.mono (fun _ e => Or.inl e))⟩ : _ ∧ _)
        clear g1 g2 g3
        go_wp2_with fail
        go_ret2
        exact Or.inl ⟨x, hx, HE.out, rfl, H1.out⟩
      · have hx15 := row_in HC.out.2.2.1 g1
        by_cases hfar : n < m + t
        · have HE := Lib.hid (show U = .error 110 by rw [HC.out.2.2.2.2.2.2]; exact lens_far hp1 (by have := HC.out.2.1; omega) g1 (by have := HC.out.2.1; omega))
          have H1 := Lib.hid (⟨g2.fr, HC.out.2.2.2.2.1.trans (g3.mono (fun _ e => Or.inl e))⟩ : _ ∧ _)
          clear g1 g2 g3
          go_wp2_with fail
          go_ret2
          exact Or.inl ⟨110, by decide, HE.out, rfl, H1.out⟩
        · have HON := Lib.hid (show U = loopM (lenS first n) (L ++ List.replicate t x) (bitsOf E.b) q by rw [HC.out.2.2.2.2.2.2]; exact lens_on hp1 (by have := HC.out.2.1; omega) g1 (by have := HC.out.2.1; omega))
          have HPQ := Lib.hid (show posW E wr = p1 from HC.out.2.2.2.1.pos)
          have HM := Lib.hid HC.out.2.1
          have HL := Lib.hid HC.out.2.2.1
          have H1 := Lib.hid (show (∀ i, oB A = some i → ¬ K i ∧ ¬ E.F i) ∧ JS E (fun i => K i ∨ oB A = some i) w1 q out ∧ Kp K w w1 ∧ w1.ownsRow E.w0.heap.size 3 1 (.slice A m cap) m (is L) from ⟨HC.out.1, g2, HC.out.2.2.2.2.1.trans (g3.mono (fun _ e => Or.inl e)), by
            have ho := HC.out.2.2.2.2.2.1
            rcases ho.2 with ⟨e, e0⟩ | ⟨z, cc, cur, e, hz, hh, r⟩
            · exact ⟨ho.1, Or.inl ⟨e, e0⟩⟩
            · exact ⟨ho.1, Or.inr ⟨z, cc, cur, e, hz, (g3 z (Or.inr (by cases e; rfl))).trans hh, r⟩⟩⟩)
          clear g1 g2 g3 HC HR
          go_wp2_with fail
          go_loopw [8, 36] (fun v8 v36 wr2 => ∃ (k mk : Nat) (A' : Option Addr) (cap' : Nat), k ≤ t ∧ mk = m + k ∧ v36 = .int .i64 k ∧ v8 = .slice A' mk cap' ∧ Hid ((∀ i, oB A' = some i → ¬ K i ∧ ¬ E.F i) ∧ JS E (fun i => K i ∨ oB A' = some i) wr2 q out ∧ Kp K w wr2 ∧ wr2.ownsRow E.w0.heap.size 3 1 (.slice A' mk cap') mk (is (L ++ List.replicate k x)))) (fun _ v _ => t - (intOf v).toNat)
          case atStart => exact ⟨0, m, A, cap, Nat.zero_le _, rfl, rfl, rfl, (show _ ∧ _ ∧ _ ∧ _ from ⟨H1.out.1, H1.out.2.1, H1.out.2.2.1, by rw [List.replicate_zero, List.append_nil]; exact H1.out.2.2.2⟩)⟩
          case round =>
            obtain ⟨k, mk, A', cap', hk, hmk, rfl, rfl, HK⟩ := hrel
            clear H1
            by_cases hkt : k < t
            · have hmk9 : mk ≤ 320 := by omega
              have HSZ := Lib.hid (show E.w0.heap.size ≤ wr.heap.size from HK.out.2.1.fr.size)
              have HMK := Lib.hid (show mk = (L ++ List.replicate k x).length by rw [List.length_append, List.length_replicate]; have := HM.out; omega)
              have HRP := Lib.hid (show L ++ List.replicate (k + 1) x = (L ++ List.replicate k x) ++ [x] by rw [List.replicate_succ', List.append_assoc])
              go_wp2_with (at_builtin; refine wpList_append_own_at _ rfl (.tmp 38) (.tmp 40) 66 rfl E.w0.heap.size 3 i0 (.int .i64 0) 1 8 Tryz.underlying66 HI.out.1 HI.out.2.1 HI.out.2.2.1 HI.out.2.2.2 rfl (by omega) _ mk (is (L ++ List.replicate k x)) rfl (World.ownsRow.alloc HK.out.2.2.2 _) ⟨wr.heap.size, 0, none⟩ 1 1 [.int .i64 x] rfl rfl (newsI _ (heap_alloc_new _ _)) (oneI _) (by unfold maxLen; omega) (by omega) (by have := HSZ.out; rw [World.size_alloc]; omega) ?_; intro v9 w9 hown9 hg9 _ hat9)
              obtain ⟨A9, cap9, e9, hl9, ho9, hj9, hk9, hd9⟩ := lens_snoc HK.out.1 HK.out.2.1 HK.out.2.2.1 HMK.out hown9 hg9 hat9
              subst e9
              have H9 := Lib.hid (show (∀ i, oB A9 = some i → ¬ K i ∧ ¬ E.F i) ∧ JS E (fun i => K i ∨ oB A9 = some i) w9 q out ∧ Kp K w w9 ∧ w9.ownsRow E.w0.heap.size 3 1 (.slice A9 (mk + 1) cap9) (mk + 1) (is (L ++ List.replicate (k + 1) x)) from ⟨hd9, hj9, hk9, by rw [HRP.out]; exact ho9⟩)
              clear hown9 hg9 hat9 hl9 ho9 hj9 hk9 hd9 HK
              go_wp2_with fail
              go_roundw
              case rel => exact ⟨k + 1, mk + 1, A9, cap9, by omega, by omega, by go_num, rfl, H9⟩
              case measure => simp [intOf]; omega
            · obtain rfl : k = t := by omega
              have H9 := Lib.hid (show (∀ i, oB A' = some i → ¬ K i ∧ ¬ E.F i) ∧ mk = (L ++ List.replicate k x).length ∧ (∀ y ∈ L ++ List.replicate k x, 0 ≤ y ∧ y ≤ 15) ∧ JS E (fun i => K i ∨ oB A' = some i) wr q out ∧ Kp K w wr ∧ wr.ownsRow E.w0.heap.size 3 1 (.slice A' mk cap') mk (is (L ++ List.replicate k x)) ∧ U = loopM (lenS first n) (L ++ List.replicate k x) (bitsOf E.b) q from ⟨HK.out.1, by rw [List.length_append, List.length_replicate]; have := HM.out; omega, fun y hy => by
                rcases List.mem_append.1 hy with e | e
                · exact HL.out y e
                · rw [List.eq_of_mem_replicate e]; exact hx15, HK.out.2.1, HK.out.2.2.1, HK.out.2.2.2, HON.out⟩)
              clear HK
              go_wp2_with fail
              go_roundw
              case rel => exact ⟨mk, q, A', cap', _, by omega, rfl, H9⟩
              case measure =>
                rw [H9.out.2.2.2.1.pos, HPQ.out]
                have := H9.out.2.2.2.1.pl
                omega
    · obtain rfl : m = n := by omega
      have HE := Lib.hid (show U = .ok (L, p1) by rw [HC.out.2.2.2.2.2.2]; exact lens_end HC.out.2.2.2.1.pl (by have := HC.out.2.1; omega))
      go_wp2_with fail
      go_ret2
      exact Or.inr ⟨L, p1, A, cap, HE.out, HC.out.2.1.symm, HC.out.2.2.1, rfl, HC.out.2.2.2.2.2.1, HC.out.2.2.2.1, HC.out.2.2.2.2.1⟩
end
end Go.Proofs.YtcdhakfmljjaoaaGreatDoor.ft
