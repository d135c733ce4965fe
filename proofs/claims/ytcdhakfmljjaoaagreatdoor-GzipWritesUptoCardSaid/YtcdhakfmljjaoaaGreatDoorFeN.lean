/-
  The program's stream: block, blocks.
-/
import Derived.Test.YtcdhakfmljjaoaaGreatDoorFeL
namespace Go.Proofs.YtcdhakfmljjaoaaGreatDoor.ft
set_option maxRecDepth 100000
open Go.RowKit Go.Maps Go.Proofs.YtcdhakfmljjaoaaGreatDoor.fl Go.Proofs.YtcdhakfmljjaoaaGreatDoor.cd
set_option maxRecDepth 100000

def blkM (most : Nat) (out : By) : RdM By := bnd (tk 2) fun kind => kindM most kind out
theorem blockS_is (most : Nat) (out : By) (B : List Int) (p : Nat) : blockS most out B p = bnd (tk 1) (fun last => bnd (blkM most out) fun o => ret (if last = 0 then .inl o else .inr o)) B p := by
  unfold blockS blkM
  unfold bnd
  cases tk 1 B p with
  | error e => rfl
  | ok v =>
    obtain ⟨l, q⟩ := v
    simp only
    cases tk 2 B q with
    | error e => rfl
    | ok v => rfl
theorem good_blk (most : Nat) (out : By) : Good (blkM most out) := good_bnd (good_tk _) fun _ => good_kind _ _ _
section
variable {E : En} {K K1 : Nat → Prop} {w wA : World} {p : Nat} {out : By}
theorem Aft.wide {r : Except Int (By × Nat)} {e : Ending} {w1 : World} (h : Aft E K1 wA r e w1) (hK : ∀ i, K i → K1 i) (hk : Kp K w wA) : Aft E K w r e w1 := by
  rcases h with ⟨x, g1, g2, g3, g4, g5⟩ | ⟨o, q, g1, g2, g3, g4⟩
  · exact Or.inl ⟨x, g1, g2, g3, g4, hk.trans (g5.mono hK)⟩
  · exact Or.inr ⟨o, q, g1, g2, g3.less hK, hk.trans (g4.mono hK)⟩
theorem Aft.val_ {r : Except Int (By × Nat)} {e : Ending} {w1 : World} (h : Aft E K w r e w1) : ∃ x : Int, e = .returned (.int .i64 x) ∧ Aft E K w r (.returned (.int .i64 x)) w1 := by
  rcases h with ⟨x, g1, g2, rfl, g⟩ | ⟨o, q, g1, rfl, g⟩
  · exact ⟨x, rfl, Or.inl ⟨x, g1, g2, rfl, g⟩⟩
  · exact ⟨0, rfl, Or.inr ⟨o, q, g1, rfl, g⟩⟩
theorem JS.c1 (h : JS E K w p out) : w.cell? ⟨E.g, 1, none⟩ = some (.pointer (some E.cs)) := by obtain ⟨_, _, _, h1, _⟩ := h.cells; exact h1
theorem JS.c2 (h : JS E K w p out) : w.cell? ⟨E.g, 2, none⟩ = some (.pointer (some E.cd)) := by obtain ⟨_, _, _, _, h1, _⟩ := h.cells; exact h1
set_option maxHeartbeats 8000000 in
theorem pblock (hT : Tabs E.w0) (h : JS E K w p out) : Calls Tryz.prog 76 #[.pointer (some ⟨E.g, 0, none⟩)] w (Aft E K w (blkM E.most out (bitsOf E.b) p)) := by
  have c0 := h.c0
  rcases tk_two (n := 2) (by omega) E p with ht | ⟨x, ht, hx⟩
  · have HR := Lib.hid (h.take_no (by omega) ht w (Fr.refl _ _))
    have HE := Lib.hid (show blkM E.most out (bitsOf E.b) p = .error 7 by unfold blkM; rw [bnd_err ht])
    clear h ht
    go_enter Tryz.func76, Tryz.ntmps76
    go_wp2_with (go_at_call 75; refine HR.out.mono ?_; rintro e w1 ⟨rfl, hf, hk⟩; have H1 := Lib.hid (⟨hf, hk⟩ : _ ∧ _); clear hf hk)
    go_ret
    exact Or.inl ⟨7, by decide, HE.out, rfl, H1.out⟩
  · have hx4 : x < 4 := hx
    have HR := Lib.hid (h.take_ok (by omega) ht w (Fr.refl _ _))
    have HB := Lib.hid (show blkM E.most out (bitsOf E.b) p = kindM E.most (x : Int) out (bitsOf E.b) (p + 2) by unfold blkM; rw [bnd_of ht])
    obtain ⟨U, hU⟩ : ∃ U, U = blkM E.most out (bitsOf E.b) p := ⟨_, rfl⟩
    rw [← hU] at HB ⊢
    have HT := Lib.hid hT
    clear h ht hx hU hT
    by_cases h0 : x = 0
    · subst h0
      have HE := Lib.hid (show U = plainM E.most out (bitsOf E.b) (p + 2) by rw [HB.out]; unfold kindM; rw [if_pos (by rfl)])
      go_enter Tryz.func76, Tryz.ntmps76
      go_wp2_with (go_at_call 75; refine HR.out.mono ?_; rintro e w1 ⟨rfl, hj, hk⟩; have H1 := Lib.hid (⟨hj, hk⟩ : _ ∧ _); have c1 := hj.c1; have c2 := hj.c2; clear hj hk)
      have hA := (Fr.refl (fun _ => False) w1).alloc (prC (some E.cs) (some E.cd))
      refine (pplain (H1.out.1.still hA)).mono ?_
      intro e w2 hg
      obtain ⟨z, rfl, hg⟩ := hg.val_
      have H2 := Lib.hid (hg.wide (fun _ e => e) (H1.out.2.trans (H1.out.1.kp hA)))
      clear hg
      go_wp2_with fail
      go_ret
      rw [HE.out]
      exact H2.out
    · by_cases h1 : x = 1
      · subst h1
        have HE := Lib.hid (show U = symsM E.most fixI five2 out (bitsOf E.b) (p + 2) by rw [HB.out]; unfold kindM; rw [if_neg (by decide), if_pos (by rfl)]; exact five_syms (bitsOf_bits E.b) _ _ _ _)
        go_enter Tryz.func76, Tryz.ntmps76
        go_wp2_with (go_at_call 75; refine HR.out.mono ?_; rintro e w1 ⟨rfl, hj, hk⟩; have H1 := Lib.hid (⟨hj, hk⟩ : _ ∧ _); have c1 := hj.c1; have c2 := hj.c2; clear hj hk)
        have hA := (Fr.refl (fun _ => False) w1).alloc (prC (some E.cs) (some E.cd))
        refine (psymbols HT.out (H1.out.1.still hA) cds_s cds_d).mono ?_
        intro e w2 hg
        obtain ⟨z, rfl, hg⟩ := hg.val_
        have H2 := Lib.hid (hg.wide (fun _ e => e) (H1.out.2.trans (H1.out.1.kp hA)))
        clear hg
        go_wp2_with fail
        go_ret
        rw [HE.out]
        exact H2.out
      · by_cases h2 : x = 2
        · subst h2
          have HE := Lib.hid (show U = bnd told0 (fun ab => symsM E.most ab.1 ab.2 out) (bitsOf E.b) (p + 2) by rw [HB.out, ← told_pair]; unfold kindM; rw [if_neg (by decide), if_neg (by decide), if_pos (by rfl)])
          go_enter Tryz.func76, Tryz.ntmps76
          go_wp2_with (go_at_call 75; refine HR.out.mono ?_; rintro e w1 ⟨rfl, hj, hk⟩; have H1 := Lib.hid (⟨hj, hk⟩ : _ ∧ _); have c1 := hj.c1; have c2 := hj.c2; clear hj hk)
          have hA := (Fr.refl (fun _ => False) w1).alloc (prC (some E.cs) (some E.cd))
          have hJA := H1.out.1.new hA
          have hgc := heap_alloc_new w1 (prC (some E.cs) (some E.cd))
          have hgcF : ¬ E.F w1.heap.size := fun e => by
            obtain ⟨_, _, _, _, _, _, f5⟩ := H1.out.1.fx
            have := (f5 _ e).2
            omega
          have hgcK : ¬ K w1.heap.size := fun e => by have := (H1.out.1.k _ e).2; omega
          have hgs := H1.out.1.fr.size
          obtain ⟨wA, hwA⟩ : ∃ wA, wA = w1.alloc (prC (some E.cs) (some E.cd)) := ⟨_, rfl⟩
          obtain ⟨gc, hgg⟩ : ∃ gc, gc = w1.heap.size := ⟨_, rfl⟩
          have HKA := Lib.hid (show Kp K w wA by rw [hwA]; exact H1.out.2.trans (H1.out.1.kp hA))
          rw [← hwA] at hJA hgc
          have HJA := Lib.hid (show JS E (fun i => K i ∨ i = gc) wA (p + 2) out from hJA.less (fun i hi => hi.imp id (fun e => by rw [e, hgg]; exact ⟨Nat.le_refl _, lt_of_block hgc⟩)))
          rw [← hgg] at hgc hgcF hgcK hgs
          have HG := Lib.hid (⟨hgc, hgcF, hgcK, hgs⟩ : _ ∧ _ ∧ _ ∧ _)
          rw [show Obj.cells #[Value.pointer (some E.cs), Value.pointer (some E.cd)] 78 = prC (some E.cs) (some E.cd) from rfl, ← hwA, ← hgg]
          clear hA hJA hgc hgcF hgcK hgs hwA hgg H1 c1 c2
          refine (ptold HT.out HJA.out).mono ?_
          rintro e w2 (⟨z, hz, g1, rfl, g2, g3⟩ | ⟨l, m, q, a, b, S, T, g1, rfl, g2, g3, gn, g4, g5⟩)
          · have hb := (g3 gc (Or.inr rfl)).trans HG.out.1
            have HPS := Lib.hid (pair_set (a' := none) (b' := none) hb (Nat.le_trans (Nat.le_refl _) HG.out.2.2.2) g2)
            obtain ⟨y0, y1, z0, z1, -⟩ := HPS.out
            have HEE := Lib.hid (show U = .error z by rw [HE.out, bnd_err g1])
            have HK2 := Lib.hid (show Kp K w ((w2.setCell ⟨gc, 0, none⟩ (.pointer none)).setCell ⟨gc, 1, none⟩ (.pointer none)) from (HKA.out.trans (g3.mono (fun _ e => Or.inl e))).trans (fun i hi => by
              have hne : i ≠ gc := fun e => HG.out.2.2.1 (by rw [← e]; exact hi)
              exact (Below.heap_setCell _ _ _ _ hne).trans (Below.heap_setCell _ _ _ _ hne)))
            clear g1 g2 g3 hb
            go_wp2_with fail
            go_ret
            obtain ⟨-, -, -, -, p5, p6, p7⟩ := HPS.out
            exact Or.inl ⟨z, hz, HEE.out, rfl, p6, HK2.out⟩
          · have hb := (g5 gc (Or.inr rfl)).trans HG.out.1
            have HPS := Lib.hid (pair_set (a' := some a) (b' := some b) hb (Nat.le_trans (Nat.le_refl _) HG.out.2.2.2) g4.fr)
            obtain ⟨y0, y1, z0, z1, p5, p6, p7⟩ := HPS.out
            have hj3 := (g4.mine p7 (fun i e => ⟨Or.inl (Or.inr e), by rw [e]; exact HG.out.2.1⟩)).less (K' := fun i => (K i ∨ i = gc) ∨ S i ∨ T i) (fun _ e => Or.inl e)
            have ha := cds_of (E := E) (code_all.c_keep g2 p7 (fun i hi e => gn i (Or.inl hi) (Or.inr e))) (K := fun i => (K i ∨ i = gc) ∨ S i ∨ T i) (fun i hi => Or.inr (Or.inl hi))
            have hbb := cds_of (E := E) (code_all.c_keep g3 p7 (fun i hi e => gn i (Or.inr hi) (Or.inr e))) (K := fun i => (K i ∨ i = gc) ∨ S i ∨ T i) (fun i hi => Or.inr (Or.inr hi))
            have HSY := Lib.hid (psymbols HT.out hj3 ha hbb)
            have HEE := Lib.hid (show U = symsM E.most l m out (bitsOf E.b) q by rw [HE.out, bnd_of g1])
            have HK2 := Lib.hid (show Kp K w ((w2.setCell ⟨gc, 0, none⟩ (.pointer (some a))).setCell ⟨gc, 1, none⟩ (.pointer (some b))) from (HKA.out.trans (g5.mono (fun _ e => Or.inl e))).trans (fun i hi => by
              have hne : i ≠ gc := fun e => HG.out.2.2.1 (by rw [← e]; exact hi)
              exact (Below.heap_setCell _ _ _ _ hne).trans (Below.heap_setCell _ _ _ _ hne)))
            have HC5 := Lib.hid p5
            clear g1 g2 g3 g4 g5 gn hb p5 p6 p7 hj3 ha hbb
            go_wp2_with fail
            refine HSY.out.mono ?_
            intro e w4 hg
            obtain ⟨z, rfl, hg⟩ := hg.val_
            have H4 := Lib.hid (hg.wide (K := K) (w := w) (fun _ e => Or.inl (Or.inl e)) HK2.out)
            clear hg
            go_wp2_with fail
            go_ret
            rw [HEE.out]
            exact H4.out
        · have HE := Lib.hid (show U = .error 110 by rw [HB.out]; unfold kindM; rw [if_neg (by omega), if_neg (by omega), if_neg (by omega)]; rfl)
          have n0 : ¬ (x : Int) = 0 := by omega
          have n1 : ¬ (x : Int) = 1 := by omega
          have n2 : ¬ (x : Int) = 2 := by omega
          go_enter Tryz.func76, Tryz.ntmps76
          go_wp2_with (go_at_call 75; refine HR.out.mono ?_; rintro e w1 ⟨rfl, hj, hk⟩; have H1 := Lib.hid (⟨hj, hk⟩ : _ ∧ _); have c1 := hj.c1; have c2 := hj.c2; clear hj hk)
          have hA := (Fr.refl (fun _ => False) w1).alloc (prC (some E.cs) (some E.cd))
          go_ret
          rw [HE.out]
          exact Or.inl ⟨110, by decide, rfl, rfl, H1.out.1.fr.trans hA (fun _ _ e => e), H1.out.2.trans (H1.out.1.kp hA)⟩
theorem blocks_more (most : Nat) (b : By) {out : By} {p : Nat} (hp : p ≤ 8 * b.length) : loopM (blockS most) out (bitsOf b) p = match blockS most out (bitsOf b) p with
    | .error e => .error e
    | .ok (.inl s', q) => loopM (blockS most) s' (bitsOf b) q
    | .ok (.inr o, q) => .ok (o, q) := by
  rw [loopM_eq (good_blockS most) (prog_blockS most) out (bitsOf b) p (bits8 b) (by rw [bitsOf_length]; exact hp)]
  cases blockS most out (bitsOf b) p with
  | error e => rfl
  | ok v =>
    obtain ⟨r, q⟩ := v
    cases r with
    | inl s => rfl
    | inr o => rfl
set_option maxHeartbeats 8000000 in
theorem pblocks (hT : Tabs E.w0) (h : JS E K w p out) : Calls Tryz.prog 54 #[.pointer (some ⟨E.g, 0, none⟩)] w (Aft E K w (loopM (blockS E.most) out (bitsOf E.b) p)) := by
  obtain ⟨U, hU⟩ : ∃ U, U = loopM (blockS E.most) out (bitsOf E.b) p := ⟨_, rfl⟩
  have H0 := Lib.hid (⟨h, hU⟩ : JS E K w p out ∧ _)
  have HT := Lib.hid hT
  rw [← hU]
  clear h hU hT
  go_enter Tryz.func54, Tryz.ntmps54
  go_wp2_with fail
  go_loopw [3, 4] (fun _ _ wr => ∃ (p1 : Nat) (o1 : By), Hid (JS E K wr p1 o1 ∧ Kp K w wr ∧ U = loopM (blockS E.most) o1 (bitsOf E.b) p1)) (fun _ _ wr => 8 * E.b.length - posW E wr)
  case atStart => exact ⟨p, out, (show _ ∧ _ ∧ _ from ⟨H0.out.1, fun _ _ => rfl, H0.out.2⟩)⟩
  case round =>
    obtain ⟨p1, o1, HC⟩ := hrel
    have c0 := HC.out.1.c0
    have hp1 := HC.out.1.pl
    have HM := Lib.hid (show U = _ from HC.out.2.2.trans (blocks_more E.most E.b hp1))
    have HBS := Lib.hid (blockS_is E.most o1 (bitsOf E.b) p1)
    clear H0
    rcases tk_two (n := 1) (by omega) E p1 with ht | ⟨x, ht, hx⟩
    · have HR := Lib.hid (HC.out.1.take_no (by omega) ht wr (Fr.refl _ _))
      have HE := Lib.hid (show U = .error 7 by rw [HM.out, HBS.out, bnd_err ht])
      clear ht
      go_wp2_with (go_at_call 75; refine HR.out.mono ?_; rintro e w1 ⟨rfl, hf, hk⟩; have H1 := Lib.hid (⟨hf, HC.out.2.1.trans hk⟩ : _ ∧ _); clear hf hk)
      go_ret
      exact Or.inl ⟨7, by decide, HE.out, rfl, H1.out⟩
    · have hx2 : x < 2 := hx
      have HR := Lib.hid (HC.out.1.take_ok (by omega) ht wr (Fr.refl _ _))
      have HBK := Lib.hid (fun w1 (hj : JS E K w1 (p1 + 1) o1) => pblock HT.out hj)
      have HST := Lib.hid (show blockS E.most o1 (bitsOf E.b) p1 = bnd (blkM E.most o1) (fun o => ret (if (x : Int) = 0 then .inl o else .inr o)) (bitsOf E.b) (p1 + 1) by rw [HBS.out, bnd_of ht])
      clear ht HBS hx
      go_wp2_with (go_at_call 75; refine HR.out.mono ?_; rintro e w1 ⟨rfl, hj, hk⟩; have H1 := Lib.hid (⟨hj, hk⟩ : _ ∧ _); clear hj hk)
      refine (HBK.out _ H1.out.1).mono ?_
      rintro e w2 (⟨z, hz, g1, rfl, g2, g3⟩ | ⟨o2, q2, g1, rfl, g2, g3⟩)
      · have HE := Lib.hid (show U = .error z by rw [HM.out, HST.out, bnd_err g1])
        have H2 := Lib.hid (⟨g2, (HC.out.2.1.trans H1.out.2).trans g3⟩ : _ ∧ _)
        clear g1 g2 g3
        go_wp2_with fail
        go_ret
        exact Or.inl ⟨z, hz, HE.out, rfl, H2.out⟩
      · have hq := ((good_blk E.most o1).ok (bits8 E.b) (by rw [bitsOf_length]; exact H1.out.1.pl) g1).1
        have H2 := Lib.hid (⟨g2, (HC.out.2.1.trans H1.out.2).trans g3⟩ : JS E K w2 q2 o2 ∧ Kp K w w2)
        rcases (show x = 0 ∨ x = 1 by omega) with rfl | rfl
        · have HON := Lib.hid (show U = loopM (blockS E.most) o2 (bitsOf E.b) q2 by rw [HM.out, HST.out, bnd_of g1]; rfl)
          have HZ := Lib.hid (show JS E K w2 q2 o2 ∧ Kp K w w2 ∧ U = loopM (blockS E.most) o2 (bitsOf E.b) q2 from ⟨H2.out.1, H2.out.2, HON.out⟩)
          clear g1 g2 g3
          go_wp2_with fail
          go_roundw
          case rel => exact ⟨q2, o2, HZ⟩
          case measure =>
            rw [H2.out.1.pos, HC.out.1.pos]
            have := H2.out.1.pl
            omega
        · have HE := Lib.hid (show U = .ok (o2, q2) by rw [HM.out, HST.out, bnd_of g1]; rfl)
          clear g1 g2 g3
          go_wp2_with fail
          go_ret
          exact Or.inr ⟨o2, q2, HE.out, rfl, H2.out⟩
end
end Go.Proofs.YtcdhakfmljjaoaaGreatDoor.ft
