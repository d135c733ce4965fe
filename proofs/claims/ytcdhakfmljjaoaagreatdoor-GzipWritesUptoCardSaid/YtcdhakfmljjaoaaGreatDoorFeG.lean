/-
  The program's stream: copies.
-/
import Derived.Test.YtcdhakfmljjaoaaGreatDoorJK
import Derived.Deep.RegionLaw
namespace Go.Proofs.YtcdhakfmljjaoaaGreatDoor.ft
set_option maxRecDepth 100000
open Go.RowKit Go.Maps Go.Proofs.YtcdhakfmljjaoaaGreatDoor.fl Go.Proofs.YtcdhakfmljjaoaaGreatDoor.cd
set_option maxRecDepth 100000

theorem step_append_at {P : Program} {ops : Array Oper} {o : Oper} {a : Act} {w : World} {K : Act → World → Prop} {Q : Exit → Act → World → Prop} {E : Prop}
    (hg : o.guard = none) (s x : Operand) (t : TypeId) (ho : o.op = .call { callee := .builtin .append, args := #[s, x], argTypes := #[t, t] })
    (base : Nat) (e : TypeId) (i : TypeInfo) (z : Value) (size bytes : Nat) (ht : P.underlying t = some (.slice e)) (hi : P.info? e = some i) (hz : i.zero = some z)
    (hsize : i.size = size) (hby : i.bytes = bytes) (hzs : z.cells.size = size) (hsz : 0 < size)
    (v : Value) (n : Nat) (xs : List Value) (hs : a.eval s = v) (hown : w.ownsRow base e size v n xs)
    (ad : Addr) (m c : Nat) (news : List Value) (hx : a.eval x = .slice (some ad) m c) (hl : news.length = m * size) (hnews : ∀ j u, news[j]? = some u → w.cell? (ad.add j) = some u) (h1 : ∀ u ∈ news, u.oneCell' = true)
    (h63 : n + m ≤ maxLen) (hbytes : (n + m) * bytes ≤ 140737488355328) (hbase : base ≤ w.heap.size)
    (h : ∀ v' w', w'.ownsRow base e size v' (n + m) (xs ++ news) → w.grownBy w' v.ownBlock → (v'.ownBlock = v.ownBlock ∨ v'.ownBlock = some w.heap.size) → K (a.put o.dst v') w') :
    if Region.wanted o (yielded ops a.tmps) = true then Oper.wp P o a w K Q else E := by
  have hw : Region.wanted o (yielded ops a.tmps) = true := by simp [Region.wanted, hg]
  rw [if_pos hw]
  obtain ⟨v', w', hr, h2, h3, _, h5⟩ := run_append_own_at (P := P) w base t o.type e i z size bytes ht hi hz hsize hby hzs hsz v n xs hown ad m c news hl hnews h1 h63 hbytes hbase
  unfold Oper.wp execOp
  simp only [ho, resolve, invoke, builtin, Sem.run_bind, Sem.run_pure, Result.andThen_ok, List.map_toArray, List.map_cons, List.map_nil, hs, hx, hr]
  exact h v' w' h2 h3 h5
theorem copyL_snoc (back : Nat) : ∀ (i : Nat) (out : By), copyL back (i + 1) out = copyL back i out ++ [((copyL back i out)[(copyL back i out).length - back]?).getD 0]
  | 0, out => rfl
  | i + 1, out => by
    rw [copyL, copyL_snoc back i]
    rfl
section
variable {E : En} {K : Nat → Prop} {w : World} {p : Nat} {out : By}
/-- A code that lies there as long as what is kept is kept. -/
def Cds (E : En) (K : Nat → Prop) (w : World) (c : Addr) (ds : List Int) : Prop := ∀ w1 p1 out1, JS E K w1 p1 out1 → Kp K w w1 → ∃ S, PC w1 c ds S ∧ ∀ i, S i → K i ∨ E.F i
theorem Cds.on {w1 : World} {c : Addr} {ds : List Int} (h : Cds E K w c ds) (hk : Kp K w w1) : Cds E K w1 c ds := fun w2 p2 o2 hj h2 => h w2 p2 o2 hj (hk.trans h2)
theorem cds_of {c : Addr} {ds : List Int} {S : Nat → Prop} (h : PC w c ds S) (hS : ∀ i, S i → K i) : Cds E K w c ds := fun w1 p1 o1 hj hk => by
  obtain ⟨g, gw, gs, sy, e, h⟩ := h
  exact ⟨S, ⟨g, gw, gs, sy, e, ⟨(hk g (hS _ h.own.1)).trans h.blk, (hk gw (hS _ h.own.2.1)).trans h.wds, (hk gs (hS _ h.own.2.2)).trans h.sym, h.srt, h.ok, h.own, fun i hi => (hj.k i (hS i hi)).2⟩⟩, fun i hi => Or.inl (hS i hi)⟩
theorem cds_s : Cds E K w E.cs fixI := fun _ _ _ hj _ => by
  obtain ⟨S1, S2, f1, f2, f3, f4, f5⟩ := hj.fx
  exact ⟨S1, f1, fun i hi => Or.inr (f3 i hi)⟩
theorem cds_d : Cds E K w E.cd five2 := fun _ _ _ hj _ => by
  obtain ⟨S1, S2, f1, f2, f3, f4, f5⟩ := hj.fx
  exact ⟨S2, f2, fun i hi => Or.inr (f4 i hi)⟩
set_option maxHeartbeats 8000000 in
theorem pcopies (hT : Tabs E.w0) (h : JS E K w p out) (k : Nat) (hk : k ≤ 1000) {c : Addr} {ds : List Int} (hc : Cds E K w c ds) : Calls Tryz.prog 118 #[.pointer (some ⟨E.g, 0, none⟩), .int .i64 (k : Int), .pointer (some c)] w (Aft E K w (copyM E.most ds out k (bitsOf E.b) p)) := by
  have HCD := Lib.hid (copy_dist E.most ds out k (bitsOf E.b) p)
  by_cases h28 : 28 < k
  · have HE := Lib.hid (show copyM E.most ds out k (bitsOf E.b) p = .error 110 by rw [HCD.out, if_pos h28]; rfl)
    have HJ := Lib.hid h
    clear h hc
    go_enter Tryz.func118, Tryz.ntmps118
    go_wp2_with fail
    go_ret
    exact Or.inl ⟨110, by decide, HE.out, rfl, HJ.out.fr, fun _ _ => rfl⟩
  · obtain ⟨hf1, hf2, hf3⟩ := span_le (k := k) (by omega)
    obtain ⟨y0, y1⟩ := (h.tab hT).len k (by omega)
    obtain ⟨fx, hfx⟩ : ∃ fx, fx = spanX k := ⟨_, rfl⟩
    obtain ⟨fb, hfb⟩ : ∃ fb, fb = spanB k := ⟨_, rfl⟩
    rw [if_neg h28, ← hfx, ← hfb] at HCD
    rw [← hfx] at hf1 y1
    rw [← hfb] at hf2 hf3 y0
    have hk0 : (0 : Int) ≤ (k : Int) := by omega
    have hk29 : (k : Int) < 29 := by omega
    rcases tk_two (n := fx) (by omega) E p with ht | ⟨x, ht, hx⟩
    · have HE := Lib.hid (show copyM E.most ds out k (bitsOf E.b) p = .error 7 by rw [HCD.out, bnd_err ht])
      have HN := Lib.hid (number_no h fb (by omega) (by omega) ht w (Fr.refl _ _))
      clear h hc ht hfx hfb
      go_enter Tryz.func118, Tryz.ntmps118
      go_wp2_with (go_at_call 113; refine HN.out.mono ?_; rintro e w1 ⟨⟨v, rfl⟩, hf, hk⟩; have H1 := Lib.hid (⟨hf, hk⟩ : _ ∧ _); clear hf hk)
      go_ret
      exact Or.inl ⟨7, by decide, HE.out, rfl, H1.out⟩
    · have hx5 : x < 2 ^ 5 := Nat.lt_of_lt_of_le hx (Nat.pow_le_pow_right (by omega) hf1)
      have HN := Lib.hid (number_ok h fb (by omega) (by omega) ht (by omega) w (Fr.refl _ _))
      have HD := Lib.hid (show ∀ w1, JS E K w1 (p + fx) out → Kp K w w1 → _ from fun w1 hj hkp => by
        obtain ⟨S, h1, h2⟩ := hc w1 _ _ hj hkp
        exact pdistance hT hj h1 h2)
      obtain ⟨n, hn⟩ : ∃ n, n = fb + x := ⟨_, rfl⟩
      have HB := Lib.hid (show copyM E.most ds out k (bitsOf E.b) p = bnd (distM ds out) (fun back => if E.most < out.length + n then err 3 else ret (copyL back n out)) (bitsOf E.b) (p + fx) by rw [HCD.out, bnd_of ht, Int.toNat_natCast, ← hn])
      have hn9 : n ≤ 300 := by omega
      have HLE := Lib.hid h.le
      have HE0 := Lib.hid h.fr.size
      obtain ⟨i0, hi, hz0, hz1, hz2⟩ := info_parts infoB
      have HI := Lib.hid (⟨hi, hz0, hz1, hz2⟩ : _ ∧ _ ∧ _ ∧ _)
      rw [← hn] at HN
      clear h hc ht hfx hfb hn hx hx5 hi hz0 hz1 hz2 HCD
      go_enter Tryz.func118, Tryz.ntmps118
      go_wp2_with (go_at_call 113; refine HN.out.mono ?_; rintro e w1 ⟨rfl, hj, hk⟩; have H1 := Lib.hid (⟨hj, hk⟩ : _ ∧ _); clear hj hk)
      refine (HD.out _ H1.out.1 H1.out.2).mono ?_
      rintro e w2 (⟨z, hz, ht, rfl, hf, hk⟩ | ⟨back, q, hb1, hb2, ht, rfl, hj, hk⟩)
      · have HE := Lib.hid (show copyM E.most ds out k (bitsOf E.b) p = .error z by rw [HB.out, bnd_err ht])
        have H2 := Lib.hid (⟨hf, H1.out.2.trans hk⟩ : _ ∧ _)
        clear hf hk ht
        go_wp2_with fail
        go_ret
        exact Or.inl ⟨z, hz, HE.out, rfl, H2.out⟩
      · have HR := Lib.hid (proom hj)
        have H2 := Lib.hid (⟨hj, H1.out.2.trans hk⟩ : _ ∧ _)
        obtain ⟨r, hr⟩ : ∃ r, r = E.most - out.length := ⟨_, rfl⟩
        rw [← hr] at HR
        have hr9 : r ≤ 262144 := by have := HLE.out; omega
        have HRR := Lib.hid hr
        clear hj hk hr
        by_cases hrn : r < n
        · have HE := Lib.hid (show copyM E.most ds out k (bitsOf E.b) p = .error 3 by rw [HB.out, bnd_of ht, if_pos (by have := HRR.out; omega)]; rfl)
          go_wp2_with (go_at_call 111; refine HR.out.mono ?_; rintro e w3 ⟨rfl, hC⟩; have HC := Lib.hid hC; clear hC)
          go_ret
          exact Or.inl ⟨3, by decide, HE.out, rfl, H2.out.1.fr.trans HC.out.fr (fun _ _ e => e), H2.out.2.trans (H2.out.1.kp HC.out.fr)⟩
        · have HE := Lib.hid (show copyM E.most ds out k (bitsOf E.b) p = .ok (copyL back n out, q) by rw [HB.out, bnd_of ht, if_neg (by have := HRR.out; have := HLE.out; omega)]; rfl)
          have HLN := Lib.hid (show out.length + n ≤ E.most ∧ E.most ≤ 262144 by have := HRR.out; have := HLE.out; omega)
          obtain ⟨m, hm⟩ : ∃ m, m = out.length := ⟨_, rfl⟩
          have HM := Lib.hid hm
          rw [← hm] at hb2
          have hm9 : m ≤ 262144 := by have := HLE.out; omega
          clear ht HB HD HN hm
          go_wp2_with (go_at_call 111; refine HR.out.mono ?_; rintro e w3 ⟨rfl, hC⟩; have H3 := Lib.hid (⟨H2.out.1.still hC.fr, H2.out.2.trans (H2.out.1.kp hC.fr)⟩ : _ ∧ _); clear hC)
          go_loopw [39] (fun v39 wr => ∃ i : Nat, i ≤ n ∧ v39 = .int .i64 i ∧ Hid (JS E K wr q (copyL back i out) ∧ Kp K w wr)) (fun v _ => n - (intOf v).toNat)
          case atStart => exact ⟨0, Nat.zero_le _, rfl, H3⟩
          case round =>
            obtain ⟨i, hi, rfl, HC⟩ := hrel
            by_cases hlt : i < n
            · obtain ⟨T, A, cap, h1, h2, h3, h4, h5⟩ := HC.out.1.st
              obtain ⟨L, hL⟩ : ∃ L, L = copyL back i out := ⟨_, rfl⟩
              obtain ⟨mi, hmi⟩ : ∃ mi, mi = m + i := ⟨_, rfl⟩
              have hLm : L.length = mi := by rw [hL, copyL_len]; have := HM.out; omega
              have HSN := Lib.hid (copyL_snoc back i out)
              rw [← hL] at HC h1 h3 HSN
              have hat : mi - back < L.length := by omega
              obtain ⟨gq, rfl, hg1, hg2, hcell, _⟩ := h3.at_ hat
              rw [hLm, List.getElem?_eq_getElem hat, Option.getD_some] at HSN
              obtain ⟨y, hy⟩ : ∃ y : Nat, y = L[mi - back].toNat := ⟨_, rfl⟩
              rw [← hy] at hcell
              have c4 : wr.cell? ⟨E.g, 4, none⟩ = some (.slice (some ⟨gq, 0, none⟩) mi cap) := by rw [← hLm]; exact (cellAt h1 4).trans rfl
              have HROW := Lib.hid (show ∀ wx, Fr (fun _ => False) wr wx → wx.ownsRow E.w0.heap.size 5 1 (.slice (some ⟨gq, 0, none⟩) mi cap) mi (bs L) from fun wx hF => by
                have := Own.kept h3 hF
                unfold Own at this
                rw [hLm] at this
                exact this)
              have HP := Lib.hid (⟨h1, h2, h3, h4, h5, HC.out.1⟩ : _ ∧ _ ∧ _ ∧ _ ∧ _ ∧ JS E K wr q L)
              have HSZ := Lib.hid (show E.w0.heap.size ≤ wr.heap.size from HC.out.1.fr.size)
              have HLM := Lib.hid hLm
              have HBY := Lib.hid (show bs [L[mi - back]] = [.int .u8 (y : Int)] by rw [hy]; rfl)
              have hix : ((mi : Nat) : Int) - (back : Int) = ((mi - back : Nat) : Int) := by omega
              obtain ⟨j, hj⟩ : ∃ j, j = mi - back := ⟨_, rfl⟩
              rw [← hj] at hcell hix
              have hj1 : j < mi := by omega
              have hj2 : (0 : Int) ≤ (j : Int) := by omega
              have hmi9 : mi ≤ 262144 + 300 := by omega
              have hjw : IntKind.i64.wrap (j : Int) = (j : Int) := IntWalk.i64_in _ (by omega)
              have hj3 : (j : Int) < (mi : Int) := by omega

              have HLE2 := Lib.hid (show L.length + [L[mi - back]].length ≤ E.most by rw [hLm]; have := HLN.out; have := HM.out; simp; omega)
              have c4a : ((wr.alloc (.cells #[.int .u8 (y : Int)] 5)).drew).cell? ⟨E.g, 4, none⟩ = some (.slice (some ⟨gq, 0, none⟩) mi cap) := cell_keep c4 ((Fr.refl _ _).alloc _).drew
              clear h1 h2 h3 h4 h5 hy hLm hg1 hj hL hmi
              go_wp2_with fail
              go_region_law (refine step_append_at (by rfl) (.tmp 45) (.tmp 59) 22 (by rfl) E.w0.heap.size 5 i0 (.int .u8 0) 1 1 Tryz.underlying22 HI.out.1 HI.out.2.1 HI.out.2.2.1 HI.out.2.2.2 rfl (by omega) _ mi (bs L) (by rfl) (HROW.out _ ((Fr.refl _ _).alloc _).drew) _ 1 1 [.int .u8 (y : Int)] (by rfl) (by rfl) (cell_one_new _ _ _) (by simp [Value.oneCell']) (by unfold maxLen; omega) (by omega) (Nat.le_trans HSZ.out ((Fr.refl (fun _ => False) wr).alloc _).drew.size) ?_; intro v2 w4 hown hg hat; obtain ⟨A3, cap3, hv, e2, g2, HG⟩ := JS.grow (d := [L[mi - back]]) (nd := 1) HP.out.2.2.2.2.2 HP.out.1 HP.out.2.1 HP.out.2.2.1 HP.out.2.2.2.1 HP.out.2.2.2.2.1 ((Fr.refl _ _).alloc _).drew HLM.out.symm rfl HLE2.out (by rw [HBY.out]; exact hown) hg hat; subst hv; clear hown hg hat)
              all_goals
                have HZ := Lib.hid (show JS E K (w4.setCell ⟨E.g, 4, none⟩ (.slice A3 (mi + 1) cap3)) q (copyL back (i + 1) out) ∧ Kp K w (w4.setCell ⟨E.g, 4, none⟩ (.slice A3 (mi + 1) cap3)) from ⟨by rw [HSN.out]; exact HG.out.1, HC.out.2.trans HG.out.2⟩)
                clear HG HP HROW HSZ c4 c4a hcell HC H3 e2 g2
                go_wp2_with fail
                go_roundw
                case rel => exact ⟨i + 1, by omega, by go_num, HZ⟩
                case measure => simp [intOf]; omega
            · obtain rfl : i = n := by omega
              go_wp2_with fail
              go_ret
              exact Or.inr ⟨_, q, HE.out, rfl, HC.out⟩
end
end Go.Proofs.YtcdhakfmljjaoaaGreatDoor.ft
