/-
  Texts that belong together, joined: GeN GeP GzEnd.
-/
import Derived.Test.YtcdhakfmljjaoaaGreatDoorJR
import Derived.Deep.RegionHeld3
import Derived.Test.YtcdhakfmljjaoaaGreatDoorJQ
import Derived.Test.YtcdhakfmljjaoaaGreatDoorGzQ

/-
  The program's frame: all of its bytes.
-/


namespace Go.Proofs.YtcdhakfmljjaoaaGreatDoor.gz
set_option maxRecDepth 100000
open Go.RowKit Go.Maps Go.Proofs.YtcdhakfmljjaoaaGreatDoor.fl Go.Proofs.YtcdhakfmljjaoaaGreatDoor.cd Go.Proofs.YtcdhakfmljjaoaaGreatDoor.ft
set_option maxRecDepth 100000

theorem runs_ne (b : By) : runsV rls b ≠ [] := by
  unfold runsV
  intro e
  have h := congrArg List.length e
  rw [packI_length] at h
  simp at h
  omega
theorem pruns_src (w wx : World) (hT : DT w) (A : Option Addr) (n cap z : Nat) (b : By) (hr : Rd w w.heap.size A b) (hF : Fr (fun _ => False) w wx) (hn : n = b.length) (hc : n ≤ cap) (hb : n ≤ 262144) (hz : z = (runsV rls b).length) :
    Calls Tryz.prog 38 #[.slice A n cap] wx fun e w' => ∃ ad c', e = .returned (.slice (some ad) z c') ∧ Hid (SrcA w' ad (runsV rls b)) ∧ Hid (Fr (fun _ => False) wx w') := by
  subst hn
  subst hz
  have h := pruns wx (hT.keep hF).fla A cap b ((hr.still hF (Nat.le_refl _)).more hF.size) hc hb
  rw [runs_same] at h
  refine h.mono ?_
  rintro e w' ⟨A', c', rfl, hr', _, _, hF'⟩
  obtain ⟨blk, off, rfl, hlt, _⟩ := id hr' (runs_ne b)
  exact ⟨_, c', rfl, ⟨hr'.src, hlt⟩, hF'⟩
theorem own_base {w : World} {base base' n : Nat} {v : Value} {xs : List Value} (h : w.ownsRow base 5 1 v n xs) (hb : base' ≤ base) : w.ownsRow base' 5 1 v n xs := by
  refine ⟨h.1, ?_⟩
  rcases h.2 with e | ⟨g, cap, cur, e, hg, r⟩
  · exact Or.inl e
  · exact Or.inr ⟨g, cap, cur, e, by omega, r⟩
def frB (L b : By) : By := L ++ (runsV rls b ++ (numL (csum b) 4 ++ numL b.length 4))
theorem rows4 {w : World} {gb n z c c' c1 c2 : Nat} {gh ad q1 q2 : Addr} {L R N1 N2 : By} (hb : w.heap[gb]? = some (.cells #[.slice (some gh) n c, .slice (some ad) z c', .slice (some q1) 4 c1, .slice (some q2) 4 c2] 22 (0, 0)))
    (hn : n = L.length) (hz : z = R.length) (h1 : N1.length = 4) (h2 : N2.length = 4) (s0 : SrcA w gh L) (s1 : SrcA w ad R) (s2 : SrcA w q1 N1) (s3 : SrcA w q2 N2) :
    RowsB w gb [(gh, c, L), (ad, c', R), (q1, c1, N1), (q2, c2, N2)] := by
  refine ⟨fun k q hk => ?_, lt_of_block hb, fun k q hk => ?_⟩
  · rw [cellAt hb]
    have hk4 : k < 4 := (List.getElem?_eq_some_iff.1 hk).1
    rcases (show k = 0 ∨ k = 1 ∨ k = 2 ∨ k = 3 by omega) with rfl | rfl | rfl | rfl
    · cases hk; rw [← hn]; rfl
    · cases hk; rw [← hz]; rfl
    · cases hk; rw [h1]; rfl
    · cases hk; rw [h2]; rfl
  · have hk4 : k < 4 := (List.getElem?_eq_some_iff.1 hk).1
    rcases (show k = 0 ∨ k = 1 ∨ k = 2 ∨ k = 3 by omega) with rfl | rfl | rfl | rfl
    · cases hk; exact s0
    · cases hk; exact s1
    · cases hk; exact s2
    · cases hk; exact s3
theorem pnum4 (w : World) (N : Nat) (hN : N < 4294967296) : Calls Tryz.prog 39 #[.int .i64 (N : Int), .int .i64 4] w fun e w' => ∃ q c, e = .returned (.slice (some ⟨q, 0, none⟩) 4 c) ∧ Hid (SrcA w' ⟨q, 0, none⟩ (numL N 4) ∧ w.heap.size ≤ q) ∧ Hid (Fr (fun _ => False) w w') := pnum w N 4 (by decide) (by decide) (by omega)
section
variable {w w0 w' : World} {h g n c f : Nat} {L : By}
theorem Out.src (k : Out w0 w g n c L) : SrcA w ⟨g, 0, none⟩ L := ⟨k.own.rd.src, by
  rcases k.own.2 with ⟨e2, _⟩ | ⟨q2, c2, cur, e2, _, hh, _⟩
  · cases e2
  · cases e2; exact lt_of_block hh⟩
set_option maxHeartbeats 8000000 in
theorem pframe (k : HW w0 w h g n c L) (hT : DT w) (A : Option Addr) (m cap : Nat) (b : By) (hr : Rd w w.heap.size A b) (hm : m = b.length) (hc : m ≤ cap) (hb : m ≤ 262144) (hn : n ≤ 5000000) :
    Calls Tryz.prog 23 #[.pointer (some ⟨h, 0, none⟩), .slice A m cap] w fun e w' => ∃ v, e = .returned v ∧ w'.ownsRow w.heap.size 5 1 v (frB L b).length (bs (frB L b)) ∧ Fr (fun _ => False) w w' := by
  obtain ⟨z, hz⟩ : ∃ z, z = (runsV rls b).length := ⟨_, rfl⟩
  have hzb : z ≤ 600000 := by have := runs_small rls_sym b; omega
  have HRU := Lib.hid (fun (wx : World) (hF : Fr (fun _ => False) w wx) => pruns_src w wx hT A m cap z b hr hF hm hc hb hz)
  have HSO := Lib.hid (fun (wx : World) (hF : Fr (fun _ => False) w wx) => psumOf wx (hT.keep hF) A m cap w.heap.size b (hr.still hF (Nat.le_refl _)) hm (by omega))
  have HZO := Lib.hid (fun (wx : World) => psizeOf wx A m cap (by omega))
  have hcs := csum_lt b
  have HN1 := Lib.hid (fun (wx : World) => pnum4 wx (csum b) (by omega))
  have HN2 := Lib.hid (fun (wx : World) => pnum4 wx m (by omega))
  obtain ⟨N1, hN1⟩ : ∃ N, N = numL (csum b) 4 := ⟨_, rfl⟩
  obtain ⟨N2, hN2⟩ : ∃ N, N = numL m 4 := ⟨_, rfl⟩
  obtain ⟨R, hR⟩ : ∃ R, R = runsV rls b := ⟨_, rfl⟩
  obtain ⟨cs, hcss⟩ : ∃ N, N = csum b := ⟨_, rfl⟩
  obtain ⟨T, hT2⟩ : ∃ T, T = frB L b := ⟨_, rfl⟩
  have HCC := Lib.hid (show ∀ (wx : World) (gb cp : Nat) (gh ad q1 q2 : Addr) (c c' c1 c2 : Nat), RowsB wx gb [(gh, c, L), (ad, c', R), (q1, c1, N1), (q2, c2, N2)] → Calls Tryz.prog 37 #[.slice (some ⟨gb, 0, none⟩) 4 cp] wx fun e w' => ∃ v, e = .returned v ∧ w'.ownsRow wx.heap.size 5 1 v T.length (bs T) ∧ Fr (fun _ => False) wx w' from by
    intro wx gb cp gh ad q1 q2 c c' c1 c2 hrw
    have hcat : catB [(gh, c, L), (ad, c', R), (q1, c1, N1), (q2, c2, N2)] 4 = T := by
      rw [hT2, hN1, hN2, hR, hm]
      unfold catB frB
      simp
    have hlen : T.length ≤ 100000000 := by
      rw [hT2]
      unfold frB
      rw [List.length_append, List.length_append, List.length_append, numL_len, numL_len, ← hz, ← k.out.len]
      omega
    have := concat_bytes wx gb cp _ hrw (by simp) (by show (catB _ 4).length ≤ _; rw [hcat]; exact hlen)
    rw [show ([(gh, c, L), (ad, c', R), (q1, c1, N1), (q2, c2, N2)] : List (Addr × Nat × By)).length = 4 from rfl, hcat] at this
    exact this)
  rw [← hN1, ← hcss] at HN1
  rw [← hcss] at HSO
  rw [← hN2] at HN2
  rw [← hR] at HRU
  rw [← hT2]
  have HLEN := Lib.hid (show n = L.length ∧ z = R.length ∧ N1.length = 4 ∧ N2.length = 4 from ⟨k.out.len, by rw [hz, hR], by rw [hN1, numL_len], by rw [hN2, numL_len]⟩)
  have HK := Lib.hid k
  have cd := (k.still ((Fr.refl _ w).drew)).c0
  have hFd := (Fr.refl (fun _ => False) w).drew
  have HSH := Lib.hid (show ∀ wx : World, Fr (fun _ => False) w wx → wx.cell? ⟨h, 0, none⟩ = some (.slice (some ⟨g, 0, none⟩) n c) ∧ SrcA wx ⟨g, 0, none⟩ L from fun wx hF => ⟨(k.still hF).c0, (k.still hF).out.src⟩)
  clear k hT hr hm hz hcs hN1 hN2 hR hcss hT2
  go_enter Tryz.func23, Tryz.ntmps23
  go_wp2_with fail
  go_region_held3 (fun w' => w'.cell? ⟨h, 0, none⟩ = some (.slice (some ⟨g, 0, none⟩) n c))
    (first
      | exact cd
      | exact (HSH.out _ H1.out.2).1
      | exact (HSH.out _ H2.out.2).1
      | exact (HSH.out _ H3.out.2).1
      | exact (HSH.out _ (H3.out.2.alloc _)).1
      | exact (HSH.out _ H4.out.2).1)
    (first
      | (go_at_call 38; (with_reducible refine (HRU.out _ hFd).mono ?_); rintro e w1 ⟨ad, c', rfl, hs1, hF1⟩; have H1 : Hid (SrcA w1 ad R ∧ Fr (fun _ => False) w w1) := ⟨hs1.out, hFd.trans hF1.out (fun _ _ e => e)⟩; clear hs1 hF1)
      | (go_at_call 40; (with_reducible refine (HSO.out _ (by first | exact hFd | exact H1.out.2)).mono ?_); rintro e w2 ⟨rfl, rfl⟩)
      | (go_at_call 39; (with_reducible refine (HN1.out w1).mono ?_); rintro e w2 ⟨q1, c1, rfl, hs2, hF2⟩; have H2 : Hid ((SrcA w2 ad R ∧ SrcA w2 ⟨q1, 0, none⟩ N1) ∧ Fr (fun _ => False) w w2) := ⟨⟨H1.out.1.still hF2.out, hs2.out.1⟩, H1.out.2.trans hF2.out (fun _ _ e => e)⟩; clear hs2 hF2)
      | (go_at_call 41; (with_reducible refine (HZO.out _).mono ?_); rintro e w3 ⟨rfl, rfl⟩)
      | (go_at_call 39; (with_reducible refine (HN2.out w2).mono ?_); rintro e w3 ⟨q2, c2, rfl, hs3, hF3⟩; have H3 : Hid ((SrcA w3 ad R ∧ SrcA w3 ⟨q1, 0, none⟩ N1 ∧ SrcA w3 ⟨q2, 0, none⟩ N2) ∧ Fr (fun _ => False) w w3) := ⟨⟨H2.out.1.1.still hF3.out, H2.out.1.2.still hF3.out, hs3.out.1⟩, H2.out.2.trans hF3.out (fun _ _ e => e)⟩; clear hs3 hF3)
      | (go_at_call 37; (with_reducible refine (HCC.out _ _ _ _ _ _ _ _ _ _ _ (rows4 (heap_alloc_new _ _) HLEN.out.1 HLEN.out.2.1 HLEN.out.2.2.1 HLEN.out.2.2.2 (HSH.out _ (H3.out.2.alloc _)).2 (H3.out.1.1.still ((Fr.refl _ _).alloc _)) (H3.out.1.2.1.still ((Fr.refl _ _).alloc _)) (H3.out.1.2.2.still ((Fr.refl _ _).alloc _)))).mono ?_); rintro e w4 ⟨v, rfl, ho, hF4⟩; have H4 : Hid (w4.ownsRow w.heap.size 5 1 v T.length (bs T) ∧ Fr (fun _ => False) w w4) := ⟨own_base ho (by have := H3.out.2.size; simp; omega), (H3.out.2.alloc _).trans hF4 (fun _ _ e => e)⟩; clear ho hF4))
  all_goals
    go_wp2_with fail
    go_ret
    exact ⟨_, rfl, H4.out⟩
end
end Go.Proofs.YtcdhakfmljjaoaaGreatDoor.gz

/-
  The program's Wrap and Dress.
-/
namespace Go.Proofs.YtcdhakfmljjaoaaGreatDoor.gz
set_option maxRecDepth 100000
open Go.RowKit Go.Maps Go.Proofs.YtcdhakfmljjaoaaGreatDoor.fl Go.Proofs.YtcdhakfmljjaoaaGreatDoor.cd Go.Proofs.YtcdhakfmljjaoaaGreatDoor.ft
set_option maxRecDepth 100000

theorem wrap_fr (b : By) : frB (pre 0 []) b = wrapV csum rls b := rfl
theorem dress_fr (b name note extra : By) (hc : Bool) : frB (hdB csum name note extra hc) b = dressB csum rls b name note extra hc := rfl
/-- What frame answers, counted from the caller's memory. -/
theorem new_of {w w1 w' : World} {v : Value} {T : By} (hF : Fr (fun _ => False) w w1) (ho : w'.ownsRow w1.heap.size 5 1 v T.length (bs T)) (hF2 : Fr (fun _ => False) w1 w') : ∃ A cap, v = .slice A T.length cap ∧ Own w' w.heap.size (.slice A T.length cap) T ∧ Fr (fun _ => False) w w' := by
  obtain ⟨A, cap, e, h⟩ := own_shapeB (base := w.heap.size) rfl rfl (own_base ho hF.size)
  exact ⟨A, cap, e, h, hF.trans hF2 (fun _ _ e => e)⟩
set_option maxHeartbeats 2000000 in
theorem pWrap (w : World) (A : Option Addr) (cap : Nat) (b : By) (hr : Rd w w.heap.size A b) (hc : b.length ≤ cap) (hb : b.length ≤ 262144) (hT : DT w) :
    Calls Tryz.prog 12 #[.slice A b.length cap] w (NewB w (wrapV csum rls b)) := by
  obtain ⟨m, hm⟩ : ∃ m, m = b.length := ⟨_, rfl⟩
  have HN := Lib.hid (pnew w)
  have HF := Lib.hid (fun (w1 : World) (h g c : Nat) (k : HW w w1 h g 10 c (pre 0 [])) => pframe (k.still (Fr.refl _ w1)) (hT.keep k.out.fr) A m cap b ((hr.still k.out.fr (Nat.le_refl _)).more k.out.fr.size) hm (by omega) (by omega) (by omega))
  rw [← hm]
  clear hr hc hb hT hm
  go_enter Tryz.func12, Tryz.ntmps12
  go_wp2_with fail
  refine HN.out.mono ?_
  rintro e w1 ⟨h, g, c, rfl, k⟩
  have HF1 := Lib.hid (HF.out w1 h g c k.out)
  have HFR := Lib.hid k.out.out.fr
  clear k HN HF
  go_wp2_with fail
  refine HF1.out.mono ?_
  rintro e w2 ⟨v, rfl, ho, hF2⟩
  have H2 := Lib.hid (new_of HFR.out ho hF2)
  clear ho hF2 HF1
  go_wp2_with fail
  go_ret
  rw [wrap_fr] at H2
  obtain ⟨A', c', rfl, h2, h3⟩ := H2.out
  exact ⟨A', c', rfl, h2, h3⟩

/-- What Dress answers. -/
def DrA (w : World) (V : By × Int) (e : Ending) (w' : World) : Prop := ∃ A' cap', e = .returned (.tuple #[.slice A' V.1.length cap', .int .i64 V.2]) ∧ Rd w' w'.heap.size A' V.1 ∧ (A' = none → cap' = 0) ∧ V.1.length ≤ cap' ∧ Fr (fun _ => False) w w'
theorem DrA.no {w w' : World} {k : Int} (hF : Fr (fun _ => False) w w') : DrA w ([], k) (.returned (.tuple #[.slice none 0 0, .int .i64 k])) w' := ⟨none, 0, rfl, Rd.nil _ _ _, fun _ => rfl, Nat.le_refl _, hF⟩
theorem may_not {name note extra : By} (h : name.contains 0 = true ∨ note.contains 0 = true ∨ 65535 < extra.length) (sum : By → Nat) (ls : Nat → Nat) (b : By) (hc : Bool) : dressV sum ls b name note extra hc = ([], 2) := by
  unfold dressV
  rw [if_neg]
  unfold mayD
  rcases h with h | h | h
  · rw [h]; simp
  · rw [h]; simp
  · rw [decide_eq_false (by omega)]; simp
theorem may_yes {name note extra : By} (h1 : name.contains 0 = false) (h2 : note.contains 0 = false) (h3 : extra.length ≤ 65535) (sum : By → Nat) (ls : Nat → Nat) (b : By) (hc : Bool) : dressV sum ls b name note extra hc = (dressB sum ls b name note extra hc, 0) := by
  unfold dressV
  rw [if_pos]
  unfold mayD
  rw [h1, h2, decide_eq_true h3]
  rfl
theorem tx_len (l : By) : (txB l).length ≤ l.length + 1 := by
  unfold txB
  split
  · simp
  · rw [List.length_append]; simp
theorem hasN_cases (l : By) (n : Nat) : hasN l n = 0 ∨ hasN l n = n := by unfold hasN; split <;> simp
set_option maxHeartbeats 8000000 in
theorem pDress (w : World) (A : Option Addr) (cap : Nat) (b : By) (name note : ByteArray) (A2 : Option Addr) (cap2 : Nat) (extra : By) (hc : Bool) (hr : Rd w w.heap.size A b) (hcap : b.length ≤ cap) (hb : b.length ≤ 262144) (hn1 : name.size ≤ 1048576) (hn2 : note.size ≤ 1048576)
    (hr2 : Rd w w.heap.size A2 extra) (hT : DT w) :
    Calls Tryz.prog 9 #[.slice A b.length cap, .string name, .string note, .slice A2 extra.length cap2, .bool hc] w (DrA w (dressV csum rls b name.data.toList note.data.toList extra hc)) := by
  have HZ1 := Lib.hid (pnought w name)
  have HZ2 := Lib.hid (pnought w note)
  obtain ⟨m, hm⟩ : ∃ m, m = b.length := ⟨_, rfl⟩
  obtain ⟨x, hx⟩ : ∃ x, x = extra.length := ⟨_, rfl⟩
  obtain ⟨N1, hN1⟩ : ∃ l, l = name.data.toList := ⟨_, rfl⟩
  obtain ⟨N2, hN2⟩ : ∃ l, l = note.data.toList := ⟨_, rfl⟩
  have hl1 : N1.length ≤ 1048576 := by rw [hN1, Array.length_toList]; exact hn1
  have hl2 : N2.length ≤ 1048576 := by rw [hN2, Array.length_toList]; exact hn2
  rw [← hN1] at HZ1
  rw [← hN2] at HZ2
  rw [← hN1, ← hN2, ← hm, ← hx]
  obtain ⟨V, hV⟩ : ∃ V, V = dressV csum rls b N1 N2 extra hc := ⟨_, rfl⟩
  rw [← hV]
  have HV := Lib.hid hV
  have HX := Lib.hid hx
  clear hV
  cases hz1 : N1.contains 0 with
  | true =>
    have HE := Lib.hid (show V = ([], 2) from HV.out.trans (may_not (Or.inl hz1) _ _ _ _))
    rw [hz1] at HZ1
    clear hr hcap hb hr2 hT hm hx hN1 hN2 hz1 hl1 hl2
    go_enter Tryz.func9, Tryz.ntmps9
    go_wp2_with fail
    refine HZ1.out.mono ?_
    rintro e w' ⟨rfl, rfl⟩
    go_wp2_with fail
    go_ret2
    rw [HE.out]
    exact DrA.no (Fr.refl _ _)
  | false =>
    cases hz2 : N2.contains 0 with
    | true =>
      have HE := Lib.hid (show V = ([], 2) from HV.out.trans (may_not (Or.inr (Or.inl hz2)) _ _ _ _))
      rw [hz1] at HZ1
      rw [hz2] at HZ2
      clear hr hcap hb hr2 hT hm hx hN1 hN2 hz1 hz2 hl1 hl2
      go_enter Tryz.func9, Tryz.ntmps9
      go_wp2_with fail
      refine HZ1.out.mono ?_
      rintro e w' ⟨rfl, rfl⟩
      go_wp2_with fail
      refine HZ2.out.mono ?_
      rintro e w' ⟨rfl, rfl⟩
      go_wp2_with fail
      go_ret2
      rw [HE.out]
      exact DrA.no (Fr.refl _ _)
    | false =>
      by_cases hx65 : 65535 < x
      · have HE := Lib.hid (show V = ([], 2) from HV.out.trans (may_not (Or.inr (Or.inr (by omega))) _ _ _ _))
        have hxi : (65535 : Int) < (x : Int) := by omega
        rw [hz1] at HZ1
        rw [hz2] at HZ2
        clear hr hcap hb hr2 hT hm hx hN1 hN2 hz1 hz2 hl1 hl2
        go_enter Tryz.func9, Tryz.ntmps9
        go_wp2_with fail
        refine HZ1.out.mono ?_
        rintro e w' ⟨rfl, rfl⟩
        go_wp2_with fail
        refine HZ2.out.mono ?_
        rintro e w' ⟨rfl, rfl⟩
        go_wp2_with fail
        go_ret2
        rw [HE.out]
        exact DrA.no (Fr.refl _ _)
      · have HE := Lib.hid (show V = (dressB csum rls b N1 N2 extra hc, 0) from HV.out.trans (may_yes hz1 hz2 (by omega) _ _ _ _))
        have hxi : ¬ (65535 : Int) < (x : Int) := by omega
        rw [hz1] at HZ1
        rw [hz2] at HZ2
        have HNE := Lib.hid (pnew w)
        obtain ⟨f1, hf1⟩ : ∃ f, f = 0 + hasN extra 4 := ⟨_, rfl⟩
        obtain ⟨t1, ht1⟩ : ∃ t, t = [] ++ exB extra := ⟨_, rfl⟩
        obtain ⟨f2, hf2⟩ : ∃ f, f = f1 + hasN N1 8 := ⟨_, rfl⟩
        obtain ⟨t2, ht2⟩ : ∃ t, t = t1 ++ txB N1 := ⟨_, rfl⟩
        obtain ⟨f3, hf3⟩ : ∃ f, f = f2 + hasN N2 16 := ⟨_, rfl⟩
        obtain ⟨t3, ht3⟩ : ∃ t, t = t2 ++ txB N2 := ⟨_, rfl⟩
        have hfb : f1 < 32 ∧ f1 / 8 % 2 = 0 ∧ f2 < 32 ∧ f2 / 16 % 2 = 0 ∧ f3 < 32 ∧ f3 / 2 % 2 = 0 := by
          rcases hasN_cases extra 4 with e1 | e1 <;> rcases hasN_cases N1 8 with e2 | e2 <;> rcases hasN_cases N2 16 with e3 | e3 <;> (rw [hf3, hf2, hf1, e1, e2, e3]; decide)
        have hlen : t1.length ≤ 65537 ∧ t2.length ≤ 1200000 ∧ t3.length ≤ 2400000 := by
          have a1 := exB_len extra
          have a2 := tx_len N1
          have a3 := tx_len N2
          simp only [ht3, ht2, ht1, List.nil_append, List.length_append]
          omega
        obtain ⟨b1, b2, b3, b4, b5, b6⟩ := hfb
        obtain ⟨l1, l2, l3⟩ := hlen
        have HPX := Lib.hid (fun (w1 : World) (h g c : Nat) (k : HW w w1 h g 10 c (pre 0 [])) => pextra k (by decide) (by decide) A2 x cap2 extra hr2 hx (by omega) (by decide))
        rw [← hf1, ← ht1] at HPX
        have HP1 := Lib.hid (fun (w1 : World) (h g n c : Nat) (k : HW w w1 h g n c (pre f1 t1)) => (show Calls Tryz.prog 21 #[.pointer (some ⟨h, 0, none⟩), .int .u8 8, .string name] w1 fun e w' => e = .returned (.tuple #[]) ∧ ∃ g' n' c', HW w w' h g' n' c' (pre f2 t2) from by
          have := ptext k 8 (by omega) (by omega) ((or_flag f1 b1).2.1 b2) name hn1 (by have := k.out.len; rw [pre_len] at this; omega)
          rw [← hN1, ← hf2, ← ht2] at this
          exact this))
        have HP2 := Lib.hid (fun (w1 : World) (h g n c : Nat) (k : HW w w1 h g n c (pre f2 t2)) => (show Calls Tryz.prog 21 #[.pointer (some ⟨h, 0, none⟩), .int .u8 16, .string note] w1 fun e w' => e = .returned (.tuple #[]) ∧ ∃ g' n' c', HW w w' h g' n' c' (pre f3 t3) from by
          have := ptext k 16 (by omega) (by omega) ((or_flag f2 b3).2.2.1 b4) note hn2 (by have := k.out.len; rw [pre_len] at this; omega)
          rw [← hN2, ← hf3, ← ht3] at this
          exact this))
        have HP3 := Lib.hid (fun (w1 : World) (h g n c : Nat) (k : HW w w1 h g n c (pre f3 t3)) => psumH k hT (by omega) (by omega) ((or_flag f3 b5).2.2.2 b6) (by have := k.out.len; rw [pre_len] at this; omega))
        have hdS : hdB csum N1 N2 extra hc = if hc = true then pre (f3 + 2) t3 ++ numL (csum (pre (f3 + 2) t3) % 65536) 2 else pre f3 t3 := by
          have e1 : hdA N1 N2 extra hc = pre (f3 + if hc = true then 2 else 0) t3 := by
            rw [hdA_pre, hf3, hf2, hf1, ht3, ht2, ht1, List.nil_append, List.append_assoc, Nat.zero_add]
            rfl
          unfold hdB hdS
          rw [e1]
          cases hc with
          | true => rfl
          | false => exact List.append_nil _
        have HF := Lib.hid (fun (w1 : World) (h g n c : Nat) (k : HW w w1 h g n c (hdB csum N1 N2 extra hc)) => pframe (k.still (Fr.refl _ w1)) (hT.keep k.out.fr) A m cap b ((hr.still k.out.fr (Nat.le_refl _)).more k.out.fr.size) hm (by omega) (by omega) (by
          have h1 := k.out.len
          rw [hdS] at h1
          split at h1
          · rw [List.length_append, pre_len, numL_len] at h1; omega
          · rw [pre_len] at h1; omega))
        have HHD := Lib.hid hdS
        clear hr hcap hb hr2 hT hm hx hN1 hN2 hz1 hz2 hl1 hl2 hf1 ht1 hf2 ht2 hf3 ht3 b1 b2 b3 b4 b5 b6 l1 l2 l3 hdS
        go_enter Tryz.func9, Tryz.ntmps9
        go_wp2_with fail
        refine HZ1.out.mono ?_
        rintro e w' ⟨rfl, rfl⟩
        go_wp2_with fail
        refine HZ2.out.mono ?_
        rintro e w' ⟨rfl, rfl⟩
        go_wp2_with fail
        refine HNE.out.mono ?_
        rintro e w1 ⟨h, g, c, rfl, k⟩
        have HX1 := Lib.hid (HPX.out w1 h g c k.out)
        clear k HNE
        go_wp2_with fail
        refine HX1.out.mono ?_
        rintro e w2 ⟨rfl, g2, n2, c2, k2⟩
        have HX2 := Lib.hid (HP1.out w2 h g2 n2 c2 k2)
        clear k2 HX1
        go_wp2_with fail
        refine HX2.out.mono ?_
        rintro e w3 ⟨rfl, g3, n3, c3, k3⟩
        have HX3 := Lib.hid (HP2.out w3 h g3 n3 c3 k3)
        clear k3 HX2
        go_wp2_with fail
        refine HX3.out.mono ?_
        rintro e w4 ⟨rfl, g4, n4, c4, k4⟩
        cases hc with
        | true =>
          have HX4 := Lib.hid (HP3.out w4 h g4 n4 c4 k4)
          clear k4 HX3
          go_wp2_with fail
          refine HX4.out.mono ?_
          rintro e w5 ⟨rfl, g5, n5, c5, k5⟩
          have HX5 := Lib.hid (HF.out w5 h g5 n5 c5 (by rw [HHD.out, if_pos trivial]; exact k5))
          have HFR := Lib.hid k5.out.fr
          clear k5 HX4
          go_wp2_with fail
          refine HX5.out.mono ?_
          rintro e w6 ⟨v, rfl, ho, hF6⟩
          obtain ⟨A', c', rfl, h2, h3⟩ := new_of HFR.out ho hF6
          have HEND := Lib.hid (show DrA w V (.returned (.tuple #[.slice A' (frB (hdB csum N1 N2 extra true) b).length c', .int .i64 0])) w6 from ⟨A', c', by rw [HE.out, dress_fr], by rw [HE.out]; exact h2.rd, own_none2 h2, by rw [HE.out]; exact (own_cap2 h2).2, h3⟩)
          clear ho hF6 h2 h3 HX5
          go_wp2_with fail
          go_ret2
          exact HEND.out
        | false =>
          have HX5 := Lib.hid (HF.out w4 h g4 n4 c4 (by rw [HHD.out, if_neg (by decide)]; exact k4))
          have HFR := Lib.hid k4.out.fr
          clear k4 HX3
          go_wp2_with fail
          refine HX5.out.mono ?_
          rintro e w6 ⟨v, rfl, ho, hF6⟩
          obtain ⟨A', c', rfl, h2, h3⟩ := new_of HFR.out ho hF6
          have HEND := Lib.hid (show DrA w V (.returned (.tuple #[.slice A' (frB (hdB csum N1 N2 extra false) b).length c', .int .i64 0])) w6 from ⟨A', c', by rw [HE.out, dress_fr], by rw [HE.out]; exact h2.rd, own_none2 h2, by rw [HE.out]; exact (own_cap2 h2).2, h3⟩)
          clear ho hF6 h2 h3 HX5
          go_wp2_with fail
          go_ret2
          exact HEND.out
end Go.Proofs.YtcdhakfmljjaoaaGreatDoor.gz

/-
  The program's frames, all of their contracts.
-/


namespace Go.Proofs.YtcdhakfmljjaoaaGreatDoor.gz
set_option maxRecDepth 100000
open Go.RowKit Go.Maps Go.Proofs.YtcdhakfmljjaoaaGreatDoor.fl Go.Proofs.YtcdhakfmljjaoaaGreatDoor.cd Go.Proofs.YtcdhakfmljjaoaaGreatDoor.ft
set_option maxRecDepth 100000

theorem gzip_all : GzipP DT csum rls where
  lens := rls_sym
  small := csum_lt
  d_keep := fun h hF => h.keep hF
  ex := by decide +kernel
  opn := fun w A cap b most hr hA hc hb hm hD => pOpen w A cap b most hr hA hc hb hm hD
  wrap := fun w A cap b hr _ hc hb hD => pWrap w A cap b hr hc hb hD
  header := fun w A cap b hr hA hc hb hD => pHeader w A cap b hr hA hc hb hD
  dress := fun w A cap b name note A2 cap2 extra hc hr _ hcap hb hn1 hn2 hr2 _ _ _ hD => pDress w A cap b name note A2 cap2 extra hc hr hcap hb hn1 hn2 hr2 hD
  crc := fun w A cap b hr hl hD => (sum_rd hD.crc hr rfl (by omega)).mono fun e w' h => ⟨by rw [h.1, uv_csum], h.2 ▸ Fr.refl _ _⟩
end Go.Proofs.YtcdhakfmljjaoaaGreatDoor.gz
