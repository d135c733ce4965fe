/-
  CrcXor: the checksums of three lists of one length, and of their xor, cancel out, whatever the lists. No condition but what the row lists of the program's table.
-/
import Derived.Test.YtccagamldlpefaaDoorRows
import Derived.Test.YtccagamldlpefaaDoorCrcH
import Derived.Test.YtccagamldlpefaaDoorCrcW
import Derived.Test.YtccagamldlpefaaDoorCards
import Derived.Test.YtccagamldlpefaaDoorTie
import Derived.SevenTiedAt
import Derived.WalkLawsBesides
import Derived.StillTailTactics
namespace Go.Proofs.YtccagamldlpefaaDoor.crcXor
open Go.ChangeShapes Go.WideShapes Go.ChangeAt Go.RowKit

/-- The xor of the first k bytes, noughts behind. -/
def part (a b c : List UInt8) (n k : Nat) : List UInt8 := (xors (xors a b) c).take k ++ zeros (n - k)
theorem xors_get : ∀ {a b : List UInt8} {k : Nat} (h1 : k < a.length) (h2 : k < b.length), (xors a b)[k]? = some (a[k] ^^^ b[k])
  | x :: a, y :: b, 0, _, _ => rfl
  | x :: a, y :: b, k + 1, h1, h2 => by
    have := xors_get (a := a) (b := b) (k := k) (by simpa using h1) (by simpa using h2)
    simpa [xors] using this
theorem part_zero (a b c : List UInt8) (n : Nat) : part a b c n 0 = zeros n := by unfold part; simp
theorem part_length {a b c : List UInt8} {n k : Nat} (h : (xors (xors a b) c).length = n) (hk : k ≤ n) : (part a b c n k).length = n := by
  unfold part
  rw [List.length_append, List.length_take, zeros_length]
  omega
theorem part_full {a b c : List UInt8} {n : Nat} (h : (xors (xors a b) c).length = n) : part a b c n n = xors (xors a b) c := by
  unfold part
  rw [Nat.sub_self, List.take_of_length_le (by omega)]
  exact List.append_nil _
theorem part_set {a b c : List UInt8} {n k : Nat} {v : UInt8} (h : (xors (xors a b) c).length = n) (hk : k < n) (hv : (xors (xors a b) c)[k]? = some v) : (part a b c n k).set k v = part a b c n (k + 1) := by
  unfold part
  have hl : ((xors (xors a b) c).take k).length = k := by rw [List.length_take]; omega
  rw [List.set_append_right _ _ (by omega), hl, Nat.sub_self]
  obtain ⟨m, hm⟩ : ∃ m, n - k = m + 1 := ⟨n - k - 1, by omega⟩
  have hm' : n - (k + 1) = m := by omega
  rw [hm, hm']
  have hk2 : k < (xors (xors a b) c).length := by omega
  rw [List.getElem?_eq_getElem hk2, Option.some.injEq] at hv
  rw [List.take_succ_eq_append_getElem hk2, hv, List.append_assoc]
  rfl
theorem part_at {a b c : List UInt8} {n k : Nat} (h : (xors (xors a b) c).length = n) (hk : k < n) : (part a b c n k)[k]'(by rw [part_length h (by omega)]; exact hk) = 0 := by
  have hl : ((xors (xors a b) c).take k).length = k := by rw [List.length_take]; omega
  have : (part a b c n k)[k]? = some 0 := by
    unfold part
    rw [List.getElem?_append_right (by omega), hl, Nat.sub_self]
    obtain ⟨m, hm⟩ : ∃ m, n - k = m + 1 := ⟨n - k - 1, by omega⟩
    rw [hm]
    rfl
  rw [List.getElem?_eq_getElem (by rw [part_length h (by omega)]; exact hk), Option.some.injEq] at this
  exact this

theorem xors3_get {a b c : List UInt8} {k : Nat} (h1 : k < a.length) (h2 : k < b.length) (h3 : k < c.length) (hl : a.length = b.length) : (xors (xors a b) c)[k]? = some (a[k] ^^^ b[k] ^^^ c[k]) := by
  have hx : k < (xors a b).length := by rw [xors_length hl]; exact h1
  have := xors_get h1 h2
  rw [List.getElem?_eq_getElem hx, Option.some.injEq] at this
  rw [xors_get hx h3, this]

/-- The loop's world. -/
structure At (w1 : World) (g n : Nat) (l : List UInt8) (wr : World) : Prop where
  own : Own wr g (.slice (some ⟨g, 0, none⟩) l.length n) l
  fr : Fr (fun _ => False) w1 wr
theorem At.next {w1 wr : World} {g n k : Nat} {l : List UInt8} (h : At w1 g n l wr) (hg : w1.heap.size ≤ g) (hk : k < l.length) :
    wr.cell? ⟨g, k, none⟩ = some (.int .u8 (l[k].toNat : Int)) ∧ wr.frozen? ⟨g, k, none⟩ = false ∧ ∀ (c : UInt8) (m : Nat), At w1 g n (l.set k c) ((wr.drewN m).setCell ⟨g, k, none⟩ (.int .u8 (c.toNat : Int))) := by
  obtain ⟨g', e, _, _, hc, hf, hset⟩ := h.own.at_ hk
  cases e
  exact ⟨hc, hf, fun c m => ⟨(hset c).kept ⟨rfl, rfl, rfl, by simp, fun i _ _ => rfl⟩, (h.fr.drewN m).setCell (p := ⟨g, k, none⟩) (Or.inr hg) _⟩⟩

set_option maxRecDepth 100000 in
set_option maxHeartbeats 1000000 in
theorem core (A B C : Option Addr) (ca cb cc : Nat) (la lb lc : List UInt8) (n : Nat) (W : World) (hT : Tab W) (ha : Rd W W.heap.size A (la.take n)) (hb : Rd W W.heap.size B (lb.take n)) (hc : Rd W W.heap.size C (lc.take n))
    (na nb nc : Nat) (hna : n ≤ na) (hnb : n ≤ nb) (hnc : n ≤ nc) (h1 : n = na ∨ n = nb ∨ n = nc) (hca : na ≤ ca) (hcb : nb ≤ cb) (hcc : nc ≤ cc) (ea : na = la.length) (eb : nb = lb.length) (ec : nc = lc.length) (hl : n ≤ 140737488351232) :
    Calls Tryd.prog 8 #[.slice A na ca, .slice B nb cb, .slice C nc cc] W fun e w' => e = .returned (.bool true) ∧ Fr (fun _ => False) W w' := by
  have HT := Lib.hid hT
  have HA := Lib.hid ha
  have HB := Lib.hid hb
  have HC := Lib.hid hc
  have HE := Lib.hid (⟨ea, eb, ec⟩ : _ ∧ _ ∧ _)
  clear hT ha hb hc ea eb ec
  go_enter Tryd.func8, Tryd.ntmps8
  go_wp2_with fail
  refine (works_any W HT.out).mono ?_
  rintro e w1 ⟨rfl, hF⟩
  have HF := Lib.hid hF
  clear hF
  have hcase : ((na : Int) ≤ nb ∧ (na : Int) ≤ nc ∧ n = na) ∨ ((na : Int) ≤ nb ∧ (nc : Int) < na ∧ n = nc) ∨ ((nb : Int) < na ∧ (nb : Int) ≤ nc ∧ n = nb) ∨ ((nb : Int) < na ∧ (nc : Int) < nb ∧ n = nc) := by omega
  clear h1
  rcases hcase with ⟨h1, h2, rfl⟩ | ⟨h1, h2, rfl⟩ | ⟨h1, h2, rfl⟩ | ⟨h1, h2, rfl⟩
  all_goals
    go_wp2_with fail
  all_goals
    have sA := fun m => cut_low w1 A m ca n (show n ≤ ca by omega)
    have sB := fun m => cut_low w1 B m cb n (show n ≤ cb by omega)
    have sC := fun m => cut_low w1 C m cc n (show n ≤ cc by omega)
    go_quiet (fail)
    clear sA sB sC
    obtain ⟨w2, hmk, ho, hF2, hlt⟩ := made_at (w1.drewN nq) n hl
    have HO := Lib.hid ho
    have HF2 := Lib.hid (show Fr (fun _ => False) w1 w2 from ((Fr.refl _ w1).drewN nq).trans hF2 (fun _ _ e => e))
    have HG := Lib.hid (show w1.heap.size ≤ (w1.drewN nq).heap.size from Nat.le_refl _)
    generalize (w1.drewN nq).heap.size = g at hmk HO HG
    clear ho hF2 hlt
    go_wp2_with fail
    have hla : (la.take n).length = n := by rw [List.length_take]; have := HE.out; omega
    have hlb : (lb.take n).length = n := by rw [List.length_take]; have := HE.out; omega
    have hlc : (lc.take n).length = n := by rw [List.length_take]; have := HE.out; omega
    have HL := Lib.hid (⟨hla, hlb, hlc⟩ : _ ∧ _ ∧ _)
    have hlx : (xors (xors (la.take n) (lb.take n)) (lc.take n)).length = n := by rw [xors_length (by rw [xors_length (by omega)]; omega), xors_length (by omega)]; exact hla
    have HX := Lib.hid hlx
    clear hla hlb hlc hlx h1 h2
    have HAT := Lib.hid (show At w1 g n (part (la.take n) (lb.take n) (lc.take n) n 0) w2 by rw [part_zero]; exact ⟨HO.out, HF2.out⟩)
    clear HO HF2
    have HS := Lib.hid HF.out.size
    go_loopw [9] (fun i wr => ∃ k : Nat, k ≤ n ∧ i = .int .i64 k ∧ Hid (At w1 g n (part (la.take n) (lb.take n) (lc.take n) n k) wr)) (fun i _ => n - (intOf i).toNat)
    case atStart => exact ⟨0, Nat.zero_le _, rfl, HAT⟩
    case round =>
      obtain ⟨k, hk, rfl, HW⟩ := hrel
      by_cases hlt : k < n
      · obtain ⟨b1, o1, rfl, _, d1⟩ := ((HA.out.still HF.out (Nat.le_refl _)).still HW.out.fr HS.out).at_ (k := k) (by have := HL.out; omega)
        obtain ⟨b2, o2, rfl, _, d2⟩ := ((HB.out.still HF.out (Nat.le_refl _)).still HW.out.fr HS.out).at_ (k := k) (by have := HL.out; omega)
        obtain ⟨b3, o3, rfl, _, d3⟩ := ((HC.out.still HF.out (Nat.le_refl _)).still HW.out.fr HS.out).at_ (k := k) (by have := HL.out; omega)
        have hpk : k < (part (la.take n) (lb.take n) (lc.take n) n k).length := by rw [part_length HX.out hk]; exact hlt
        obtain ⟨d4, f4, hnext⟩ := HW.out.next HG.out hpk
        have h1 : k < (la.take n).length := by have := HL.out; omega
        have h2 : k < (lb.take n).length := by have := HL.out; omega
        have h3 : k < (lc.take n).length := by have := HL.out; omega
        have hv := xors3_get h1 h2 h3 (by have := HL.out; omega)
        have r1 := bits_xor8 (la.take n)[k] (lb.take n)[k]
        have r2 := bits_xor8 ((la.take n)[k] ^^^ (lb.take n)[k]) (lc.take n)[k]
        have hs : ∀ m, At w1 g n (part (la.take n) (lb.take n) (lc.take n) n (k + 1)) ((wr.drewN m).setCell ⟨g, k, none⟩ (.int .u8 (((la.take n)[k] ^^^ (lb.take n)[k] ^^^ (lc.take n)[k]).toNat : Int))) := fun m => by
          have := hnext ((la.take n)[k] ^^^ (lb.take n)[k] ^^^ (lc.take n)[k]) m
          rw [part_set HX.out hlt hv] at this
          exact this
        have hpa : (part (la.take n) (lb.take n) (lc.take n) n k)[k] = 0 := part_at HX.out hlt
        rw [hpa] at d4
        generalize (la.take n)[k] = x at d1 r1 r2 hs
        generalize (lb.take n)[k] = y at d2 r1 r2 hs
        generalize (lc.take n)[k] = t at d3 r2 hs
        generalize ((x ^^^ y ^^^ t).toNat : Int) = v at r2 hs
        generalize ((x ^^^ y).toNat : Int) = u at r1 r2
        generalize (x.toNat : Int) = x' at r1 d1
        generalize (y.toNat : Int) = y' at r1 d2
        generalize (t.toNat : Int) = t' at r2 d3
        have HSET := Lib.hid (show At w1 g n (part (la.take n) (lb.take n) (lc.take n) n (k + 1)) (wr.drew.setCell ⟨g, k, none⟩ (.int .u8 v)) from hs 1)
        have d5 : wr.drew.cell? ⟨g, k, none⟩ = some (.int .u8 ((0 : UInt8).toNat : Int)) := d4
        have f5 : wr.drew.frozen? ⟨g, k, none⟩ = false := f4
        have i1 : (0 : Int) ≤ k := by omega
        have i2 : (k : Int) < n := by omega
        clear hnext h1 h2 h3 hv hpk hpa hs
        go_wp2_with fail
        go_still_tail 17, (by kernel_rfl)
        clear d1 d2 d3 d4 f4
        change wpList _ _ _ _ _ wr.drew
        generalize wr.drew = w3 at d5 f5 HSET ⊢
        go_wp2
        go_roundw
        case rel => exact ⟨k + 1, by omega, by go_num, HSET⟩
        case measure => simp [intOf]; omega
      · have hkn : k = n := by omega
        subst hkn
        have hT3 := HT.out.fr (HF.out.trans HW.out.fr (fun _ _ e => e))
        have ho := HW.out.own
        rw [part_full HX.out] at ho
        have HX1 := Lib.hid (sum_own hT3 ho (n := k) HX.out (by omega))
        have HA1 := Lib.hid (sum_rd (cap := ca) hT3 ((HA.out.still HF.out (Nat.le_refl _)).still HW.out.fr HS.out) (n := k) HL.out.1 (by omega))
        have HB1 := Lib.hid (sum_rd (cap := cb) hT3 ((HB.out.still HF.out (Nat.le_refl _)).still HW.out.fr HS.out) (n := k) HL.out.2.1 (by omega))
        have HC1 := Lib.hid (sum_rd (cap := cc) hT3 ((HC.out.still HF.out (Nat.le_refl _)).still HW.out.fr HS.out) (n := k) HL.out.2.2 (by omega))
        have hx := crc_xor (a := la.take k) (b := lb.take k) (c := lc.take k) (by have := HL.out; omega) (by have := HL.out; omega)
        generalize crcMore 0#32 (la.take k) = p1 at hx HA1
        generalize crcMore 0#32 (lb.take k) = p2 at hx HB1
        generalize crcMore 0#32 (lc.take k) = p3 at hx HC1
        generalize crcMore 0#32 (xors (xors (la.take k) (lb.take k)) (lc.take k)) = p4 at hx HX1
        have r1 := bits_xor p1 p2
        have r2 := bits_xor (p1 ^^^ p2) p3
        have r3 := bits_xor (p1 ^^^ p2 ^^^ p3) p4
        rw [hx] at r3
        have t0 : (uv 0#32 == 0) = true := by decide
        clear hT3 ho hx
        go_wp2_with fail
        refine HA1.out.mono ?_
        rintro e w' ⟨rfl, rfl⟩
        go_wp2_with fail
        refine HB1.out.mono ?_
        rintro e w' ⟨rfl, rfl⟩
        go_wp2_with fail
        refine HC1.out.mono ?_
        rintro e w' ⟨rfl, rfl⟩
        go_wp2_with fail
        refine HX1.out.mono ?_
        rintro e w' ⟨rfl, rfl⟩
        go_wp2_with fail
        go_ret
        exact ⟨rfl, HF.out.trans HW.out.fr (fun _ _ e => e)⟩

theorem walk (A : Option Addr) (ca : Nat) (la : List UInt8) (B : Option Addr) (cb : Nat) (lb : List UInt8) (C : Option Addr) (cc : Nat) (lc : List UInt8) (W : World) (hT : Tab W)
    (ha : Rd W W.heap.size A la) (hb : Rd W W.heap.size B lb) (hc : Rd W W.heap.size C lc) (h1 : la.length ≤ ca) (h2 : lb.length ≤ cb) (h3 : lc.length ≤ cc) (hl : la.length ≤ 140737488351232) :
    Calls Tryd.prog 8 #[.slice A la.length ca, .slice B lb.length cb, .slice C lc.length cc] W fun e w' => e = .returned (.bool true) ∧ Fr (fun _ => False) W w' := by
  obtain ⟨n, hn⟩ : ∃ n, n = min (min la.length lb.length) lc.length := ⟨_, rfl⟩
  exact core A B C ca cb cc la lb lc n W hT (ha.take n) (hb.take n) (hc.take n) _ _ _ (by omega) (by omega) (by omega) (by omega) h1 h2 h3 rfl rfl rfl (by omega)

/-! ### the row -/
theorem own : ownKnob Tryd.prog.godebug = none := by kernel_rfl
set_option maxRecDepth 100000 in
theorem lifted (os : Os) (started : os.Started) (H : Type) (enc : TypeId × Value → H) :
    ReturnsInHanded {} Tryd.checked os 8 .any (fun w args => (Rows.crcXorSpec.pre enc Tryd.prog Tryd.f8 [] false w args ∧ laidMetH Tryd.prog laidL w) ∧ sizedMet enc Tryd.prog Tryd.f8 (OpenSpec.ofChange Rows.crcXorSpec) false w args)
      (Rows.crcXorSpec.post enc Tryd.prog Tryd.f8 false true false false) := by
  refine returnsInHanded_of_change_and (C := Tryd.checked) (X := fun w _ => laidMetH Tryd.prog laidL w) (fun _ _ _ hh h => h.of_heap hh) own started (by kernel_rfl) Tryd.func8
    (ChangeSpec.witness_shaped (enc := enc) (C := Tryd.checked) (os := os) (X := fun w _ => laidMetH Tryd.prog laidL w) false (World.doorLaid Tryd.prog 400 os) #[.slice none 0 0, .slice none 0 0, .slice none 0 0] 8 rfl (World.shaped_of_RefB (by kernel_rfl) (by kernel_rfl)) (by kernel_rfl) (by kernel_rfl) (by kernel_rfl) (door_met os _)) ?_
  intro W base args ds gs before hval0 hW _ hsz0 hL _
  have hval : ∀ (j : Nat) t v, Tryd.f8.params[j]? = some t → args[j]? = some v → Value.okWide Tryd.prog W .any base t v := hval0
  have hsz : (DataW.weightsEach Tryd.prog (Tryd.f8.params.toList ++ Rows.crcXorSpec.plain.varTypes Tryd.prog) (ds ++ gs)).all (· ≤ reachBytes) = true := hsz0
  have hW' := hW
  obtain ⟨p, q, hA0, hV, rfl, hfz, hnd⟩ := hW
  have hA : DataW.TrodAll enc Tryd.prog W 0 (fun _ => true) true Tryd.f8.params.toList args.toList ds p := hA0
  rw [Tryd.params8] at hA hval hsz
  obtain ⟨v0, vs0, d0, ds0, p0, q0, hargs, rfl, rfl, h0, r0⟩ := trodAll_cons hA
  obtain ⟨v1, vs1, d1, ds1, p1, q1, rfl, rfl, rfl, h1, r1⟩ := trodAll_cons r0
  obtain ⟨v2, vs2, d2, ds2, p2, q2, rfl, rfl, rfl, h2, r2⟩ := trodAll_cons r1
  obtain ⟨rfl, rfl, rfl⟩ := trodAll_nil r2
  obtain rfl : args = #[v0, v1, v2] := by cases args; simp_all
  obtain ⟨rfl, rfl⟩ := trodVars_none hV
  obtain ⟨A0, cap0, l0, rfl, hr0, hA0, hc0, hl0⟩ := bytes_open (fun _ => rfl) (fun el sp (e : d0 = .slice el sp) => sized_slice hsz (j := 0) (t := 22) (e := 5) rfl (by rw [e]; rfl) Tryd.underlying22) (hval 0 22 v0 rfl rfl) h0
  obtain ⟨A1, cap1, l1, rfl, hr1, hA1, hc1, hl1⟩ := bytes_open (fun _ => rfl) (fun el sp (e : d1 = .slice el sp) => sized_slice hsz (j := 1) (t := 22) (e := 5) rfl (by rw [e]; rfl) Tryd.underlying22) (hval 1 22 v1 rfl rfl) h1
  obtain ⟨A2, cap2, l2, rfl, hr2, hA2, hc2, hl2⟩ := bytes_open (fun _ => rfl) (fun el sp (e : d2 = .slice el sp) => sized_slice hsz (j := 2) (t := 22) (e := 5) rfl (by rw [e]; rfl) Tryd.underlying22) (hval 2 22 v2 rfl rfl) h2
  clear hA0 hval0 hsz0
  simp only [List.append_nil] at hW'
  try simp only [List.nil_append] at hW'
  have hlt0 : ∀ x ∈ p0, x.block < W.heap.size := fun x hx => by simpa using hW'.lt x (by simp [hx])
  have hlt1 : ∀ x ∈ p1, x.block < W.heap.size := fun x hx => by simpa using hW'.lt x (by simp [hx])
  have hlt2 : ∀ x ∈ p2, x.block < W.heap.size := fun x hx => by simpa using hW'.lt x (by simp [hx])
  have hT := tab_of_laid hL
  refine (walk A0 cap0 l0 A1 cap1 l1 A2 cap2 l2 W hT hr0 hr1 hr2 hc0 hc1 hc2 hl0).mono fun e W' ⟨he, hg⟩ => ?_
  subst he
  have hB : Below W.heap.size W W' := hg.below (Nat.le_refl _) (fun _ _ e => e.elim)
  have t0 := Below.trod laidOut (by kernel_rfl) (of_decide_eq_true (by kernel_rfl)) h0 hB hlt0
  have t1 := Below.trod laidOut (by kernel_rfl) (of_decide_eq_true (by kernel_rfl)) h1 hB hlt1
  have t2 := Below.trod laidOut (by kernel_rfl) (of_decide_eq_true (by kernel_rfl)) h2 hB hlt2
  exact ⟨_, rfl, _, _, _, [], _, [], hW', trodAll_cons_mk (shut_bool Tryd.underlying4 _) trodAll_mk0, (trodAll_cons_mk t0 (trodAll_cons_mk t1 (trodAll_cons_mk t2 trodAll_mk0))), rfl, hB.frame _, fun h => by cases h⟩

theorem over : Rows.crcXorRow.holds Tryd.pinned (OpenSpec.ofChange Rows.crcXorSpec) :=
  OpenClaim.holds_of_wide 8 Tryd.f8 rfl rfl rfl rfl rfl rfl rfl ⟨rfl, rfl, rfl, rfl, rfl⟩ rfl rfl rfl rfl rfl (by kernel_rfl) Tryd.func8 (by kernel_rfl)
    (of_decide_eq_true (by kernel_rfl)) (by unfold Func.isWrapper; first | (rw [if_pos (by decide +kernel)]; kernel_rfl) | (rw [if_neg (by decide +kernel)]; exact ⟨rfl, rfl⟩))
    (fun os started H enc _ => lifted os started H enc)

theorem proved : Rows.CrcXorCardSaid :=
  Claim7.holds_tied_plain_at .later [] [.data] true Rows.crcXorCard.stood.harness false
    over (fun _ h => by cases h) (by kernel_rfl) (fun _ h => by cases h) crcXor_row_tie rfl ⟨rfl, rfl⟩ (by kernel_rfl) rfl
    (fun f fn hf hfn => by
      obtain rfl : f = 8 := Option.some.inj ((show Tryd.prog.funcNamed "sutler/sutlerlaw02.CrcXor" = some 8 by kernel_rfl).symm.trans hf) |>.symm
      obtain rfl : fn = Tryd.f8 := (Option.some.inj (Tryd.func8.symm.trans hfn)).symm
      exact ⟨by kernel_rfl, fun j t ht => by
        rw [Tryd.params8] at ht
        have hm : t ∈ [22, 22, 22] := by simpa using Array.mem_of_getElem? ht
        have hall : ([22, 22, 22].all fun u => !Tryd.prog.wantsStandIn u) = true := by kernel_rfl
        exact (show Tryd.prog.wantsStandIn t = false by simpa using List.all_eq_true.1 hall t hm)⟩)
    (by kernel_rfl)
#print axioms proved

end Go.Proofs.YtccagamldlpefaaDoor.crcXor
