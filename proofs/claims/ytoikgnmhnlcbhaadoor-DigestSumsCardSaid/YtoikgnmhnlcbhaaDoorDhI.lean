/-
  The program's digest, block by block.
-/
import Derived.Test.YtoikgnmhnlcbhaaDoorDhH
namespace Go.Proofs.YtoikgnmhnlcbhaaDoor.dg
set_option maxRecDepth 100000
open Go.RowKit Go.Maps
set_option maxRecDepth 100000

/-- What is read there whatever happens to the state. -/
def RdA (w : World) (g : Nat) (A : Option Addr) (l : Bts) : Prop := ∀ w', Fr (· = g) w w' → Rd w' w'.heap.size A l
theorem RdA.keep {w w' : World} {g : Nat} {A : Option Addr} {l : Bts} (h : RdA w g A l) (hF : Fr (· = g) w w') : RdA w' g A l := fun w2 h2 => h w2 (hF.trans h2 (fun _ _ e => e))
theorem RdA.of_rd {w : World} {B0 g : Nat} {A : Option Addr} {l : Bts} (h : Rd w B0 A l) (hB : B0 ≤ w.heap.size) (hg : B0 ≤ g) : RdA w g A l := fun w' hF => (h.kept hF hB (fun i hi e => by omega)).more (by have := hF.size; omega)
theorem RdA.of_row {w : World} {g k : Nat} {l : Bts} (h : w.heap[k]? = some (.cells (bs l).toArray 5 (0, 0))) (hk : k ≠ g) : RdA w g (some ⟨k, 0, none⟩) l := fun w' hF _ => by
  have hlt : k < w.heap.size := (Array.getElem?_eq_some_iff.1 h).1
  refine ⟨k, 0, rfl, by have := hF.size; omega, fun j x hj => ?_⟩
  rw [cellAt ((hF.block k hlt hk).trans h), Nat.zero_add, List.getElem?_toArray, bs_get, hj]
  rfl
structure DI (w wr : World) (g : Nat) (key b : Bts) (i : Nat) (B1 : Option Addr) (block : Bts) (B2 : Option Addr) (c2 : Nat) (behind : Bts) (h : List W) (t : Nat) : Prop where
  ch : Ch key b i block behind h t
  sc : SC wr g h t
  ra : RdA wr g B1 block
  rb : Rd wr w.heap.size B2 behind
  cap : behind.length ≤ c2
  dt : DT wr
  fr : Fr (fun _ => False) w wr
  res : wr.heap[w.heap.size]? = some (.cells (dgC no32) 24 (0, 0))
def slN : Value → Nat
  | .slice _ n _ => n
  | _ => 0
set_option maxHeartbeats 16000000 in
theorem pdigest (w : World) (hT : DT w) (A : Option Addr) (kc : Nat) (key : Bts) (B : Option Addr) (bc : Nat) (b : Bts) (hk : Rd w w.heap.size A key) (hk32 : key.length ≤ 32) (hb : Rd w w.heap.size B b) (hbc : b.length ≤ bc) (hbl : b.length ≤ 100000) :
    Calls Tryd.prog 22 #[.slice A key.length kc, .slice B b.length bc] w fun e w' => e = .returned (dgV (digV key b)) ∧ Fr (fun _ => False) w w' := by
  have hml := msg_len key b (by omega)
  have HM := Lib.hid (show (msgV key b).length ≤ 100064 from by omega)
  have HFa := Lib.hid ((Fr.refl (fun _ => False) w).alloc (.cells (dgC no32) 24))
  have HZa := Lib.hid (heap_alloc_new w (.cells (dgC no32) 24))
  have HB := Lib.hid (pbegin (w.alloc (.cells (dgC no32) 24)) (hT.keep HFa.out id id id) key.length (by omega))
  have HK := Lib.hid (show Rd w w.heap.size A key ∧ Rd w w.heap.size B b ∧ b.length ≤ bc ∧ DT w from ⟨hk, hb, hbc, hT⟩)
  obtain ⟨nk, hnk⟩ : ∃ n, n = key.length := ⟨_, rfl⟩
  obtain ⟨nb, hnb⟩ : ∃ n, n = b.length := ⟨_, rfl⟩
  have HNK := Lib.hid hnk
  have HNB := Lib.hid hnb
  rw [← hnk] at HB hk32
  rw [← hnk, ← hnb]
  clear hk hb hbc hbl hml hT hnb
  rcases (show (key = [] ∧ ¬ 0 < nk) ∨ (key ≠ [] ∧ 0 < nk) by
    by_cases q : key = []
    · exact Or.inl ⟨q, by rw [hnk, q]; simp⟩
    · exact Or.inr ⟨q, by rw [hnk]; exact List.length_pos_iff.2 q⟩) with ⟨q, qn⟩ | ⟨q, qn⟩
  case' inl => have qi : ¬ 0 < (nk : Int) := by omega
  case' inr => have qi : 0 < (nk : Int) := by omega
  all_goals
    have HQ := Lib.hid q
    clear hnk q
    go_enter Tryd.func22, Tryd.ntmps22
    go_wp2_with (first
      | ((with_reducible refine wpList_allocDg ?_ ?_ ?_); (exact rfl); (exact rfl))
      | (go_at_call 27; refine HB.out.mono ?_; rintro e w2 ⟨rfl, hF2⟩
         have H2 := Lib.hid (show w2.heap[w.heap.size]? = some (.cells (dgC no32) 24 (0, 0)) ∧ Fr (fun _ => False) w w2 from ⟨(hF2.block _ (size_up _ _) id).trans HZa.out, HFa.out.trans hF2 (fun _ _ e => e)⟩)
         clear hF2)
      | ((with_reducible refine wpList_allocS ?_ ?_ ?_); (exact rfl); (exact rfl))
      | ((with_reducible refine wpList_storeS ?_ (.tmp 5) (.tmp 10) ?_ w2.heap.size (headV nk) no8 0 0 (head_len nk) (SC.new no8_len) ?_ ?_ ?_); (exact rfl); (exact rfl); (exact rfl); (exact rfl); intro w3 h3 hF3 hs3
         have hF23 := ((Fr.refl (fun _ => False) w2).alloc (.cells (stC no8 0).toArray 48)).trans (hF3.mono (S := fun i => w2.heap.size ≤ i) (fun i _ e => by omega)) (fun _ hi e => absurd hi (by omega))
         have hlt : w.heap.size < w2.heap.size := (Array.getElem?_eq_some_iff.1 H2.out.1).1
         have H3 := Lib.hid (show SC w3 w2.heap.size (headV nk) 0 ∧ w3.heap[w.heap.size]? = some (.cells (dgC no32) 24 (0, 0)) ∧ Fr (fun _ => False) w w3 ∧ w.heap.size < w2.heap.size ∧ DT w3 from ⟨h3, (hF23.block _ hlt id).trans H2.out.1, H2.out.2.trans hF23 (fun _ _ e => e), hlt, HK.out.2.2.2.keep (H2.out.2.trans hF23 (fun _ _ e => e)) id id id⟩)
         have HC := Lib.hid (pcut w3 w.heap.size B bc b (HK.out.2.1.still H3.out.2.2.1 (Nat.le_refl _)) HK.out.2.2.1)
         rw [← HNB.out] at HC
         clear h3 hF3 hs3 hF23 hlt)
      | (go_at_call 28; refine HC.out.mono ?_; rintro e w4 ⟨A1, c1, A2, c2, rfl, hr1, hr2, hc2, hC4⟩
         obtain ⟨nq, hnq⟩ := hC4
         have hF4 : Fr (fun _ => False) w3 w4 := by rw [hnq]; exact (Fr.refl _ _).drewN nq
         have H4 := Lib.hid (show SC w4 w2.heap.size (headV nk) 0 ∧ w4.heap[w.heap.size]? = some (.cells (dgC no32) 24 (0, 0)) ∧ Fr (fun _ => False) w w4 ∧ w.heap.size < w2.heap.size ∧ DT w4 ∧ Rd w4 w.heap.size A1 (b.take 64) ∧ Rd w4 w.heap.size A2 (b.drop 64) ∧ (b.drop 64).length ≤ c2 ∧ w.heap.size ≤ w4.heap.size from
           ⟨H3.out.1.keep hF4 id, (hF4.block _ (Nat.lt_trans H3.out.2.2.2.1 H3.out.1.lt) id).trans H3.out.2.1, H3.out.2.2.1.trans hF4 (fun _ _ e => e), H3.out.2.2.2.1, H3.out.2.2.2.2.keep hF4 id id id, hr1.still hF4 (Nat.le_trans H3.out.2.2.1.size (Nat.le_refl _)), hr2.still hF4 H3.out.2.2.1.size, hc2, (H3.out.2.2.1.trans hF4 (fun _ _ e => e)).size⟩)
         obtain ⟨n1, hn1⟩ : ∃ n, n = (b.take 64).length := ⟨_, rfl⟩
         obtain ⟨n2, hn2⟩ : ∃ n, n = (b.drop 64).length := ⟨_, rfl⟩
         rw [← hn1, ← hn2]
         have HN1 := Lib.hid hn1
         have HN2 := Lib.hid hn2
         have HF := Lib.hid (fun (q : key ≠ []) => pfilled w4 A kc key (HK.out.1.still H4.out.2.2.1 (Nat.le_refl _) |>.more H4.out.2.2.1.size) q (by have := HNK.out; omega))
         rw [← HNK.out] at HF
         clear hr1 hr2 hc2 hnq hF4 hn1 hn2)
      | (go_at_call 29; refine (HF.out HQ.out).mono ?_; rintro e w5 ⟨rfl, hr5, hF5⟩
         have H5 := Lib.hid (show DI w w5 w2.heap.size key b 0 (some ⟨w4.heap.size, 0, none⟩) (fillL key) B bc b (headV nk) 0 from by
           have hl : w2.heap.size < w4.heap.size := H4.out.1.lt
           refine ⟨by rw [HNK.out]; exact ch_key b HQ.out (by have := HNK.out; omega), H4.out.1.keep hF5 id, RdA.of_row hr5 (by omega), (HK.out.2.1.still H4.out.2.2.1 (Nat.le_refl _)).still hF5 H4.out.2.2.1.size, HK.out.2.2.1, H4.out.2.2.2.2.1.keep hF5 id id id, H4.out.2.2.1.trans hF5 (fun _ _ e => e), ?_⟩
           exact (hF5.block _ (by have := H4.out.2.2.2.1; omega) id).trans H4.out.2.1)
         clear hr5 hF5))
  all_goals first
    | (have HS := Lib.hid (show ∃ i block behind h t, DI w w5 w2.heap.size key b i (some ⟨w4.heap.size, 0, none⟩) block B bc behind h t ∧ 64 = block.length ∧ nb = behind.length from ⟨_, _, _, _, _, H5.out, by rw [List.length_append, List.length_replicate]; have := HNK.out; omega, HNB.out⟩))
    | (have H5 := Lib.hid (show DI w w4 w2.heap.size key b 0 A1 (b.take 64) A2 c2 (b.drop 64) (headV nk) 0 from by
         have e : nk = 0 := by omega
         refine ⟨by rw [e, HQ.out]; exact ch_nokey b, H4.out.1, RdA.of_rd H4.out.2.2.2.2.2.1 H4.out.2.2.1.size (by have := H4.out.2.2.2.1; omega), H4.out.2.2.2.2.2.2.1, H4.out.2.2.2.2.2.2.2.1, H4.out.2.2.2.2.1, H4.out.2.2.1, H4.out.2.1⟩)
       have HS := Lib.hid (show ∃ i block behind h t, DI w w4 w2.heap.size key b i A1 block A2 c2 behind h t ∧ n1 = block.length ∧ n2 = behind.length from ⟨_, _, _, _, _, H5.out, HN1.out, HN2.out⟩))
  all_goals
    have HG := Lib.hid (show w.heap.size < w2.heap.size from H4.out.2.2.2.1)
    obtain ⟨g, hg⟩ : ∃ g, g = w2.heap.size := ⟨_, rfl⟩
    have HGN := Lib.hid (show g ≠ 1 ∧ g ≠ 2 ∧ g ≠ 0 from by have h1 := HK.out.2.2.2.lt; have h2 := HG.out; omega)
    rw [← hg] at HS HG ⊢
    clear H5 H4 H3 H2 HF HC HB HFa HZa hg
    go_loopw [6, 7] (fun u6 u7 wr => ∃ B1 n1 c1 B2 n2 c2, u6 = .slice B1 n1 c1 ∧ u7 = .slice B2 n2 c2 ∧ Hid (∃ i block behind h t, DI w wr g key b i B1 block B2 c2 behind h t ∧ n1 = block.length ∧ n2 = behind.length)) (fun _ u _ => slN u)
    case atStart => exact ⟨_, _, _, _, _, _, rfl, rfl, HS⟩
    case round =>
      clear HS
      obtain ⟨B1, m1, d1, B2, m2, d2, rfl, rfl, HR⟩ := hrel
      obtain ⟨i, block, behind, h, t, hD, hm1, hm2⟩ := HR.out
      have HD := Lib.hid hD
      have HM1 := Lib.hid hm1
      have HM2 := Lib.hid hm2
      obtain ⟨hL1, hL2, hL3, hL4, hL5⟩ := ch_len hD.ch
      have HL := Lib.hid (show block.length ≤ 64 ∧ t ≤ 1000000 from ⟨hL1, by have := HM.out; omega⟩)
      clear HR hD hL1 hL2 hL3 hL4 hL5 hm1
      by_cases hp : 0 < m2
      · have hpi : (0 : Int) < (m2 : Int) := by omega
        have hne : behind ≠ [] := by intro e; rw [e] at hm2; simp at hm2; omega
        obtain ⟨hbl, hch⟩ := ch_step HD.out.ch hne
        have HT := Lib.hid (ptake wr HD.out.dt g t h HD.out.sc HGN.out B1 d1 block HD.out.ra HL.out.1 HL.out.2 false)
        rw [← HM1.out] at HT
        have HCH := Lib.hid hch
        have HBL := Lib.hid hbl
        clear hm2 hne hbl hch
        go_wp2_with (first
          | (go_at_call 30; refine HT.out.mono ?_; rintro e w6 ⟨rfl, hs6, hF6⟩
             have hF6' : Fr (fun _ => False) w w6 := HD.out.fr.trans hF6 (fun i hi e => by have := HG.out; omega)
             have H6 := Lib.hid (show SC w6 g (blockV h (wordsV block 16) (t + 64) false) (t + 64) ∧ DT w6 ∧ Fr (fun _ => False) w w6 ∧ w6.heap[w.heap.size]? = some (.cells (dgC no32) 24 (0, 0)) ∧ Rd w6 w.heap.size B2 behind from by
               have e64 : m1 = 64 := HM1.out.trans HBL.out
               rw [e64] at hs6
               refine ⟨hs6, HD.out.dt.keep hF6 (Ne.symm HGN.out.2.2) (Ne.symm HGN.out.1) (Ne.symm HGN.out.2.1), hF6', (hF6.block _ (Array.getElem?_eq_some_iff.1 HD.out.res).1 (by have := HG.out; omega)).trans HD.out.res, HD.out.rb.kept hF6 HD.out.fr.size (fun i hi e => by have := HG.out; omega)⟩)
             have HC := Lib.hid (pcut w6 w.heap.size B2 d2 behind H6.out.2.2.2.2 HD.out.cap)
             rw [← HM2.out] at HC
             clear hs6 hF6 hF6')
          | (go_at_call 28; refine HC.out.mono ?_; rintro e w7 ⟨A3, c3, A4, c4, rfl, hr3, hr4, hc4, hC7⟩
             obtain ⟨nq, hnq⟩ := hC7
             have hF7 : Fr (fun _ => False) w6 w7 := by rw [hnq]; exact (Fr.refl _ _).drewN nq
             have H7 := Lib.hid (show DI w w7 g key b (i + 1) A3 (behind.take 64) A4 c4 (behind.drop 64) (blockV h (wordsV block 16) (t + 64) false) (t + 64) from by
               have hs : w.heap.size ≤ w6.heap.size := H6.out.2.2.1.size
               have hs7 : w.heap.size ≤ w7.heap.size := Nat.le_trans hs hF7.size
               exact ⟨HCH.out, H6.out.1.keep hF7 id, RdA.of_rd (hr3.still hF7 hs) hs7 (by have := HG.out; omega), hr4.still hF7 hs, hc4, H6.out.2.1.keep hF7 id id id, H6.out.2.2.1.trans hF7 (fun _ _ e => e), (hF7.block _ (Array.getElem?_eq_some_iff.1 H6.out.2.2.2.1).1 id).trans H6.out.2.2.2.1⟩)
             obtain ⟨m3, hm3⟩ : ∃ n, n = (behind.take 64).length := ⟨_, rfl⟩
             obtain ⟨m4, hm4⟩ : ∃ n, n = (behind.drop 64).length := ⟨_, rfl⟩
             rw [← hm3, ← hm4]
             have HM3 := Lib.hid hm3
             have HM4 := Lib.hid hm4
             clear hr3 hr4 hc4 hnq hF7 hm3 hm4))
        go_roundw
        case rel => exact ⟨_, _, _, _, _, _, rfl, rfl, Lib.hid ⟨_, _, _, _, _, H7.out, HM3.out, HM4.out⟩⟩
        case measure =>
          have h4 := HM4.out
          rw [List.length_drop] at h4
          have h2 := HM2.out
          simp [slN]
          omega
      · have hpi : ¬ (0 : Int) < (m2 : Int) := by omega
        have hne : behind = [] := List.eq_nil_of_length_eq_zero (by omega)
        obtain ⟨hbl, hch⟩ := ch_end HD.out.ch hne
        have HT := Lib.hid (ptake wr HD.out.dt g t h HD.out.sc HGN.out B1 d1 block HD.out.ra HL.out.1 HL.out.2 true)
        rw [← HM1.out] at HT
        rw [← HM1.out] at hch
        have HCH := Lib.hid hch
        clear hm2 hne hbl hch
        go_wp2_with (first
          | (go_at_call 30; refine HT.out.mono ?_; rintro e w6 ⟨rfl, hs6, hF6⟩
             have hF6' : Fr (fun _ => False) w w6 := HD.out.fr.trans hF6 (fun i hi e => by have := HG.out; omega)
             have H6 := Lib.hid (show Fr (fun _ => False) w w6 ∧ w6.heap[w.heap.size]? = some (.cells (dgC no32) 24 (0, 0)) from
               ⟨hF6', (hF6.block _ (Array.getElem?_eq_some_iff.1 HD.out.res).1 (by have := HG.out; omega)).trans HD.out.res⟩)
             have HTO := Lib.hid (ptold w6 g _ _ hs6)
             rw [HCH.out] at HTO
             clear hs6 hF6 hF6')
          | (go_at_call 31; refine HTO.out.mono ?_; rintro e w7 ⟨rfl, hF7⟩
             have H7 := Lib.hid (show Fr (fun _ => False) w w7 ∧ w7.heap[w.heap.size]? = some (.cells (dgC no32) 24 (0, 0)) from
               ⟨H6.out.1.trans hF7 (fun _ _ e => e), (hF7.block _ (Array.getElem?_eq_some_iff.1 H6.out.2).1 id).trans H6.out.2⟩)
             clear hF7)
          | ((with_reducible refine wpList_storeDg ?_ (.tmp 4) (.tmp 34) ?_ w.heap.size (digV key b) no32 (digV_length _ _) ?_ ?_ ?_ H7.out.2 ?_); (exact rfl); (exact rfl); (exact rfl); (exact rfl); (exact rfl); intro w8 h8 hF8 hs8; have H8 := Lib.hid h8; have HF8 := Lib.hid hF8; clear h8 hF8 hs8))
        try go_frame
        exact bodyPost_ret (v := dgV (digV key b)) (results_dg rfl _ _ w.heap.size (digV key b) (digV_length _ _) rfl H8.out) rfl ⟨rfl, (H7.out.1.trans (HF8.out.mono (S := fun i => w.heap.size ≤ i) (fun i _ e => by omega)) (fun _ hi e => absurd hi (by omega)))⟩
end Go.Proofs.YtoikgnmhnlcbhaaDoor.dg
