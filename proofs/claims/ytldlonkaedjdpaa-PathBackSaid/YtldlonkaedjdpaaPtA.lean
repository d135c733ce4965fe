/-
  Rows of texts; a text parted, texts that are the same (the base's helpers).
-/
import Derived.Test.YtldlonkaedjdpaaPtM
import Derived.Lib.Strings
import Derived.Deep.Slices
import Derived.Maps.AppendAt
namespace Go.Proofs.Ytldlonkaedjdpaa.pt
set_option maxRecDepth 100000
open Go.RowKit Go.Maps
set_option maxRecDepth 100000

abbrev tx (l : Tx) : ByteArray := ⟨l.toArray⟩
theorem toL (s : ByteArray) : s.toList = s.data.toList := ByteArray.toList_eq s
theorem tx_toL (l : Tx) : (tx l).toList = l := by rw [toL]
theorem tx_of (s : ByteArray) : tx s.toList = s := by rw [toL]
theorem tx_size (l : Tx) : (tx l).size = l.length := by show l.toArray.size = _; simp
theorem toL_len (s : ByteArray) : s.toList.length = s.size := by rw [toL]; rfl
theorem toL_get (s : ByteArray) (k : Nat) (h : k < s.size) : s.toList[k]? = some s[k] := by
  have hl : k < s.toList.length := by rw [toL_len]; exact h
  rw [List.getElem?_eq_getElem hl]
  congr 1
  have e := toL s
  simp only [e]
  rfl
theorem tx_ext (s : ByteArray) (a b : Nat) : s.extract a b = tx ((s.toList.drop a).take (b - a)) := by rw [Go.Lib.extract_eq, toL]
theorem tx_inj {a b : Tx} (h : tx a = tx b) : a = b := by rw [← tx_toL a, h, tx_toL]
abbrev zeroS : Value := .string ⟨#[]⟩
theorem infoS : (Try.prog.info? 9).map (fun i => (i.zero, i.size, i.bytes)) = some (some zeroS, 1, 16) := by kernel_rfl
/-- Texts as cells. -/
def ss (l : List Tx) : List Value := l.map fun x => .string (tx x)
theorem ss_length (l : List Tx) : (ss l).length = l.length := by unfold ss; rw [List.length_map]
theorem ss_append (a b : List Tx) : ss (a ++ b) = ss a ++ ss b := by unfold ss; rw [List.map_append]
theorem ss_get (l : List Tx) (j : Nat) : (ss l)[j]? = l[j]?.map fun x => .string (tx x) := by unfold ss; rw [List.getElem?_map]
theorem ss_one (l : List Tx) : ∀ u ∈ ss l, u.oneCell' = true := by
  unfold ss
  intro u hu
  obtain ⟨b, _, rfl⟩ := List.mem_map.1 hu
  rfl
/-- A slice of texts that is read; it lies below block B. -/
def RdS (w : World) (B : Nat) (A : Option Addr) (l : List Tx) : Prop :=
  l ≠ [] → ∃ blk off, A = some ⟨blk, off, none⟩ ∧ blk < B ∧ ∀ j x, l[j]? = some x → w.cell? ⟨blk, off + j, none⟩ = some (.string (tx x))
theorem RdS.nil (w : World) (B : Nat) (A : Option Addr) : RdS w B A [] := fun h => absurd rfl h
theorem RdS.still {w w' : World} {B : Nat} {A : Option Addr} {l : List Tx} (h : RdS w B A l) (hF : Fr (fun _ => False) w w') (hB : B ≤ w.heap.size) : RdS w' B A l := fun hne => by
  obtain ⟨blk, off, hp, hb, hc⟩ := h hne
  exact ⟨blk, off, hp, hb, fun j x hj => (World.cell?_of_block (w := w) (w' := w') (hF.block blk (by omega) id)).trans (hc j x hj)⟩
theorem RdS.calm {w w' : World} {B : Nat} {A : Option Addr} {l : List Tx} (h : RdS w B A l) (hC : Calm w w') : RdS w' B A l := fun hne => by
  obtain ⟨blk, off, hp, hb, hc⟩ := h hne
  exact ⟨blk, off, hp, hb, fun j x hj => (hC.cell _).trans (hc j x hj)⟩
theorem RdS.more {w : World} {B B' : Nat} {A : Option Addr} {l : List Tx} (h : RdS w B A l) (hB : B ≤ B') : RdS w B' A l := fun hne => by
  obtain ⟨blk, off, hp, hb, hc⟩ := h hne
  exact ⟨blk, off, hp, by omega, hc⟩
theorem RdS.at_ {w : World} {B : Nat} {A : Option Addr} {l : List Tx} (h : RdS w B A l) {k : Nat} {x : Tx} (hk : l[k]? = some x) :
    ∃ blk off, A = some ⟨blk, off, none⟩ ∧ blk < B ∧ w.cell? ⟨blk, off + k, none⟩ = some (.string (tx x)) := by
  obtain ⟨blk, off, hp, hb, hc⟩ := h (by rintro rfl; simp at hk)
  exact ⟨blk, off, hp, hb, hc k _ hk⟩
/-- A slice of the call's own that holds these texts. -/
def OwnS (w : World) (base : Nat) (v : Value) (l : List Tx) : Prop := w.ownsRow base 9 1 v l.length (ss l)
theorem OwnS.still {w w' : World} {base : Nat} {v : Value} {l : List Tx} (h : OwnS w base v l) (hF : Fr (fun _ => False) w w') : OwnS w' base v l := by
  obtain ⟨h1, h2⟩ := h
  refine ⟨h1, ?_⟩
  rcases h2 with h2 | ⟨g, cap, cur, hv, hg, hh, r⟩
  · exact Or.inl h2
  · exact Or.inr ⟨g, cap, cur, hv, hg, (hF.block g (Array.getElem?_eq_some_iff.1 hh).1 id).trans hh, r⟩
theorem OwnS.rd {w : World} {base cap : Nat} {A : Option Addr} {l : List Tx} (h : OwnS w base (.slice A l.length cap) l) : RdS w w.heap.size A l := fun hne => by
  obtain ⟨_, h2⟩ := h
  rcases h2 with ⟨_, h0⟩ | ⟨g, cap', cur, hv, hg, hh, _, _, _, ht⟩
  · exact absurd (List.eq_nil_of_length_eq_zero h0) hne
  · cases hv
    refine ⟨g, 0, rfl, (Array.getElem?_eq_some_iff.1 hh).1, fun j x hj => ?_⟩
    rw [cellAt hh, Nat.zero_add, ← Array.getElem?_toList]
    have h1 : (cur.toList.take (l.length * 1))[j]? = some (.string (tx x)) := by rw [ht, ss_get, hj]; rfl
    rw [List.getElem?_take] at h1
    split at h1
    · exact h1
    · cases h1
theorem OwnS.shape {w : World} {base n : Nat} {v : Value} {l : List Tx} {xs : List Value} (hn : n = l.length) (hx : xs = ss l) (h : w.ownsRow base 9 1 v n xs) : ∃ A cap, v = .slice A l.length cap ∧ OwnS w base (.slice A l.length cap) l := by
  subst hn
  subst hx
  obtain ⟨h1, h2⟩ := id h
  rcases h2 with ⟨rfl, h0⟩ | ⟨g, cap, cur, rfl, hg, hh, r⟩
  · refine ⟨none, 0, by rw [h0], ?_⟩
    rw [h0]
    exact h
  · exact ⟨_, cap, rfl, h⟩
theorem own_geS {w0 w : World} {n : Nat} {v : Value} {xs : List Value} {q : Nat} (h : w.ownsRow w0.heap.size 9 1 v n xs) (e : v.ownBlock = some q) : False ∨ w0.heap.size ≤ q := by
  rcases h.2 with ⟨rfl, _⟩ | ⟨g, cap, cur, rfl, hg, _⟩
  · cases e
  · cases e
    exact Or.inr hg
/-- A new slice of these texts. -/
def NewS (w : World) (l : List Tx) (e : Ending) (w' : World) : Prop := ∃ A cap, e = .returned (.slice A l.length cap) ∧ OwnS w' w.heap.size (.slice A l.length cap) l ∧ Fr (fun _ => False) w w'
theorem ownS_nil (w : World) : (w.alloc (.cells #[] 9)).ownsRow w.heap.size 9 1 (.slice (some ⟨w.heap.size, 0, none⟩) 0 0) 0 [] := World.ownsRow_made w #[] 0 (Nat.le_refl _) (Nat.zero_le _) (by simp)
/-- What an append of one text leaves. -/
theorem snocS {w0 w w' : World} {p : Option Addr} {m c : Nat} {L : List Tx} {x : Tx} {v : Value} (hm : m = L.length) (ho : w.ownsRow w0.heap.size 9 1 (.slice p m c) m (ss L)) (hF : Fr (fun _ => False) w0 w)
    (hown : w'.ownsRow w0.heap.size 9 1 v (m + 1) (ss L ++ [.string (tx x)])) (hg : w.grownBy w' (Value.slice p m c).ownBlock) : ∃ p' c', v = .slice p' (m + 1) c' ∧ m + 1 = (L ++ [x]).length ∧ w'.ownsRow w0.heap.size 9 1 (.slice p' (m + 1) c') (m + 1) (ss (L ++ [x])) ∧ Fr (fun _ => False) w0 w' := by
  have hl : m + 1 = (L ++ [x]).length := by rw [List.length_append, ← hm]; rfl
  obtain ⟨p', c', e, h⟩ := OwnS.shape (l := L ++ [x]) hl (by rw [ss_append]; rfl) hown
  rw [← hl] at e h
  unfold OwnS at h
  rw [← hl] at h
  exact ⟨p', c', e, hl, h, hF.grown hg (fun q e => own_geS ho e)⟩
theorem newsS (w : World) {g : Nat} {x : ByteArray} (h : w.heap[g]? = some (.cells #[.string x] 9 (0, 0))) : ∀ j u, [Value.string x][j]? = some u → w.cell? ((⟨g, 0, none⟩ : Addr).add j) = some u := fun j u hu => by
  rw [add_plain, cellAt h, Nat.zero_add, ← Array.getElem?_toList]
  exact hu
theorem oneS (x : ByteArray) : ∀ u ∈ [Value.string x], u.oneCell' = true := by
  intro u hu
  obtain rfl := List.mem_singleton.1 hu
  rfl

set_option maxHeartbeats 4000000 in
theorem bsplit (w : World) (s : ByteArray) (c : UInt8) (hs : s.size ≤ 1099511627776) :
    Calls Try.prog 34 #[.string s, .int .u8 (c.toNat : Int)] w (NewS w (splitB c s.toList)) := by
  obtain ⟨i0, hi, hz0, hz1, hz2⟩ := info_parts infoS
  have HI := Lib.hid (⟨hi, hz0, hz1, hz2⟩ : _ ∧ _ ∧ _ ∧ _)
  have H0 := Lib.hid (⟨ownS_nil w, (Fr.refl (fun _ => False) w).alloc (.cells #[] 9)⟩ : _ ∧ _)
  have HLN := Lib.hid (toL_len s)
  clear hi hz0 hz1 hz2
  obtain ⟨C, hC⟩ : ∃ C, C = c.toNat := ⟨_, rfl⟩
  have HC := Lib.hid hC
  rw [← hC]
  clear hC
  go_enter Try.func34, Try.ntmps34
  go_wp2_with fail
  go_loopw [5, 6, 7] (fun v5 v6 v7 wr => ∃ (i a m : Nat) (p : Option Addr) (cp : Nat) (L : List Tx), a ≤ i ∧ i ≤ s.size + 1 ∧ m ≤ i ∧ v7 = .int .i64 i ∧ v6 = .int .i64 a ∧ v5 = .slice p m cp ∧ Hid (m = L.length ∧ (i ≤ s.size → SpI c s.toList L a i) ∧ (i = s.size + 1 → L = splitB c s.toList) ∧ wr.ownsRow w.heap.size 9 1 (.slice p m cp) m (ss L) ∧ Fr (fun _ => False) w wr)) (fun _ _ v _ => s.size + 1 - (intOf v).toNat)
  case atStart => exact ⟨0, 0, 0, _, _, [], Nat.zero_le _, by omega, Nat.le_refl _, rfl, rfl, rfl, (show _ ∧ _ from ⟨rfl, fun _ => SpI.zero c _, fun e => by omega, H0.out⟩)⟩
  case round =>
    obtain ⟨i, a, m, p, cp, L, ha, hi, hm, rfl, rfl, rfl, HK⟩ := hrel
    clear H0
    have HE := Lib.hid (tx_ext s a i)
    by_cases hlt : i < s.size
    · have hx := toL_get s i hlt
      obtain ⟨y, hy⟩ : ∃ y : Nat, y = s[i].toNat := ⟨_, rfl⟩
      have hsi : (s[i].toNat : Int) = (y : Int) := by rw [hy]
      by_cases hq : s[i] = c
      · have hyc : y = C := by rw [hy, hq, HC.out]
        have HN := Lib.hid ((HK.out.2.1 (by omega)).cut (by rw [hx, hq]))
        clear hy hx hq
        go_wp2_with (at_builtin; refine wpList_append_own_at _ rfl (.tmp 26) (.tmp 31) 33 rfl w.heap.size 9 i0 zeroS 1 16 Try.underlying33 HI.out.1 HI.out.2.1 HI.out.2.2.1 HI.out.2.2.2 rfl (by omega) _ m (ss L) rfl (World.ownsRow.alloc HK.out.2.2.2.1 _) ⟨wr.heap.size, 0, none⟩ 1 1 [.string (s.extract a i)] rfl rfl (newsS _ (heap_alloc_new _ _)) (oneS _) (by unfold maxLen; omega) (by omega) (Nat.le_trans HK.out.2.2.2.2.size (by simp)) ?_; intro v2 w2 hown hg _ _; rw [HE.out] at hown; obtain ⟨p2, c2, hv, hm2, ho2, hF2⟩ := snocS HK.out.1 (World.ownsRow.alloc HK.out.2.2.2.1 _) (HK.out.2.2.2.2.alloc _) hown hg; subst hv; have HM2 := Lib.hid hm2; clear hown hg hm2)
        go_roundw
        case rel => exact ⟨i + 1, i + 1, m + 1, p2, c2, _, Nat.le_refl _, by omega, by omega, by go_num, by go_num, rfl, (show _ ∧ _ from ⟨HM2.out, fun _ => HN.out, fun e => by omega, ho2, hF2⟩)⟩
        case measure => simp [intOf]; omega
      · have hyc : ((y : Int) == (C : Int)) = false := by
          rw [beq_eq_false_iff_ne]
          intro e
          exact hq (UInt8.toNat_inj.1 (by rw [← hy, ← HC.out]; omega))
        have HN := Lib.hid ((HK.out.2.1 (by omega)).next hx hq)
        clear hy hx hq HE
        go_wp2_with fail
        go_roundw
        case rel => exact ⟨i + 1, a, m, p, cp, L, by omega, by omega, by omega, by go_num, rfl, rfl, (show _ ∧ _ from ⟨HK.out.1, fun _ => HN.out, fun e => by omega, HK.out.2.2.2⟩)⟩
        case measure => simp [intOf]; omega
    · by_cases hle : i = s.size
      · have HN := Lib.hid (show L ++ [(s.toList.drop a).take (i - a)] = splitB c s.toList by
          have h := HK.out.2.1 (by omega)
          have e : i = s.toList.length := by rw [HLN.out]; exact hle
          rw [e] at h ⊢
          exact h.last)
        subst hle
        clear hi hlt
        go_wp2_with (at_builtin; refine wpList_append_own_at _ rfl (.tmp 26) (.tmp 31) 33 rfl w.heap.size 9 i0 zeroS 1 16 Try.underlying33 HI.out.1 HI.out.2.1 HI.out.2.2.1 HI.out.2.2.2 rfl (by omega) _ m (ss L) rfl (World.ownsRow.alloc HK.out.2.2.2.1 _) ⟨wr.heap.size, 0, none⟩ 1 1 [.string (s.extract a s.size)] rfl rfl (newsS _ (heap_alloc_new _ _)) (oneS _) (by unfold maxLen; omega) (by omega) (Nat.le_trans HK.out.2.2.2.2.size (by simp)) ?_; intro v2 w2 hown hg _ _; rw [HE.out] at hown; obtain ⟨p2, c2, hv, hm2, ho2, hF2⟩ := snocS HK.out.1 (World.ownsRow.alloc HK.out.2.2.2.1 _) (HK.out.2.2.2.2.alloc _) hown hg; subst hv; have HM2 := Lib.hid hm2; clear hown hg hm2)
        go_roundw
        case rel => exact ⟨s.size + 1, s.size + 1, m + 1, p2, c2, _, Nat.le_refl _, by omega, by omega, by go_num, by go_num, rfl, (show _ ∧ _ from ⟨HM2.out, fun e => by omega, fun _ => HN.out, ho2, hF2⟩)⟩
        case measure => simp [intOf]
      · have hi3 : i = s.size + 1 := by omega
        have HL := Lib.hid (HK.out.2.2.1 hi3)
        have hi4 : ¬ i ≤ s.size := by omega
        clear hi3 hle
        go_wp2_with fail
        go_ret
        rw [← HL.out]
        exact ⟨p, cp, by rw [← HK.out.1]; rfl, by unfold OwnS; rw [← HK.out.1]; exact HK.out.2.2.2.1, HK.out.2.2.2.2⟩

set_option maxHeartbeats 2000000 in
theorem same_core_t (w : World) (A1 A2 : Option Addr) (B1 B2 c1 c2 : Nat) (l1 l2 : List Tx) (hr1 : RdS w B1 A1 l1) (hr2 : RdS w B2 A2 l2) (hl : l1.length = l2.length) (hb : l1.length ≤ 140737488351232) :
    Calls Try.prog 25 #[.slice A1 l1.length c1, .slice A2 l2.length c2] w fun e w' => e = .returned (.bool (decide (l1 = l2))) ∧ Calm w w' := by
  obtain ⟨n, hn⟩ : ∃ n, n = l1.length := ⟨_, rfl⟩
  rw [← hl, ← hn]
  have hb' : n ≤ 140737488351232 := by omega
  have HR1 := Lib.hid hr1
  have HR2 := Lib.hid hr2
  have HN := Lib.hid hn
  have HL := Lib.hid hl
  clear hr1 hr2 hn hl hb
  go_enter Try.func25, Try.ntmps25
  go_wp2_with fail
  go_loopw [5] (fun i wr => ∃ k : Nat, k ≤ n ∧ i = .int .i64 k ∧ Hid (l1.take k = l2.take k ∧ Calm w wr)) (fun i _ => n - (intOf i).toNat)
  case atStart => exact ⟨0, Nat.zero_le _, rfl, (show _ ∧ _ from ⟨rfl, Calm.refl _⟩)⟩
  case round =>
    obtain ⟨k, hk, rfl, HC⟩ := hrel
    by_cases hlt : k < n
    · have hk1 : k < l1.length := by have := HN.out; omega
      have hk2 : k < l2.length := by have := HN.out; have := HL.out; omega
      obtain ⟨x, hx⟩ : ∃ x, x = l1[k] := ⟨_, rfl⟩
      obtain ⟨y, hy⟩ : ∃ y, y = l2[k] := ⟨_, rfl⟩
      have e1 : l1[k]? = some x := by rw [hx]; exact List.getElem?_eq_getElem hk1
      have e2 : l2[k]? = some y := by rw [hy]; exact List.getElem?_eq_getElem hk2
      obtain ⟨b1, o1, rfl, _, d1⟩ := (HR1.out.calm HC.out.2).at_ e1
      obtain ⟨b2, o2, rfl, _, d2⟩ := (HR2.out.calm HC.out.2).at_ e2
      have h0 : (0 : Int) ≤ k := by omega
      have h1 : (k : Int) < n := by omega
      by_cases he : x = y
      · have HE := Lib.hid (show l1.take (k + 1) = l2.take (k + 1) by rw [List.take_add_one, List.take_add_one, HC.out.1, e1, e2, he])
        have hyx : (tx x).toList = (tx y).toList := by rw [he]
        rw [← he] at d2
        clear hx hy e1 e2 he hk1 hk2 hyx
        obtain ⟨X, hX⟩ : ∃ X, X = tx x := ⟨_, rfl⟩
        rw [← hX] at d1 d2
        clear hX
        go_wp2_with fail
        go_quiet (fail)
        go_wp2
        go_roundw
        case rel => exact ⟨k + 1, by omega, by go_num, (show _ ∧ _ from ⟨HE.out, HC.out.2.trans ⟨nq, rfl⟩⟩)⟩
        case measure => simp [intOf]; omega
      · have hd : decide (l1 = l2) = false := decide_eq_false (fun e => he (by subst e; rw [e1] at e2; exact Option.some.inj e2))
        have HD := Lib.hid hd
        obtain ⟨X, hX⟩ : ∃ X, X = tx x := ⟨_, rfl⟩
        obtain ⟨Y, hY⟩ : ∃ Y, Y = tx y := ⟨_, rfl⟩
        have hne : (X.toList == Y.toList) = false := by rw [hX, hY, tx_toL, tx_toL]; exact beq_eq_false_iff_ne.2 he
        rw [← hX] at d1
        rw [← hY] at d2
        clear hX hY he hx hy e1 e2 hk1 hk2 hd
        go_wp2_with fail
        go_quiet (fail)
        go_wp2
        go_ret
        exact ⟨by rw [HD.out]; rfl, HC.out.2.trans ⟨nq, rfl⟩⟩
    · have hkn : k = n := by omega
      subst hkn
      have hd : decide (l1 = l2) = true := decide_eq_true (by
        have h := HC.out.1
        rw [List.take_of_length_le (by have := HN.out; omega), List.take_of_length_le (by have := HN.out; have := HL.out; omega)] at h
        exact h)
      have HD := Lib.hid hd
      clear hd
      go_wp2_with fail
      go_wp2
      go_ret
      exact ⟨by rw [HD.out]; rfl, HC.out.2⟩
set_option maxHeartbeats 400000 in
theorem same_len_t (w : World) (p1 p2 : Option Addr) (n1 n2 c1 c2 : Nat) (h : n1 ≠ n2) :
    Calls Try.prog 25 #[.slice p1 n1 c1, .slice p2 n2 c2] w fun e w' => e = .returned (.bool false) ∧ w = w' := by
  have hne : ((n1 : Int) != (n2 : Int)) = true := by rw [bne_iff_ne]; omega
  clear h
  go_enter Try.func25, Try.ntmps25
  go_wp2
  go_ret
  exact ⟨rfl, rfl⟩
theorem same_texts (w : World) (A1 A2 : Option Addr) (B1 B2 c1 c2 : Nat) (l1 l2 : List Tx) (hr1 : RdS w B1 A1 l1) (hr2 : RdS w B2 A2 l2) (hb : l1.length ≤ 140737488351232) :
    Calls Try.prog 25 #[.slice A1 l1.length c1, .slice A2 l2.length c2] w fun e w' => e = .returned (.bool (decide (l1 = l2))) ∧ Calm w w' := by
  by_cases h : l1.length = l2.length
  · exact same_core_t w A1 A2 B1 B2 c1 c2 l1 l2 hr1 hr2 h hb
  · refine (same_len_t w A1 A2 _ _ c1 c2 h).mono ?_
    rintro e w' ⟨rfl, rfl⟩
    exact ⟨by rw [decide_eq_false (fun e => h (by rw [e]))], Calm.refl _⟩
end Go.Proofs.Ytldlonkaedjdpaa.pt
