/-
  The document's Keyed.
-/
import Derived.Test.YtoikgnmhnlcbhaaDoorDgE
namespace Go.Proofs.YtoikgnmhnlcbhaaDoor.dg
set_option maxRecDepth 100000
open Go.RowKit Go.Maps
set_option maxRecDepth 100000

theorem full_of (n : Nat) : n ≤ fullN n ∧ fullN n ≤ n + 64 ∧ 64 ≤ fullN n ∧ fullN n % 64 = 0 := by
  unfold fullN
  split
  · omega
  · omega
theorem pad_go {n k : Nat} (h : k < fullN n - n) : (n = 0 ∧ k = 0) ∨ (n + k) % 64 ≠ 0 := by
  unfold fullN at h
  split at h
  · omega
  · omega
theorem pad_end {n k : Nat} (h : k = fullN n - n) : n + k ≠ 0 ∧ (n + k) % 64 = 0 := by
  unfold fullN at h
  split at h
  · omega
  · omega
theorem pad_length (b : Bts) : (padV b).length = fullN b.length := by
  have := full_of b.length
  unfold padV
  rw [List.length_append, List.length_replicate]
  omega
theorem ivL_length : ivL.length = 8 := rfl
theorem head_length (k : Nat) : (headV k).length = 8 := by unfold headV; rw [List.length_set]; rfl
theorem block_length (h m : List W) (t : Nat) (last : Bool) : (blockV h m t last).length = 8 := endV_length _ _ _
theorem hash_length (h0 : List W) (hl : h0.length = 8) (P : Bts) (size nb : Nat) : ∀ i, (hashV h0 P size nb i).length = 8
  | 0 => hl
  | _ + 1 => block_length _ _ _ _
theorem cut_length (P : Bts) (i : Nat) (h : 64 * i + 64 ≤ P.length) : (cutV P i).length = 64 := by
  unfold cutV
  rw [List.length_take, List.length_drop]
  omega
theorem msg_length (key b : Bts) : (msgV key b).length = (if key = [] then 0 else if 64 ≤ key.length then key.length else 64) + b.length := by
  unfold msgV
  rw [List.length_append]
  split
  · rfl
  · rw [List.length_append, List.length_replicate]
    split <;> omega
/-- What Keyed answers. -/
def DigR (w : World) (d : Bts × Int) : Ending → World → Prop := fun e w' => e = .returned (.tuple #[dgV d.1, .int .i64 d.2]) ∧ Fr (fun _ => False) w w'
set_option maxHeartbeats 4000000 in
theorem rkeyed_no (w : World) (A : Option Addr) (kc n : Nat) (B : Option Addr) (bc m : Nat) (hn : 32 < n) (hb : n ≤ 140737488351232) :
    Calls Tryd.prog 18 #[.slice A n kc, .slice B m bc] w (DigR w (no32, 2)) := by
  have h32 : ((32 : Int) < (n : Int)) := by omega
  have HZ := Lib.hid (fun o => heap_alloc_new w o)
  have HF := Lib.hid (fun o => (Fr.refl (fun _ => False) w).alloc o)
  clear hn
  go_enter Tryd.func18, Tryd.ntmps18
  go_wp2_with (first
    | ((with_reducible refine wpList_allocDg ?_ ?_ ?_); (exact rfl); (exact rfl))
    | ((with_reducible refine wpList_storeDg ?_ (.tmp 4) (.tmp 17) ?_ w.heap.size no32 no32 ?_ ?_ ?_ ?_ (HZ.out _) ?_); (exact rfl); (exact rfl); (exact rfl); (exact rfl); (exact rfl); (exact rfl); intro w3 h3 hF3 hs3; have H3 := Lib.hid h3; have HF3 := Lib.hid hF3; clear h3 hF3 hs3))
  try go_frame
  exact bodyPost_ret (v := .tuple #[dgV no32, .int .i64 2]) (results_dg2 rfl _ _ w.heap.size no32 (.int .i64 2) rfl rfl rfl H3.out) rfl ⟨rfl, ((HF.out _).trans (HF3.out.mono (S := fun i => w.heap.size ≤ i) (fun i e => by omega)) (fun _ hi e => absurd hi (by omega)))⟩
/-- What stands behind the beginning: the result's cell, the words, in the world ahead of the message. -/
structure KeyW (w wm : World) (gh hc : Nat) (h : List W) : Prop where
  out : wm.heap[w.heap.size]? = some (.cells (dgC no32) 24 (0, 0))
  fr : Fr (fun _ => False) w wm
  sz : w.heap.size < wm.heap.size
  rd : RdW wm wm.heap.size (some ⟨gh, 0, none⟩) h
  hl : h.length = 8
theorem start_any (w : World) : Calls Tryd.prog 23 #[] w fun e w' => ∃ g, e = .returned (.slice (some ⟨g, 0, none⟩) 8 8) ∧ InW w' w.heap.size g 8 ivL ∧ Fr (fun _ => False) w w' := by
  refine (rstart w).mono ?_
  rintro e w' ⟨rfl, rfl⟩
  obtain ⟨g, e, hi⟩ := (own_madeW w ivL (by decide)).in_ (by decide)
  cases e
  exact ⟨_, rfl, hi, (Fr.refl _ _).alloc _⟩
theorem size_up (w : World) (o : Obj) : w.heap.size < (w.alloc o).heap.size := by rw [World.size_alloc]; omega
theorem size_set (w : World) (p : Addr) (v : Value) : (w.setCell p v).heap.size = w.heap.size := World.size_setCell _ _ _
theorem rd_one (w : World) : Rd (w.alloc (.cells #[.int .u8 0] 5)) (w.heap.size + 1) (some ⟨w.heap.size, 0, none⟩) [0] := fun _ => ⟨w.heap.size, 0, rfl, by omega, fun j x hj => by
  have hj0 : j = 0 := by have := (List.getElem?_eq_some_iff.1 hj).1; simp at this; exact this
  subst hj0
  cases hj
  rw [cellAt (heap_alloc_new _ _)]
  rfl⟩
/-- Where a message lies that holds a byte. -/
theorem Md.lie {w0 w : World} {A : Option Addr} {n cap : Nat} {l : Bts} (h : Md w0 w (.slice A n cap) l) (hn : n = l.length) (h0 : 0 < n) : ∃ g, A = some ⟨g, 0, none⟩ ∧ n ≤ cap ∧ Rd w w.heap.size (some ⟨g, 0, none⟩) l := by
  obtain ⟨A2, c2, e, h1, h2, h3⟩ := h
  cases e
  rcases id h1.2 with ⟨_, e⟩ | ⟨g, cap', cur, e, hg, hh, hc, _⟩
  · omega
  · cases e
    exact ⟨g, rfl, hc, h1.rd⟩
theorem cut64 (g n cap i : Nat) (hi : i + 64 ≤ n) (hc : n ≤ cap) (w : World) :
    (Instr.slice 22 (.slice (some ⟨g, 0, none⟩) n cap) (some (.int .i64 (i : Int))) (some (.int .i64 ((i : Int) + 64))) none).run Tryd.prog w = .ok (.slice (some ⟨g, i, none⟩) 64 (cap - i)) w := by
  obtain ⟨x, hx⟩ : ∃ x : Int, x = (i : Int) := ⟨_, rfl⟩
  obtain ⟨y, hy⟩ : ∃ y : Int, y = x + 64 := ⟨_, rfl⟩
  rw [← hx, ← hy]
  have h1 : 0 ≤ x := by omega
  have h2 : x ≤ y := by omega
  have h3 : y ≤ (cap : Int) := by omega
  rw [run_slice_lh w 22 (some ⟨g, 0, none⟩) n cap Tryd.underlying22 .i64 .i64 x y h1 h2 h3]
  have hs : (sizeOf (Tryd.prog.elem 22)).run Tryd.prog w = .ok 1 w := by kernel_rfl
  rw [hs]
  have e1 : x.toNat = i := by omega
  have e2 : y.toNat = i + 64 := by omega
  simp only [Result.andThen, sliced, e1, e2, Nat.mul_one]
  rw [if_neg (by omega), show i + 64 - i = 64 by omega]
  simp [add_plain]
theorem out_byte (h : List W) (k : Nat) : uw (at_ h (k / 4)) / (2 : Int) ^ (8 * (k % 4)) % 256 = ((outB h k).toNat : Int) := by
  unfold outB uw
  rw [UInt8.toNat_ofNat', Nat.mod_mod, Int.natCast_emod, Int.natCast_ediv, Int.natCast_pow]
  rfl
/-- A block's last one takes so many bytes. -/
theorem hash_succ (h0 : List W) (P : Bts) (size nb i : Nat) (t : Nat) (last : Bool) (ht : t = if i + 1 = nb then size else 64 * i + 64) (hl : last = decide (i + 1 = nb)) : hashV h0 P size nb (i + 1) = blockV (hashV h0 P size nb i) (wordsV (cutV P i) 16) t last := by
  rw [ht, hl]
  rfl
theorem outV_succ (h : List W) (k : Nat) : outV h (k + 1) = outV h k ++ [outB h k] := by unfold outV; rw [List.range_succ, List.map_append, List.map_cons, List.map_nil]
/-- The digest as it grows. -/
def outK (h : List W) (k : Nat) : Bts := outV h k ++ List.replicate (32 - k) 0
theorem outK_length (h : List W) (k : Nat) (hk : k ≤ 32) : (outK h k).length = 32 := by unfold outK; rw [List.length_append, outV_length, List.length_replicate]; omega
theorem outK_set (h : List W) (k : Nat) (hk : k < 32) : (outK h k).set k (outB h k) = outK h (k + 1) := by
  unfold outK
  rw [outV_succ, show 32 - k = (32 - (k + 1)) + 1 by omega, List.replicate_succ]
  have hl := outV_length h k
  generalize outV h k = L at hl ⊢
  subst hl
  rw [List.set_append_right _ _ (Nat.le_refl _), Nat.sub_self, List.set_cons_zero, List.append_assoc]
  rfl
theorem outK_full (h : List W) : outK h 32 = outV h 32 := by unfold outK; rw [Nat.sub_self, List.replicate_zero, List.append_nil]
theorem key_w {w w3 : World} {g : Nat} (hin : InW w3 (w.alloc (.cells (dgC no32) 24)).heap.size g 8 ivL) (hf : Fr (fun _ => False) (w.alloc (.cells (dgC no32) 24)) w3) (n : Nat) (x : Value) (hx : x = .int .u32 (uw (at_ ivL 0 ^^^ 0x01010020#32 ^^^ BitVec.ofNat 32 (256 * n)))) :
    KeyW w (w3.setCell ⟨g, 0, none⟩ x) g 8 (headV n) ∧ Md (w3.setCell ⟨g, 0, none⟩ x) ((w3.setCell ⟨g, 0, none⟩ x).alloc (.cells #[] 5)) (.slice (some ⟨w3.heap.size, 0, none⟩) 0 0) [] := by
  subst hx
  obtain ⟨x, hx⟩ : ∃ x, x = at_ ivL 0 ^^^ 0x01010020#32 ^^^ BitVec.ofNat 32 (256 * n) := ⟨_, rfl⟩
  have hh : headV n = ivL.set 0 x := by rw [hx]; rfl
  rw [← hx, hh]
  have hF : Fr (fun _ => False) (w.alloc (.cells (dgC no32) 24)) (w3.setCell ⟨g, 0, none⟩ (.int .u32 (uw x))) := hf.setCell (p := ⟨g, 0, none⟩) (Or.inr hin.hg) _
  have hlt : w.heap.size < (w.alloc (.cells (dgC no32) 24)).heap.size := size_up _ _
  have hs : (w3.setCell ⟨g, 0, none⟩ (.int .u32 (uw x))).heap.size = w3.heap.size := size_set _ _ _
  refine ⟨⟨(hF.block _ hlt id).trans (heap_alloc_new _ _), ((Fr.refl _ _).alloc _).trans hF (fun _ _ e => e), Nat.lt_of_lt_of_le hlt hF.size, (hin.set (k := 0) (by decide) x).rd, by rw [List.length_set]; rfl⟩, ?_⟩
  have := md_new (w3.setCell ⟨g, 0, none⟩ (.int .u32 (uw x)))
  rw [hs] at this
  exact this
def sliceLen : Value → Nat
  | .slice _ n _ => n
  | _ => 0
set_option maxHeartbeats 16000000 in
theorem rkeyed_ok (w : World) (A : Option Addr) (kc : Nat) (key : Bts) (B : Option Addr) (bc : Nat) (b : Bts) (hk : Rd w w.heap.size A key) (hA : A = none → kc = 0) (hkl : key.length ≤ 32) (hb : Rd w w.heap.size B b) (hB : B = none → bc = 0) (hbl : b.length ≤ 100000) :
    Calls Tryd.prog 18 #[.slice A key.length kc, .slice B b.length bc] w (DigR w (digV key b, 0)) := by
  have HI := Lib.hid (⟨hk, hA, hb, hB⟩ : _ ∧ _ ∧ _ ∧ _)
  obtain ⟨n, hn⟩ : ∃ n, n = key.length := ⟨_, rfl⟩
  obtain ⟨m, hm⟩ : ∃ m, m = b.length := ⟨_, rfl⟩
  obtain ⟨N, hN⟩ : ∃ N, N = (msgV key b).length := ⟨_, rfl⟩
  have hNl : N ≤ 200000 := by rw [hN, msg_length]; split <;> (try split) <;> omega
  have HN := Lib.hid hn
  have HM := Lib.hid hm
  have HNN := Lib.hid hN
  rw [← hn] at hkl ⊢
  rw [← hm] at hbl ⊢
  have h32 : ¬ ((32 : Int) < (n : Int)) := by omega
  clear hk hA hb hB hn hm hN
  obtain ⟨c0, hc0⟩ : ∃ x, x = at_ ivL 0 := ⟨_, rfl⟩
  have HC0 := Lib.hid hc0
  have s1 : bits .xor .u32 (uw c0) 16842784 = uw (c0 ^^^ 0x01010020#32) := uw_xor c0 0x01010020#32
  have s2 : (256 * (n : Int)) = uw (BitVec.ofNat 32 (256 * n)) := by rw [uw_ofNat]; omega
  have s3 := uw_xor (c0 ^^^ 0x01010020#32) (BitVec.ofNat 32 (256 * n))
  clear hc0
  rcases (show n = 0 ∨ 0 < n by omega) with hz | hz
  case' inl =>
    have hz0 : ¬ ((0 : Int) < (n : Int)) := by omega
    have HZ := Lib.hid hz
    clear hz
    have HMS := Lib.hid (show msgV key b = [] ++ b ∧ ([] ++ b).length = N ∧ N = m from by
      have : key = [] := List.eq_nil_of_length_eq_zero (by rw [← HN.out]; exact HZ.out)
      have e : msgV key b = [] ++ b := by unfold msgV; rw [if_pos this]
      rw [HNN.out, e]
      exact ⟨rfl, rfl, by rw [HM.out]; rfl⟩)
    go_enter Tryd.func18, Tryd.ntmps18
    go_wp2_with (first
      | ((with_reducible refine wpList_allocDg ?_ ?_ ?_); (exact rfl); (exact rfl))
      | (go_at_call 23; refine (start_any _).mono ?_; rintro e w3 ⟨g, rfl, hin, hfr3⟩; have H3 := Lib.hid (key_w hin hfr3 n _ rfl); have d0 := hin.cell 0 _ (at_get (by decide)); rw [← HC0.out] at d0 H3; have f0 := hin.free 0; clear hin hfr3)
      | (at_builtin; refine wpl_md rfl (.tmp 41) (.tmp 42) rfl _ _ [] rfl H3.out.2 w.heap.size B m bc b rfl HM.out HI.out.2.2.2 (HI.out.2.2.1.still (H3.out.1.fr.alloc _) (Nat.le_refl _)) N HMS.out.2.1 (by omega) ?_; intro A6 c6 w6 hv6; rw [← HMS.out.1] at hv6; have H6 := Lib.hid hv6; clear hv6))
    have HG := Lib.hid (show ∃ wm, KeyW w wm g 8 (headV n) ∧ Md wm w6 (.slice A6 N c6) (msgV key b) from ⟨_, H3.out.1, H6.out⟩)
  case' inr =>
    have hz0 : (0 : Int) < (n : Int) := by omega
    have HMS := Lib.hid (show msgV key b = [] ++ key ++ List.replicate (64 - n) 0 ++ b ∧ N = 64 + m from by
      have : key ≠ [] := by intro e; rw [e] at HN; have := HN.out; simp at this; omega
      refine ⟨by unfold msgV; rw [if_neg this, ← HN.out]; rfl, ?_⟩
      rw [HNN.out, msg_length, if_neg this, if_neg (by rw [← HN.out]; omega), HM.out])
    have HLN := Lib.hid (show ([] ++ key).length = n ∧ ([] ++ key).length + (64 - n) = 64 ∧ ([] ++ key ++ List.replicate (64 - n) (0 : UInt8) ++ b).length = N from by
      have := HN.out
      have := HM.out
      refine ⟨by rw [List.nil_append, HN.out], by rw [List.nil_append]; omega, ?_⟩
      rw [HMS.out.2]
      simp only [List.nil_append, List.length_append, List.length_replicate]
      omega)
    go_enter Tryd.func18, Tryd.ntmps18
    go_wp2_with (first
      | ((with_reducible refine wpList_allocDg ?_ ?_ ?_); (exact rfl); (exact rfl))
      | (go_at_call 23; refine (start_any _).mono ?_; rintro e w3 ⟨g, rfl, hin, hfr3⟩; have H3 := Lib.hid (key_w hin hfr3 n _ rfl); have d0 := hin.cell 0 _ (at_get (by decide)); rw [← HC0.out] at d0 H3; have f0 := hin.free 0; clear hin hfr3)
      | (at_builtin; refine wpl_md rfl (.tmp 34) (.tmp 35) rfl _ _ [] rfl H3.out.2 w.heap.size A n kc key rfl HN.out HI.out.2.1 (HI.out.1.still (H3.out.1.fr.alloc _) (Nat.le_refl _)) n HLN.out.1 (by omega) ?_; intro A4 c4 w4 hv4; have H4 := Lib.hid hv4; clear hv4)
      | (at_builtin; refine wpl_mdN rfl (.tmp 36) (.tmp 39) rfl _ _ _ rfl H4.out (64 - n) _ (by omega) rfl (by omega) 64 HLN.out.2.1 (by omega) ?_; intro A5 c5 w5 hv5; have H5 := Lib.hid hv5; clear hv5)
      | (at_builtin; refine wpl_md rfl (.tmp 41) (.tmp 42) rfl _ _ _ rfl H5.out w.heap.size B m bc b rfl HM.out HI.out.2.2.2 (HI.out.2.2.1.still (H3.out.1.fr.trans H5.out.fr (fun _ _ e => e)) (Nat.le_refl _)) N HLN.out.2.2 (by omega) ?_; intro A6 c6 w6 hv6; rw [← HMS.out.1] at hv6; have H6 := Lib.hid hv6; clear hv6))
    have HG := Lib.hid (show ∃ wm, KeyW w wm g 8 (headV n) ∧ Md wm w6 (.slice A6 N c6) (msgV key b) from ⟨_, H3.out.1, H6.out⟩)
  all_goals
    obtain ⟨wm, hkw, hmd⟩ := HG.out
    have HKW := Lib.hid hkw
    have HMD := Lib.hid hmd
    clear H3 H6 d0 f0 s1 s2 s3 hz0 hkw hmd
    go_loopw [7] (fun v wr => ∃ k A c N2, k ≤ fullN N - N ∧ N2 = N + k ∧ v = .slice A N2 c ∧ Hid (Md wm wr (.slice A N2 c) (msgV key b ++ List.replicate k 0))) (fun v _ => fullN N - sliceLen v)
    case atStart => exact ⟨0, A6, c6, N, Nat.zero_le _, rfl, rfl, (show Hid _ from Lib.hid (by rw [List.replicate_zero, List.append_nil]; exact HMD.out))⟩
    case round =>
      obtain ⟨k, A7, c7, N2, hk, hN2, rfl, HK⟩ := hrel
      have HN2 := Lib.hid hN2
      have HF := Lib.hid (full_of N)
      have hN2l : N2 ≤ 300000 := by have := HF.out; omega
      by_cases hlt : k < fullN N - N
      · have HLT := Lib.hid hlt
        rcases (show (N = 0 ∧ N2 = 0) ∨ (N = 0 ∧ N2 ≠ 0 ∧ N2 % 64 ≠ 0) ∨ (N ≠ 0 ∧ N2 % 64 ≠ 0) by have := pad_go hlt; omega) with ⟨h1, h2⟩ | ⟨h1, h2, h3⟩ | ⟨h1, h3⟩
        case' inl =>
          have e1 : ((N : Int) == 0) = true := beq_iff_eq.2 (by omega)
          have e2 : ((N2 : Int) == 0) = true := beq_iff_eq.2 (by omega)
          clear h1 h2
        case' inr.inl =>
          have e1 : ((N : Int) == 0) = true := beq_iff_eq.2 (by omega)
          have e2 : ((N2 : Int) == 0) = false := beq_eq_false_iff_ne.2 (by omega)
          have e3 : (((N2 : Int) % 64) != 0) = true := bne_iff_ne.2 (by omega)
          clear h1 h2 h3
        case' inr.inr =>
          have e1 : ((N : Int) == 0) = false := beq_eq_false_iff_ne.2 (by omega)
          have e3 : (((N2 : Int) % 64) != 0) = true := bne_iff_ne.2 (by omega)
          clear h1 h3
        all_goals
          clear hk hN2 hlt
          have HLL := Lib.hid (show (msgV key b ++ List.replicate k (0 : UInt8) ++ [0]).length = N2 + 1 from by rw [List.length_append, List.length_append, List.length_replicate, ← HNN.out, HN2.out]; rfl)
          go_wp2_with (at_builtin; refine wpl_md rfl (.tmp 59) (.tmp 60) rfl wm _ _ rfl (HK.out.still ((Fr.refl _ _).alloc _)) (wr.heap.size + 1) (some ⟨wr.heap.size, 0, none⟩) 1 1 [0] rfl rfl (fun e => by cases e) (rd_one wr) (N2 + 1) HLL.out (by omega) ?_; intro A8 c8 w8 hv8; rw [List.append_assoc, ← List.replicate_succ'] at hv8; have H8 := Lib.hid hv8; clear hv8)
          go_roundw
          case rel => exact ⟨k + 1, A8, c8, N2 + 1, by have := HLT.out; omega, by have := HN2.out; omega, rfl, H8⟩
          case measure => simp [sliceLen]; have := HLT.out; have := HN2.out; omega
      · have hke : k = fullN N - N := by omega
        have h3 := pad_end hke
        have HP := Lib.hid (show Md wm wr (.slice A7 N2 c7) (padV (msgV key b)) ∧ N2 = (padV (msgV key b)).length ∧ fullN N = N2 ∧ ∃ nb, N2 = 64 * nb ∧ 0 < nb from by
          have h4 := HF.out
          have hP : padV (msgV key b) = msgV key b ++ List.replicate k 0 := by unfold padV; rw [← HNN.out, hke]
          refine ⟨by rw [hP]; exact HK.out, by rw [pad_length, ← HNN.out]; omega, by omega, N2 / 64, by omega, by omega⟩)
        obtain ⟨nb, hnb, hnb0⟩ := HP.out.2.2.2
        have HNB := Lib.hid (⟨hnb, hnb0⟩ : _ ∧ _)
        have e3 : (((N2 : Int) % 64) != 0) = false := bne_eq_false_iff_eq.2 (by omega)
        have e2 : ((N2 : Int) == 0) = false := beq_eq_false_iff_ne.2 (by omega)
        obtain ⟨P, hP⟩ : ∃ P, P = padV (msgV key b) := ⟨_, rfl⟩
        have HPE := Lib.hid hP
        rw [← hP] at HP
        obtain ⟨gm, rfl, hcm, hrm⟩ := HP.out.1.lie HP.out.2.1 (by omega)
        have HPR := Lib.hid (⟨hcm, hrm⟩ : _ ∧ _)
        have HKF := Lib.hid (show Fr (fun _ => False) wm wr from HK.out.fr)
        obtain ⟨wp, hwp⟩ : ∃ x, x = wr := ⟨_, rfl⟩
        have HHR := Lib.hid (show RdW wp wp.heap.size (some ⟨g, 0, none⟩) (headV n) from by
          intro e
          obtain ⟨p, q, e1, e2, e3⟩ := (HKW.out.rd.still HKF.out (Nat.le_refl _)) e
          rw [hwp]
          exact ⟨p, q, e1, Nat.lt_of_lt_of_le e2 HKF.out.size, e3⟩)
        rw [← hwp] at HPR HKF ⊢
        clear hP h3 hk hN2 hlt hke hcm hrm HK hnb hwp
        rcases (show N = 0 ∨ N ≠ 0 by omega) with h1 | h1
        case' inl =>
          have e1 : ((N : Int) == 0) = true := beq_iff_eq.2 (by omega)
        case' inr =>
          have e1 : ((N : Int) == 0) = false := beq_eq_false_iff_ne.2 (by omega)
        all_goals
          clear h1
          go_wp2_with fail
          clear e1 e2 e3
          go_loopw [6, 9, 10, 11] (fun v6 v9 _ _ wr => ∃ j i gh hc, j ≤ nb ∧ Hid (i = 64 * j) ∧ v9 = .int .i64 ((i : Nat) : Int) ∧ v6 = .slice (some ⟨gh, 0, none⟩) 8 hc ∧ Hid (Fr (fun _ => False) wp wr ∧ RdW wr wr.heap.size (some ⟨gh, 0, none⟩) (hashV (headV n) P N nb j))) (fun _ v9 _ _ _ => nb - (intOf v9).toNat / 64)
          case atStart => exact ⟨0, 0, g, 8, Nat.zero_le _, Lib.hid rfl, rfl, rfl, (show Hid _ from Lib.hid ⟨Fr.refl _ _, HHR.out⟩)⟩
          case round =>
            obtain ⟨j, i, gh, hc, hj, hi, rfl, rfl, HJ⟩ := hrel
            by_cases hlt : j < nb
            · have HLT := Lib.hid hlt
              have hi1 : (i : Int) < (N2 : Int) := by have := hi.out; have := HNB.out; omega
              have hi2 : i + 64 ≤ N2 := by have := hi.out; have := HNB.out; omega
              have hsl := cut64 gm N2 c7 i hi2 HPR.out.1
              have HCR := Lib.hid (show Rd wr wr.heap.size (some ⟨gm, i, none⟩) (cutV P j) ∧ (cutV P j).length = 64 from by
                have hl := HP.out.2.1
                have h1 := (((HPR.out.2.still HJ.out.1 (Nat.le_refl _)).more HJ.out.1.size).drop (k := i) (cap := c7) (by rw [← hl]; exact HPR.out.1)).take 64
                rw [if_neg (by have := HPR.out.1; omega), Option.map_some, add_plain, Nat.zero_add] at h1
                refine ⟨by unfold cutV; rw [← hi.out]; exact h1, cut_length P j (by rw [← hl, ← hi.out]; exact hi2)⟩)
              have hcap : 64 ≤ c7 - i := by have := HPR.out.1; omega
              have HHL := Lib.hid (hash_length (headV n) (head_length n) P N nb j)
              by_cases hla : j + 1 = nb
              case' pos =>
                have hg : (N2 : Int) ≤ (i : Int) + 64 := by have := hi.out; have := HNB.out; omega
                have HB := Lib.hid ((rblock wr gh 0 hc (hashV (headV n) P N nb j) gm i (c7 - i) (cutV P j) N true HHL.out HJ.out.2 HCR.out.2 HCR.out.1 hcap (by omega)))
                have HS := Lib.hid (hash_succ (headV n) P N nb j N true (by rw [if_pos hla]) (by rw [decide_eq_true hla]))
              case' neg =>
                have hg : ¬ ((N2 : Int) ≤ (i : Int) + 64) := by have := hi.out; have := HNB.out; omega
                have HB := Lib.hid ((rblock wr gh 0 hc (hashV (headV n) P N nb j) gm i (c7 - i) (cutV P j) (i + 64) false HHL.out HJ.out.2 HCR.out.2 HCR.out.1 hcap (by omega)))
                have HS := Lib.hid (hash_succ (headV n) P N nb j (i + 64) false (by rw [if_neg hla, hi.out]) (by rw [decide_eq_false hla]))
                rw [Int.natCast_add] at HB
              all_goals
                clear hla hj hlt hi2 hcap
                go_wp2_with fail
                refine HB.out.mono ?_
                rintro e w5 ⟨A9, c9, rfl, hwd⟩
                obtain ⟨g9, rfl, hi9, hf9⟩ := hwd.vw (block_length _ _ _ _).symm (by decide)
                have H9 := Lib.hid (show Fr (fun _ => False) wp w5 ∧ RdW w5 w5.heap.size (some ⟨g9, 0, none⟩) (hashV (headV n) P N nb (j + 1)) from ⟨HJ.out.1.trans hf9 (fun _ _ e => e), by rw [HS.out]; exact hi9.rd⟩)
                clear hwd hi9 hf9 HB
                go_wp2_with fail
                go_roundw
                case rel => exact ⟨j + 1, i + 64, g9, c9, HLT.out, Lib.hid (by rw [hi.out]; omega), by go_num, rfl, H9⟩
                case measure => simp [intOf]; have := hi.out; have := HLT.out; omega
            · have hjn : j = nb := by omega
              have hi1 : ¬ ((i : Int) < (N2 : Int)) := by have := hi.out; have := HNB.out; omega
              have hlen := hash_length (headV n) (head_length n) P N nb nb
              have HHJ := Lib.hid (show RdW wr wr.heap.size (some ⟨gh, 0, none⟩) (hashV (headV n) P N nb nb) ∧ Fr (fun _ => False) wp wr from by
                have h2 := HJ.out
                rw [hjn] at h2
                exact ⟨h2.2, h2.1⟩)
              obtain ⟨h, hh⟩ : ∃ x, x = hashV (headV n) P N nb nb := ⟨_, rfl⟩
              have HDV := Lib.hid (show digV key b = outV h 32 from by
                have hN := HNN.out
                have hnb : fullN N / 64 = nb := by have := HP.out.2.2.1; have := HNB.out; omega
                unfold digV
                rw [← hN, hnb, ← HPE.out, ← HN.out, hh])
              have HHL := Lib.hid (show h.length = 8 from by rw [hh]; exact hlen)
              rw [← hh] at HHJ
              clear hj hlt hjn hlen hh HJ
              obtain ⟨wq, hwq⟩ : ∃ x, x = wr := ⟨_, rfl⟩
              have HOUT := Lib.hid (show wq.heap[w.heap.size]? = some (.cells (dgC no32) 24 (0, 0)) ∧ w.heap.size < wq.heap.size ∧ Fr (fun _ => False) w wq from by
                rw [hwq]
                have hf := HKF.out.trans HHJ.out.2 (fun _ _ e => e)
                exact ⟨(hf.block _ HKW.out.sz id).trans HKW.out.out, Nat.lt_of_lt_of_le HKW.out.sz hf.size, HKW.out.fr.trans hf (fun _ _ e => e)⟩)
              rw [← hwq] at HHJ ⊢
              clear hwq
              go_wp2_with (first
                | ((with_reducible refine wpList_allocDg ?_ ?_ ?_); (exact rfl); (exact rfl))
                | ((with_reducible refine wpList_storeDg ?_ (.tmp 12) (.tmp 86) ?_ wq.heap.size no32 no32 ?_ ?_ ?_ ?_ (heap_alloc_new wq _) ?_); (exact rfl); (exact rfl); (exact rfl); (exact rfl); (exact rfl); (exact rfl); intro w3 h3 hF3 hs3; have HS3 := Lib.hid (⟨h3, hF3⟩ : _ ∧ _); clear h3 hF3 hs3))
              have HLS := Lib.hid (show w3.heap[wq.heap.size]? = some (.cells (dgC (outK h 0)) 24 (0, 0)) ∧ Fr (fun _ => False) wq w3 from ⟨HS3.out.1, ((Fr.refl (fun _ => False) wq).alloc _).trans (HS3.out.2.mono (S := fun i => wq.heap.size ≤ i) (fun i e => by omega)) (fun _ hi e => absurd hi (by omega))⟩)
              clear HS3
              obtain ⟨go, hgo⟩ : ∃ x, x = wq.heap.size := ⟨_, rfl⟩
              have HGO := Lib.hid hgo
              rw [← hgo] at HLS ⊢
              clear hgo
              go_loopw [13] (fun v wr => ∃ k : Nat, k ≤ 32 ∧ v = .int .i64 (k : Int) ∧ Hid (wr.heap[go]? = some (.cells (dgC (outK h k)) 24 (0, 0)) ∧ Fr (fun _ => False) wq wr)) (fun v _ => 32 - (intOf v).toNat)
              case atStart => exact ⟨0, Nat.zero_le _, rfl, HLS⟩
              case round =>
                obtain ⟨k, hk, rfl, HK⟩ := hrel
                clear HLS
                by_cases hlt : k < 32
                · have hk32 : (k : Int) < 32 := by omega
                  obtain ⟨q, hq⟩ : ∃ q, q = k / 4 := ⟨_, rfl⟩
                  have hq1 : (k : Int) / 4 = (q : Int) := by omega
                  have hq8 : (q : Int) < 8 := by omega
                  obtain ⟨r, hr⟩ : ∃ r, r = 8 * (k % 4) := ⟨_, rfl⟩
                  have hr1 : 8 * ((k : Int) % 4) = (r : Int) := by omega
                  have hr32 : (r : Int) < 32 := by omega
                  have d0 : wr.cell? ⟨gh, q, none⟩ = some (.int .u32 (uw (at_ h q))) := by
                    obtain ⟨_, _, e, _, hc⟩ := (HHJ.out.1.still HK.out.2 (Nat.le_refl _)) (by intro e; have := HHL.out; rw [e] at this; cases this)
                    cases e
                    have := hc q _ (at_get (by have := HHL.out; omega))
                    rw [Nat.zero_add] at this
                    exact this
                  have ho : uw (at_ h q) / (2 : Int) ^ r % 256 = ((outB h k).toNat : Int) := by rw [hq, hr]; exact out_byte h k
                  have f0 : wr.frozen? ⟨go, k, none⟩ = false := freeAt HK.out.1 k
                  have d1 := dg_cell HK.out.1 k (by rw [outK_length h k hk]; exact hlt)
                  have x1 := ixW gh hc q 8 (by omega) (q : Int) rfl
                  have x2 := ixDg go k hlt (k : Int) rfl
                  have HNX := Lib.hid (show (wr.setCell ⟨go, k, none⟩ (.int .u8 ((outB h k).toNat : Int))).heap[go]? = some (.cells (dgC (outK h (k + 1))) 24 (0, 0)) ∧ Fr (fun _ => False) wq (wr.setCell ⟨go, k, none⟩ (.int .u8 ((outB h k).toNat : Int))) from by
                    refine ⟨?_, HK.out.2.setCell (p := ⟨go, k, none⟩) (Or.inr (Nat.le_of_eq HGO.out.symm)) _⟩
                    rw [← outK_set h k hlt]
                    exact dg_set HK.out.1 k _)
                  obtain ⟨y, hy⟩ : ∃ y, y = (outB h k).toNat := ⟨_, rfl⟩
                  rw [← hy] at ho HNX
                  clear hq hr hy
                  go_wp2_with fail
                  go_roundw
                  case rel => exact ⟨k + 1, by omega, by go_num, HNX⟩
                  case measure => simp [intOf]; omega
                · have hk32 : ¬ ((k : Int) < 32) := by omega
                  have HKE := Lib.hid (show wr.heap[go]? = some (.cells (dgC (digV key b)) 24 (0, 0)) ∧ wr.heap[w.heap.size]? = some (.cells (dgC no32) 24 (0, 0)) ∧ Fr (fun _ => False) w wr from by
                    have h1 := HK.out.1
                    rw [show k = 32 by omega, outK_full, ← HDV.out] at h1
                    exact ⟨h1, (HK.out.2.block _ HOUT.out.2.1 id).trans HOUT.out.1, HOUT.out.2.2.trans HK.out.2 (fun _ _ e => e)⟩)
                  clear HK
                  go_wp2_with (first
                    | ((with_reducible refine wpList_loadDg ?_ (.tmp 12) ?_ go (digV key b) (digV_length key b) ?_ HKE.out.1 ?_); (exact rfl); (exact rfl); (exact rfl))
                    | ((with_reducible refine wpList_storeDg ?_ (.tmp 4) (.tmp 104) ?_ w.heap.size (digV key b) no32 (digV_length key b) ?_ ?_ ?_ HKE.out.2.1 ?_); (exact rfl); (exact rfl); (exact rfl); (exact rfl); (exact rfl); intro w4 h4 hF4 hs4; have H4 := Lib.hid h4; have HF4 := Lib.hid hF4; clear h4 hF4 hs4))
                  try go_frame
                  exact bodyPost_ret (v := .tuple #[dgV (digV key b), .int .i64 0]) (results_dg2 rfl _ _ w.heap.size (digV key b) (.int .i64 0) (digV_length key b) rfl rfl H4.out) rfl ⟨rfl, (HKE.out.2.2.trans (HF4.out.mono (S := fun i => w.heap.size ≤ i) (fun i e => by omega)) (fun _ hi e => absurd hi (by omega)))⟩
theorem rkeyed (w : World) (A : Option Addr) (kc : Nat) (key : Bts) (B : Option Addr) (bc : Nat) (b : Bts) (hk : Rd w w.heap.size A key) (hA : A = none → kc = 0) (hkl : key.length ≤ 140737488351232) (hb : Rd w w.heap.size B b) (hB : B = none → bc = 0) (hbl : b.length ≤ 100000) :
    Calls Tryd.prog 18 #[.slice A key.length kc, .slice B b.length bc] w (DigR w (keyedV key b)) := by
  unfold keyedV
  by_cases h : 32 < key.length
  · rw [if_pos h]
    exact rkeyed_no w A kc key.length B bc b.length h hkl
  · rw [if_neg h]
    exact rkeyed_ok w A kc key B bc b hk hA (by omega) hb hB hbl
end Go.Proofs.YtoikgnmhnlcbhaaDoor.dg
