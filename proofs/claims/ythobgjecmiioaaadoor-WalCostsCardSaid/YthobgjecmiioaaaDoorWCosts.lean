/-
  WalCosts: a commit takes twice as many operations as it has sectors, and six, and leaves other sectors of the home as they are, whatever the size, the homes and the fill. No condition but what the row lists of the program's table.
-/
import Derived.Test.YthobgjecmiioaaaDoorRows
import Derived.Test.YthobgjecmiioaaaDoorHd8
import Derived.Test.YthobgjecmiioaaaDoorCrcW
import Derived.Test.YthobgjecmiioaaaDoorCards
import Derived.Test.YthobgjecmiioaaaDoorTie
import Derived.SevenTiedAt
namespace Go.Proofs.YthobgjecmiioaaaDoor.walCosts
set_option maxRecDepth 100000
open Go.ChangeShapes Go.WideShapes Go.ChangeAt Go.RowKit hd ds

theorem rdI_more {w : World} {B B' : Nat} {A : Option Addr} {l : List Int} (h : RdI w B A l) (hB : B ≤ B') : RdI w B' A l := ⟨fun hne => by
  obtain ⟨blk, off, hp, hb, hc⟩ := h.1 hne
  exact ⟨blk, off, hp, by omega, hc⟩, h.2⟩
theorem quiet_calm {f : FuncId} {args : Array Value} {w : World} {n : Nat} {v : Value} (h : Calls Tryd.prog f args (w.drewN n) fun e w' => e = .returned v ∧ Calm (w.drewN n) w') :
    Calls Tryd.prog f args (w.drewN n) fun e w'' => e = .returned v ∧ ∃ m, w'' = w.drewN m :=
  h.mono fun _ _ ⟨he, m, hm⟩ => ⟨he, n + m, by rw [hm, World.drewN_drewN]⟩
theorem same_true (w : World) (A1 A2 : Option Addr) (B1 B2 n c1 c2 : Nat) (L : List UInt8) (hr1 : Rd w B1 A1 L) (hr2 : Rd w B2 A2 L) (hn : L.length = n) (hb : n ≤ 140737488351232) :
    Calls Tryd.prog 15 #[.slice A1 n c1, .slice A2 n c2] w fun e w' => e = .returned (.bool true) ∧ Calm w w' := by
  subst hn
  have h := same_any w A1 A2 B1 B2 c1 c2 L L hr1 hr2 hb
  rw [decide_eq_true rfl] at h
  exact h
/-- What stands while the sectors are held against each other. -/
structure Cs (w0 : World) (pb N B : Nat) (d d' : DS) (p : Option Addr) (l : List (Int × List UInt8)) (g0 g1 : Nat) (wr : World) : Prop where
  dsk : IsD w0 pb N B d' wr
  bks : BksT wr p l
  was : Reads wr g0 0 (gath (fun k => d.img k) N)
  now : Reads wr g1 0 (gath (fun k => d'.img k) N)
  lt0 : g0 < wr.heap.size
  lt1 : g1 < wr.heap.size
theorem Cs.calm {w0 w w' : World} {pb N B g0 g1 : Nat} {d d' : DS} {p : Option Addr} {l : List (Int × List UInt8)} (h : Cs w0 pb N B d d' p l g0 g1 w) (hF : Fr (fun _ => False) w w') : Cs w0 pb N B d d' p l g0 g1 w' :=
  ⟨h.dsk.calm hF, h.bks.keep (Keep.of_fr hF), h.was.kept hF h.lt0 id, h.now.kept hF h.lt1 id, Nat.lt_of_lt_of_le h.lt0 hF.size, Nat.lt_of_lt_of_le h.lt1 hF.size⟩
def hitF (xs : List Int) (i k : Nat) : Bool := decide (2 ≤ i ∧ i < 8) || decide ((i : Int) ∈ xs.take k)

theorem blF_get {xs : List Int} {c : UInt8} {k : Nat} {y : Int} (h : xs[k]? = some y) : ∃ b, (blF c xs)[k]? = some (y, b) := by
  have h1 : ((blF c xs).map (·.1))[k]? = some y := by rw [blF_map]; exact h
  rw [List.getElem?_map] at h1
  obtain ⟨z, hz, rfl⟩ := Option.map_eq_some_iff.1 h1
  exact ⟨z.2, hz⟩
theorem hitF_succ {xs : List Int} {i k : Nat} {y : Int} (h : xs[k]? = some y) : hitF xs i (k + 1) = (hitF xs i k || decide (y = (i : Int))) := by
  have h1 : xs.take (k + 1) = xs.take k ++ [y] := by rw [List.take_add_one, h]; rfl
  unfold hitF
  rw [h1, Bool.or_assoc]
  congr 1
  rw [Bool.eq_iff_iff, Bool.or_eq_true, decide_eq_true_iff, decide_eq_true_iff, decide_eq_true_iff, List.mem_append, List.mem_singleton]
  exact or_congr Iff.rfl eq_comm
theorem hitF_zero (xs : List Int) (i : Nat) : hitF xs i 0 = decide (2 ≤ i ∧ i < 8) := by
  unfold hitF
  rw [List.take_zero, decide_eq_false (p := (i : Int) ∈ []) (by simp), Bool.or_false]
theorem hitF_zero_t {xs : List Int} {i : Nat} (h : 2 ≤ i ∧ i < 8) : Value.bool true = .bool (hitF xs i 0) := by rw [hitF_zero, decide_eq_true h]
theorem hitF_zero_f {xs : List Int} {i : Nat} (h : ¬ (2 ≤ i ∧ i < 8)) : Value.bool false = .bool (hitF xs i 0) := by rw [hitF_zero, decide_eq_false h]
theorem hitF_zero_d {xs : List Int} {i : Nat} (h : 2 ≤ i) : Value.bool (decide ((i : Int) < 8)) = .bool (hitF xs i 0) := by
  rw [hitF_zero]
  congr 1
  rw [decide_eq_decide]
  omega
theorem hitF_no {xs : List Int} {i K : Nat} (hl : xs.length = K) (h : hitF xs i K = false) : ¬ (2 ≤ (i : Int) ∧ (i : Int) < 8) ∧ (i : Int) ∉ xs := by
  unfold hitF at h
  rw [List.take_of_length_le (by omega), Bool.or_eq_false_iff] at h
  have h1 := of_decide_eq_false h.1
  exact ⟨by omega, of_decide_eq_false h.2⟩

set_option maxRecDepth 100000 in
set_option maxHeartbeats 8000000 in
theorem walk (s : Int) (A : Option Addr) (cap : Nat) (l : List Int) (x : UInt8) (w : World) (hr : RdI w w.heap.size A l) (hb : l.length ≤ 140737488351232) (hT : cr.Tab w) :
    Calls Tryd.prog 3 #[.int .i64 s, .slice A l.length cap, .int .u8 (x.toNat : Int)] w fun e w' => e = .returned (.bool true) ∧ Fr (fun _ => False) w w' := by
  have HW := Lib.hid (walWorks w hT)
  obtain ⟨n, hn'⟩ : ∃ n, n = l.length := ⟨_, rfl⟩
  have HA := Lib.hid (⟨hr, hb, hn', hT⟩ : _ ∧ _ ∧ _ ∧ _)
  rw [← hn']
  clear hr hb hn' hT
  go_enter Tryd.func3, Tryd.ntmps3
  go_wp2_with fail
  refine HW.out.mono ?_
  rintro e w1 ⟨rfl, hF1⟩
  have H1 := Lib.hid hF1
  clear hF1 HW
  go_wp2_with fail
  refine (among_nat _ _ 20 (by omega) (by omega)).mono ?_
  rintro e w' ⟨m, hm, rfl, rfl⟩
  go_wp2_with fail
  obtain ⟨N, hN⟩ : ∃ N : Nat, N = 9 + m := ⟨_, rfl⟩
  rw [show (9 : Int) + (m : Int) = (N : Int) by omega]
  have hN9 : 9 ≤ N := by omega
  have hN28 : N ≤ 28 := by omega
  clear hN hm
  refine (begun_any w1 (HA.out.2.2.2.fr H1.out) N hN9 (by omega)).mono ?_
  rintro e w2 ⟨pb, wb, d, rfl, hB, hcl⟩
  have H2 := Lib.hid (⟨hB, hcl, rdI_more ((HA.out.1.still H1.out (Nat.le_refl _)).still hB.dsk.fr H1.out.size) (Nat.le_trans H1.out.size hB.dsk.fr.size), H1.out.trans hB.dsk.fr (fun _ _ e => e)⟩ : BegP w1 pb wb N 1000 w2 d ∧ d.cl = true ∧ RdI w2 w2.heap.size A l ∧ Fr (fun _ => False) w w2)
  clear hB hcl
  have HAT := Lib.hid (ats_any w2 A cap l N H2.out.2.2.1 HA.out.2.1 hN9 (by omega))
  rw [← HA.out.2.2.1] at HAT
  go_wp2_with fail
  refine HAT.out.mono ?_
  rintro e w3 ⟨p, K, c, rfl, hK, xs, hX, hO, hF3⟩
  have hO' := hO
  rw [← hX.1] at hO'
  have HBL := Lib.hid (blocks_any w3 x p c xs (hO'.rd (hX.in64 (by omega))) (by have := hX.1; omega))
  rw [hX.1] at HBL
  have H3 := Lib.hid (⟨hX, hF3⟩ : _ ∧ _)
  clear hO' hO hX hF3 HAT
  go_wp2_with fail
  refine HBL.out.mono ?_
  rintro e w4 ⟨p4, c4, rfl, hS4, hF4⟩
  have hF24 := H3.out.2.trans hF4 (fun _ _ e => e)
  have H4 := Lib.hid (⟨H2.out.1.dsk.calm hF24, fr_blk hF24 H2.out.1.wal, hS4, H2.out.2.2.2.trans hF24 (fun _ _ e => e)⟩ : IsD w1 pb N 1000 d w4 ∧ w4.heap[wb]? = some (walO pb 2 5 0 false) ∧ SlT w4 p4 c4 (blF x xs) ∧ Fr (fun _ => False) w w4)
  clear hS4 hF4 hF24 HBL
  have HOP := Lib.hid H4.out.1.opsOf
  go_wp2_with fail
  refine HOP.out.mono ?_
  rintro e w' ⟨rfl, rfl⟩
  clear HOP
  have HIM := Lib.hid (imageX H4.out.1)
  go_wp2_with fail
  refine HIM.out.mono ?_
  rintro e w5 ⟨g0, rfl, _, hty0, hR0, hF5⟩
  have H5 := Lib.hid (⟨H4.out.1.calm hF5, fr_blk hF5 H4.out.2.1, H4.out.2.2.1.calm hF5, hty0, hR0⟩ : _ ∧ _ ∧ _ ∧ _ ∧ _)
  clear hty0 hR0 hF5 HIM
  have HCM := Lib.hid (commit_any w1 w5 pb N 1000 wb 2 5 0 d false H5.out.1 ((HA.out.2.2.2.fr H1.out).fr H5.out.1.fr) H5.out.2.1 H2.out.1.lt (by omega) (by omega) (by omega) (by omega) p4 c4 (blF x xs) H5.out.2.2.1 (by rw [blF_length, H3.out.1.1]; omega) (by omega))
  rw [blF_length, H3.out.1.1] at HCM
  go_wp2_with fail
  refine HCM.out.mono ?_
  rintro e w6 ⟨l', hp, hs, he, hD6, _, hK6⟩
  obtain ⟨z0, hC⟩ := costs_of H2.out.1.live H2.out.2.1 H3.out.1 hK hp hs
  rw [z0] at he
  subst he
  obtain ⟨d6, hd6⟩ : ∃ d6, d6 = (comR N 2 5 d 0 false l').1 := ⟨_, rfl⟩
  rw [← hd6] at hD6 hC
  have H6 := Lib.hid (⟨hD6, hC, H5.out.2.2.1.bks.keep2 hK6, fun j b hj => (World.cell?_of_block (w := w5) (w' := w6) (a := ⟨g0, 0 + j, none⟩) (hK6.2 _ g0 H5.out.2.2.2.1 (by decide))).trans (H5.out.2.2.2.2 j b hj), Nat.lt_of_lt_of_le H5.out.2.2.2.1.lt hK6.1⟩ : IsD w1 pb N (1000 + 500) d6 w6 ∧ Costs N K xs x d d6 ∧ BksT w6 p4 (blF x xs) ∧ Reads w6 g0 0 (gath (fun k => d.img k) N) ∧ g0 < w6.heap.size)
  clear hD6 hK6 hC z0 hp hs hd6 HCM
  have HAL := Lib.hid (all_any w6 H6.out.1 H6.out.2.1.live p4 c4 (blF x xs) H6.out.2.2.1 H6.out.2.1.want (by rw [blF_length, H3.out.1.1]; omega))
  rw [blF_length, H3.out.1.1] at HAL
  go_wp2_with fail
  refine HAL.out.mono ?_
  rintro e w7 ⟨rfl, hF7⟩
  have H7 := Lib.hid (⟨H6.out.1.calm hF7, H6.out.2.2.1.keep (Keep.of_fr hF7), H6.out.2.2.2.1.kept hF7 H6.out.2.2.2.2 id, Nat.lt_of_lt_of_le H6.out.2.2.2.2 hF7.size, H6.out.2.1⟩ : IsD w1 pb N (1000 + 500) d6 w7 ∧ BksT w7 p4 (blF x xs) ∧ Reads w7 g0 0 (gath (fun k => d.img k) N) ∧ g0 < w7.heap.size ∧ Costs N K xs x d d6)
  clear hF7 HAL H6
  have HPE := Lib.hid (H7.out.1.pendingOf H7.out.2.2.2.2.cl)
  go_wp2_with fail
  refine HPE.out.mono ?_
  rintro e w' ⟨rfl, rfl⟩
  clear HPE
  have HIM := Lib.hid (imageX H7.out.1)
  have HKX := Lib.hid H3.out.1.1
  have HOPS : Hid (∀ wr, IsD w1 pb N (1000 + 500) d6 wr → Calls Tryd.prog 10 #[.pointer (some ⟨pb, 0, none⟩)] wr fun e w' => e = .returned (.int .i64 (d.ops + (if K = 0 then 0 else 2 * (K : Int) + 6))) ∧ wr = w') := Lib.hid fun wr h => by
    have := h.opsOf
    rwa [H7.out.2.2.2.2.ops] at this
  have hops : 0 ≤ d.ops ∧ d.ops ≤ ((1000 : Nat) : Int) := H2.out.1.ops
  obtain ⟨q0, hq0⟩ : ∃ q0, q0 = d.ops := ⟨_, rfl⟩
  rw [← hq0] at HOPS hops ⊢
  obtain ⟨hops0, hops1⟩ := hops
  have hops2 : q0 ≤ 1000 := by omega
  clear hq0 hops1
  have HLD : Hid (∀ k : Nat, k < N → (d.img k).length = 256) := Lib.hid fun k hk => H2.out.1.dsk.len (by omega) (by omega)
  have HLD6 : Hid (∀ k : Nat, k < N → (d6.img k).length = 256) := Lib.hid fun k hk => H7.out.1.len (by omega) (by omega)
  by_cases hK0 : K = 0
  · rw [if_pos hK0] at HOPS
    have hKz : K ≤ 0 := by omega
    clear hK0
    go_wp2_with fail
    refine HIM.out.mono ?_
    rintro e w8 ⟨g1, rfl, _, hty1, hR1, hF8⟩
    have H8 := Lib.hid (⟨⟨H7.out.1.calm hF8, H7.out.2.1.keep (Keep.of_fr hF8), H7.out.2.2.1.kept hF8 H7.out.2.2.2.1 id, hR1, Nat.lt_of_lt_of_le H7.out.2.2.2.1 hF8.size, hty1.lt⟩, H7.out.2.2.2.2.rest⟩ : Cs w1 pb N (1000 + 500) d d6 p4 (blF x xs) g0 g1 w8 ∧ _)
    clear hty1 hR1 hF8 HIM H7
    go_wp2_with fail
    go_loopw [14] (fun v wr => ∃ i : Nat, i ≤ N ∧ v = .int .i64 i ∧ Hid (Cs w1 pb N (1000 + 500) d d6 p4 (blF x xs) g0 g1 wr)) (fun v _ => N - (intOf v).toNat)
    case atStart => exact ⟨0, Nat.zero_le _, rfl, (show Cs _ _ _ _ _ _ _ _ _ _ _ from H8.out.1)⟩
    case round =>
      obtain ⟨i, hi, rfl, HI⟩ := hrel
      by_cases hlt : i < N
      · have case3 : i < 2 ∨ (2 ≤ i ∧ i < 8) ∨ 8 ≤ i := by omega
        rcases case3 with h | ⟨h, h'⟩ | h
        all_goals
          go_wp2_with fail
          go_loopw [15, 16] (fun v15 v16 wr2 => ∃ k : Nat, k ≤ K ∧ v16 = .int .i64 k ∧ v15 = .bool (hitF xs i k) ∧ Hid (Cs w1 pb N (1000 + 500) d d6 p4 (blF x xs) g0 g1 wr2)) (fun _ v _ => K - (intOf v).toNat)
          case atStart => exact ⟨0, Nat.zero_le _, rfl, (by first | exact hitF_zero_t (xs := xs) (i := i) (by omega) | exact hitF_zero_f (xs := xs) (i := i) (by omega) | exact hitF_zero_d (xs := xs) (i := i) (by omega)), HI⟩
          case round =>
            obtain ⟨k, hk, rfl, rfl, HI2⟩ := hrel
            by_cases hkK : k < K
            · exact absurd hkK (by omega)
            · obtain rfl : k = K := by omega
              cases hh : hitF xs i k with
              | true =>
                clear hh
                go_wp2_with fail
                go_quiet (fail)
                have HQ := Lib.hid (HI2.out.calm ((Fr.refl _ _).drewN nq))
                go_wp2_with fail
                go_roundw
                case rel => exact ⟨i + 1, by omega, by go_num, HQ⟩
                case measure => simp [intOf]; omega
              | false =>
                obtain ⟨e1, e2⟩ := hitF_no HKX.out hh
                have HSB : Hid (∀ m, Calls Tryd.prog 15 #[.slice (some ⟨g0, i * 256, none⟩) ((i + 1) * 256 - i * 256) (N * 256 - i * 256), .slice (some ⟨g1, i * 256, none⟩) ((i + 1) * 256 - i * 256) (N * 256 - i * 256)] (wr.drewN m) fun e w'' => e = .returned (.bool true) ∧ ∃ q, w'' = wr.drewN q) := Lib.hid fun m => by
                  have hq := HI2.out.calm ((Fr.refl _ _).drewN m)
                  refine quiet_calm (same_true _ _ _ _ _ ((i + 1) * 256 - i * 256) (N * 256 - i * 256) (N * 256 - i * 256) (d.img i) (rd_reads (reads_part hq.was HLD.out hlt) hq.lt0) (rd_reads (by have h := reads_part hq.now HLD6.out hlt; rwa [show d6.img (i : Int) = d.img i from H8.out.2 i e1 e2] at h) hq.lt1) (by rw [HLD.out i hlt]; omega) (by omega))
                clear hh e1 e2
                have hs0 : (0 : Int) ≤ (i : Int) * 256 := by omega
                have hs1 : (i : Int) * 256 ≤ ((i : Int) + 1) * 256 := by omega
                have hs2 : ((i : Int) + 1) * 256 ≤ (N : Int) * 256 := by omega
                go_wp2_with fail
                go_quiet ((go_at_call 15; with_reducible exact HSB.out _))
                have HQ := Lib.hid (HI2.out.calm ((Fr.refl _ _).drewN nq))
                go_wp2_with fail
                go_roundw
                case rel => exact ⟨i + 1, by omega, by go_num, HQ⟩
                case measure => simp [intOf]; omega
      · obtain rfl : i = N := by omega
        have HO := Lib.hid (HOPS.out wr HI.out.dsk)
        go_wp2_with fail
        refine HO.out.mono ?_
        rintro e w' ⟨rfl, rfl⟩
        go_wp2_with fail
        go_ret
        exact ⟨rfl, H1.out.trans HI.out.dsk.fr (fun _ _ e => e)⟩
  · rw [if_neg hK0] at HOPS
    have hKp : (0 : Int) < K := by omega
    have hK5 : (K : Int) ≤ 5 := by omega
    go_wp2_with fail
    refine HIM.out.mono ?_
    rintro e w8 ⟨g1, rfl, _, hty1, hR1, hF8⟩
    have H8 := Lib.hid (⟨⟨H7.out.1.calm hF8, H7.out.2.1.keep (Keep.of_fr hF8), H7.out.2.2.1.kept hF8 H7.out.2.2.2.1 id, hR1, Nat.lt_of_lt_of_le H7.out.2.2.2.1 hF8.size, hty1.lt⟩, H7.out.2.2.2.2.rest⟩ : Cs w1 pb N (1000 + 500) d d6 p4 (blF x xs) g0 g1 w8 ∧ _)
    clear hty1 hR1 hF8 HIM H7
    go_wp2_with fail
    go_loopw [14] (fun v wr => ∃ i : Nat, i ≤ N ∧ v = .int .i64 i ∧ Hid (Cs w1 pb N (1000 + 500) d d6 p4 (blF x xs) g0 g1 wr)) (fun v _ => N - (intOf v).toNat)
    case atStart => exact ⟨0, Nat.zero_le _, rfl, (show Cs _ _ _ _ _ _ _ _ _ _ _ from H8.out.1)⟩
    case round =>
      obtain ⟨i, hi, rfl, HI⟩ := hrel
      by_cases hlt : i < N
      · have case3 : i < 2 ∨ (2 ≤ i ∧ i < 8) ∨ 8 ≤ i := by omega
        rcases case3 with h | ⟨h, h'⟩ | h
        all_goals
          go_wp2_with fail
          go_loopw [15, 16] (fun v15 v16 wr2 => ∃ k : Nat, k ≤ K ∧ v16 = .int .i64 k ∧ v15 = .bool (hitF xs i k) ∧ Hid (Cs w1 pb N (1000 + 500) d d6 p4 (blF x xs) g0 g1 wr2)) (fun _ v _ => K - (intOf v).toNat)
          case atStart => exact ⟨0, Nat.zero_le _, rfl, (by first | exact hitF_zero_t (xs := xs) (i := i) (by omega) | exact hitF_zero_f (xs := xs) (i := i) (by omega) | exact hitF_zero_d (xs := xs) (i := i) (by omega)), HI⟩
          case round =>
            obtain ⟨k, hk, rfl, rfl, HI2⟩ := hrel
            by_cases hkK : k < K
            · obtain ⟨y, hy⟩ : ∃ y, xs[k]? = some y := ⟨_, List.getElem?_eq_getElem (by rw [HKX.out]; exact hkK)⟩
              obtain ⟨bb, hbb⟩ := blF_get (c := x) hy
              have HS := Lib.hid (hitF_succ (i := i) hy)
              obtain ⟨blk, off, rfl, _, _⟩ := HI2.out.bks (by intro e; rw [e] at hbb; simp at hbb)
              have c0 := bks_at HI2.out.bks hbb
              clear hy hbb
              cases hh : hitF xs i k with
              | true =>
                rw [hh] at HS
                clear hh
                go_wp2_with fail
                go_roundw
                case rel => exact ⟨k + 1, by omega, by go_num, by rw [HS.out]; rfl, HI2⟩
                case measure => simp [intOf]; omega
              | false =>
                rw [hh] at HS
                clear hh
                by_cases hyi : y = (i : Int)
                · subst hyi
                  go_wp2_with fail
                  go_roundw
                  case rel => exact ⟨k + 1, by omega, by go_num, by rw [HS.out]; simp, HI2⟩
                  case measure => simp [intOf]; omega
                · have hyf : (y == (i : Int)) = false := by rw [beq_eq_false_iff_ne]; exact hyi
                  have HS2 := Lib.hid (show hitF xs i (k + 1) = false by rw [HS.out, decide_eq_false hyi]; rfl)
                  clear hyi HS
                  go_wp2_with fail
                  go_roundw
                  case rel => exact ⟨k + 1, by omega, by go_num, by rw [HS2.out], HI2⟩
                  case measure => simp [intOf]; omega
            · obtain rfl : k = K := by omega
              cases hh : hitF xs i k with
              | true =>
                clear hh
                go_wp2_with fail
                go_quiet (fail)
                have HQ := Lib.hid (HI2.out.calm ((Fr.refl _ _).drewN nq))
                go_wp2_with fail
                go_roundw
                case rel => exact ⟨i + 1, by omega, by go_num, HQ⟩
                case measure => simp [intOf]; omega
              | false =>
                obtain ⟨e1, e2⟩ := hitF_no HKX.out hh
                have HSB : Hid (∀ m, Calls Tryd.prog 15 #[.slice (some ⟨g0, i * 256, none⟩) ((i + 1) * 256 - i * 256) (N * 256 - i * 256), .slice (some ⟨g1, i * 256, none⟩) ((i + 1) * 256 - i * 256) (N * 256 - i * 256)] (wr.drewN m) fun e w'' => e = .returned (.bool true) ∧ ∃ q, w'' = wr.drewN q) := Lib.hid fun m => by
                  have hq := HI2.out.calm ((Fr.refl _ _).drewN m)
                  refine quiet_calm (same_true _ _ _ _ _ ((i + 1) * 256 - i * 256) (N * 256 - i * 256) (N * 256 - i * 256) (d.img i) (rd_reads (reads_part hq.was HLD.out hlt) hq.lt0) (rd_reads (by have h := reads_part hq.now HLD6.out hlt; rwa [show d6.img (i : Int) = d.img i from H8.out.2 i e1 e2] at h) hq.lt1) (by rw [HLD.out i hlt]; omega) (by omega))
                clear hh e1 e2
                have hs0 : (0 : Int) ≤ (i : Int) * 256 := by omega
                have hs1 : (i : Int) * 256 ≤ ((i : Int) + 1) * 256 := by omega
                have hs2 : ((i : Int) + 1) * 256 ≤ (N : Int) * 256 := by omega
                go_wp2_with fail
                go_quiet ((go_at_call 15; with_reducible exact HSB.out _))
                have HQ := Lib.hid (HI2.out.calm ((Fr.refl _ _).drewN nq))
                go_wp2_with fail
                go_roundw
                case rel => exact ⟨i + 1, by omega, by go_num, HQ⟩
                case measure => simp [intOf]; omega
      · obtain rfl : i = N := by omega
        have HO := Lib.hid (HOPS.out wr HI.out.dsk)
        go_wp2_with fail
        refine HO.out.mono ?_
        rintro e w' ⟨rfl, rfl⟩
        go_wp2_with fail
        go_ret
        exact ⟨rfl, H1.out.trans HI.out.dsk.fr (fun _ _ e => e)⟩

/-! ### the row -/
theorem laidOut : laidOutB Tryd.prog = true := by kernel_rfl
theorem own : ownKnob Tryd.prog.godebug = none := by kernel_rfl
set_option maxRecDepth 100000 in
theorem lifted (os : Os) (started : os.Started) (H : Type) (enc : TypeId × Value → H) :
    ReturnsInHanded {} Tryd.checked os 3 .any (fun w args => (Rows.walCostsSpec.pre enc Tryd.prog Tryd.f3 [] false w args ∧ laidMetH Tryd.prog cr.laidL w) ∧ sizedMet enc Tryd.prog Tryd.f3 (OpenSpec.ofChange Rows.walCostsSpec) false w args)
      (Rows.walCostsSpec.post enc Tryd.prog Tryd.f3 false true false false) := by
  refine returnsInHanded_of_change_and (C := Tryd.checked) (X := fun w _ => laidMetH Tryd.prog cr.laidL w) (fun _ _ _ hh h => h.of_heap hh) own started (by kernel_rfl) Tryd.func3
    (ChangeSpec.witness_shaped (enc := enc) (C := Tryd.checked) (os := os) (X := fun w _ => laidMetH Tryd.prog cr.laidL w) false (World.doorLaid Tryd.prog 400 os) #[.int .i64 0, .slice none 0 0, .int .u8 0] 8 rfl (World.shaped_of_RefB (by kernel_rfl) (by kernel_rfl)) (by kernel_rfl) (by kernel_rfl) (by kernel_rfl) (cr.door_met os _)) ?_
  intro W base args ds gs before hval0 hW _ hsz0 hL _
  have hval : ∀ (j : Nat) t v, Tryd.f3.params[j]? = some t → args[j]? = some v → Value.okWide Tryd.prog W .any base t v := hval0
  have hsz : (DataW.weightsEach Tryd.prog (Tryd.f3.params.toList ++ Rows.walCostsSpec.plain.varTypes Tryd.prog) (ds ++ gs)).all (· ≤ reachBytes) = true := hsz0
  have hW' := hW
  obtain ⟨p, q, hA0, hV, rfl, hfz, hnd⟩ := hW
  have hA : DataW.TrodAll enc Tryd.prog W 0 (fun _ => true) true Tryd.f3.params.toList args.toList ds p := hA0
  rw [Tryd.params3] at hA hval hsz
  obtain ⟨v0, vs0, d0, ds0, p0, q0, hargs, rfl, rfl, h0, r0⟩ := trodAll_cons hA
  obtain ⟨v1, vs1, d1, ds1, p1, q1, rfl, rfl, rfl, h1, r1⟩ := trodAll_cons r0
  obtain ⟨v2, vs2, d2, ds2, p2, q2, rfl, rfl, rfl, h2, r2⟩ := trodAll_cons r1
  obtain ⟨rfl, rfl, rfl⟩ := trodAll_nil r2
  obtain rfl : args = #[v0, v1, v2] := by cases args; simp_all
  obtain ⟨rfl, rfl⟩ := trodVars_none hV
  obtain ⟨a0, rfl, rfl, rfl, w0⟩ := open_int Tryd.underlying3 (hval 0 3 v0 rfl rfl) h0
  obtain ⟨A1, cap1, l1, rfl, hr1, hA1, hc1, hl1⟩ := ints_open (fun _ => rfl) (fun el sp (e : d1 = .slice el sp) => sized_slice hsz (j := 1) (t := 22) (e := 3) rfl (by rw [e]; rfl) Tryd.underlying22) (hval 1 22 v1 rfl rfl) h1
  obtain ⟨a2, rfl, rfl, rfl, w2⟩ := open_int Tryd.underlying5 (hval 2 5 v2 rfl rfl) h2
  clear hA0 hval0 hsz0
  simp only [List.append_nil] at hW'
  try simp only [List.nil_append] at hW'
  have hlt1 : ∀ x ∈ p1, x.block < W.heap.size := fun x hx => by simpa using hW'.lt x (by simp [hx])
  obtain ⟨x, rfl⟩ := cr.u8_of_wf w2
  have hT := cr.tab_of_laid hL
  refine (walk a0 A1 cap1 l1 x W hr1 hl1 hT).mono fun e W' ⟨he, hg⟩ => ?_
  subst he
  have hB : Below W.heap.size W W' := hg.below (Nat.le_refl _) (fun _ _ e => e.elim)
  have t1 := Below.trod laidOut (by kernel_rfl) (of_decide_eq_true (by kernel_rfl)) h1 hB hlt1
  exact ⟨_, rfl, _, _, _, [], _, [], hW', trodAll_cons_mk (shut_bool Tryd.underlying4 _) trodAll_mk0, (trodAll_cons_mk (shut_int Tryd.underlying3 w0) (trodAll_cons_mk t1 (trodAll_cons_mk (shut_int Tryd.underlying5 w2) trodAll_mk0))), rfl, hB.frame _, fun h => by cases h⟩

theorem over : Rows.walCostsRow.holds Tryd.pinned (OpenSpec.ofChange Rows.walCostsSpec) :=
  OpenClaim.holds_of_wide 3 Tryd.f3 rfl rfl rfl rfl rfl rfl rfl ⟨rfl, rfl, rfl, rfl, rfl⟩ rfl rfl rfl rfl rfl (by kernel_rfl) Tryd.func3 (by kernel_rfl)
    (of_decide_eq_true (by kernel_rfl)) (by unfold Func.isWrapper; first | (rw [if_pos (by decide +kernel)]; kernel_rfl) | (rw [if_neg (by decide +kernel)]; exact ⟨rfl, rfl⟩))
    (fun os started H enc _ => lifted os started H enc)

theorem proved : Rows.WalCostsCardSaid :=
  Claim7.holds_tied_plain_at .later [] [.data] true Rows.walCostsCard.stood.harness false
    over (fun _ h => by cases h) (by kernel_rfl) (fun _ h => by cases h) walCosts_row_tie rfl ⟨rfl, rfl⟩ (by kernel_rfl) rfl
    (fun f fn hf hfn => by
      obtain rfl : f = 3 := Option.some.inj ((show Tryd.prog.funcNamed "sutler/sutlerlaw04.WalCosts" = some 3 by kernel_rfl).symm.trans hf) |>.symm
      obtain rfl : fn = Tryd.f3 := (Option.some.inj (Tryd.func3.symm.trans hfn)).symm
      exact ⟨by kernel_rfl, fun j t ht => by
        rw [Tryd.params3] at ht
        have hm : t ∈ [3, 22, 5] := by simpa using Array.mem_of_getElem? ht
        have hall : ([3, 22, 5].all fun u => !Tryd.prog.wantsStandIn u) = true := by kernel_rfl
        exact (show Tryd.prog.wantsStandIn t = false by simpa using List.all_eq_true.1 hall t hm)⟩)
    (by kernel_rfl)
#print axioms proved

end Go.Proofs.YthobgjecmiioaaaDoor.walCosts
