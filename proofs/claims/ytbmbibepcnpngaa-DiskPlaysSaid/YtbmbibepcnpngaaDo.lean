/-
  do: writes and syncs.
-/
import Derived.Test.YtbmbibepcnpngaaWorks
import Derived.Deep.RegionHeld3
namespace Go.Proofs.Ytbmbibepcnpngaa
open Go.RowKit Go.Maps

/-- A call, as far as do reads it. -/
structure ActD where
  what : Int
  where_ : Int
  fill : UInt8

/-- The calls as they lie in memory. -/
def ActsAt (w : World) (blk off : Nat) (A : List ActD) : Prop :=
  ∀ i a, A[i]? = some a → w.cell? ⟨blk, off + i * 5, none⟩ = some (.int .i64 a.what) ∧ w.cell? ⟨blk, off + i * 5 + 1, none⟩ = some (.int .i64 a.where_) ∧ w.cell? ⟨blk, off + i * 5 + 3, none⟩ = some (.int .u8 (a.fill.toNat : Int))

theorem ActsAt.kept {w w' : World} {blk off : Nat} {A : List ActD} (h : ActsAt w blk off A) (e : w'.heap[blk]? = w.heap[blk]?) : ActsAt w' blk off A := fun i a hi => by
  obtain ⟨h1, h2, h3⟩ := h i a hi
  exact ⟨(World.cell?_of_block (w := w) (w' := w') (a := ⟨blk, off + i * 5, none⟩) e).trans h1, (World.cell?_of_block (w := w) (w' := w') (a := ⟨blk, off + i * 5 + 1, none⟩) e).trans h2, (World.cell?_of_block (w := w) (w' := w') (a := ⟨blk, off + i * 5 + 3, none⟩) e).trans h3⟩

/-- What a disk holds, sector by sector: the latest, and the sure. -/
structure Mo where
  img : Int → List UInt8
  sur : Int → List UInt8

def Mo.of (V : Int → Int → List UInt8) (T : Int → Int) : Mo := ⟨fun s => V s (T s), fun s => V s 0⟩

/-- Two of them are one, as far as there are sectors. -/
def Mo.eqv (m n : Mo) : Prop := ∀ s, I64 s → m.img s = n.img s ∧ m.sur s = n.sur s

def Mo.write (m : Mo) (s : Int) (l : List UInt8) : Mo := ⟨fun s' => if s' = s then l else m.img s', m.sur⟩
def Mo.sync (m : Mo) : Mo := ⟨m.img, m.img⟩

def ActD.isSync (a : ActD) : Bool := decide (amongZ a.what 4 = 3)
def Mo.act (N : Nat) (m : Mo) (a : ActD) : Mo := if a.isSync = true then m.sync else m.write (amongZ a.where_ N) (one a.fill)
def Mo.acts (N : Nat) (m : Mo) (A : List ActD) : Mo := A.foldl (Mo.act N) m

theorem Mo.acts_snoc (N : Nat) (m : Mo) (A : List ActD) (a : ActD) : m.acts N (A ++ [a]) = (m.acts N A).act N a := by
  simp [Mo.acts]

theorem eqv_write {V : Int → Int → List UInt8} {T : Int → Int} {m : Mo} (h : (Mo.of V T).eqv m) {s : Int} (h0 : 0 ≤ T s) (l : List UInt8) : (Mo.of (upd V s (T s + 1) l) (updT T s (T s + 1))).eqv (m.write s l) := by
  intro x hx
  obtain ⟨h1, h2⟩ := h x hx
  refine ⟨?_, ?_⟩
  · show upd V s (T s + 1) l x (updT T s (T s + 1) x) = if x = s then l else m.img x
    by_cases e : x = s
    · subst e
      rw [if_pos rfl, updT_at, upd_at]
    · rw [if_neg e, updT_ne _ e, upd_ne _ _ (fun c => e c.1)]
      exact h1
  · show upd V s (T s + 1) l x 0 = m.sur x
    rw [upd_ne _ _ (fun c => by omega)]
    exact h2

theorem eqv_sync {V V' : Int → Int → List UInt8} {T : Int → Int} {m : Mo} (h : (Mo.of V T).eqv m) (hV : ∀ s, I64 s → V' s 0 = V s (T s)) : (Mo.of V' (fun _ => 0)).eqv m.sync := fun s hs =>
  ⟨(hV s hs).trans (h s hs).1, (hV s hs).trans (h s hs).1⟩

/-- How the disk stands in the loop of do. -/
structure DoAt (w : World) (pb bv bt N B : Nat) (m : Mo) (wr : World) : Prop where
  ex : ∃ bt' c ops V T, Good wr pb bv bt' N B c ops (-1) false V T ∧ (bt' = bt ∨ w.heap.size ≤ bt') ∧ (Mo.of V T).eqv m
  fr : Fr (fun i => i = pb ∨ i = bv ∨ i = bt) w wr

theorem DoAt.sync {w wr : World} {pb bv bt N B : Nat} {m : Mo} (h : DoAt w pb bv bt N B m wr) (hB : B + 2 ≤ 100000000) :
    Calls Try.prog 18 #[.pointer (some ⟨pb, 0, none⟩)] wr fun e w' => e = .returned (.int .i64 0) ∧ DoAt w pb bv bt N (B + 2) m.sync w' := by
  obtain ⟨bt', c, ops, V, T, hg, hb, hm⟩ := h.ex
  refine (sync_free hg hB).mono ?_
  rintro e w' ⟨rfl, bt'', V', hg', hV, hlt, hF⟩
  exact ⟨rfl, ⟨bt'', _, _, V', _, hg', Or.inr (Nat.le_trans h.fr.size hlt), eqv_sync hm hV⟩, h.fr.trans hF (fun i _ e => by rcases e with e | e; exact Or.inl e; exact Or.inr (Or.inl e))⟩

theorem DoAt.write {w wr w1 : World} {pb bv bt N B : Nat} {m : Mo} (h : DoAt w pb bv bt N B m wr) (hB : B + 2 ≤ 100000000) {g k : Nat} {x : UInt8} {s : Int} (h0 : 0 ≤ s) (h1 : s < N) (hg1 : wr.heap.size ≤ g) (hg2 : g < w1.heap.size) (hr : Reads w1 g 0 (one x)) (hF : Fr (fun _ => False) wr w1) :
    Calls Try.prog 16 #[.pointer (some ⟨pb, 0, none⟩), .int .i64 s, .slice (some ⟨g, 0, none⟩) 256 k] w1 fun e w' => e = .returned (.int .i64 0) ∧ DoAt w pb bv bt N (B + 2) (m.write s (one x)) w' ∧ Fr (fun i => i = pb ∨ i = bv ∨ i = bt ∨ w.heap.size ≤ i) w1 w' := by
  obtain ⟨bt', c, ops, V, T, hg, hb, hm⟩ := h.ex
  have hl := hg.lt
  have hn1 := hg.n1
  have hs : I64 s := by constructor <;> omega
  refine (write_free (hg.calm hF) hB s h0 h1 g 0 k (one x) (one_length x) hg2 hr (by omega) (by omega) (by omega)).mono ?_
  rintro e w' ⟨rfl, hg', hF'⟩
  refine ⟨rfl, ⟨⟨bt', _, _, _, _, hg', hb, eqv_write hm (hg.turns s hs).1 _⟩, ?_⟩, hF'.mono (fun i hi e => by omega)⟩
  exact (h.fr.trans hF (fun _ _ e => e.elim)).trans hF' (fun i hi e => by omega)

theorem DoAt.cell0 {w wr : World} {pb bv bt N B : Nat} {m : Mo} (h : DoAt w pb bv bt N B m wr) : wr.cell? ⟨pb, 0, none⟩ = some (.int .i64 N) := by
  obtain ⟨bt', c, ops, V, T, hg, hb, hm⟩ := h.ex
  obtain ⟨nv, nt, hd, _, _⟩ := hg.disk
  exact hd.blk.c0

theorem DoAt.big {w wr : World} {pb bv bt N B B' : Nat} {m : Mo} (h : DoAt w pb bv bt N B m wr) (hB : B ≤ B') (hs : B' ≤ 100000000) : DoAt w pb bv bt N B' m wr := by
  obtain ⟨bt', c, ops, V, T, hg, hb, hm⟩ := h.ex
  exact ⟨⟨bt', c, ops, V, T, hg.big hB hs, hb, hm⟩, h.fr⟩

set_option maxHeartbeats 400000 in
theorem sectors_cell (pb N : Nat) (hN : 0 < (N : Int)) (w : World) (c0 : w.cell? ⟨pb, 0, none⟩ = some (.int .i64 N)) : Calls Try.prog 32 #[.pointer (some ⟨pb, 0, none⟩)] w fun e w' => e = .returned (.int .i64 N) ∧ w = w' := by
  have HM := Lib.hid (made_yes pb N w c0 hN)
  go_enter Try.func32, Try.ntmps32
  go_wp2_with (go_at_call 41; refine (HM.out).mono ?_; rintro e w' ⟨rfl, rfl⟩)
  go_ret
  exact ⟨rfl, rfl⟩

theorem full_at (wr w : World) (c : UInt8) (hF : Fr (fun _ => False) wr w) : Calls Try.prog 15 #[.int .u8 (c.toNat : Int)] w fun e w' => ∃ g cap, e = .returned (.slice (some ⟨g, 0, none⟩) 256 cap) ∧ wr.heap.size ≤ g ∧ g < w'.heap.size ∧ Reads w' g 0 (one c) ∧ Fr (fun _ => False) wr w' := by
  refine (full_new w c).mono ?_
  rintro e w' ⟨g, cap, rfl, a1, a2, a3, hF'⟩
  exact ⟨g, cap, rfl, Nat.le_trans hF.size a1, a2, a3, hF.trans hF' (fun _ _ e => e)⟩

set_option maxRecDepth 100000 in
set_option maxHeartbeats 4000000 in
theorem do_any (w : World) {pb bv bt N B c : Nat} {ops : Int} {V : Int → Int → List UInt8} {T : Int → Int} (hg : Good w pb bv bt N B c ops (-1) false V T) (hB : B + 400 ≤ 100000000) (hN : N ≤ 1000)
    (blk off cap : Nat) (A : List ActD) (hA : ActsAt w blk off A) (hblk : blk < w.heap.size) (hbp : blk ≠ pb) (hbv : blk ≠ bv) (hbt : blk ≠ bt) (hlen : A.length ≤ 9223372036854775807) :
    Calls Try.prog 38 #[.pointer (some ⟨pb, 0, none⟩), .slice (some ⟨blk, off, none⟩) A.length cap] w fun e w' => e = .returned (.tuple #[]) ∧ DoAt w pb bv bt N (B + 400) ((Mo.of V T).acts N (A.take 200)) w' := by
  have hn0 := hg.n0
  have HN : (0 : Int) < N := by omega
  have D0 : DoAt w pb bv bt N (B + 2 * 0) ((Mo.of V T).acts N (A.take 0)) w := ⟨⟨bt, c, ops, V, T, hg, Or.inl rfl, fun _ _ => ⟨rfl, rfl⟩⟩, Fr.refl _ _⟩
  have H0 := Lib.hid D0
  have HA := Lib.hid (show ∀ wr, Fr (fun i => i = pb ∨ i = bv ∨ i = bt) w wr → ActsAt wr blk off A from fun wr hF => hA.kept (hF.block blk hblk (by omega)))
  obtain ⟨n, hn⟩ : ∃ n, n = A.length := ⟨_, rfl⟩
  have hn1 : n ≤ 9223372036854775807 := by omega
  rw [← hn]
  have HL := Lib.hid hn
  clear hg hA D0 hn hlen hblk hbp hbv hbt
  go_enter Try.func38, Try.ntmps38
  go_wp2_with fail
  go_loopw [4] (fun i wr => ∃ k : Nat, k ≤ n ∧ k ≤ 200 ∧ i = .int .i64 k ∧ Hid (DoAt w pb bv bt N (B + 2 * k) ((Mo.of V T).acts N (A.take k)) wr)) (fun i _ => n - (intOf i).toNat)
  case atStart => exact ⟨0, Nat.zero_le _, by omega, rfl, H0⟩
  case round =>
    obtain ⟨k, hk, hk2, rfl, HD⟩ := hrel
    by_cases hlt : k < n ∧ k < 200
    · obtain ⟨hlt1, hlt2⟩ := hlt
      obtain ⟨a, ha⟩ : ∃ a, A[k]? = some a := ⟨_, List.getElem?_eq_getElem (by have := HL.out; omega)⟩
      obtain ⟨d0, d1, d3⟩ := HA.out wr HD.out.fr k a ha
      have htk : (Mo.of V T).acts N (A.take (k + 1)) = ((Mo.of V T).acts N (A.take k)).act N a := by
        rw [List.take_add_one, ha]
        exact Mo.acts_snoc _ _ _ _
      have HT := Lib.hid htk
      have HT0 := Lib.hid ha
      have h0 : (0 : Int) ≤ k := by omega
      have h1 : (k : Int) < n := by omega
      have h2 : (k : Int) < 200 := by omega
      clear htk ha
      by_cases hs : amongZ a.what 4 = 3
      · have hb : (amongZ a.what 4 == 3) = true := by rw [hs]; rfl
        have HS := Lib.hid (HD.out.sync (by omega))
        have HE : Hid ((((Mo.of V T).acts N (A.take k))).sync = (Mo.of V T).acts N (A.take (k + 1))) := by
          show _ = _
          rw [HT.out]
          unfold Mo.act ActD.isSync
          rw [if_pos (by rw [hs]; rfl)]
        clear hs
        go_wp2_with (first
          | (go_at_call 14; refine (among_any _ _ 4 (by omega) (by omega)).mono ?_; rintro e w' ⟨rfl, rfl⟩)
          | (go_at_call 18; refine (HS.out).mono ?_; rintro e w5 ⟨rfl, hd5⟩; have HD5 := Lib.hid hd5; clear hd5))
        go_roundw
        case rel => exact ⟨k + 1, by omega, by omega, by go_num, by rw [← HE.out]; exact HD5⟩
        case measure => simp [intOf]; omega
      · have hb : (amongZ a.what 4 == 3) = false := by simpa using hs
        clear hs
        go_wp2_with (first
          | (go_at_call 14; refine (among_any _ _ 4 (by omega) (by omega)).mono ?_; rintro e w' ⟨rfl, rfl⟩)
          | fail)
        have HR := Lib.hid (show amongZ a.where_ N = amongZ a.where_ N ∧ 0 ≤ amongZ a.where_ N ∧ amongZ a.where_ N < N from ⟨rfl, amongZ_in (by omega) (by omega)⟩)
        have HK : Hid (∀ w', Fr (fun _ => False) wr w' → w'.cell? ⟨blk, off + k * 5 + 1, none⟩ = some (.int .i64 a.where_) ∧ w'.cell? ⟨blk, off + k * 5 + 3, none⟩ = some (.int .u8 (a.fill.toNat : Int)) ∧ w'.cell? ⟨pb, 0, none⟩ = some (.int .i64 N)) := fun w' hF => by
          have hc := HA.out w' (HD.out.fr.trans hF (fun _ _ e => e.elim)) k a HT0.out
          have hd : DoAt w pb bv bt N (B + 2 * k) ((Mo.of V T).acts N (A.take k)) w' := by
            obtain ⟨bt', c', ops', V', T', h1, h2, h3⟩ := HD.out.ex
            exact ⟨⟨bt', c', ops', V', T', h1.calm hF, h2, h3⟩, HD.out.fr.trans hF (fun _ _ e => e.elim)⟩
          exact ⟨hc.2.1, hc.2.2, hd.cell0⟩
        have HK9 : Hid (∀ w', DoAt w pb bv bt N (B + 2 * k + 2) (((Mo.of V T).acts N (A.take k)).write (amongZ a.where_ N) (one a.fill)) w' → w'.cell? ⟨blk, off + k * 5 + 1, none⟩ = some (.int .i64 a.where_) ∧ w'.cell? ⟨blk, off + k * 5 + 3, none⟩ = some (.int .u8 (a.fill.toNat : Int)) ∧ w'.cell? ⟨pb, 0, none⟩ = some (.int .i64 N)) := fun w' hd => by
          have hc := HA.out w' hd.fr k a HT0.out
          exact ⟨hc.2.1, hc.2.2, hd.cell0⟩
        have HW : Hid (∀ g kk w6, wr.heap.size ≤ g → g < w6.heap.size → Reads w6 g 0 (one a.fill) → Fr (fun _ => False) wr w6 → Calls Try.prog 16 #[.pointer (some ⟨pb, 0, none⟩), .int .i64 (amongZ a.where_ N), .slice (some ⟨g, 0, none⟩) 256 kk] w6 fun e w' => e = .returned (.int .i64 0) ∧ DoAt w pb bv bt N (B + 2 * k + 2) (((Mo.of V T).acts N (A.take k)).write (amongZ a.where_ N) (one a.fill)) w') := fun g kk w6 b1 b2 b3 b4 =>
          (HD.out.write (k := kk) (by omega) HR.out.2.1 HR.out.2.2 b1 b2 b3 b4).mono fun _ _ h => ⟨h.1, h.2.1⟩
        have HE : Hid (((Mo.of V T).acts N (A.take k)).write (amongZ a.where_ N) (one a.fill) = (Mo.of V T).acts N (A.take (k + 1))) := by
          show _ = _
          rw [HT.out]
          unfold Mo.act ActD.isSync
          rw [if_neg (by simpa using hb)]
        have HN1 : (1 : Int) ≤ N := by omega
        have HN2 : (N : Int) ≤ 9223372036854775807 := by omega
        clear d0 hb
        go_region_held3 (fun w' => w'.cell? ⟨blk, off + k * 5 + 1, none⟩ = some (.int .i64 a.where_) ∧ w'.cell? ⟨blk, off + k * 5 + 3, none⟩ = some (.int .u8 (a.fill.toNat : Int)) ∧ w'.cell? ⟨pb, 0, none⟩ = some (.int .i64 N))
          (first
            | exact HK.out _ (Fr.refl _ _).drew
            | exact HK.out _ HG6.out.2.2.2
            | exact HK9.out _ HD9.out)
          (first
            | (go_at_call 32; refine (sectors_cell pb N HN _ ?_).mono ?_; (first | exact (HK.out _ (Fr.refl _ _).drew).2.2 | exact (HK.out _ HG6.out.2.2.2).2.2); rintro e w' ⟨rfl, rfl⟩)
            | (go_at_call 14; refine (among_any _ _ _ HN1 HN2).mono ?_; rintro e w' ⟨rfl, rfl⟩)
            | (go_at_call 15; refine (full_at wr _ a.fill ?_).mono ?_; exact (Fr.refl _ _).drew; rintro e w6 ⟨g, k6, rfl, a1, a2, a3, a4⟩; have HG6 := Lib.hid (show wr.heap.size ≤ g ∧ g < w6.heap.size ∧ Reads w6 g 0 (one a.fill) ∧ Fr (fun _ => False) wr w6 from ⟨a1, a2, a3, a4⟩); clear a1 a2 a3 a4)
            | (go_at_call 16; refine (HW.out _ _ _ HG6.out.1 HG6.out.2.1 HG6.out.2.2.1 HG6.out.2.2.2).mono ?_; rintro e w9 ⟨rfl, hd9⟩; have HD9 := Lib.hid hd9; clear hd9))
        all_goals
          go_wp2
          go_roundw
          case rel => exact ⟨k + 1, by omega, by omega, by go_num, by rw [← HE.out]; exact HD9⟩
          case measure => simp [intOf]; omega
    · have hfin : DoAt w pb bv bt N (B + 400) ((Mo.of V T).acts N (A.take 200)) wr := by
        have ht : A.take k = A.take 200 := by
          by_cases hkn : k = n
          · have := HL.out
            rw [List.take_of_length_le (by omega), List.take_of_length_le (by omega)]
          · have : k = 200 := by omega
            rw [this]
        rw [← ht]
        exact HD.out.big (by omega) hB
      have HFIN := Lib.hid hfin
      clear hfin
      by_cases hkn : k = n
      · subst hkn
        clear hlt
        go_wp2
        go_end0
        exact ⟨rfl, HFIN.out⟩
      · have hk200 : k = 200 := by omega
        subst hk200
        have h1 : (200 : Int) < n := by omega
        clear hlt
        go_wp2
        go_end0
        exact ⟨rfl, HFIN.out⟩

end Go.Proofs.Ytbmbibepcnpngaa
