/-
  A disk as a value: what is read of it.
-/
import Derived.Test.YtflapnbpaodhaaaGreatDoorDs
namespace Go.Proofs.YtflapnbpaodhaaaGreatDoor.ds
set_option maxRecDepth 100000
open Go.RowKit Go.Maps
set_option maxRecDepth 100000

/-- A new slice of a sector's bytes, in a block of its own. -/
def NewSec (w : World) (l : List UInt8) (e : Ending) (w' : World) : Prop :=
  ∃ g, e = .returned (.tuple #[.slice (some ⟨g, 0, none⟩) 256 256, .int .i64 0]) ∧ w.heap.size ≤ g ∧ w'.heap[g]? = some (.cells (secC l) 68 (0, 0)) ∧ Fr (fun _ => False) w w'

set_option maxHeartbeats 1000000 in
theorem read_sec (w : World) {pb bv bt nv nt c : Nat} {N ops lim : Int} {V : Int → Int → List UInt8} {T : Int → Int} (h : DiskAt w pb bv bt nv nt c N ops lim false V T) (hN : 0 < N) (at_ : Int) (h0 : 0 ≤ at_) (h1 : at_ < N) (hNi : N ≤ 4096) (hT : I64 (T at_)) :
    Calls Tryz.prog 10 #[.pointer (some ⟨pb, 0, none⟩), .int .i64 at_] w fun e w' => NewSec w (V at_ (T at_)) e w' := by
  have c0 := h.blk.c0
  have c5 := h.blk.c5
  have HM := Lib.hid (made_yes pb N w c0 hN)
  have HH := Lib.hid (has_any pb N at_ w c0)
  have hh : (decide (0 ≤ at_) && decide (at_ < N)) = true := by simp [h0, h1]
  rw [hh] at HH
  have hs : I64 at_ := by constructor <;> omega
  have HL := Lib.hid (latest_any w h.blk h.sec h.turn at_ hs hT)
  have HLEN := Lib.hid (h.sec.look hs hT).2
  clear h hh
  go_enter Tryz.func10, Tryz.ntmps10
  go_wp2_with (first
    | (go_at_call 29; refine (HM.out).mono ?_; rintro e w' ⟨rfl, rfl⟩)
    | (go_at_call 30; refine (HH.out).mono ?_; rintro e w' ⟨rfl, rfl⟩)
    | (go_at_call 31; refine (HL.out).mono ?_; rintro e w2 ⟨rfl, _, hB2⟩; have HA := Lib.hid (heap_alloc_new w2 (.cells (secC noughts) 68)); have HB2 := Lib.hid hB2; clear hB2)
    | ((with_reducible refine wpList_allocArr ?_ ?_ ?_); (exact rfl); (exact rfl))
    | ((with_reducible refine wpList_storeArr ?_ (.tmp 6) (.tmp 20) ?_ w2.heap.size (V at_ (T at_)) noughts HLEN.out noughts_length ?_ ?_ HA.out ?_); (exact rfl); (exact rfl); (exact rfl); (exact rfl); intro w3 h3 hF3 hs3; have H3 := Lib.hid h3; have HF3 := Lib.hid hF3; clear h3 hF3 hs3)
    | ((with_reducible refine wpList_sliceArr ?_ (.tmp 6) ?_ w2.heap.size ?_ ?_); (exact rfl); (exact rfl); (exact rfl)))
  go_ret2
  refine ⟨w2.heap.size, rfl, HB2.out.size, H3.out, ?_⟩
  have hF2 : Fr (fun _ => False) w w2 := ⟨HB2.out.os, HB2.out.tape, HB2.out.output, HB2.out.size, fun i hi _ => HB2.out.block i hi⟩
  exact (((hF2.alloc _).mono (S := fun i => i = w2.heap.size) (fun _ _ e => e.elim)).trans HF3.out (fun _ _ e => e)).mono (fun i hi e => by have := HB2.out.size; omega)

section
variable {w0 w : World} {pb N B : Nat} {d : DS}
theorem IsD.read (h : IsD w0 pb N B d w) (hdk : d.dk = false) (s : Int) (h0 : 0 ≤ s) (h1 : s < N) :
    Calls Tryz.prog 10 #[.pointer (some ⟨pb, 0, none⟩), .int .i64 s] w fun e w' => NewSec w (d.img s) e w' := by
  obtain ⟨⟨bv, bt, c, V, T, hg, hm, _⟩, _⟩ := h
  rw [hdk] at hg
  obtain ⟨nv, nt, hd, ha, hb⟩ := hg.disk
  have hn0 := hg.n0
  have hn1 := hg.n1
  have hs : I64 s := by constructor <;> omega
  rw [← (hm s hs).1]
  exact read_sec w hd (by omega) s h0 h1 (by omega) (hg.turnI hs)
theorem IsD.read_dark (h : IsD w0 pb N B d w) (hdk : d.dk = true) (s : Int) (h0 : 0 ≤ s) (h1 : s < N) :
    Calls Tryz.prog 10 #[.pointer (some ⟨pb, 0, none⟩), .int .i64 s] w fun e w' => e = .returned (.tuple #[.slice none 0 0, .int .i64 10]) ∧ w = w' := by
  obtain ⟨⟨bv, bt, c, V, T, hg, hm, _⟩, _⟩ := h
  rw [hdk] at hg
  obtain ⟨nv, nt, hd, ha, hb⟩ := hg.disk
  have hn0 := hg.n0
  exact read_power w hd.blk (by omega) s h0 h1
theorem IsD.len (h : IsD w0 pb N B d w) {s : Int} (h0 : 0 ≤ s) (h1 : s < N) : (d.img s).length = 256 := by
  obtain ⟨⟨bv, bt, c, V, T, hg, hm, _⟩, _⟩ := h
  have hn1 := hg.n1
  have hs : I64 s := by constructor <;> omega
  rw [← (hm s hs).1]
  exact hg.len hs (hg.turnI hs)
theorem IsD.opsOf (h : IsD w0 pb N B d w) : Calls Tryz.prog 16 #[.pointer (some ⟨pb, 0, none⟩)] w fun e w' => e = .returned (.int .i64 d.ops) ∧ w = w' := by
  obtain ⟨⟨bv, bt, c, V, T, hg, _⟩, _⟩ := h
  exact ops_good hg
theorem gath_same {G H : Nat → List UInt8} (N : Nat) (h : ∀ k, k < N → G k = H k) : gath G N = gath H N := by
  induction N with
  | zero => rfl
  | succ n ih => rw [gath, gath, ih (fun k hk => h k (by omega)), h n (by omega)]
theorem IsD.imageOf (h : IsD w0 pb N B d w) : Calls Tryz.prog 17 #[.pointer (some ⟨pb, 0, none⟩)] w fun e w' => NewReads w (gath (fun k => d.img k) N) e w' := by
  obtain ⟨⟨bv, bt, c, V, T, hg, hm, _⟩, _⟩ := h
  have hn1 := hg.n1
  have h := image_good hg
  rwa [gath_same N (H := fun k => d.img k) (fun k hk => (hm k (by constructor <;> omega)).1)] at h
end
end Go.Proofs.YtflapnbpaodhaaaGreatDoor.ds
