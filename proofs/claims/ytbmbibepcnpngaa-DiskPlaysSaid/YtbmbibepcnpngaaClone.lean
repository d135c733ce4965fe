/-
  Clone.
-/
import Derived.Test.YtbmbibepcnpngaaNew
import Derived.Test.YtbmbibepcnpngaaShelf
namespace Go.Proofs.Ytbmbibepcnpngaa
open Go.RowKit Go.Maps

theorem cloneV_call (w : World) {b n : Nat} {V : Int → Int → List UInt8} (h : SecMap w b n V) :
    Calls Try.prog 49 #[.map (some b)] w fun e w' => e = .returned (.map (some w.heap.size)) ∧ SecMap w' w.heap.size n V ∧ Fr (fun _ => False) w w' ∧ w.heap.size < w'.heap.size := by
  obtain ⟨D, hown, hat⟩ := h
  have hcon := AnyW.maps_Clone_owns Try.cloneV 71 secR b n D w hown
  change Calls Try.prog 49 _ _ _ at hcon
  refine hcon.mono fun e w' ⟨he, h1, _, hB⟩ => ⟨he, ⟨D, h1, hat⟩, ⟨hB.os, hB.tape, hB.output, hB.size, fun i hi _ => hB.block i hi⟩, h1.lt⟩

theorem cloneT_call (w : World) {b n : Nat} {T : Int → Int} {c : Nat} (h : TurnMap w b n T c) :
    Calls Try.prog 50 #[.map (some b)] w fun e w' => e = .returned (.map (some w.heap.size)) ∧ TurnMap w' w.heap.size n T c ∧ Fr (fun _ => False) w w' ∧ w.heap.size < w'.heap.size := by
  obtain ⟨D, hown, hat⟩ := h
  have hcon := AnyW.maps_Clone_owns Try.cloneT 3 (plainElem Try.prog 3) b n D w hown
  change Calls Try.prog 50 _ _ _ at hcon
  refine hcon.mono fun e w' ⟨he, h1, _, hB⟩ => ⟨he, ⟨D, h1, hat⟩, ⟨hB.os, hB.tape, hB.output, hB.size, fun i hi _ => hB.block i hi⟩, h1.lt⟩

/-- What Clone leaves. -/
def ClonePost (w : World) (nv nt c : Nat) (N ops lim : Int) (dk : Bool) (V : Int → Int → List UInt8) (T : Int → Int) (e : Ending) (w' : World) : Prop :=
  ∃ qb qv qt, e = .returned (.pointer (some ⟨qb, 0, none⟩)) ∧ DiskAt w' qb qv qt nv nt c N ops lim dk V T ∧ w.heap.size ≤ qb ∧ w.heap.size ≤ qv ∧ w.heap.size ≤ qt ∧ Fr (fun _ => False) w w'

set_option maxHeartbeats 1000000 in
theorem clone_any (w : World) {pb bv bt nv nt c : Nat} {N ops lim : Int} {dk : Bool} {V : Int → Int → List UInt8} {T : Int → Int} (h : DiskAt w pb bv bt nv nt c N ops lim dk V T) (hN : 0 < N) :
    Calls Try.prog 28 #[.pointer (some ⟨pb, 0, none⟩)] w fun e w' => ClonePost w nv nt c N ops lim dk V T e w' := by
  have c0 := h.blk.c0
  have c1 := h.blk.c1
  have c2 := h.blk.c2
  have c3 := h.blk.c3
  have c4 := h.blk.c4
  have c5 := h.blk.c5
  have hlt := h.blk.lt
  have HM := Lib.hid (made_yes pb N w c0 hN)
  obtain ⟨wA, hwA⟩ : ∃ wA, wA = w.alloc (.cells #[.int .i64 N, .map (some bv), .map (some bt), .int .i64 ops, .int .i64 lim, .bool dk] 65) := ⟨_, rfl⟩
  have FA : Fr (fun _ => False) w wA := by rw [hwA]; exact (Fr.refl _ w).alloc _
  have hA := h.kept FA id id id
  have bA : Blk wA w.heap.size N bv bt ops lim dk := by rw [hwA]; exact heap_alloc_new _ _
  have sA : w.heap.size < wA.heap.size := by rw [hwA]; simp
  have c1A : (w.alloc (.cells #[.int .i64 N, .map (some bv), .map (some bt), .int .i64 ops, .int .i64 lim, .bool dk] 65)).cell? ⟨pb, 1, none⟩ = some (.map (some bv)) := by rw [← hwA]; exact hA.blk.c1
  have HV1 : Hid (Calls Try.prog 49 #[.map (some bv)] (w.alloc (.cells #[.int .i64 N, .map (some bv), .map (some bt), .int .i64 ops, .int .i64 lim, .bool dk] 65)) fun e w' => e = .returned (.map (some wA.heap.size)) ∧ SecMap w' wA.heap.size nv V ∧ Fr (fun _ => False) wA w' ∧ wA.heap.size < w'.heap.size) := by
    have := cloneV_call wA hA.sec
    rw [hwA] at this ⊢
    exact this
  have HA := Lib.hid hA
  have HBA := Lib.hid bA
  have HSA := Lib.hid sA
  have HFA := Lib.hid FA
  clear hA bA sA FA hwA h
  have HL := Lib.hid hlt
  -- behind the first clone, and its store
  have HK : Hid (∀ w3, SecMap w3 wA.heap.size nv V → Fr (fun _ => False) wA w3 → wA.heap.size < w3.heap.size →
      w3.frozen? ⟨w.heap.size, 1, none⟩ = false ∧ w3.cell? ⟨w.heap.size, 1, none⟩ = some (.map (some bv)) ∧
      (w3.setCell ⟨w.heap.size, 1, none⟩ (.map (some wA.heap.size))).cell? ⟨pb, 2, none⟩ = some (.map (some bt)) ∧ TurnMap (w3.setCell ⟨w.heap.size, 1, none⟩ (.map (some wA.heap.size))) bt nt T c ∧ SecMap (w3.setCell ⟨w.heap.size, 1, none⟩ (.map (some wA.heap.size))) wA.heap.size nv V ∧ Blk (w3.setCell ⟨w.heap.size, 1, none⟩ (.map (some wA.heap.size))) w.heap.size N wA.heap.size bt ops lim dk ∧ Fr (fun _ => False) w (w3.setCell ⟨w.heap.size, 1, none⟩ (.map (some wA.heap.size))) ∧ wA.heap.size < (w3.setCell ⟨w.heap.size, 1, none⟩ (.map (some wA.heap.size))).heap.size) := fun w3 hv3 hF3 hs3 => by
    have hb3 := HBA.out.kept hF3 id
    have h3 := HA.out.kept hF3 id id id
    have F4 : Fr (· = w.heap.size) w3 (w3.setCell ⟨w.heap.size, 1, none⟩ (.map (some wA.heap.size))) := (Fr.refl (· = w.heap.size) w3).setCell (p := ⟨w.heap.size, 1, none⟩) (Or.inl rfl) _
    have hne : pb ≠ w.heap.size := by have := HL.out; omega
    have htl := HA.out.turn.lt
    have hnt : bt ≠ w.heap.size := HA.out.turn.ne_blk HBA.out
    have hsa := HSA.out
    refine ⟨hb3.free 1, hb3.c1, (h3.blk.kept F4 hne).c2, h3.turn.kept F4 hnt, hv3.kept F4 (by omega), hb3.set1 _, (((HFA.out.trans hF3 (fun _ _ e => e.elim)).mono (S := fun i => i = w.heap.size) (fun _ _ e => e.elim)).trans F4 (fun _ _ e => e)).mono (fun i hi e => by omega), by simp [World.setCell]; exact hs3⟩
  have HK2 : Hid (∀ w4 w5, TurnMap w5 w4.heap.size nt T c → SecMap w4 wA.heap.size nv V → Blk w4 w.heap.size N wA.heap.size bt ops lim dk → Fr (fun _ => False) w w4 → wA.heap.size < w4.heap.size → Fr (fun _ => False) w4 w5 → w4.heap.size < w5.heap.size →
      w5.frozen? ⟨w.heap.size, 2, none⟩ = false ∧ w5.cell? ⟨w.heap.size, 2, none⟩ = some (.map (some bt)) ∧
      ClonePost w nv nt c N ops lim dk V T (.returned (.pointer (some ⟨w.heap.size, 0, none⟩))) (w5.setCell ⟨w.heap.size, 2, none⟩ (.map (some w4.heap.size)))) := fun w4 w5 ht5 hv4 hb4 hF4 hs4 hF5 hs5 => by
    have hb5 := hb4.kept hF5 id
    have hv5 := hv4.kept hF5 id
    have F6 : Fr (· = w.heap.size) w5 (w5.setCell ⟨w.heap.size, 2, none⟩ (.map (some w4.heap.size))) := (Fr.refl (· = w.heap.size) w5).setCell (p := ⟨w.heap.size, 2, none⟩) (Or.inl rfl) _
    have hsa := HSA.out
    have h4 := hF4.size
    refine ⟨hb5.free 2, hb5.c2, w.heap.size, wA.heap.size, w4.heap.size, rfl, ⟨hb5.set2 _, hv5.kept F6 (by omega), ht5.kept F6 (by omega), by omega⟩, by omega, by omega, by omega, ?_⟩
    exact (((hF4.trans hF5 (fun _ _ e => e.elim)).mono (S := fun i => i = w.heap.size) (fun _ _ e => e.elim)).trans F6 (fun _ _ e => e)).mono (fun i hi e => by omega)
  go_enter Try.func28, Try.ntmps28
  go_wp2_with (first
    | (go_at_call 41; refine (HM.out).mono ?_; rintro e w' ⟨rfl, rfl⟩)
    | (go_at_call 49; refine (HV1.out).mono ?_; rintro e w3 ⟨rfl, hv3, hF3, hs3⟩; obtain ⟨f3, d3, c24, ht4, hv4, hb4, hF4, hs4⟩ := HK.out w3 hv3 hF3 hs3; have HT4 := Lib.hid (cloneT_call _ ht4); have HV4 := Lib.hid hv4; have HB4 := Lib.hid hb4; have HF4 := Lib.hid hF4; have HS4 := Lib.hid hs4; clear ht4 hv4 hb4 hF4 hs4 hv3 hF3 hs3)
    | (go_at_call 50; refine (HT4.out).mono ?_; rintro e w5 ⟨rfl, ht5, hF5, hs5⟩; obtain ⟨f5, d5, hp⟩ := HK2.out _ w5 ht5 HV4.out HB4.out HF4.out HS4.out hF5 hs5; have HP := Lib.hid hp; clear ht5 hF5 hs5 hp))
  go_ret
  have h := HP.out
  simp at h
  exact h

end Go.Proofs.Ytbmbibepcnpngaa
