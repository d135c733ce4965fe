/-
  bring: the steps that bring home what is committed.
-/
import Derived.Test.YtflapnbpaodhaaaGreatDoorHdQ
namespace Go.Proofs.YtflapnbpaodhaaaGreatDoor.hd
set_option maxRecDepth 100000
open Go.RowKit Go.Maps ds
set_option maxRecDepth 100000

/-- These blocks lie there. -/
def HasB (w : World) (L : List (Nat × Obj)) : Prop := ∀ x ∈ L, w.heap[x.1]? = some x.2
/-- .. and nothing that was has turned since. -/
structure St (wa w : World) (L : List (Nat × Obj)) : Prop where
  fr : Fr (fun _ => False) wa w
  has : HasB w L
section
variable {wa w w' : World} {L : List (Nat × Obj)}
theorem St.start (w : World) : St w w [] := ⟨Fr.refl _ _, fun _ h => by cases h⟩
theorem St.calm (h : St wa w L) (hF : Fr (fun _ => False) w w') : St wa w' L :=
  ⟨h.fr.trans hF (fun _ _ e => e), fun x hx => (hF.block _ (Array.getElem?_eq_some_iff.1 (h.has x hx)).1 id).trans (h.has x hx)⟩
theorem St.add (h : St wa w L) {g : Nat} {o : Obj} (hg : w.heap[g]? = some o) : St wa w ((g, o) :: L) :=
  ⟨h.fr, fun x hx => by
    rcases List.mem_cons.1 hx with rfl | hx
    · exact hg
    · exact h.has x hx⟩
theorem St.alloc (h : St wa w L) (cs : Array Value) (t : TypeId) : St wa (w.alloc (.cells cs t)) ((w.heap.size, .cells cs t (0, 0)) :: L) := (h.calm ((Fr.refl _ w).alloc _)).add (heap_alloc_new _ _)
theorem St.get (h : St wa w L) {g : Nat} {o : Obj} (hm : (g, o) ∈ L) : w.heap[g]? = some o := h.has _ hm
theorem St.size (h : St wa w L) : wa.heap.size ≤ w.heap.size := h.fr.size
end
abbrev roomO (pb at_ rc : Nat) : Obj := .cells #[.pointer (some ⟨pb, 0, none⟩), .int .i64 (at_ : Int), .int .i64 (rc : Int)] 72 (0, 0)

theorem one_of {w : World} {gb gh : Nat} {t : TypeId} {x : Int} {l : List UInt8} (hb : w.heap[gb]? = some (.cells #[.int .i64 x, .slice (some ⟨gh, 0, none⟩) 256 256] 38 (0, 0))) (hh : w.heap[gh]? = some (.cells (secC l) t (0, 0))) (hl : l.length = 256) (ht : t ≠ 66 ∧ t ≠ 74) (hk : t ≠ 38) : BksT w (some ⟨gb, 0, none⟩) [(x, l)] := fun _ => by
  refine ⟨gb, 0, rfl, ⟨_, hb⟩, fun i y hi => ?_⟩
  obtain rfl : i = 0 := by
    have := (List.getElem?_eq_some_iff.1 hi).1
    simp at this
    exact this
  obtain rfl : (x, l) = y := by simpa using hi
  exact ⟨by rw [cellAt hb]; rfl, gh, 0, 256, t, by rw [cellAt hb]; rfl, hl, ⟨_, hh⟩, ht, hk, reads_arr hh⟩

set_option maxHeartbeats 4000000 in
theorem bring_any (w : World) (hT : cr.Tab w) (pb at_ rc turn : Nat) (ht : turn < 4294967296) (p : Option Addr) (n cap : Nat) :
    Calls Tryz.prog 37 #[roomV pb at_ rc, .int .i64 (turn : Int), .slice p n cap] w fun e w' => ∃ g v1 v2 p2, e = .returned (.slice (some ⟨g, 0, none⟩) 2 2) ∧ w'.heap[g]? = some (.cells #[v1, v2] 88 (0, 0)) ∧
      StepW w' v1 pb at_ rc p n cap ∧ StepW w' v2 pb at_ rc p2 1 1 ∧ BksT w' p2 [((at_ : Int), hdrL turn [])] ∧ w.heap.size ≤ g ∧ Fr (fun _ => False) w w' := by
  have hF := (Fr.refl (fun _ => False) w).alloc (.cells #[.pointer (some ⟨pb, 0, none⟩), .int .i64 (at_ : Int), .int .i64 (rc : Int)] 72)
  have HST0 : Hid (St w (w.alloc (.cells #[.pointer (some ⟨pb, 0, none⟩), .int .i64 (at_ : Int), .int .i64 (rc : Int)] 72)) [(w.heap.size, roomO pb at_ rc)]) := Lib.hid (St.alloc (St.start w) _ _)
  have HTW := Lib.hid hT
  have HWA : Hid (∀ w2 p n cap, Calls Tryz.prog 44 #[.agg #[.pointer (some ⟨pb, 0, none⟩), .int .i64 (at_ : Int), .int .i64 (rc : Int)], .slice p n cap] w2 fun e w' => ∃ v, e = .returned v ∧ StepW w' v pb at_ rc p n cap ∧ Fr (fun _ => False) w2 w') := Lib.hid fun w2 p n cap => write_any w2 pb at_ rc p n cap
  have HH : Hid (∀ w2, Fr (fun _ => False) w w2 → Calls Tryz.prog 45 #[.agg #[.pointer (some ⟨pb, 0, none⟩), .int .i64 (at_ : Int), .int .i64 (rc : Int)], .int .i64 (turn : Int), .slice none 0 0] w2 fun e w' => ∃ g, e = .returned (.agg #[.int .i64 (at_ : Int), .slice (some ⟨g, 0, none⟩) 256 256]) ∧ w2.heap.size ≤ g ∧ w'.heap[g]? = some (.cells (secC (hdrL turn [])) 100 (0, 0)) ∧ Fr (fun _ => False) w2 w') :=
    Lib.hid fun w2 hF => header_any w2 (hT.fr hF) pb at_ rc turn ht none 0 [] (fun h => absurd rfl h) (by simp) (by simp) (by simp)
  clear hF hT ht
  unfold roomV
  go_enter Tryz.func37, Tryz.ntmps37
  go_wp2_with fail
  generalize w.alloc (.cells #[.pointer (some ⟨pb, 0, none⟩), .int .i64 (at_ : Int), .int .i64 (rc : Int)] 72) = wa at HST0 ⊢
  generalize hgR : w.heap.size = gR at HST0 ⊢
  have HST := Lib.hid (HST0.out.calm (Fr.refl _ wa).drew)
  clear HST0
  go_region_held3 (fun w' => w'.cell? ⟨gR, 0, none⟩ = some (.pointer (some ⟨pb, 0, none⟩)) ∧ w'.cell? ⟨gR, 1, none⟩ = some (.int .i64 (at_ : Int)) ∧ w'.cell? ⟨gR, 2, none⟩ = some (.int .i64 (rc : Int)))
    (first
      | exact BoxR.c (HST.out.get (by repeat (first | exact List.Mem.head _ | apply List.Mem.tail)))
      | exact BoxR.c ((HST.out.alloc _ _).get (by repeat (first | exact List.Mem.head _ | apply List.Mem.tail))))
    (first
      | (go_at_call 44; (refine (HWA.out _ _ _ _).mono ?_); rintro e w5 ⟨_, rfl, ⟨gl, gr, rfl, hgl, hgr⟩, hF5⟩; (first | (replace HST := Lib.hid (((HST.out.calm hF5).add hgl).add hgr)) | (replace HST := Lib.hid ((((HST.out.alloc _ _).calm hF5).add hgl).add hgr))); clear hgl hgr hF5)
      | (go_at_call 45; (refine (HH.out _ HST.out.fr).mono ?_); rintro e w3 ⟨gh, rfl, _, hgb, hF3⟩; replace HST := Lib.hid ((HST.out.calm hF3).add hgb); clear hgb hF3))
  all_goals
    go_wp2_with fail
    go_ret
    have HE := HST.out.alloc
    refine ⟨_, _, _, _, rfl, (HE _ _).get (by repeat (first | exact List.Mem.head _ | apply List.Mem.tail)), ⟨_, _, rfl, (HE _ _).get (by repeat (first | exact List.Mem.head _ | apply List.Mem.tail)), (HE _ _).get (by repeat (first | exact List.Mem.head _ | apply List.Mem.tail))⟩, ⟨_, _, rfl, (HE _ _).get (by repeat (first | exact List.Mem.head _ | apply List.Mem.tail)), (HE _ _).get (by repeat (first | exact List.Mem.head _ | apply List.Mem.tail))⟩, one_of (t := 100) ((HE _ _).get (by repeat (first | exact List.Mem.head _ | apply List.Mem.tail))) ((HE _ _).get (by repeat (first | exact List.Mem.head _ | apply List.Mem.tail))) (hdrL_length _ _) (by decide) (by decide), by have := HST.out.size; omega, (HE _ _).fr⟩
end Go.Proofs.YtflapnbpaodhaaaGreatDoor.hd
