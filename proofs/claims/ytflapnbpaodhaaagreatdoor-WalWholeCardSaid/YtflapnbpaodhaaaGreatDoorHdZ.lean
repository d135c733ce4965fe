/-
  log: the steps that end with the sectors being committed.
-/
import Derived.Test.YtflapnbpaodhaaaGreatDoorHdY
namespace Go.Proofs.YtflapnbpaodhaaaGreatDoor.hd
set_option maxRecDepth 100000
open Go.RowKit Go.Maps ds
set_option maxRecDepth 100000

/-- Blocks that lie there, and rows of sectors. -/
structure S3 (wa w : World) (L : List (Nat × Obj)) (M : List (Option Addr × List (Int × List UInt8))) : Prop where
  st : St wa w L
  bk : ∀ x ∈ M, BksT w x.1 x.2
section
variable {wa w w' : World} {L : List (Nat × Obj)} {M : List (Option Addr × List (Int × List UInt8))}
theorem S3.calm (h : S3 wa w L M) (hF : Fr (fun _ => False) w w') : S3 wa w' L M := ⟨h.st.calm hF, fun x hx => (h.bk x hx).keep (Keep.of_fr hF)⟩
theorem S3.add (h : S3 wa w L M) {g : Nat} {o : Obj} (hg : w.heap[g]? = some o) : S3 wa w ((g, o) :: L) M := ⟨h.st.add hg, h.bk⟩
theorem S3.addk (h : S3 wa w L M) {p : Option Addr} {l : List (Int × List UInt8)} (hg : BksT w p l) : S3 wa w L ((p, l) :: M) := ⟨h.st, fun x hx => by
  rcases List.mem_cons.1 hx with rfl | hx
  · exact hg
  · exact h.bk x hx⟩
theorem S3.alloc (h : S3 wa w L M) (cs : Array Value) (t : TypeId) : S3 wa (w.alloc (.cells cs t)) ((w.heap.size, .cells cs t (0, 0)) :: L) M := (h.calm ((Fr.refl _ w).alloc _)).add (heap_alloc_new _ _)
theorem S3.get (h : S3 wa w L M) {g : Nat} {o : Obj} (hm : (g, o) ∈ L) : w.heap[g]? = some o := h.st.has _ hm
theorem S3.getk (h : S3 wa w L M) {p : Option Addr} {l : List (Int × List UInt8)} (hm : (p, l) ∈ M) : BksT w p l := h.bk _ hm
theorem S3.start (w : World) : S3 w w [] [] := ⟨St.start w, fun _ h => by cases h⟩
end
/-- A log in its block. -/
abbrev walO (pb at_ rc : Nat) (turn : Nat) (sp : Bool) : Obj := .cells #[.pointer (some ⟨pb, 0, none⟩), .int .i64 (at_ : Int), .int .i64 (rc : Int), .int .i64 (turn : Int), .bool sp] 74 (0, 0)
theorem wal_c {w : World} {g pb at_ rc turn : Nat} {sp : Bool} (h : w.heap[g]? = some (walO pb at_ rc turn sp)) : w.cell? ⟨g, 0, none⟩ = some (.pointer (some ⟨pb, 0, none⟩)) ∧ w.cell? ⟨g, 1, none⟩ = some (.int .i64 (at_ : Int)) ∧ w.cell? ⟨g, 2, none⟩ = some (.int .i64 (rc : Int)) ∧ w.cell? ⟨g, 3, none⟩ = some (.int .i64 (turn : Int)) ∧ w.cell? ⟨g, 4, none⟩ = some (.bool sp) :=
  ⟨by rw [cellAt h]; rfl, by rw [cellAt h]; rfl, by rw [cellAt h]; rfl, by rw [cellAt h]; rfl, by rw [cellAt h]; rfl⟩
theorem box_c {w : World} {g : Nat} {v : Value} {t : TypeId} (h : w.heap[g]? = some (.cells #[v] t (0, 0))) : w.cell? ⟨g, 0, none⟩ = some v := by rw [cellAt h]; rfl
theorem logHeld {w0 w : World} {L : List (Nat × Obj)} {M : List (Option Addr × List (Int × List UInt8))} (h : S3 w0 w L M) {gw gt wb pb at_ rc t0 turn : Nat} {sp : Bool} (h1 : (gw, Obj.cells #[.pointer (some ⟨wb, 0, none⟩)] 27 (0, 0)) ∈ L) (h2 : (gt, Obj.cells #[.int .i64 (turn : Int)] 3 (0, 0)) ∈ L) (h3 : (wb, walO pb at_ rc t0 sp) ∈ L) :
    w.cell? ⟨gw, 0, none⟩ = some (.pointer (some ⟨wb, 0, none⟩)) ∧ w.cell? ⟨gt, 0, none⟩ = some (.int .i64 (turn : Int)) ∧ w.cell? ⟨wb, 0, none⟩ = some (.pointer (some ⟨pb, 0, none⟩)) ∧ w.cell? ⟨wb, 1, none⟩ = some (.int .i64 (at_ : Int)) ∧ w.cell? ⟨wb, 2, none⟩ = some (.int .i64 (rc : Int)) := by
  obtain ⟨a, b, c, _⟩ := wal_c (h.get h3)
  exact ⟨box_c (h.get h1), box_c (h.get h2), a, b, c⟩

/-- The steps of a log. -/
def LogV (w : World) (e : Value) (wb pb at_ rc turn n : Nat) (l : List (Int × List UInt8)) : Prop :=
  ∃ g v1 v2 p1 c1 p2 gt gw, e = .slice (some ⟨g, 0, none⟩) 3 3 ∧ w.heap[g]? = some (.cells #[v1, v2, .func (.func 55) #[] #[.pointer (some ⟨gt, 0, none⟩), .pointer (some ⟨gw, 0, none⟩)]] 88 (0, 0)) ∧
    StepW w v1 pb at_ rc p1 n c1 ∧ BksT w p1 (aheadF (at_ + 1) l) ∧ StepW w v2 pb at_ rc p2 1 1 ∧ BksT w p2 [((at_ : Int), hdrL turn l)] ∧
    w.heap[gt]? = some (.cells #[.int .i64 (turn : Int)] 3 (0, 0)) ∧ w.heap[gw]? = some (.cells #[.pointer (some ⟨wb, 0, none⟩)] 27 (0, 0))

set_option maxHeartbeats 4000000 in
theorem log_any (w : World) (hT : cr.Tab w) (wb pb at_ rc t0 turn : Nat) (sp : Bool) (hwb : w.heap[wb]? = some (walO pb at_ rc t0 sp)) (ht : turn < 4294967296) (h1 : at_ ≤ 100000) (p : Option Addr) (cap : Nat) (l : List (Int × List UInt8)) (hB : BksT w p l) (hn : l.length ≤ 100) (hh : ∀ x ∈ l, 0 ≤ x.1 ∧ x.1 < 65536) (hd : ∀ x ∈ l, x.2.length ≤ 1000000) :
    Calls Tryz.prog 36 #[.pointer (some ⟨wb, 0, none⟩), .int .i64 (turn : Int), .slice p l.length cap] w fun e w' => ∃ v, e = .returned v ∧ LogV w' v wb pb at_ rc turn l.length l ∧ Fr (fun _ => False) w w' := by
  obtain ⟨n, hn'⟩ : ∃ n, n = l.length := ⟨_, rfl⟩
  have HST0 : Hid (S3 w ((w.alloc (.cells #[.pointer (some ⟨wb, 0, none⟩)] 27)).alloc (.cells #[.int .i64 (turn : Int)] 3)) [((w.alloc (.cells #[.pointer (some ⟨wb, 0, none⟩)] 27)).heap.size, .cells #[.int .i64 (turn : Int)] 3 (0, 0)), (w.heap.size, .cells #[.pointer (some ⟨wb, 0, none⟩)] 27 (0, 0)), (wb, walO pb at_ rc t0 sp)] []) := Lib.hid ((((S3.start w).add hwb).alloc _ _).alloc _ _)
  rw [World.size_alloc] at HST0
  have HWA : Hid (∀ w2 p n cap, Calls Tryz.prog 44 #[.agg #[.pointer (some ⟨pb, 0, none⟩), .int .i64 (at_ : Int), .int .i64 (rc : Int)], .slice p n cap] w2 fun e w' => ∃ v, e = .returned v ∧ StepW w' v pb at_ rc p n cap ∧ Fr (fun _ => False) w2 w') := Lib.hid fun w2 p n cap => write_any w2 pb at_ rc p n cap
  have HH : Hid (∀ w2, Fr (fun _ => False) w w2 → Calls Tryz.prog 45 #[.agg #[.pointer (some ⟨pb, 0, none⟩), .int .i64 (at_ : Int), .int .i64 (rc : Int)], .int .i64 (turn : Int), .slice p n cap] w2 fun e w' => ∃ g, e = .returned (.agg #[.int .i64 (at_ : Int), .slice (some ⟨g, 0, none⟩) 256 256]) ∧ w2.heap.size ≤ g ∧ w'.heap[g]? = some (.cells (secC (hdrL turn l)) 100 (0, 0)) ∧ Fr (fun _ => False) w2 w') :=
    Lib.hid fun w2 hF => by rw [hn']; exact header_any w2 (hT.fr hF) pb at_ rc turn ht p cap l (hB.keep (Keep.of_fr hF)).bks hn hh hd
  have HA : Hid (∀ w2, Fr (fun _ => False) w w2 → Calls Tryz.prog 54 #[.agg #[.pointer (some ⟨pb, 0, none⟩), .int .i64 (at_ : Int), .int .i64 (rc : Int)], .slice p n cap] w2 fun e w' => ∃ p' cap', e = .returned (.slice p' n cap') ∧ BksT w' p' (aheadF (at_ + 1) l) ∧ Fr (fun _ => False) w2 w') :=
    Lib.hid fun w2 hF => by rw [hn']; exact ahead_any w2 pb at_ rc h1 p cap l (hB.keep (Keep.of_fr hF)) (by omega)
  have HLEN := Lib.hid hn'
  rw [← hn']
  clear hT ht hB hn hh hd hn' hwb
  go_enter Tryz.func36, Tryz.ntmps36
  go_wp2_with fail
  generalize ((w.alloc (.cells #[.pointer (some ⟨wb, 0, none⟩)] 27)).alloc (.cells #[.int .i64 (turn : Int)] 3)) = wa at HST0 ⊢
  generalize hg2 : w.heap.size + 1 = gt at HST0 ⊢
  generalize hg1 : w.heap.size = gw at HST0 ⊢
  have HST := Lib.hid (HST0.out.calm (Fr.refl _ wa).drew)
  clear HST0
  go_region_held3 (fun w' => w'.cell? ⟨gw, 0, none⟩ = some (.pointer (some ⟨wb, 0, none⟩)) ∧ w'.cell? ⟨gt, 0, none⟩ = some (.int .i64 (turn : Int)) ∧ w'.cell? ⟨wb, 0, none⟩ = some (.pointer (some ⟨pb, 0, none⟩)) ∧ w'.cell? ⟨wb, 1, none⟩ = some (.int .i64 (at_ : Int)) ∧ w'.cell? ⟨wb, 2, none⟩ = some (.int .i64 (rc : Int)))
    (first
      | exact logHeld HST.out (by repeat (first | exact List.Mem.head _ | apply List.Mem.tail)) (by repeat (first | exact List.Mem.head _ | apply List.Mem.tail)) (by repeat (first | exact List.Mem.head _ | apply List.Mem.tail))
      | exact logHeld (HST.out.alloc _ _) (by repeat (first | exact List.Mem.head _ | apply List.Mem.tail)) (by repeat (first | exact List.Mem.head _ | apply List.Mem.tail)) (by repeat (first | exact List.Mem.head _ | apply List.Mem.tail)))
    (first
      | (go_at_call 44; (refine (HWA.out _ _ _ _).mono ?_); rintro e w5 ⟨_, rfl, ⟨gl, gr, rfl, hgl, hgr⟩, hF5⟩; (first | (replace HST := Lib.hid (((HST.out.calm hF5).add hgl).add hgr)) | (replace HST := Lib.hid ((((HST.out.alloc _ _).calm hF5).add hgl).add hgr))); clear hgl hgr hF5)
      | (go_at_call 45; (refine (HH.out _ HST.out.st.fr).mono ?_); rintro e w3 ⟨gh, rfl, _, hgb, hF3⟩; replace HST := Lib.hid ((HST.out.calm hF3).add hgb); clear hgb hF3)
      | (go_at_call 54; (first | (refine (HA.out _ HST.out.st.fr).mono ?_) | (refine (HA.out _ (HST.out.alloc _ _).st.fr).mono ?_)); rintro e w3 ⟨pa, ca, rfl, hbk, hF3⟩; (first | (replace HST := Lib.hid ((HST.out.calm hF3).addk hbk)) | (replace HST := Lib.hid (((HST.out.alloc _ _).calm hF3).addk hbk))); clear hbk hF3))
  all_goals
    go_wp2_with fail
    go_ret
    have HE := HST.out.alloc
    exact ⟨_, rfl, ⟨_, _, _, _, _, _, _, _, rfl, (HE _ _).get (by repeat (first | exact List.Mem.head _ | apply List.Mem.tail)), ⟨_, _, rfl, (HE _ _).get (by repeat (first | exact List.Mem.head _ | apply List.Mem.tail)), (HE _ _).get (by repeat (first | exact List.Mem.head _ | apply List.Mem.tail))⟩, (HE _ _).getk (by repeat (first | exact List.Mem.head _ | apply List.Mem.tail)), ⟨_, _, rfl, (HE _ _).get (by repeat (first | exact List.Mem.head _ | apply List.Mem.tail)), (HE _ _).get (by repeat (first | exact List.Mem.head _ | apply List.Mem.tail))⟩, one_of (t := 100) ((HE _ _).get (by repeat (first | exact List.Mem.head _ | apply List.Mem.tail))) ((HE _ _).get (by repeat (first | exact List.Mem.head _ | apply List.Mem.tail))) (hdrL_length _ _) (by decide) (by decide), (HE _ _).get (by repeat (first | exact List.Mem.head _ | apply List.Mem.tail)), (HE _ _).get (by repeat (first | exact List.Mem.head _ | apply List.Mem.tail))⟩, (HE _ _).st.fr⟩
end Go.Proofs.YtflapnbpaodhaaaGreatDoor.hd
