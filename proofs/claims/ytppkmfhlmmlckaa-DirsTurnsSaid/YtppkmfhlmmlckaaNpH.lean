/-
  The program's take: the entry that bytes begin with.
-/
import Derived.Test.YtppkmfhlmmlckaaNpC
import Derived.Test.YtppkmfhlmmlckaaNmK
namespace Go.Proofs.Ytppkmfhlmmlckaa.nm
set_option maxRecDepth 100000
open Go.RowKit Go.Maps
set_option maxRecDepth 100000

theorem cutB_high (w : World) (A : Option Addr) (n c k : Nat) (hk : k ≤ n) :
    (Instr.slice 22 (.slice A n c) (some (.int .i64 (k : Int))) none none).run Try.prog w = .ok (.slice (if c = k then A else A.map (·.add k)) (n - k) (c - k)) w := by
  rw [run_slice_l w 22 A n c Try.underlying22 .i64 k (by omega) (by omega)]
  have hs : (sizeOf (Try.prog.elem 22)).run Try.prog w = .ok 1 w := by kernel_rfl
  rw [hs]
  simp only [Result.andThen, sliced, Int.toNat_natCast, Nat.mul_one]

theorem results_take {fn : Func} {p q r : Tmp} (h : fn.results = #[.cell p 41, .tmp q, .tmp r]) (tmps : Array Value) (w : World) (g : Nat) (cs : Array Value) (v u : Value) (hs : cs.size = 2)
    (hp : tmps.getD p undef = .pointer (some ⟨g, 0, none⟩)) (hq : tmps.getD q undef = v) (hu : tmps.getD r undef = u) (hg : w.heap[g]? = some (.cells cs 41 (0, 0))) :
    (results fn tmps).run Try.prog w = .ok (.tuple #[.agg cs, v, u]) w := by
  have hp' : tmps[p]?.getD undef = .pointer (some ⟨g, 0, none⟩) := by simpa using hp
  have hq' : tmps[q]?.getD undef = v := by simpa using hq
  have hu' : tmps[r]?.getD undef = u := by simpa using hu
  have hr := run_loadVar_row (P := Try.prog) w g 41 41 cs (0, 0) _ hg Try.underlying41 rfl (by rw [hs]; kernel_rfl)
  simp [results, h, hp', hq', hu', asAddr, hr]

set_option maxHeartbeats 4000000 in
theorem ptake_no (w : World) (A : Option Addr) (cap : Nat) (l : List UInt8) (x : UInt8) (hx : l[0]? = some x) (hr : Rd w w.heap.size A l) (hb : l.length ≤ 140737488351232) (h : l.length < 1 + x.toNat + 2) :
    Calls Try.prog 25 #[.slice A l.length cap] w fun e w' => e = .returned (.tuple #[zeroN, .slice none 0 0, .bool false]) ∧ Fr (fun _ => False) w w' := by
  have hx256 := x.toNat_lt
  obtain ⟨k, hk⟩ : ∃ k : Nat, k = x.toNat := ⟨_, rfl⟩
  obtain ⟨n, hn⟩ : ∃ n, n = l.length := ⟨_, rfl⟩
  have hn0 : 0 < n := by rw [hn]; exact (List.getElem?_eq_some_iff.1 hx).1
  obtain ⟨b, o, rfl, hblk, hc⟩ := hr (by rintro rfl; simp at hx)
  have hF0 := (Fr.refl (fun _ => False) w).alloc (objX ⟨#[]⟩ 0)
  have p0 : (w.alloc (objX ⟨#[]⟩ 0)).cell? ⟨b, o, none⟩ = some (.int .u8 (k : Int)) := by
    have := (World.cell?_of_block (w := w) (w' := w.alloc (objX ⟨#[]⟩ 0)) (a := ⟨b, o + 0, none⟩) (hF0.block b hblk id)).trans (hc 0 x hx)
    rw [hk]
    exact this
  have c0 : (w.alloc (objX ⟨#[]⟩ 0)).cell? ⟨w.heap.size, 0, none⟩ = some (.string ⟨#[]⟩) := (cellAt (heap_alloc_new w _) 0).trans rfl
  have c1 : (w.alloc (objX ⟨#[]⟩ 0)).cell? ⟨w.heap.size, 1, none⟩ = some (.int .i64 0) := (cellAt (heap_alloc_new w _) 1).trans rfl
  have f0 : (w.alloc (objX ⟨#[]⟩ 0)).frozen? ⟨w.heap.size, 0, none⟩ = false := freeAt (heap_alloc_new w _) 0
  have HF0 := Lib.hid hF0
  rw [← hn, ← hk] at h
  rw [← hn] at hb ⊢
  have HG := Lib.hid (fun (w2 : World) => get_no w2 (some ⟨b, o, none⟩) n cap ((1 : Int) + (k : Int)) 2 hb (by rintro ⟨_, _, _, h4⟩; omega))
  clear hx hr hc hF0 hn hblk
  have hk3 : k < 256 := by omega
  clear hk hx256
  go_enter Try.func25, Try.ntmps25
  go_wp2_with fail
  refine (HG.out _).mono ?_
  rintro e w' ⟨rfl, rfl⟩
  go_wp2_with fail
  exact bodyPost_ret (v := .tuple #[zeroN, .slice none 0 0, .bool false]) (results_take rfl _ _ w.heap.size #[.string ⟨#[]⟩, .int .i64 0] (.slice none 0 0) (.bool false) rfl rfl rfl rfl (heap_alloc_new _ _)) rfl ⟨rfl, HF0.out⟩

set_option maxHeartbeats 4000000 in
theorem ptake_ok (w : World) (B : Nat) (A : Option Addr) (cap : Nat) (l : List UInt8) (x : UInt8) (hx : l[0]? = some x) (hr : Rd w B A l) (hB : B ≤ w.heap.size) (hcap : l.length ≤ cap) (hb : l.length ≤ 140737488351232) (h : 1 + x.toNat + 2 ≤ l.length) :
    Calls Try.prog 25 #[.slice A l.length cap] w fun e w' => ∃ A', e = .returned (.tuple #[.agg #[.string ⟨((l.drop 1).take x.toNat).toArray⟩, .int .i64 (numAt l (1 + x.toNat) 2 : Int)], .slice A' (l.length - (1 + x.toNat + 2)) (cap - (1 + x.toNat + 2)), .bool true]) ∧ Rd w' B A' (l.drop (1 + x.toNat + 2)) ∧ Fr (fun _ => False) w w' := by
  have hx256 := x.toNat_lt
  obtain ⟨k, hk⟩ : ∃ k : Nat, k = x.toNat := ⟨_, rfl⟩
  obtain ⟨n, hn⟩ : ∃ n, n = l.length := ⟨_, rfl⟩
  obtain ⟨b, o, rfl, hblkB, hc⟩ := id hr (by rintro rfl; simp at hx)
  have hblk : b < w.heap.size := Nat.lt_of_lt_of_le hblkB hB
  have hF0 := (Fr.refl (fun _ => False) w).alloc (objX ⟨#[]⟩ 0)
  have p0 : (w.alloc (objX ⟨#[]⟩ 0)).cell? ⟨b, o, none⟩ = some (.int .u8 (k : Int)) := by
    have := (World.cell?_of_block (w := w) (w' := w.alloc (objX ⟨#[]⟩ 0)) (a := ⟨b, o + 0, none⟩) (hF0.block b hblk id)).trans (hc 0 x hx)
    rw [hk]
    exact this
  have c0 : (w.alloc (objX ⟨#[]⟩ 0)).cell? ⟨w.heap.size, 0, none⟩ = some (.string ⟨#[]⟩) := (cellAt (heap_alloc_new w _) 0).trans rfl
  have c1 : (w.alloc (objX ⟨#[]⟩ 0)).cell? ⟨w.heap.size, 1, none⟩ = some (.int .i64 0) := (cellAt (heap_alloc_new w _) 1).trans rfl
  have f0 : (w.alloc (objX ⟨#[]⟩ 0)).frozen? ⟨w.heap.size, 0, none⟩ = false := freeAt (heap_alloc_new w _) 0
  have HF0 := Lib.hid hF0
  rw [← hk] at h ⊢
  rw [← hn] at h hb hcap ⊢
  have HG := Lib.hid (get_ok (w.alloc (objX ⟨#[]⟩ 0)) (some ⟨b, o, none⟩) n cap B (1 + k) 2 l (hr.still hF0 hB) hn.symm hb (by omega) (by omega) (by omega))
  obtain ⟨tx, htx⟩ : ∃ tx, tx = (l.drop 1).take k := ⟨_, rfl⟩
  have HTX : Hid (∀ wx, Fr (fun _ => False) w wx → (convert 22 9 (.slice (some ⟨b, o + 1, none⟩) k (cap - 1))).run Try.prog wx = .ok (.string ⟨tx.toArray⟩) wx) := Lib.hid fun wx hF => by
    have hlt : tx.length = k := by rw [htx, List.length_take, List.length_drop]; omega
    have h := run_convert_bytes_back (P := Try.prog) wx 22 9 5 ⟨b, o + 1, none⟩ (cap - 1) tx Try.underlying22 Try.underlying5 Try.underlying9 (fun j hj => by
      rw [add_plain]
      have hj2 : j < k := by omega
      have hg : l[1 + j]? = some tx[j] := by
        rw [← List.getElem?_eq_getElem hj, htx, List.getElem?_take_of_lt hj2, List.getElem?_drop]
      have := (World.cell?_of_block (w := w) (w' := wx) (a := ⟨b, o + (1 + j), none⟩) (hF.block b hblk id)).trans (hc _ _ hg)
      rw [show o + 1 + j = o + (1 + j) by omega]
      exact this)
    rwa [hlt] at h
  obtain ⟨num, hnum⟩ : ∃ num, num = numAt l (1 + k) 2 := ⟨_, rfl⟩
  obtain ⟨m, hm⟩ : ∃ m, m = n - (1 + k + 2) := ⟨_, rfl⟩
  obtain ⟨c2, hc2⟩ : ∃ c2, c2 = cap - (1 + k + 2) := ⟨_, rfl⟩
  obtain ⟨A2, hA2⟩ : ∃ A2, A2 = (if cap = 1 + k + 2 then (some ⟨b, o, none⟩ : Option Addr) else (some ⟨b, o, none⟩ : Option Addr).map (·.add (1 + k + 2))) := ⟨_, rfl⟩
  have hhi : ∀ wx : World, (Instr.slice 22 (.slice (some ⟨b, o, none⟩) n cap) (some (.int .i64 ((1 : Int) + (k : Int) + 2))) none none).run Try.prog wx = .ok (.slice A2 m c2) wx := fun wx => by
    rw [hm, hc2, hA2, show (1 : Int) + (k : Int) + 2 = ((1 + k + 2 : Nat) : Int) by omega]
    exact cutB_high wx (some ⟨b, o, none⟩) n cap (1 + k + 2) h
  have HRD : Hid (∀ wx, Fr (fun _ => False) w wx → Rd wx B A2 (l.drop (1 + k + 2))) := Lib.hid fun wx hF => by
    rw [hA2]
    exact (hr.still hF hB).drop (by omega)
  rw [← hnum] at HG ⊢
  rw [← htx, ← hm, ← hc2]
  have hk3 : k < 256 := by omega
  have hA0 : (1 : Int) ≤ 1 + (k : Int) := by omega
  have hA1 : (1 : Int) + (k : Int) ≤ (cap : Int) := by omega
  have hA3 : ¬ cap = 1 := by omega
  clear hx hr hc hF0 hn hblk hblkB hk hx256 htx hnum hm hc2 hA2
  go_enter Try.func25, Try.ntmps25
  go_wp2_with fail
  rw [show (1 : Int) + (k : Int) = ((1 + k : Nat) : Int) by omega]
  refine HG.out.mono ?_
  rintro e w' ⟨rfl, rfl⟩
  rw [show ((1 + k : Nat) : Int) = (1 : Int) + (k : Int) by omega]
  go_wp2_with fail
  have hcv := HTX.out _ HF0.out.drew
  have hcw := HTX.out _ HF0.out
  go_region
  go_wp2
  have hFz := ((Fr.refl (fun _ => False) w).alloc (objX ⟨tx.toArray⟩ (num : Int))).drew
  exact bodyPost_ret (v := .tuple #[.agg #[.string ⟨tx.toArray⟩, .int .i64 (num : Int)], .slice A2 m c2, .bool true]) (results_take rfl _ _ w.heap.size #[.string ⟨tx.toArray⟩, .int .i64 (num : Int)] (.slice A2 m c2) (.bool true) rfl rfl rfl rfl (heap_alloc_new w _)) rfl ⟨A2, rfl, HRD.out _ hFz, hFz⟩
end Go.Proofs.Ytppkmfhlmmlckaa.nm
