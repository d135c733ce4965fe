/-
  The program's told, begin.
-/
import Derived.Test.YtoikgnmhnlcbhaaDoorDhE
namespace Go.Proofs.YtoikgnmhnlcbhaaDoor.dg
set_option maxRecDepth 100000
open Go.RowKit Go.Maps
set_option maxRecDepth 100000

/-! ### told -/
def toV (h : List W) (k : Nat) : Bts := outV h k ++ List.replicate (32 - k) 0
theorem toV_zero (h : List W) : toV h 0 = no32 := rfl
theorem toV_all (h : List W) : toV h 32 = outV h 32 := by unfold toV; rw [Nat.sub_self]; exact List.append_nil _
theorem toV_length (h : List W) (k : Nat) (hk : k ≤ 32) : (toV h k).length = 32 := by unfold toV; rw [List.length_append, outV_length, List.length_replicate]; omega
theorem toV_step (h : List W) (k : Nat) (hk : k < 32) : toV h (k + 1) = (toV h k).set k (outB h k) := by
  unfold toV
  rw [List.set_append_right _ _ (by rw [outV_length]; omega), outV_length, Nat.sub_self, show 32 - k = (32 - (k + 1)) + 1 by omega, List.replicate_succ, List.set_cons_zero]
  unfold outV
  rw [List.range_succ, List.map_append, List.append_assoc]
  rfl
set_option maxHeartbeats 16000000 in
theorem ptold (w : World) (g t : Nat) (h : List W) (HS : SC w g h t) :
    Calls Tryd.prog 31 #[.pointer (some ⟨g, 0, none⟩)] w fun e w' => e = .returned (dgV (outV h 32)) ∧ Fr (fun _ => False) w w' := by
  obtain ⟨W1, hW1⟩ : ∃ W, W = (w.alloc (.cells (dgC no32) 24)).alloc (.cells (dgC no32) 24) := ⟨_, rfl⟩
  obtain ⟨f, hf⟩ : ∃ f, f = w.heap.size := ⟨_, rfl⟩
  have hsz : (w.alloc (.cells (dgC no32) 24)).heap.size = f + 1 := by rw [hf]; exact World.size_alloc _ _
  have HI := Lib.hid (show PaW w W1 (toV h 0) from by
    refine ⟨?_, ?_, ?_, ?_⟩
    · rw [hW1]; exact heap_alloc_keep (heap_alloc_new _ _)
    · rw [hW1, ← hf, ← hsz, toV_zero]; exact heap_alloc_new _ _
    · rw [hW1]; exact ((Fr.refl _ _).alloc _).alloc _
    · rw [hW1, World.size_alloc, hsz, ← hf]; omega)
  have HSS := Lib.hid HS
  have HZ := Lib.hid (show f = w.heap.size ∧ g < f from ⟨hf, by rw [hf]; exact HS.lt⟩)
  clear HS hsz
  go_enter Tryd.func31, Tryd.ntmps31
  go_wp2_with (first
    | ((with_reducible refine wpList_allocDg ?_ ?_ ?_); (exact rfl); (exact rfl)))
  rw [← hW1]
  clear hW1
  have HG := Lib.hid (show g < w.heap.size from by have := HZ.out; omega)
  clear HZ hf
  go_loopw [5] (fun u wr => ∃ k : Nat, k ≤ 32 ∧ u = .int .i64 (k : Int) ∧ Hid (PaW w wr (toV h k))) (fun u _ => 32 - (intOf u).toNat)
  case atStart => exact ⟨0, Nat.zero_le _, rfl, HI⟩
  case round =>
    obtain ⟨k, hk, rfl, HK⟩ := hrel
    by_cases hlt : k < 32
    · have hk32 : (k : Int) < 32 := by omega
      obtain ⟨q, hq⟩ : ∃ q, q = k / 4 := ⟨_, rfl⟩
      obtain ⟨r, hr⟩ : ∃ r, r = k % 4 := ⟨_, rfl⟩
      have q1 : (k : Int) / 4 = (q : Int) := by omega
      have r1 : (k : Int) % 4 = (r : Int) := by omega
      have q8 : (q : Int) < 8 := by omega
      have r4 : (r : Int) < 4 := by omega
      have HSr := Lib.hid (HSS.out.keep HK.out.2.2.1 id)
      have c0 := HSr.out.cell q (by omega)
      obtain ⟨X, hX⟩ : ∃ X, X = at_ h q := ⟨_, rfl⟩
      rw [← hX] at c0
      obtain ⟨y, hy⟩ : ∃ y, y = X.toNat / 2 ^ (r * 8) := ⟨_, rfl⟩
      have s1 : uw X / 2 ^ (r * 8) = (y : Int) := by rw [hy]; unfold uw; rw [Int.natCast_ediv, Int.natCast_pow]; rfl
      obtain ⟨c, hc⟩ : ∃ c : UInt8, c = outB h k := ⟨_, rfl⟩
      obtain ⟨z, hz⟩ : ∃ z : Nat, z = c.toNat := ⟨_, rfl⟩
      have s2 : (y : Int) % 256 = (z : Int) := by
        rw [hz, hc]
        unfold outB
        rw [UInt8.toNat_ofNat', ← hq, ← hr, ← hX, Nat.mul_comm 8 r, ← hy]
        omega
      have d0 : wr.cell? ⟨w.heap.size + 1, k, none⟩ = some (.int .u8 (((toV h k).getD k 0).toNat : Int)) := dg_cell HK.out.2.1 k (by rw [toV_length _ _ hk]; omega)
      have f0 : wr.frozen? ⟨w.heap.size + 1, k, none⟩ = false := freeAt HK.out.2.1 k
      have x2 := ixDg (w.heap.size + 1) k hlt (k : Int) rfl
      have HNX := Lib.hid (show PaW w (wr.setCell ⟨w.heap.size + 1, k, none⟩ (.int .u8 (z : Int))) (toV h (k + 1)) from by
        have h1 := pa_set HK.out k c
        rw [← hz] at h1
        rw [toV_step h k hlt, ← hc]
        exact h1)
      clear hq hr hX hy hc hz
      go_wp2_with fail
      go_roundw
      case rel => exact ⟨k + 1, by omega, by go_num, HNX⟩
      case measure => simp [intOf]; omega
    · obtain rfl : k = 32 := by omega
      have HE := Lib.hid (show PaW w wr (outV h 32) from by rw [← toV_all]; exact HK.out)
      go_wp2_with (first
        | ((with_reducible refine wpList_loadDg ?_ (.tmp 3) ?_ (w.heap.size + 1) (outV h 32) (outV_length _ _) ?_ HE.out.2.1 ?_); (exact rfl); (exact rfl); (exact rfl))
        | ((with_reducible refine wpList_storeDg ?_ (.tmp 2) (.tmp 23) ?_ w.heap.size (outV h 32) no32 (outV_length _ _) ?_ ?_ ?_ HE.out.1 ?_); (exact rfl); (exact rfl); (exact rfl); (exact rfl); (exact rfl); intro w4 h4 hF4 hs4; have H4 := Lib.hid h4; have HF4 := Lib.hid hF4; clear h4 hF4 hs4))
      try go_frame
      exact bodyPost_ret (v := dgV (outV h 32)) (results_dg rfl _ _ w.heap.size (outV h 32) (outV_length _ _) rfl H4.out) rfl ⟨rfl, (HE.out.2.2.1.trans (HF4.out.mono (S := fun i => w.heap.size ≤ i) (fun i _ e => by omega)) (fun _ hi e => absurd hi (by omega)))⟩

/-! ### begin -/
def ivA : Value := .agg (ws ivL).toArray
def stA (h : List W) (t : Nat) : Value := .agg (stC h t).toArray
abbrev no8 : List W := List.replicate 8 0#32
theorem stC_size {h : List W} {t : Nat} (hl : h.length = 8) : (stC h t).toArray.size = 9 := by rw [List.size_toArray]; unfold stC; rw [List.length_append, ws_length, hl]; rfl
theorem stC_one (h : List W) (t : Nat) : (stC h t).toArray.all (·.oneCell') = true := Array.all_eq_true_iff_forall_mem.2 (fun x hx => by
  have hx : x ∈ stC h t := by simpa using hx
  unfold stC at hx
  rcases List.mem_append.1 hx with hx | hx
  · exact ws_one h x hx
  · rw [List.mem_singleton.1 hx]; rfl)
theorem infoSt : (Tryd.prog.info? 48).map (·.size) = some 9 := by kernel_rfl
theorem infoIv : (Tryd.prog.info? 45).map (·.size) = some 8 := by kernel_rfl
theorem run_allocS (w : World) : (Instr.alloc 48 true (.tuple #[])).run Tryd.prog w = .ok (.pointer (some ⟨w.heap.size, 0, none⟩)) (w.alloc (.cells (stC no8 0).toArray 48)) := by
  kernel_rfl
theorem run_buildS (w : World) : (Instr.build 48 #[(0, ivA)]).run Tryd.prog w = .ok (stA ivL 0) w := by
  kernel_rfl
section
variable {ops : Array Oper} {rest : List Oper} {o : Oper} {a : Act} {w : World} {Q : Exit → Act → World → Prop}
theorem wpList_loadIv (hgd : o.guard = none) (x : Operand) (ho : o.op = .load 45 x) (hx : a.eval x = .pointer (some ⟨0, 0, none⟩)) (hD : DT w)
    (h : wpList Tryd.prog ops Q rest (a.put o.dst ivA) w) : wpList Tryd.prog ops Q (o :: rest) a w :=
  wpList_load_mid hgd _ x ho _ _ hx (ws ivL) _ hD.iv Tryd.underlying45 rfl infoIv h
theorem wpList_buildS (hg : o.guard = none) (x : Operand) (ho : o.op = .build 48 #[(0, x)]) (hx : a.eval x = ivA)
    (h : wpList Tryd.prog ops Q rest (a.put o.dst (stA ivL 0)) w) : wpList Tryd.prog ops Q (o :: rest) a w := by
  have hb := run_buildS w
  refine wpList_plain hg fun K hK => ?_
  unfold Oper.wp execOp
  simp only [ho, List.map_toArray, List.map_cons, List.map_nil, hx, Sem.run_bind, hb, Result.andThen_ok, Sem.run_pure]
  exact hK _ _ h
theorem wpList_allocS (hg : o.guard = none) (ho : o.op = .alloc 48)
    (h : wpList Tryd.prog ops Q rest (a.put o.dst (.pointer (some ⟨w.heap.size, 0, none⟩))) (w.alloc (.cells (stC no8 0).toArray 48))) : wpList Tryd.prog ops Q (o :: rest) a w := by
  refine wpList_plain hg fun K hK => ?_
  unfold Oper.wp
  simp only [execOp, ho, Sem.run_bind, run_allocS, Result.andThen]
  exact hK _ _ h
theorem wpList_storeS (hgd : o.guard = none) (x y : Operand) (ho : o.op = .store 48 x y) (g : Nat) (h0 old : List W) (t t0 : Nat) (hv : h0.length = 8) (hg : SC w g old t0)
    (hx : a.eval x = .pointer (some ⟨g, 0, none⟩)) (hy : a.eval y = stA h0 t)
    (h : ∀ w', SC w' g h0 t → Fr (· = g) w w' → w'.heap.size = w.heap.size → wpList Tryd.prog ops Q rest (a.put o.dst undef) w') : wpList Tryd.prog ops Q (o :: rest) a w :=
  wpList_store_row hgd _ x y ho g (stC h0 t).toArray hx (hy.trans rfl) _ (stC old t0).toArray hg.blk (by rw [stC_size hv]; exact infoSt) (by rw [stC_size hv, stC_size hg.len]) (stC_one h0 t)
    (h _ ⟨setRow_heap w g _ _ _ _ hg.blk, hv⟩ ⟨rfl, rfl, rfl, by simp [World.setRow], fun i _ hi => setRow_other w g i _ hi⟩ (by simp [World.setRow]))
theorem wpList_loadS (hgd : o.guard = none) (x : Operand) (ho : o.op = .load 48 x) (g : Nat) (h0 : List W) (t : Nat) (hg : SC w g h0 t) (hx : a.eval x = .pointer (some ⟨g, 0, none⟩))
    (h : wpList Tryd.prog ops Q rest (a.put o.dst (stA h0 t)) w) : wpList Tryd.prog ops Q (o :: rest) a w :=
  wpList_load_row hgd _ x ho g hx _ (stC h0 t).toArray (0, 0) _ hg.blk Tryd.underlying48 rfl (by rw [stC_size hg.len]; exact infoSt) h
end
theorem results_S {fn : Func} {p : Tmp} (h : fn.results = #[.cell p 48]) (tmps : Array Value) (w : World) (g : Nat) (h0 : List W) (t : Nat) (hg : SC w g h0 t)
    (hp : tmps.getD p undef = .pointer (some ⟨g, 0, none⟩)) : (results fn tmps).run Tryd.prog w = .ok (stA h0 t) w :=
  results_cell_row h tmps w g _ (stC h0 t).toArray (0, 0) _ hp hg.blk Tryd.underlying48 rfl (by rw [stC_size hg.len]; exact infoSt)
theorem SC.new {w : World} {h : List W} {t : Nat} (hv : h.length = 8) : SC (w.alloc (.cells (stC h t).toArray 48)) w.heap.size h t := ⟨heap_alloc_new _ _, hv⟩
theorem iv_len : ivL.length = 8 := rfl
theorem no8_len : no8.length = 8 := rfl
theorem head_len (k : Nat) : (headV k).length = 8 := rfl
theorem head_eq (k : Nat) : ivL.set 0 (at_ ivL 0 ^^^ (0x01010020#32 ^^^ BitVec.ofNat 32 (256 * k))) = headV k := by unfold headV; rw [BitVec.xor_assoc]
set_option maxHeartbeats 16000000 in
theorem pbegin (w : World) (hT : DT w) (k : Nat) (hk : k ≤ 64) : Calls Tryd.prog 27 #[.int .i64 (k : Int)] w fun e w' => e = .returned (stA (headV k) 0) ∧ Fr (fun _ => False) w w' := by
  obtain ⟨W1, hW1⟩ : ∃ W, W = w.alloc (.cells (stC no8 0).toArray 48) := ⟨_, rfl⟩
  have hF1 : Fr (fun _ => False) w W1 := by rw [hW1]; exact (Fr.refl _ _).alloc _
  have HT1 := Lib.hid (show DT (w.alloc (.cells (stC no8 0).toArray 48)) from by rw [← hW1]; exact hT.keep hF1 id id id)
  have HR1 := Lib.hid (show SC (w.alloc (.cells (stC no8 0).toArray 48)) w.heap.size no8 0 from SC.new rfl)
  have hsz : (w.alloc (.cells (stC no8 0).toArray 48)).heap.size = w.heap.size + 1 := World.size_alloc _ _
  have HR2 := Lib.hid (show SC ((w.alloc (.cells (stC no8 0).toArray 48)).alloc (.cells (stC no8 0).toArray 48)) (w.heap.size + 1) no8 0 ∧ SC ((w.alloc (.cells (stC no8 0).toArray 48)).alloc (.cells (stC no8 0).toArray 48)) w.heap.size no8 0 ∧ Fr (fun _ => False) w ((w.alloc (.cells (stC no8 0).toArray 48)).alloc (.cells (stC no8 0).toArray 48)) from by
    exact ⟨by rw [← hsz]; exact SC.new rfl, HR1.out.keep ((Fr.refl (fun _ => False) _).alloc _) id, ((Fr.refl _ _).alloc _).alloc _⟩)
  have HR2n := Lib.hid (show SC ((w.alloc (.cells (stC no8 0).toArray 48)).alloc (.cells (stC no8 0).toArray 48)) (w.alloc (.cells (stC no8 0).toArray 48)).heap.size no8 0 from by rw [hsz]; exact HR2.out.1)
  have kc : (k : Int) * 256 % 4294967296 = uw (BitVec.ofNat 32 (256 * k)) := by rw [uw_ofNat]; omega
  have kc2 : (k : Int) * 256 = uw (BitVec.ofNat 32 (256 * k)) := by rw [uw_ofNat]; omega
  have s1 : bits .xor .u32 16842784 (uw (BitVec.ofNat 32 (256 * k))) = uw (0x01010020#32 ^^^ BitVec.ofNat 32 (256 * k)) := uw_xor (0x01010020#32) _
  obtain ⟨X, hX⟩ : ∃ X, X = BitVec.ofNat 32 (256 * k) := ⟨_, rfl⟩
  have s2 := uw_xor (at_ ivL 0) (0x01010020#32 ^^^ X)
  obtain ⟨Y, hY⟩ : ∃ Y, Y = at_ ivL 0 ^^^ (0x01010020#32 ^^^ X) := ⟨_, rfl⟩
  have HH := Lib.hid (show ivL.set 0 Y = headV k from by rw [hY, hX]; exact head_eq k)
  rw [← hX] at kc kc2 s1
  rw [← hY] at s2
  clear hF1 hT hX hY hW1
  go_enter Tryd.func27, Tryd.ntmps27
  go_wp2_with (first
    | ((with_reducible refine wpList_allocS ?_ ?_ ?_); (exact rfl); (exact rfl))
    | ((with_reducible refine wpList_loadIv ?_ (.global 0) ?_ ?_ HT1.out ?_); (exact rfl); (exact rfl); (exact rfl))
    | ((with_reducible refine wpList_buildS ?_ (.tmp 4) ?_ ?_ ?_); (exact rfl); (exact rfl); (exact rfl))
    | ((with_reducible refine wpList_storeS ?_ (.tmp 3) (.tmp 5) ?_ (w.alloc (.cells (stC no8 0).toArray 48)).heap.size ivL no8 0 0 iv_len HR2n.out ?_ ?_ ?_); (exact rfl); (exact rfl); (exact rfl); (exact rfl); intro w3 h3 hF3 hs3
       rw [hsz] at h3 hF3
       have H3 := Lib.hid (show SC w3 (w.heap.size + 1) ivL 0 ∧ SC w3 w.heap.size no8 0 ∧ Fr (fun _ => False) w w3 from ⟨h3, HR2.out.2.1.keep hF3 (by omega), HR2.out.2.2.trans hF3 (fun i hi e => by omega)⟩)
       have c0 := H3.out.1.cell 0 (by decide)
       have f0 := H3.out.1.free 0
       have H4 := Lib.hid (show SC (w3.setCell ⟨w.heap.size + 1, 0, none⟩ (.int .u32 (uw Y))) (w.heap.size + 1) (headV k) 0 ∧ SC (w3.setCell ⟨w.heap.size + 1, 0, none⟩ (.int .u32 (uw Y))) w.heap.size no8 0 ∧ Fr (fun _ => False) w (w3.setCell ⟨w.heap.size + 1, 0, none⟩ (.int .u32 (uw Y))) from by
         have hF : Fr (· = w.heap.size + 1) w3 (w3.setCell ⟨w.heap.size + 1, 0, none⟩ (.int .u32 (uw Y))) := (Fr.refl (· = w.heap.size + 1) w3).setCell (p := ⟨w.heap.size + 1, 0, none⟩) (Or.inl rfl) _
         exact ⟨by rw [← HH.out]; exact H3.out.1.set 0 (by decide) Y, H3.out.2.1.keep hF (by omega), H3.out.2.2.trans hF (fun i hi e => by omega)⟩)
       clear h3 hF3 hs3)
    | ((with_reducible refine wpList_loadS ?_ (.tmp 3) ?_ (w.heap.size + 1) (headV k) 0 H4.out.1 ?_ ?_); (exact rfl); (exact rfl); (exact rfl))
    | ((with_reducible refine wpList_storeS ?_ (.tmp 2) (.tmp 16) ?_ w.heap.size (headV k) no8 0 0 H4.out.1.len H4.out.2.1 ?_ ?_ ?_); (exact rfl); (exact rfl); (exact rfl); (exact rfl); intro w5 h5 hF5 hs5; have H5 := Lib.hid h5; have HF5 := Lib.hid hF5; clear h5 hF5 hs5))
  try go_frame
  exact bodyPost_ret (v := stA (headV k) 0) (results_S rfl _ _ w.heap.size (headV k) 0 H5.out rfl) rfl ⟨rfl, (H4.out.2.2.trans (HF5.out.mono (S := fun i => w.heap.size ≤ i) (fun i _ e => by omega)) (fun _ hi e => absurd hi (by omega)))⟩
end Go.Proofs.YtoikgnmhnlcbhaaDoor.dg
