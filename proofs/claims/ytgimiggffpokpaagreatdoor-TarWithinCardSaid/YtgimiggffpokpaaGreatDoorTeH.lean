/-
  The program's enter: a member's entry.
-/
import Derived.Test.YtgimiggffpokpaaGreatDoorTeG
import Derived.Deep.RegionHeld3
import Derived.Deep.RegionLaw
import Derived.Deep.Cut
namespace Go.Proofs.YtgimiggffpokpaaGreatDoor.ta
set_option maxRecDepth 100000
open Go.RowKit Go.Maps Go.Deep
open Go.Proofs.YtgimiggffpokpaaGreatDoor.pt (Tx tx tx_toL tx_size toL toL_len underT cleanL targetL AnsC)
open Go.Proofs.YtgimiggffpokpaaGreatDoor.he (Bts Hd hdV sV)
set_option maxRecDepth 100000

theorem step_append_at {P : Program} {ops : Array Oper} {o : Oper} {a : Act} {w : World} {K : Act → World → Prop} {Q : Exit → Act → World → Prop} {E : Prop}
    (hg : o.guard = none) (s x : Operand) (t : TypeId) (ho : o.op = .call { callee := .builtin .append, args := #[s, x], argTypes := #[t, t] })
    (base : Nat) (e : TypeId) (i : TypeInfo) (z : Value) (size bytes : Nat) (ht : P.underlying t = some (.slice e)) (hi : P.info? e = some i) (hz : i.zero = some z)
    (hsize : i.size = size) (hby : i.bytes = bytes) (hzs : z.cells.size = size) (hsz : 0 < size)
    (v : Value) (n : Nat) (xs : List Value) (hs : a.eval s = v) (hown : w.ownsRow base e size v n xs)
    (ad : Addr) (m c : Nat) (news : List Value) (hx : a.eval x = .slice (some ad) m c) (hl : news.length = m * size) (hnews : ∀ j u, news[j]? = some u → w.cell? (ad.add j) = some u) (h1 : ∀ u ∈ news, u.oneCell' = true)
    (h63 : n + m ≤ maxLen) (hbytes : (n + m) * bytes ≤ 140737488355328) (hbase : base ≤ w.heap.size)
    (h : ∀ v' w', w'.ownsRow base e size v' (n + m) (xs ++ news) → w.grownBy w' v.ownBlock → (v'.ownBlock = v.ownBlock ∨ v'.ownBlock = some w.heap.size) → K (a.put o.dst v') w') :
    if Region.wanted o (yielded ops a.tmps) = true then Oper.wp P o a w K Q else E := by
  have hw : Region.wanted o (yielded ops a.tmps) = true := by simp [Region.wanted, hg]
  rw [if_pos hw]
  obtain ⟨v', w', hr, h2, h3, _, h5⟩ := run_append_own_at (P := P) w base t o.type e i z size bytes ht hi hz hsize hby hzs hsz v n xs hown ad m c news hl hnews h1 h63 hbytes hbase
  unfold Oper.wp execOp
  simp only [ho, resolve, invoke, builtin, Sem.run_bind, Sem.run_pure, Result.andThen_ok, List.map_toArray, List.map_cons, List.map_nil, hs, hx, hr]
  exact h v' w' h2 h3 h5
/-- The entries behind a member. -/
def outR (out : List En) : Option En → List En
  | none => out
  | some y => out ++ [y]
/-- What enter answers and leaves. -/
def EnA (w : World) (B R : Nat) (x0 x1 x2 : Value) (out : List En) (r : Option En × Int) (e : Ending) (w' : World) : Prop :=
  e = .returned (.int .i64 r.2) ∧ Fr (fun i => B ≤ i) w w' ∧ ∃ A c, w'.heap[R]? = some (rdC x0 x1 x2 (.slice A (outR out r.1).length c)) ∧ OwnE w' B (.slice A (outR out r.1).length c) (outR out r.1)
/-- What enter is handed. -/
structure EnH (w : World) (B R : Nat) (x0 x1 x2 : Value) (A : Option Addr) (c : Nat) (out : List En) (h : Hd) (data : Bts) : Prop where
  blk : w.heap[R]? = some (rdC x0 x1 x2 (.slice A out.length c))
  le : B ≤ R
  own : OwnE w B (.slice A out.length c) out
  len : out.length ≤ 256
  paths : ∀ o ∈ out, o.path.length ≤ 1000
  name : h.name.length ≤ 1099511627776
  link : h.link.length ≤ 1099511627776
  kind : h.kind = 48 ∨ h.kind = 53 ∨ h.kind = 50
  size : h.kind ≠ 48 → h.size ≤ 0
  mode : h.kind = 50 → h.mode = 511
  small : data.length ≤ 1048576
  noData : h.kind ≠ 48 → data = []
theorem EnH.no {w w' : World} {B R : Nat} {x0 x1 x2 : Value} {A : Option Addr} {c : Nat} {out : List En} {h : Hd} {data : Bts} (H : EnH w B R x0 x1 x2 A c out h data) (hF : Fr (fun _ => False) w w') {z : Int} {r : Option En × Int} (hr : r = (none, z)) {e : Ending} (he : e = .returned (.int .i64 z)) : EnA w B R x0 x1 x2 out r e w' := by
  subst hr
  exact ⟨he, hF.mono (fun _ _ e => e.elim), A, c, keep_blk H.blk hF, H.own.kept hF⟩
theorem entV_of {h : Hd} {data : Bts} {out : List En} (hk : h.kind = 48 ∨ h.kind = 53 ∨ h.kind = 50) (hs : h.kind ≠ 48 → h.size ≤ 0) : entV h data out = if 256 ≤ out.length then (none, 150) else if (cleanL h.name).2 ≠ 0 ∨ ((cleanL h.name).1 = [] ∧ h.kind ≠ 53) then (none, 140) else if (cleanL h.name).1 = [] then (none, 0) else entP h (cleanL h.name).1 data out := by
  unfold entV
  have h1 : ¬ (h.kind ≠ 48 ∧ h.kind ≠ 53 ∧ h.kind ≠ 50) := fun e => by
    rcases hk with k | k | k
    · exact e.1 k
    · exact e.2.1 k
    · exact e.2.2 k
  have h2 : ¬ (h.kind ≠ 48 ∧ 0 < h.size) := fun e => by have := hs e.1; omega
  by_cases h3 : 256 ≤ out.length
  · rw [if_pos h3, if_pos (Or.inr (Or.inr h3))]
  · rw [if_neg h3, if_neg (show ¬ (_ ∨ _ ∨ _) from fun e => e.elim h1 (fun e => e.elim h2 h3))]
theorem kind_two (k : UInt8) : kindZ k = 2 ↔ k = 53 := by
  unfold kindZ
  by_cases h1 : k = 48
  · rw [if_pos h1, h1]; simp
  rw [if_neg h1]
  by_cases h2 : k = 53
  · rw [if_pos h2]; simp [h2]
  rw [if_neg h2]
  by_cases h3 : k = 50
  · rw [if_pos h3]; simp [h2]
  · rw [if_neg h3]; simp [h2]
/-- The entries have grown by one. -/
theorem EnH.grow {w w1 w2 : World} {B R : Nat} {x0 x1 x2 : Value} {A : Option Addr} {c : Nat} {out : List En} {h : Hd} {data : Bts} (H : EnH w B R x0 x1 x2 A c out h data) (hF : Fr (fun _ => False) w w1) {n : Nat} (hn : n = out.length) {y : En} {v : Value} {xs : List Value} (hxs : xs = ecs out ++ ecs [y])
    (hown : w2.ownsRow B 30 4 v (n + 1) xs) (hg : w1.grownBy w2 (Value.slice A n c).ownBlock) : w2.heap[R]? = some (rdC x0 x1 x2 (.slice A n c)) ∧ ∃ A' c', v = .slice A' (n + 1) c' ∧ ∀ r e, r = (some y, (0 : Int)) → e = Ending.returned (.int .i64 0) → EnA w B R x0 x1 x2 out r e (w2.setCell ⟨R, 3, none⟩ v) := by
  subst hn
  subst hxs
  have hb1 := keep_blk H.blk hF
  have hown1 : OwnE w1 B (.slice A out.length c) out := H.own.kept hF
  have hne := own_ne tER (show w1.ownsRow B 30 4 (.slice A out.length c) out.length (ecs out) from hown1) hb1
  have hRlt := (Array.getElem?_eq_some_iff.1 hb1).1
  have hb2 : w2.heap[R]? = some (rdC x0 x1 x2 (.slice A out.length c)) := (hg.block R hRlt (fun e => hne R e.symm rfl)).trans hb1
  have hge : ∀ q, (Value.slice A out.length c).ownBlock = some q → B ≤ q := fun q hq => by
    rcases (show w1.ownsRow B 30 4 (.slice A out.length c) out.length (ecs out) from hown1).2 with ⟨e, _⟩ | ⟨g2, c2, cur, e, hg2, _⟩
    · rw [e] at hq; cases hq
    · rw [e] at hq; cases hq; exact hg2
  have hF2 : Fr (fun i => B ≤ i) w w2 := (hF.mono (fun _ _ e => e.elim)).grown hg (fun k hk => Or.inl (hge k hk))
  obtain ⟨A', c', rfl, ho⟩ := OwnE.shape (l := out ++ [y]) (by rw [List.length_append]; rfl) (by rw [ecs_append]) hown
  have hlen : (out ++ [y]).length = out.length + 1 := by rw [List.length_append]; rfl
  refine ⟨hb2, A', c', by rw [hlen], fun r e hr he => ?_⟩
  subst hr
  exact ⟨he, hF2.setCell (p := ⟨R, 3, none⟩) (Or.inl H.le) _, A', c', rd_set3 hb2 _, own_set tER ho hb2 3 _⟩
theorem four_news {w : World} {g : Nat} {a0 a1 a2 a3 : Value} {T : TypeId} (h : w.heap[g]? = some (.cells #[a0, a1, a2, a3] T (0, 0))) : ∀ j u, [a0, a1, a2, a3][j]? = some u → w.cell? ((⟨g, 0, none⟩ : Addr).add j) = some u := fun j u hu => by
  rw [add_plain, cellAt h, Nat.zero_add, ← Array.getElem?_toList]
  exact hu
theorem four_one (a b : ByteArray) (k m : Int) : ∀ u ∈ [Value.string a, Value.int .i64 k, Value.int .i64 m, Value.string b], u.oneCell' = true := by
  intro u hu
  simp only [List.mem_cons, List.not_mem_nil, or_false] at hu
  rcases hu with rfl | rfl | rfl | rfl <;> rfl
theorem may_vals (k : UInt8) (p : Tx) (out : List En) : mayV k p out = 140 ∨ mayV k p out = 6 ∨ mayV k p out = 0 := by
  unfold mayV
  split
  · exact Or.inl rfl
  · split
    · exact Or.inr (Or.inl rfl)
    · exact Or.inr (Or.inr rfl)
theorem en_news (w : World) {g : Nat} {x : En} (h : w.heap[g]? = some (enC x)) : ∀ j u, (ecs [x])[j]? = some u → w.cell? ((⟨g, 0, none⟩ : Addr).add j) = some u := fun j u hu => by
  rw [add_plain, cellAt h, Nat.zero_add, ← Array.getElem?_toList]
  exact hu
set_option maxHeartbeats 16000000 in
theorem penter (w : World) (B R : Nat) (x0 x1 x2 : Value) (A : Option Addr) (c : Nat) (out : List En) (h : Hd) (ad : Addr) (dc : Nat) (data : Bts) (H : EnH w B R x0 x1 x2 A c out h data) (hD : Rd w w.heap.size (some ad) data) :
    Calls Tryz.prog 33 #[.pointer (some ⟨R, 0, none⟩), hdV h, .slice (some ad) data.length dc] w (EnA w B R x0 x1 x2 out (entV h data out)) := by
  have HH := Lib.hid H
  have hev := entV_of (data := data) (out := out) H.kind H.size
  obtain ⟨r, hr⟩ : ∃ r, r = entV h data out := ⟨_, rfl⟩
  rw [← hr] at hev ⊢
  have HNO := Lib.hid (fun (z : Int) (hz : r = (none, z)) wx (hF : Fr (fun _ => False) w wx) => (show EnA w B R x0 x1 x2 out r (.returned (.int .i64 z)) wx from HH.out.no hF hz rfl))
  obtain ⟨n, hn⟩ : ∃ n, n = out.length := ⟨_, rfl⟩
  have hb := H.blk
  rw [← hn] at hb hev
  have hn256 : n ≤ 256 := by rw [hn]; exact H.len
  obtain ⟨N0, hN0⟩ : ∃ N0, N0 = tx h.name := ⟨_, rfl⟩
  obtain ⟨L0, hL0⟩ : ∃ L0, L0 = tx h.link := ⟨_, rfl⟩
  obtain ⟨m0, hm0⟩ : ∃ m0, m0 = h.mode := ⟨_, rfl⟩
  obtain ⟨s0, hs0⟩ : ∃ s0, s0 = h.size := ⟨_, rfl⟩
  obtain ⟨k0, hk0⟩ : ∃ k0, k0 = h.kind.toNat := ⟨_, rfl⟩
  obtain ⟨o, ho⟩ : ∃ o : Obj, o = .cells #[.string N0, .string L0, .int .i64 m0, .int .i64 s0, .int .u8 (k0 : Int)] 57 := ⟨_, rfl⟩
  rw [show hdV h = .agg #[.string N0, .string L0, .int .i64 m0, .int .i64 s0, .int .u8 (k0 : Int)] from by rw [hN0, hL0, hm0, hs0, hk0]]
  have hF0 : Fr (fun _ => False) w (w.alloc o) := (Fr.refl _ w).alloc o
  have hbo : (w.alloc o).heap[w.heap.size]? = some o := heap_alloc_new w o
  obtain ⟨_, _, _, r3, _, _, _, _⟩ := rd_cells (keep_blk hb hF0)
  have HCL := Lib.hid (fun wx => pt.path_all.clean wx N0 (by rw [hN0, tx_size]; have := H.name; unfold maxLen; omega))
  rw [show N0.toList = h.name from by rw [hN0, tx_toL]] at HCL
  obtain ⟨⟨p, z⟩, hcl⟩ : ∃ q, cleanL h.name = q := ⟨_, rfl⟩
  rw [hcl] at HCL
  rw [hcl] at hev
  obtain ⟨dn, hdn⟩ : ∃ dn, dn = data.length := ⟨_, rfl⟩
  have HDN := Lib.hid hdn
  rw [← hdn]
  have HK := Lib.hid (⟨hN0, hL0, hm0, hs0, hk0, hn, ho, hr⟩ : _ ∧ _ ∧ _ ∧ _ ∧ _ ∧ _ ∧ _ ∧ _)
  have HO := Lib.hid (⟨hF0, hbo, hb⟩ : _ ∧ _ ∧ _)
  have HDD := Lib.hid hD
  have HTL := Lib.hid (show h.kind = 48 ∨ h.kind = 53 ∨ h.kind = 50 from H.kind)
  rw [ho] at r3
  by_cases h256 : 256 ≤ n
  · rw [if_pos h256] at hev
    have HE := Lib.hid (HNO.out 150 hev)
    have k1 : (256 : Int) ≤ (n : Int) := by omega
    rw [ho] at HO
    clear hr hev hn hb hN0 hL0 hm0 hs0 hk0 ho hF0 hbo hcl H hD h256 HNO HCL hdn
    go_enter Tryz.func33, Tryz.ntmps33
    go_wp2_with fail
    go_ret
    exact HE.out _ HO.out.1
  rw [if_neg h256] at hev
  have k1 : ¬ (256 : Int) ≤ (n : Int) := by omega
  have hk48 : h.kind = 53 ↔ k0 = 53 := by rw [hk0]; exact ⟨fun e => by rw [e]; rfl, fun e => UInt8.toNat_inj.1 e⟩
  have hk50 : h.kind = 50 ↔ k0 = 50 := by rw [hk0]; exact ⟨fun e => by rw [e]; rfl, fun e => UInt8.toNat_inj.1 e⟩
  by_cases hz : z = 0
  case neg =>
    obtain ⟨hp0, rfl⟩ := pt.clean_no hcl hz
    subst hp0
    rw [if_pos (Or.inl (by decide))] at hev
    have HE := Lib.hid (HNO.out 140 hev)
    clear hr hev hn hb hN0 hL0 hm0 hs0 hk0 hF0 hbo hcl H hD h256 HNO hdn hz hk48 hk50
    rw [ho] at HO
    clear ho
    go_enter Tryz.func33, Tryz.ntmps33
    go_wp2_with fail
    refine (HCL.out _).mono ?_
    rintro e w1 ⟨rfl, hF1⟩
    have HF1 := Lib.hid (HO.out.1.trans hF1 (fun _ _ e => e))
    clear hF1
    go_wp2_with fail
    go_ret
    exact HE.out _ HF1.out
  subst hz
  by_cases hp : p = []
  · subst hp
    by_cases h53 : k0 = 53
    · rw [if_neg (by
        rintro (e | ⟨_, e⟩)
        · exact e rfl
        · exact e (hk48.2 h53)), if_pos rfl] at hev
      have q53 : ((k0 : Int) == 53) = true := by rw [h53]; rfl
      have HE := Lib.hid (HNO.out 0 hev)
      clear hr hev hn hb hN0 hL0 hm0 hs0 hk0 hF0 hcl H hD h256 HNO hdn hk48 hk50 h53
      rw [ho] at HO hbo
      clear ho
      have HBO := Lib.hid hbo
      clear hbo
      go_enter Tryz.func33, Tryz.ntmps33
      go_wp2_with fail
      refine (HCL.out _).mono ?_
      rintro e w1 ⟨rfl, hF1⟩
      obtain ⟨c0, c1, c2, c3, c4, _, _, _, _, _⟩ := five_cells (keep_blk HBO.out hF1)
      have HF1 := Lib.hid (HO.out.1.trans hF1 (fun _ _ e => e))
      clear hF1
      go_wp2_with fail
      go_ret
      exact HE.out _ HF1.out
    · rw [if_pos (Or.inr ⟨rfl, fun e => h53 (hk48.1 e)⟩)] at hev
      have HE := Lib.hid (HNO.out 140 hev)
      have q53 : ((k0 : Int) == 53) = false := beq_eq_false_iff_ne.2 (by omega)
      clear hr hev hn hb hN0 hL0 hm0 hs0 hk0 hF0 hcl H hD h256 HNO hdn hk48 hk50 h53
      rw [ho] at HO hbo
      clear ho
      have HBO := Lib.hid hbo
      clear hbo
      go_enter Tryz.func33, Tryz.ntmps33
      go_wp2_with fail
      refine (HCL.out _).mono ?_
      rintro e w1 ⟨rfl, hF1⟩
      obtain ⟨c0, c1, c2, c3, c4, _, _, _, _, _⟩ := five_cells (keep_blk HBO.out hF1)
      have HF1 := Lib.hid (HO.out.1.trans hF1 (fun _ _ e => e))
      clear hF1
      go_wp2_with fail
      go_ret
      exact HE.out _ HF1.out
  -- a path that is not empty
  rw [if_neg (show ¬ ((0 : Int) ≠ 0 ∨ (p = [] ∧ h.kind ≠ 53)) from fun e => e.elim (fun e => e rfl) (fun e => hp e.1)), if_neg hp, entP_may] at hev
  have hpl := pt.okT_len (pt.clean_ok hcl).1
  obtain ⟨E, hE⟩ : ∃ E : En, E = ⟨p, kindZ h.kind, h.mode, data⟩ := ⟨_, rfl⟩
  have hEK : EnK h.kind E := ⟨by rw [hE]; show p.length ≤ _; omega, by rw [hE]; exact kind_two _⟩
  have HMA := Lib.hid (fun wx (hF : Fr (fun _ => False) w wx) => pmay wx R x0 x1 x2 A c out (keep_blk HH.out.blk hF) (OwnE.rd (HH.out.own.kept hF)) HH.out.len (fun o ho => by have := HH.out.paths o ho; omega) h.kind E hEK)
  rw [show E.path = p from by rw [hE]] at HMA
  obtain ⟨P0, hP0⟩ : ∃ P0, P0 = tx p := ⟨_, rfl⟩
  obtain ⟨D0, hD0⟩ : ∃ D0, D0 = tx data := ⟨_, rfl⟩
  obtain ⟨kz, hkz⟩ : ∃ kz, kz = kindZ h.kind := ⟨_, rfl⟩
  obtain ⟨mz, hmz⟩ : ∃ mz, mz = mayV h.kind p out := ⟨_, rfl⟩
  rw [← hmz] at HMA hev
  have HMA := Lib.hid (show ∀ wx, Fr (fun _ => False) w wx → Calls Tryz.prog 52 #[.pointer (some ⟨R, 0, none⟩), .agg #[.string P0, .int .i64 kz, .int .i64 m0, .string D0]] wx fun e w' => e = .returned (.int .i64 mz) ∧ Fr (fun _ => False) wx w' from by
    have := HMA.out
    rw [hE] at this
    rw [hP0, hkz, hm0, hD0]
    exact this)
  have p1 : (P0.toList == []) = false := beq_eq_false_iff_ne.2 (by rw [hP0, tx_toL]; exact hp)
  have p2 : (P0.toList == (⟨#[]⟩ : ByteArray).toList) = false := by rw [show (⟨#[]⟩ : ByteArray).toList = [] from tx_toL []]; exact p1
  have p3 : P0.toList.isEmpty = false := List.isEmpty_eq_false_iff.2 (by rw [hP0, tx_toL]; exact hp)
  have HCL := Lib.hid (show ∀ wx, Calls Tryz.prog 50 #[.string N0] wx fun e w' => e = .returned (.tuple #[.string P0, .int .i64 0]) ∧ Fr (fun _ => False) wx w' from by rw [hP0]; exact HCL.out)
  have HKO := Lib.hid (fun wx => pkindOf wx h.kind)
  rw [← hkz, ← hk0] at HKO
  have HCV := Lib.hid (fun wx (hF : Fr (fun _ => False) w wx) => tconv (hD.still hF (Nat.le_refl _)) dc dn (by rw [hdn]; exact Nat.le_refl _))
  rw [show data.take dn = data from by rw [hdn, List.take_length], ← hD0] at HCV
  have HEV := Lib.hid hev
  have HPP := Lib.hid (⟨hP0, hD0, hkz, hmz, hpl, hp, hE, hk48, hk50⟩ : _ ∧ _ ∧ _ ∧ _ ∧ _ ∧ _ ∧ _ ∧ _ ∧ _)
  have HBO : Hid ((w.alloc (.cells #[.string N0, .string L0, .int .i64 m0, .int .i64 s0, .int .u8 (k0 : Int)] 57)).heap[w.heap.size]? = some (.cells #[.string N0, .string L0, .int .i64 m0, .int .i64 s0, .int .u8 (k0 : Int)] 57)) := Lib.hid (heap_alloc_new w _)
  rw [ho] at HO
  have HNM := Lib.hid (show h.name.length ≤ 1099511627776 ∧ h.link.length ≤ 1099511627776 from ⟨H.name, H.link⟩)
  clear hr hev hn hb hN0 hL0 hm0 hs0 hk0 hF0 hbo hcl H hD h256 hdn hk48 hk50 ho hp hpl hE hEK hP0 hD0 hkz hmz
  go_enter Tryz.func33, Tryz.ntmps33
  go_wp2_with fail
  refine (HCL.out _).mono ?_
  rintro e w1 ⟨rfl, hF1⟩
  have HB1 := Lib.hid (keep_blk HBO.out hF1)
  obtain ⟨c0, c1, c2, c3, c4, _, _, _, _, _⟩ := five_cells HB1.out
  have HF1 := Lib.hid (HO.out.1.trans hF1 (fun _ _ e => e))
  have HS := Lib.hid (fun wx (hF : Fr (fun _ => False) w1 wx) => (⟨(five_cells (keep_blk HB1.out hF)).2.2.2.2.1, (five_cells (keep_blk HB1.out hF)).2.2.1, HCV.out wx (HF1.out.trans hF (fun _ _ e => e))⟩ : wx.cell? ⟨w.heap.size, 4, none⟩ = some (.int .u8 (k0 : Int)) ∧ wx.cell? ⟨w.heap.size, 2, none⟩ = some (.int .i64 m0) ∧ (convert 22 9 (.slice (some ad) dn dc)).run Tryz.prog wx = .ok (.string D0) wx))
  clear hF1
  go_upto_region 10 with fail
  go_cut [9] (fun s9 wz => ∃ gE : Nat, s9 = .pointer (some ⟨gE, 0, none⟩) ∧ Hid (wz.heap[gE]? = some (.cells #[.string P0, .int .i64 kz, .int .i64 m0, .string D0] 30) ∧ Fr (fun _ => False) w1 wz ∧ w1.heap.size ≤ gE))
  case first =>
    go_region_held3 (fun wx => wx.cell? ⟨w.heap.size, 4, none⟩ = some (.int .u8 (k0 : Int)) ∧ wx.cell? ⟨w.heap.size, 2, none⟩ = some (.int .i64 m0) ∧ (convert 22 9 (.slice (some ad) dn dc)).run Tryz.prog wx = .ok (.string D0) wx)
      (first
        | exact HS.out _ (Fr.refl _ _)
        | exact HS.out _ (Fr.refl _ _).drew
        | exact HS.out _ ((Fr.refl _ _).drew.alloc _)
        | exact HS.out _ ((Fr.refl _ _).alloc _).drew)
      (first
        | (go_at_call 51; refine (HKO.out _).mono ?_; rintro e w' ⟨rfl, rfl⟩))
    all_goals
      go_wp2_with fail
      go_meet
      exact ⟨w1.heap.size, rfl, Lib.hid ⟨heap_alloc_new w1 _, ((Fr.refl _ _).alloc _).drew, Nat.le_refl _⟩⟩
  case rest =>
    obtain ⟨gE, rfl, HG⟩ := hcut
    obtain ⟨hE0, hFc, hgE⟩ := HG.out
    have HFC := Lib.hid (HF1.out.trans hFc (fun _ _ e => e))
    obtain ⟨e0, e1, e2, e3⟩ := four_cells hE0
    have HMC := Lib.hid (HMA.out _ HFC.out)
    have HBC := Lib.hid (keep_blk HB1.out hFc)
    have hmv : mz = 140 ∨ mz = 6 ∨ mz = 0 := by rw [HPP.out.2.2.2.1]; exact may_vals _ _ _
    have HEC := Lib.hid hE0
    clear hE0 hFc HG c0 c1 c2 c3 c4
    rcases hmv with rfl | rfl | rfl
    · have HE := Lib.hid (HNO.out 140 (by rw [HEV.out]; rfl))
      go_wp2_with fail
      refine HMC.out.mono ?_
      rintro e w2 ⟨rfl, hF2⟩
      have HF2 := Lib.hid (HFC.out.trans hF2 (fun _ _ e => e))
      clear hF2
      go_wp2_with fail
      go_ret
      exact HE.out _ HF2.out
    · have HE := Lib.hid (HNO.out 6 (by rw [HEV.out]; rfl))
      go_wp2_with fail
      refine HMC.out.mono ?_
      rintro e w2 ⟨rfl, hF2⟩
      have HF2 := Lib.hid (HFC.out.trans hF2 (fun _ _ e => e))
      clear hF2
      go_wp2_with fail
      go_ret
      exact HE.out _ HF2.out
    have hrK : r = entK h p data := by rw [HEV.out, if_pos rfl]
    obtain ⟨i0, hi, hz0, hz1, hz2⟩ := info_parts infoE
    have HI := Lib.hid (⟨hi, hz0, hz1, hz2⟩ : _ ∧ _ ∧ _ ∧ _)
    have HNN := Lib.hid HK.out.2.2.2.2.2.1
    have HROW := Lib.hid (fun wx (hF : Fr (fun _ => False) w wx) => (show wx.ownsRow B 30 4 (.slice A n c) n (ecs out) from by rw [HNN.out]; exact HH.out.own.kept hF))
    have HBZ := Lib.hid (fun wx (hF : Fr (fun _ => False) w wx) => (show B ≤ wx.heap.size from by have := HH.out.le; have := (Array.getElem?_eq_some_iff.1 HH.out.blk).1; have := hF.size; omega))
    have hn255 : n ≤ 256 := hn256
    clear hi hz0 hz1 hz2
    by_cases h50 : k0 = 50
    case neg =>
      have q50 : ((k0 : Int) == 50) = false := beq_eq_false_iff_ne.2 (by omega)
      obtain ⟨y, hy⟩ : ∃ y : En, y = ⟨p, kindZ h.kind, h.mode, data⟩ := ⟨_, rfl⟩
      have HREQ := Lib.hid (show r = (some y, 0) from by
        rw [hrK, hy]
        have hk := HPP.out
        rcases HTL.out with e | e | e
        · unfold entK
          rw [if_neg (by rw [e]; decide), if_neg (by rw [e]; decide), e]
          rfl
        · unfold entK
          rw [if_pos e, HH.out.noData (by rw [e]; decide), e]
          rfl
        · exact absurd (hk.2.2.2.2.2.2.2.2.1 e) h50)
      have HYY := Lib.hid (show ecs [y] = [.string P0, .int .i64 kz, .int .i64 m0, .string D0] from by
        rw [hy, HPP.out.1, HPP.out.2.1, HPP.out.2.2.1, HK.out.2.2.1]
        rfl)
      clear hrK hy h50
      go_wp2_with fail
      refine HMC.out.mono ?_
      rintro e w2 ⟨rfl, hF2⟩
      obtain ⟨c0, c1, c2, c3, c4, _, _, _, _, _⟩ := five_cells (keep_blk HBC.out hF2)
      obtain ⟨d0, d1, d2, d3⟩ := four_cells (keep_blk HEC.out hF2)
      have HF2 := Lib.hid (HFC.out.trans hF2 (fun _ _ e => e))
      obtain ⟨_, _, _, r3', _, _, _, _⟩ := rd_cells (keep_blk HO.out.2.2 HF2.out)
      obtain ⟨_, _, _, r3a, _, _, _, _⟩ := rd_cells (keep_blk HO.out.2.2 (HF2.out.alloc (.cells #[.string P0, .int .i64 kz, .int .i64 m0, .string D0] 30)))
      clear hF2 e0 e1 e2 e3 r3
      go_wp2_with fail
      go_region_law (refine step_append_at (by rfl) (.tmp 75) (.tmp 77) 24 (by rfl) B 30 i0 zeroE 4 48 Tryz.underlying24 HI.out.1 HI.out.2.1 HI.out.2.2.1 HI.out.2.2.2 rfl (by omega) _ n (ecs out) (by rfl) (HROW.out _ (HF2.out.trans (by first | exact ((Fr.refl _ _).alloc _).drew | exact ((Fr.refl _ _).drew.alloc _) | exact ((Fr.refl _ _).alloc _)) (fun _ _ e => e))) _ 1 1 [.string P0, .int .i64 kz, .int .i64 m0, .string D0] (by rfl) (by rfl) (four_news (heap_alloc_new _ _)) (four_one _ _ _ _) (by unfold maxLen; omega) (by omega) (HBZ.out _ (HF2.out.trans (by first | exact ((Fr.refl _ _).alloc _).drew | exact ((Fr.refl _ _).drew.alloc _) | exact ((Fr.refl _ _).alloc _)) (fun _ _ e => e))) ?_; intro v2 w4 hown hg _; obtain ⟨hb2, A', c', hv, HG2⟩ := EnH.grow HH.out (HF2.out.trans (by first | exact ((Fr.refl _ _).alloc _).drew | exact ((Fr.refl _ _).drew.alloc _) | exact ((Fr.refl _ _).alloc _)) (fun _ _ e => e)) HNN.out (y := y) (by rw [HYY.out]) hown hg; subst hv; obtain ⟨_, _, _, q3, _, _, _, f3⟩ := rd_cells hb2; have HG2 := Lib.hid HG2; clear hown hg hb2)
      all_goals
        go_wp2_with fail
        go_ret
        exact HG2.out _ _ HREQ.out rfl
    case pos =>
      have q50 : ((k0 : Int) == 50) = true := by rw [h50]; rfl
      have hk50 : h.kind = 50 := HPP.out.2.2.2.2.2.2.2.2.2 h50
      have HTA := Lib.hid (fun wx => pt.path_all.target wx P0 L0 (by rw [HPP.out.1, tx_size]; have := HPP.out.2.2.2.2.1; unfold maxLen; omega) (by rw [HK.out.2.1, tx_size]; exact HNM.out.2))
      rw [show P0.toList = p from by rw [HPP.out.1, tx_toL], show L0.toList = h.link from by rw [HK.out.2.1, tx_toL]] at HTA
      obtain ⟨⟨t, zt⟩, htg⟩ : ∃ q, targetL p h.link = q := ⟨_, rfl⟩
      rw [htg] at HTA
      obtain ⟨T0, hT0⟩ : ∃ T0, T0 = tx t := ⟨_, rfl⟩
      have HTA := Lib.hid (show ∀ wx, Calls Tryz.prog 53 #[.string P0, .string L0] wx fun e w' => e = .returned (.tuple #[.string T0, .int .i64 zt]) ∧ Fr (fun _ => False) wx w' from by rw [hT0]; exact HTA.out)
      by_cases hzt : zt = 0
      case neg =>
        obtain ⟨_, rfl⟩ := pt.target_no htg hzt
        have HE := Lib.hid (HNO.out 140 (by
          rw [hrK]
          unfold entK
          rw [if_neg (by rw [hk50]; decide), if_pos hk50, htg, if_neg (show ¬ ((140 : Int) = 0) by decide)]))
        clear hrK htg hzt h50 hT0 hk50
        go_wp2_with fail
        refine HMC.out.mono ?_
        rintro e w2 ⟨rfl, hF2⟩
        obtain ⟨c0, c1, c2, c3, c4, _, _, _, _, _⟩ := five_cells (keep_blk HBC.out hF2)
        have HF2 := Lib.hid (HFC.out.trans hF2 (fun _ _ e => e))
        clear hF2
        go_wp2_with fail
        refine (HTA.out _).mono ?_
        rintro e w3 ⟨rfl, hF3⟩
        have HF3 := Lib.hid (HF2.out.trans hF3 (fun _ _ e => e))
        clear hF3
        go_wp2_with fail
        go_ret
        exact HE.out _ HF3.out
      subst hzt
      have htl := pt.okT_len (pt.target_in htg).2.1
      obtain ⟨y, hy⟩ : ∃ y : En, y = ⟨p, 3, 511, 47 :: t⟩ := ⟨_, rfl⟩
      have HREQ := Lib.hid (show r = (some y, 0) from by
        rw [hrK, hy]
        unfold entK
        rw [if_neg (by rw [hk50]; decide), if_pos hk50, htg, if_pos rfl])
      obtain ⟨D1, hD1⟩ : ∃ D1, D1 = (⟨#[47]⟩ : ByteArray) ++ T0 := ⟨_, rfl⟩
      have HYY := Lib.hid (show ecs [y] = [.string P0, .int .i64 kz, .int .i64 m0, .string D1] from by
        have hD : tx (47 :: t) = D1 := by
          rw [hD1, hT0]
          have := he.tx_app (⟨#[47]⟩ : ByteArray) (tx t)
          rw [this, show (⟨#[47]⟩ : ByteArray).toList = [47] from tx_toL [47], tx_toL]
          rfl
        rw [hy, HPP.out.1, HPP.out.2.2.1, HK.out.2.2.1, ← hD, HH.out.mode hk50, hk50]
        rfl)
      have hts : T0.size ≤ 1000 := by rw [hT0, tx_size]; omega
      have hts1 : 1 + T0.size ≤ 9223372036854775807 := by omega
      have HD1 := Lib.hid hD1
      clear hrK htg h50 hT0 hk50 htl hy hD1
      go_wp2_with fail
      refine HMC.out.mono ?_
      rintro e w2 ⟨rfl, hF2⟩
      obtain ⟨c0, c1, c2, c3, c4, _, _, _, _, _⟩ := five_cells (keep_blk HBC.out hF2)
      have HEC2 := Lib.hid (keep_blk HEC.out hF2)
      have HF2 := Lib.hid (HFC.out.trans hF2 (fun _ _ e => e))
      have HGE := Lib.hid (Nat.le_trans HF1.out.size hgE)
      clear hF2 e0 e1 e2 e3 r3
      go_wp2_with fail
      refine (HTA.out _).mono ?_
      rintro e w3 ⟨rfl, hF3⟩
      have hE3 := keep_blk HEC2.out hF3
      obtain ⟨d0, d1, d2, d3⟩ := four_cells hE3
      have hf3 : w3.frozen? ⟨gE, 3, none⟩ = false := freeAt hE3 3
      have hF3w := HF2.out.trans hF3 (fun _ _ e => e)
      have hgR : R ≠ gE := by have := (Array.getElem?_eq_some_iff.1 HH.out.blk).1; have := HGE.out; omega
      obtain ⟨W5, hW5⟩ : ∃ W5, W5 = w3.setCell ⟨gE, 3, none⟩ (.string D1) := ⟨_, rfl⟩
      have HF5 : Hid (Fr (fun _ => False) w W5) := Lib.hid (by rw [hW5]; exact hF3w.setCell (p := ⟨gE, 3, none⟩) (Or.inr HGE.out) _)
      have hE5 : W5.heap[gE]? = some (.cells #[.string P0, .int .i64 kz, .int .i64 m0, .string D1] 30) := by rw [hW5]; exact rd_set hE3 3 _
      obtain ⟨f0, f1, f2, f3⟩ := four_cells hE5
      obtain ⟨_, _, _, r3', _, _, _, _⟩ := rd_cells (keep_blk HO.out.2.2 HF5.out)
      obtain ⟨_, _, _, r3a, _, _, _, _⟩ := rd_cells (keep_blk HO.out.2.2 (HF5.out.alloc (.cells #[.string P0, .int .i64 kz, .int .i64 m0, .string D1] 30)))
      have HW5 := Lib.hid hW5
      clear hF3 hE3 hF3w hgR hW5 hE5 c0 c1 c2 c3 c4
      go_upto_region 19 with fail
      rw [← HD1.out, ← HW5.out]
      clear d0 d1 d2 d3 hf3
      go_wp2_with fail
      go_region_law (refine step_append_at (by rfl) (.tmp 75) (.tmp 77) 24 (by rfl) B 30 i0 zeroE 4 48 Tryz.underlying24 HI.out.1 HI.out.2.1 HI.out.2.2.1 HI.out.2.2.2 rfl (by omega) _ n (ecs out) (by rfl) (HROW.out _ (HF5.out.trans (by first | exact ((Fr.refl _ _).alloc _).drew | exact ((Fr.refl _ _).drew.alloc _) | exact ((Fr.refl _ _).alloc _)) (fun _ _ e => e))) _ 1 1 [.string P0, .int .i64 kz, .int .i64 m0, .string D1] (by rfl) (by rfl) (four_news (heap_alloc_new _ _)) (four_one _ _ _ _) (by unfold maxLen; omega) (by omega) (HBZ.out _ (HF5.out.trans (by first | exact ((Fr.refl _ _).alloc _).drew | exact ((Fr.refl _ _).drew.alloc _) | exact ((Fr.refl _ _).alloc _)) (fun _ _ e => e))) ?_; intro v2 w4 hown hg _; obtain ⟨hb2, A', c', hv, HG2⟩ := EnH.grow HH.out (HF5.out.trans (by first | exact ((Fr.refl _ _).alloc _).drew | exact ((Fr.refl _ _).drew.alloc _) | exact ((Fr.refl _ _).alloc _)) (fun _ _ e => e)) HNN.out (y := y) (by rw [HYY.out]) hown hg; subst hv; obtain ⟨_, _, _, q3, _, _, _, f3⟩ := rd_cells hb2; have HG2 := Lib.hid HG2; clear hown hg hb2)
      all_goals
        go_wp2_with fail
        go_ret
        exact HG2.out _ _ HREQ.out rfl
end Go.Proofs.YtgimiggffpokpaaGreatDoor.ta
