/-
  Texts that belong together, joined: GeM GeA GeB GeC.
-/
import Derived.Test.YtcdhakfmljjaoaaGreatDoorGzT
import Derived.Test.YtcdhakfmljjaoaaGreatDoorFtEnd
import Derived.Lib.Bytealg
import Derived.BigQuiet
import Derived.Shelf.Bytes.SlIndexAt
import Derived.Test.YtcdhakfmljjaoaaGreatDoorJL

/-
  What the program's frames read, as readings at bytes (mathematics).
-/



namespace Go.Proofs.YtcdhakfmljjaoaaGreatDoor.gz
set_option maxRecDepth 100000
open Go.Proofs.YtcdhakfmljjaoaaGreatDoor.fl Go.Proofs.YtcdhakfmljjaoaaGreatDoor.cd Go.Proofs.YtcdhakfmljjaoaaGreatDoor.ft

/-! ### the symbols that the program takes for a length are the document's -/
theorem ls_same : ∀ n, 3 ≤ n → n ≤ 258 → lsP n = rls n := by
  have h : ∀ n, n < 259 → 3 ≤ n → lsP n = rls n := by decide +kernel
  exact fun n h1 h2 => h n (by omega) h1
theorem again_same {n : Nat} (h1 : 3 ≤ n) (h2 : n ≤ 258) : againB lsP n = againB rls n := by
  unfold againB
  rw [ls_same n h1 h2]
theorem runB_same (c : UInt8) : ∀ f left, runB lsP c f left = runB rls c f left
  | 0, left => rfl
  | f + 1, left => by
    rw [runB, runB]
    by_cases h : 3 ≤ left
    · rw [if_pos h, if_pos h, again_same (by omega) (by omega), runB_same c f]
    · rw [if_neg h, if_neg h]
theorem runsB_same : ∀ (f : Nat) (b : By), runsB lsP f b = runsB rls f b
  | 0, b => by cases b <;> rfl
  | f + 1, [] => rfl
  | f + 1, c :: r => by rw [runsB, runsB, runB_same, runsB_same f]
theorem runs_same (b : By) : runsV lsP b = runsV rls b := by
  unfold runsV
  rw [runsB_same]

/-! ### readings at bytes -/
theorem num_le (l : By) : leNum l = num l := by
  induction l with
  | nil => rfl
  | cons x r ih => rw [leNum, num, ih]
theorem numAt_num (l : By) (a k : Nat) : numAt l a k = num ((l.drop a).take k) := num_le _
theorem by8_in {b : By} {p n : Nat} (h : p + n ≤ b.length) : by8 n (bitsOf b) (8 * p) = .ok ((b.drop p).take n, 8 * (p + n)) := by
  unfold by8
  rw [if_neg (by rw [bitsOf_length]; omega), pack_part b p n h, Nat.mul_add]
theorem by8_out {b : By} {p n : Nat} (h : b.length < p + n) : by8 n (bitsOf b) (8 * p) = .error 7 := by
  unfold by8
  rw [if_pos (by rw [bitsOf_length]; omega)]
/-- A number that is asked for. -/
def wantM (want size : Nat) (wrong : Int) : RdM Unit := bnd (by8 size) fun l => if num l = want then ret () else err wrong
theorem is_want (x : UInt8) {b : By} {p : Nat} : isM x (bitsOf b) (8 * p) = wantM x.toNat 1 120 (bitsOf b) (8 * p) := by
  unfold isM wantM b1
  by_cases h : p + 1 ≤ b.length
  · rw [bnd_of (bnd_of (by8_in h)), bnd_of (by8_in h)]
    rw [List.drop_eq_getElem_cons (show p < b.length by omega), List.take_succ_cons, List.take_zero]
    show (if b[p] = x then ret () else err 120 : RdM Unit) _ _ = (if num [b[p]] = x.toNat then ret () else err 120 : RdM Unit) _ _
    rw [show num [b[p]] = b[p].toNat from rfl]
    by_cases e : b[p] = x
    · rw [if_pos e, if_pos (by rw [e])]
    · rw [if_neg e, if_neg (fun e2 => e (UInt8.toNat_inj.1 e2))]
  · rw [bnd_err (bnd_err (by8_out (by omega))), bnd_err (by8_out (by omega))]
/-- Where the first 0 is. -/
theorem zero_in {b : By} {p j : Nat} (hp : p ≤ b.length) (hj : Lib.indexByte (b.drop p) 0 = j) : p + j + 1 ≤ b.length ∧ zeroM (bitsOf b) (8 * p) = .ok ((), 8 * (p + (j + 1))) := by
  have key : ∀ (l : By) (j : Nat), Lib.indexByte l 0 = j → ∃ t r, l = t ++ 0 :: r ∧ t.length = j ∧ ∀ x ∈ t, x ≠ 0 := by
    intro l
    induction l with
    | nil => intro j h; unfold Lib.indexByte at h; omega
    | cons x r ih =>
      intro j h
      unfold Lib.indexByte at h
      by_cases hx : x = 0
      · subst hx
        rw [if_pos (by rfl)] at h
        exact ⟨[], r, rfl, by simp; omega, by simp⟩
      · rw [if_neg (by simpa using hx)] at h
        by_cases h1 : Lib.indexByte r 0 = -1
        · rw [h1] at h
          simp at h
        · rw [if_neg (by simpa using h1)] at h
          have hge := Lib.indexByte_ge r 0
          obtain ⟨t, r', e, hl, ht⟩ := ih (j - 1) (by omega)
          refine ⟨x :: t, r', by rw [e]; rfl, by rw [List.length_cons]; omega, fun y hy => ?_⟩
          rcases List.mem_cons.1 hy with rfl | hy
          · exact hx
          · exact ht y hy
  obtain ⟨t, r, e, hl, ht⟩ := key _ j hj
  have hlen : (b.drop p).length = b.length - p := List.length_drop
  rw [e, List.length_append, List.length_cons] at hlen
  refine ⟨by omega, ?_⟩
  have h := eat_zero t (b.take p) ht r
  rw [show b.take p ++ ((t ++ [0]) ++ r) = b by rw [List.append_assoc, List.singleton_append, ← e, List.take_append_drop]] at h
  rw [List.length_append, List.length_append, List.length_take, Nat.min_eq_left hp, hl] at h
  rw [h]
  rfl
theorem index_out : ∀ {l : By}, Lib.indexByte l 0 = -1 → ∀ x ∈ l, x ≠ 0
  | [], _ => by simp
  | x :: r, h => by
    unfold Lib.indexByte at h
    by_cases hx : x = 0
    · rw [if_pos (by simpa using hx)] at h
      omega
    · rw [if_neg (by simpa using hx)] at h
      by_cases h1 : Lib.indexByte r 0 = -1
      · intro y hy
        rcases List.mem_cons.1 hy with rfl | hy
        · exact hx
        · exact index_out h1 y hy
      · rw [if_neg (by simpa using h1)] at h
        have := Lib.indexByte_ge r 0
        omega
theorem index_in : ∀ {l : By}, (∀ x ∈ l, x ≠ 0) → Lib.indexByte l 0 = -1
  | [], _ => rfl
  | x :: r, h => by
    unfold Lib.indexByte
    rw [if_neg (by simpa using h x (List.mem_cons_self ..)), index_in fun y hy => h y (List.mem_cons_of_mem _ hy)]
    rfl
theorem zero_out {b : By} {p : Nat} (hp : p ≤ b.length) (hj : Lib.indexByte (b.drop p) 0 = -1) : zeroM (bitsOf b) (8 * p) = .error 7 := by
  have h := eat_zero (b.drop p) (b.take p) (index_out hj) []
  have h8 : (bitsOf (b ++ [0])).length = 8 * (b.length + 1) := by rw [bitsOf_length, List.length_append]; rfl
  rw [show b.take p ++ ((b.drop p ++ [0]) ++ []) = b ++ [0] by rw [List.append_nil, ← List.append_assoc, List.take_append_drop]] at h
  rw [List.length_append, List.length_append, List.length_take, List.length_drop, Nat.min_eq_left hp] at h
  have hc := good_zero.cut (k := 8 * b.length) (by omega) (by omega) h (by omega) (by omega) (by rw [show ([0] : By).length = 1 from rfl]; omega)
  rw [bitsOf_take _ _ (by rw [List.length_append]; omega), List.take_left] at hc
  exact hc

/-! ### the header's parts, one behind the other -/
def extraM : RdM Unit := bnd (by8 2) fun n => bnd (by8 (num n)) fun _ => ret ()
def checkM (sum : By → Nat) : RdM Unit := bnd herM fun a => bnd (by8 2) fun n => if num n = sum a % 65536 then ret () else err 121
/-- The parts from the k-th on: the extra one, the name, the note, the checksum. -/
def partM (sum : By → Nat) (fl : Nat) : Nat → RdM Unit
  | 0 => bnd (if fl / 4 % 2 = 1 then extraM else ret ()) fun _ => partM sum fl 1
  | 1 => bnd (if fl / 8 % 2 = 1 then zeroM else ret ()) fun _ => partM sum fl 2
  | 2 => bnd (if fl / 16 % 2 = 1 then zeroM else ret ()) fun _ => partM sum fl 3
  | 3 => if fl / 2 % 2 = 1 then checkM sum else ret ()
  | _ => ret ()
termination_by k => 4 - k
theorem part0 (sum : By → Nat) (fl : Nat) : partM sum fl 0 = bnd (if fl / 4 % 2 = 1 then extraM else ret ()) fun _ => partM sum fl 1 := by rw [partM]
theorem part1 (sum : By → Nat) (fl : Nat) : partM sum fl 1 = bnd (if fl / 8 % 2 = 1 then zeroM else ret ()) fun _ => partM sum fl 2 := by rw [partM]
theorem part2 (sum : By → Nat) (fl : Nat) : partM sum fl 2 = bnd (if fl / 16 % 2 = 1 then zeroM else ret ()) fun _ => partM sum fl 3 := by rw [partM]
theorem part3 (sum : By → Nat) (fl : Nat) : partM sum fl 3 = if fl / 2 % 2 = 1 then checkM sum else ret () := by rw [partM]
theorem head_parts (sum : By → Nat) : headM sum = bnd (isM 0x1f) fun _ => bnd (isM 0x8b) fun _ => bnd (isM 8) fun _ => bnd b1 fun fl => if 32 ≤ fl.toNat then err 120 else bnd (by8 6) fun _ => partM sum fl.toNat 0 := by
  unfold headM
  congr 1; funext _; congr 1; funext _; congr 1; funext _; congr 1; funext fl
  rw [part0, part1, part2, part3]
  rfl
theorem her_at {b : By} {p : Nat} (h : p ≤ b.length) : herM (bitsOf b) (8 * p) = .ok (b.take p, 8 * p) := by
  unfold herM
  rw [bitsOf_take b p h, pack_bits]
theorem check_want (sum : By → Nat) {b : By} {p : Nat} (h : p ≤ b.length) : checkM sum (bitsOf b) (8 * p) = wantM (sum (b.take p) % 65536) 2 121 (bitsOf b) (8 * p) := by
  unfold checkM wantM
  rw [bnd_of (her_at h)]
end Go.Proofs.YtcdhakfmljjaoaaGreatDoor.gz

/-
  The program's frame that is being read: its cells; rest, skip, number, expect.
-/

namespace Go.Proofs.YtcdhakfmljjaoaaGreatDoor.gz
set_option maxRecDepth 100000
open Go.RowKit Go.Maps Go.Proofs.YtcdhakfmljjaoaaGreatDoor.fl Go.Proofs.YtcdhakfmljjaoaaGreatDoor.cd Go.Proofs.YtcdhakfmljjaoaaGreatDoor.ft
set_option maxRecDepth 100000

abbrev rdO (A : Option Addr) (n cap p : Nat) : Obj := .cells #[.slice A n cap, .int .i64 (p : Int)] 48 (0, 0)
/-- The reader g of bytes b stands at p. -/
structure JZ (w0 w : World) (g : Nat) (A : Option Addr) (n cap : Nat) (b : By) (p : Nat) : Prop where
  blk : w.heap[g]? = some (rdO A n cap p)
  new : w0.heap.size ≤ g
  fr : Fr (fun _ => False) w0 w
  rd : Rd w0 w0.heap.size A b
  an : A = none → cap = 0
  len : n = b.length
  cap : n ≤ cap
  le : p ≤ n
  sm : n ≤ 4000000
section
variable {w0 w w' : World} {g n cap p : Nat} {A : Option Addr} {b : By}
theorem JZ.still (h : JZ w0 w g A n cap b p) (hF : Fr (fun _ => False) w w') : JZ w0 w' g A n cap b p :=
  ⟨(hF.block g (lt_of_block h.blk) id).trans h.blk, h.new, h.fr.trans hF (fun _ _ e => e), h.rd, h.an, h.len, h.cap, h.le, h.sm⟩
theorem JZ.c0 (h : JZ w0 w g A n cap b p) : w.cell? ⟨g, 0, none⟩ = some (.slice A n cap) := (cellAt h.blk 0).trans rfl
theorem JZ.c1 (h : JZ w0 w g A n cap b p) : w.cell? ⟨g, 1, none⟩ = some (.int .i64 (p : Int)) := (cellAt h.blk 1).trans rfl
theorem JZ.f1 (h : JZ w0 w g A n cap b p) : w.frozen? ⟨g, 1, none⟩ = false := freeAt h.blk 1
theorem JZ.move (h : JZ w0 w g A n cap b p) {q : Nat} (hq : q ≤ n) : JZ w0 (w.setCell ⟨g, 1, none⟩ (.int .i64 (q : Int))) g A n cap b q :=
  ⟨by rw [heap_setCell_same _ _ _ _ _ _ h.blk]; rfl, h.new, h.fr.setCell (p := ⟨g, 1, none⟩) (Or.inr h.new) _, h.rd, h.an, h.len, h.cap, hq, h.sm⟩
/-- The reader stands at q, and nothing but the reader is another than it was. -/
def JM (w0 w w' : World) (g : Nat) (A : Option Addr) (n cap : Nat) (b : By) (q : Nat) : Prop := JZ w0 w' g A n cap b q ∧ Fr (fun i => i = g) w w'
theorem JZ.step (h : JZ w0 w g A n cap b p) (hF : Fr (fun _ => False) w w') : JM w0 w w' g A n cap b p := ⟨h.still hF, (Fr.refl _ w).trans hF (fun _ _ e => e.elim)⟩
theorem JZ.go (h : JZ w0 w g A n cap b p) (hF : Fr (fun _ => False) w w') {q : Nat} (hq : q ≤ n) : JM w0 w (w'.setCell ⟨g, 1, none⟩ (.int .i64 (q : Int))) g A n cap b q := ⟨(h.still hF).move hq, (h.step hF).2.setCell (p := ⟨g, 1, none⟩) (Or.inl rfl) _⟩
theorem JM.then {w2 : World} {q r : Nat} (h : JM w0 w w' g A n cap b q) (h2 : JM w0 w' w2 g A n cap b r) : JM w0 w w2 g A n cap b r := ⟨h2.1, h.2.trans h2.2 (fun _ _ e => e)⟩
theorem JZ.now (h : JZ w0 w g A n cap b p) : Rd w w0.heap.size A b := h.rd.still h.fr (Nat.le_refl _)
def cutA (A : Option Addr) (cap p : Nat) : Option Addr := if cap = p then A else A.map (·.add p)
theorem cutA_rd (h : JZ w0 w g A n cap b p) : Rd w w0.heap.size (cutA A cap p) (b.drop p) := h.now.drop (by have := h.cap; have := h.len; omega)
theorem cutA_none (h : JZ w0 w g A n cap b p) (e : cutA A cap p = none) : cap - p = 0 := by
  unfold cutA at e
  split at e
  · omega
  · cases A with
    | none => have := h.an rfl; omega
    | some a => cases e
set_option maxHeartbeats 1000000 in
theorem prest (h : JZ w0 w g A n cap b p) : Calls Tryz.prog 30 #[.pointer (some ⟨g, 0, none⟩)] w fun e w' => e = .returned (.slice (cutA A cap p) (n - p) (cap - p)) ∧ Calm w w' := by
  have c0 := h.c0
  have c1 := h.c1
  have hp := h.le
  have hs := h.sm
  have hhi : ∀ wx : World, (Instr.slice 22 (.slice A n cap) (some (.int .i64 (p : Int))) none none).run Tryz.prog wx = .ok (.slice (cutA A cap p) (n - p) (cap - p)) wx := fun wx => cutB_high wx A n cap p hp
  obtain ⟨A', hA⟩ : ∃ A', A' = cutA A cap p := ⟨_, rfl⟩
  obtain ⟨n', hn⟩ : ∃ k, k = n - p := ⟨_, rfl⟩
  obtain ⟨c', hc⟩ : ∃ k, k = cap - p := ⟨_, rfl⟩
  rw [← hA, ← hn, ← hc] at hhi ⊢
  clear h hA hn hc
  go_enter Tryz.func30, Tryz.ntmps30
  go_wp2_with fail
  go_quiet (fail)
  go_wp2_with fail
  go_ret
  exact ⟨rfl, ⟨nq, rfl⟩⟩
/-- An answer without a value, as a reading: what is told, and where the reader stands then. -/
def Tells (f : RdM Unit) (w0 w : World) (g : Nat) (A : Option Addr) (n cap : Nat) (b : By) (p : Nat) (e : Ending) (w' : World) : Prop :=
  ∃ (k : Int) (q : Nat), e = .returned (.int .i64 k) ∧ JM w0 w w' g A n cap b q ∧ (k = 0 → f (bitsOf b) (8 * p) = .ok ((), 8 * q)) ∧ (k ≠ 0 → f (bitsOf b) (8 * p) = .error k)
theorem Tells.ok {f : RdM Unit} {q : Nat} {e : Ending} (he : e = .returned (.int .i64 0)) (h : JM w0 w w' g A n cap b q) (h1 : f (bitsOf b) (8 * p) = .ok ((), 8 * q)) : Tells f w0 w g A n cap b p e w' := ⟨0, q, he, h, fun _ => h1, fun h => absurd rfl h⟩
theorem Tells.no {f : RdM Unit} {q : Nat} {e : Ending} {k : Int} (he : e = .returned (.int .i64 k)) (h : JM w0 w w' g A n cap b q) (hk : k ≠ 0) (h1 : f (bitsOf b) (8 * p) = .error k) : Tells f w0 w g A n cap b p e w' := ⟨k, q, he, h, fun h => absurd h hk, fun _ => h1⟩
/-- A reading that is another's there. -/
theorem Tells.as {f f' : RdM Unit} {e : Ending} (h : Tells f w0 w g A n cap b p e w') (e2 : f' (bitsOf b) (8 * p) = f (bitsOf b) (8 * p)) : Tells f' w0 w g A n cap b p e w' := by
  obtain ⟨k, q, h1, h2, h3, h4⟩ := h
  exact ⟨k, q, h1, h2, fun h => by rw [e2, h3 h], fun h => by rw [e2, h4 h]⟩
theorem Tells.fr {f : RdM Unit} {e : Ending} (h : Tells f w0 w g A n cap b p e w') : Fr (fun _ => False) w0 w' := by
  obtain ⟨k, q, h1, h2, h3, h4⟩ := h
  exact h2.1.fr
def skipM (k : Nat) : RdM Unit := bnd (by8 k) fun _ => ret ()
theorem skip_in {k : Nat} (h : p + k ≤ b.length) : skipM k (bitsOf b) (8 * p) = .ok ((), 8 * (p + k)) := by
  unfold skipM
  rw [bnd_of (by8_in h)]
  rfl
theorem skip_out {k : Nat} (h : b.length < p + k) : skipM k (bitsOf b) (8 * p) = .error 7 := by
  unfold skipM
  rw [bnd_err (by8_out h)]
set_option maxHeartbeats 1000000 in
theorem pskip (h : JZ w0 w g A n cap b p) (k : Nat) (hk : k ≤ 4000000) : Calls Tryz.prog 50 #[.pointer (some ⟨g, 0, none⟩), .int .i64 (k : Int)] w (Tells (skipM k) w0 w g A n cap b p) := by
  have HR := Lib.hid (prest h)
  have HJ := Lib.hid h
  have hp := h.le
  have hs := h.sm
  obtain ⟨n', hn⟩ : ∃ k, k = n - p := ⟨_, rfl⟩
  rw [← hn] at HR
  by_cases hlt : p + k ≤ n
  · have HK := Lib.hid (show skipM k (bitsOf b) (8 * p) = .ok ((), 8 * (p + k)) from skip_in (by have := h.len; omega))
    have hg : ¬ (n' : Int) < (k : Int) := by omega
    have hpk : IntKind.i64.wrap ((p : Int) + (k : Int)) = ((p + k : Nat) : Int) := by rw [IntWalk.i64_in _ (by omega)]; omega
    clear h hn
    go_enter Tryz.func50, Tryz.ntmps50
    go_wp2_with fail
    refine HR.out.mono ?_
    rintro e w1 ⟨rfl, hC⟩
    have H1 := Lib.hid (HJ.out.still hC.fr)
    have c1 := H1.out.c1
    have f1 := H1.out.f1
    have HM := Lib.hid (HJ.out.go hC.fr hlt)
    clear hC HR
    go_wp2_with fail
    go_ret
    refine Tells.ok rfl ?_ HK.out
    exact HM.out
  · have HK := Lib.hid (show skipM k (bitsOf b) (8 * p) = .error 7 from skip_out (by have := h.len; omega))
    have hg : (n' : Int) < (k : Int) := by omega
    clear h hn
    go_enter Tryz.func50, Tryz.ntmps50
    go_wp2_with fail
    refine HR.out.mono ?_
    rintro e w1 ⟨rfl, hC⟩
    have H1 := Lib.hid (HJ.out.step hC.fr)
    clear hC HR
    go_wp2_with fail
    go_ret
    exact Tells.no rfl H1.out (by decide) HK.out
end
end Go.Proofs.YtcdhakfmljjaoaaGreatDoor.gz

/-
  The program's frame that is being read: number, expect; where a byte is.
-/

namespace Go.Proofs.YtcdhakfmljjaoaaGreatDoor.gz
set_option maxRecDepth 100000
open Go.RowKit Go.Maps Go.Proofs.YtcdhakfmljjaoaaGreatDoor.fl Go.Proofs.YtcdhakfmljjaoaaGreatDoor.cd Go.Proofs.YtcdhakfmljjaoaaGreatDoor.ft
set_option maxRecDepth 100000

section
variable {w0 w w' : World} {g n cap p : Nat} {A : Option Addr} {b : By}
set_option maxHeartbeats 2000000 in
theorem pnumber_ok (h : JZ w0 w g A n cap b p) {k : Nat} (h1 : 1 ≤ k) (h4 : k ≤ 4) (hk : p + k ≤ n) : Calls Tryz.prog 49 #[.pointer (some ⟨g, 0, none⟩), .int .i64 (k : Int)] w fun e w' => e = .returned (.tuple #[.int .i64 (num ((b.drop p).take k) : Nat), .int .i64 0]) ∧ JM w0 w w' g A n cap b (p + k) := by
  have HG := Lib.hid (fun (m : Nat) => get_ok (w.drewN m) A n cap w0.heap.size p k b (h.now.calm ⟨m, rfl⟩) h.len.symm (by have := h.sm; omega) h1 h4 hk |>.mono fun _ _ ⟨a, c⟩ => (⟨a, c.symm⟩ : _ ∧ _ = w.drewN m))
  have c0 := h.c0
  have c1 := h.c1
  have hs := h.sm
  have HJ := Lib.hid h
  rw [numAt_num] at HG
  obtain ⟨N, hN⟩ : ∃ N, N = num ((b.drop p).take k) := ⟨_, rfl⟩
  rw [← hN] at HG ⊢
  have hpk : IntKind.i64.wrap ((p : Int) + (k : Int)) = ((p + k : Nat) : Int) := by rw [IntWalk.i64_in _ (by omega)]; omega
  clear h hN
  go_enter Tryz.func49, Tryz.ntmps49
  go_wp2_with fail
  go_quiet ((go_at_call 69; exact Calls.quiet_of_same (HG.out _)))
  have H1 := Lib.hid (HJ.out.still (show Calm w (w.drewN nq) from ⟨nq, rfl⟩).fr)
  have d1 := H1.out.c1
  have e1 := H1.out.f1
  have HM := Lib.hid (HJ.out.go (show Calm w (w.drewN nq) from ⟨nq, rfl⟩).fr hk)
  clear HG
  go_wp2_with fail
  go_ret2
  exact ⟨rfl, HM.out⟩
set_option maxHeartbeats 2000000 in
theorem pnumber_no (h : JZ w0 w g A n cap b p) {k : Nat} (hk : n < p + k) : Calls Tryz.prog 49 #[.pointer (some ⟨g, 0, none⟩), .int .i64 (k : Int)] w fun e w' => e = .returned (.tuple #[.int .i64 0, .int .i64 7]) ∧ JM w0 w w' g A n cap b p := by
  have HG := Lib.hid (fun (m : Nat) => get_no (w.drewN m) A n cap p k (by have := h.sm; omega) (fun e => by unfold Std at e; omega) |>.mono fun _ _ ⟨a, c⟩ => (⟨a, c.symm⟩ : _ ∧ _ = w.drewN m))
  have c0 := h.c0
  have c1 := h.c1
  have HJ := Lib.hid h
  clear h
  go_enter Tryz.func49, Tryz.ntmps49
  go_wp2_with fail
  go_quiet ((go_at_call 69; exact Calls.quiet_of_same (HG.out _)))
  have H1 := Lib.hid (HJ.out.step (show Calm w (w.drewN nq) from ⟨nq, rfl⟩).fr)
  clear HG
  go_wp2_with fail
  go_ret2
  exact ⟨rfl, H1.out⟩
theorem want_in {W k : Nat} {wr : Int} (h : p + k ≤ b.length) : wantM W k wr (bitsOf b) (8 * p) = if num ((b.drop p).take k) = W then .ok ((), 8 * (p + k)) else .error wr := by
  unfold wantM
  rw [bnd_of (by8_in h)]
  by_cases e : num ((b.drop p).take k) = W
  · rw [if_pos e, if_pos e]; rfl
  · rw [if_neg e, if_neg e]; rfl
theorem want_out {W k : Nat} {wr : Int} (h : b.length < p + k) : wantM W k wr (bitsOf b) (8 * p) = .error 7 := by
  unfold wantM
  rw [bnd_err (by8_out h)]
set_option maxHeartbeats 2000000 in
theorem pexpect (h : JZ w0 w g A n cap b p) (W k : Nat) (wr : Int) (h1 : 1 ≤ k) (h4 : k ≤ 4) (hw : wr ≠ 0) : Calls Tryz.prog 48 #[.pointer (some ⟨g, 0, none⟩), .int .i64 (W : Int), .int .i64 (k : Int), .int .i64 wr] w (Tells (wantM W k wr) w0 w g A n cap b p) := by
  by_cases hk : p + k ≤ n
  · have HN := Lib.hid (pnumber_ok h h1 h4 hk)
    have HK := Lib.hid (want_in (W := W) (wr := wr) (show p + k ≤ b.length by have := h.len; omega))
    obtain ⟨N, hN⟩ : ∃ N, N = num ((b.drop p).take k) := ⟨_, rfl⟩
    rw [← hN] at HN HK
    clear h hN
    by_cases e : N = W
    · have HK2 := Lib.hid (HK.out.trans (if_pos e))
      have hne : (N : Int) = (W : Int) := by omega
      clear e HK
      go_enter Tryz.func48, Tryz.ntmps48
      go_wp2_with fail
      refine HN.out.mono ?_
      rintro e w1 ⟨rfl, hJ⟩
      have H1 := Lib.hid hJ
      clear hJ HN
      go_wp2_with fail
      go_ret
      exact Tells.ok rfl H1.out HK2.out
    · have HK2 := Lib.hid (HK.out.trans (if_neg e))
      have hne : ¬ (N : Int) = (W : Int) := by omega
      clear e HK
      go_enter Tryz.func48, Tryz.ntmps48
      go_wp2_with fail
      refine HN.out.mono ?_
      rintro e w1 ⟨rfl, hJ⟩
      have H1 := Lib.hid hJ
      clear hJ HN
      go_wp2_with fail
      go_ret
      exact Tells.no rfl H1.out hw HK2.out
  · have HN := Lib.hid (pnumber_no h (k := k) (by omega))
    have HK := Lib.hid (want_out (W := W) (wr := wr) (show b.length < p + k by have := h.len; omega))
    clear h
    go_enter Tryz.func48, Tryz.ntmps48
    go_wp2_with fail
    refine HN.out.mono ?_
    rintro e w1 ⟨rfl, hJ⟩
    have H1 := Lib.hid hJ
    clear hJ HN
    go_wp2_with fail
    go_ret
    exact Tells.no rfl H1.out (by decide) HK.out
end

/-! ### where a byte is -/
theorem bytesOf_nums (l : By) : Lib.bytesOf (l.map fun x => (x.toNat : Int)) = l := by
  unfold Lib.bytesOf
  rw [List.map_map]
  conv => rhs; rw [← List.map_id l]
  apply List.map_congr_left
  intro x _
  simp
set_option maxHeartbeats 1000000 in
theorem bytes_at (w : World) (A : Option Addr) (B n cap : Nat) (l : By) (h : Rd w B A l) (hn : n = l.length) : (Extern.BytealgIndexByte.indexByte #[.slice A n cap, .int .u8 0]).run Tryz.prog w = .ok (.int .i64 (Lib.indexByte l 0)) w := by
  subst hn
  cases A with
  | none =>
    have e : l = [] := by
      apply Decidable.byContradiction
      intro hne
      obtain ⟨_, _, e2, _⟩ := h hne
      cases e2
    subst e
    exact Lib.run_indexByteNil (P := Tryz.prog) w 0 cap 0
  | some a =>
    have h1 := Lib.run_indexByteAt (P := Tryz.prog) w a l.length cap (l.map fun x => (x.toNat : Int)) (by rw [List.length_map]) (fun i hi => by
      rw [h.src i (.int .u8 (l[i].toNat : Int)) (by rw [bs_get, List.getElem?_eq_getElem hi]; rfl), List.getD_eq_getElem?_getD, List.getElem?_map, List.getElem?_eq_getElem hi]
      rfl) 0
    rw [bytesOf_nums] at h1
    exact h1
set_option maxHeartbeats 1000000 in
theorem pindex (w : World) (A : Option Addr) (B n cap : Nat) (l : By) (h : Rd w B A l) (hn : n = l.length) : Calls Tryz.prog 90 #[.slice A n cap, .int .u8 0] w fun e w' => e = .returned (.int .i64 (Lib.indexByte l 0)) ∧ w = w' := by
  have H := Lib.hid (bytes_at w A B n cap l h hn)
  obtain ⟨R, hR⟩ : ∃ R, R = Lib.indexByte l 0 := ⟨_, rfl⟩
  rw [← hR] at H ⊢
  clear h hn hR
  go_enter Tryz.func90, Tryz.ntmps90
  go_wp2
  rw [run_callFunc_extern Tryz.func103 (by kernel_rfl) (by kernel_rfl) (by kernel_rfl) (e := Extern.BytealgIndexByte.indexByte) (by kernel_rfl), H.out]
  simp only [Result.andThen]
  rw [Oper.upon_value]
  go_wp2
  go_ret
  exact ⟨rfl, rfl⟩
set_option maxHeartbeats 1000000 in
theorem psindex0 (w : World) (s : ByteArray) : Calls Tryz.prog 57 #[.string s, .int .u8 0] w fun e w' => e = .returned (.int .i64 (Lib.indexByte s.data.toList 0)) ∧ w = w' := by
  have H := Lib.hid (Lib.run_indexByteString (P := Tryz.prog) s 0 w)
  go_enter Tryz.func57, Tryz.ntmps57
  go_wp2
  rw [run_callFunc_extern Tryz.func78 (by kernel_rfl) (by kernel_rfl) (by kernel_rfl) (e := Extern.BytealgIndexByte.indexByte) (by kernel_rfl), H.out]
  simp only [Result.andThen]
  rw [Oper.upon_value]
  go_wp2
  go_ret
  exact ⟨rfl, rfl⟩
set_option maxHeartbeats 1000000 in
theorem psindex (w : World) (s : ByteArray) : Calls Tryz.prog 33 #[.string s, .int .u8 0] w fun e w' => e = .returned (.int .i64 (Lib.indexByte s.data.toList 0)) ∧ w = w' := by
  have H := Lib.hid (psindex0 w s)
  go_enter Tryz.func33, Tryz.ntmps33
  go_wp2_with (go_at_call 57; refine H.out.mono ?_; rintro e w' ⟨rfl, rfl⟩)
  go_ret
  exact ⟨rfl, rfl⟩
theorem index_has (l : By) : (-1 ≤ Lib.indexByte l 0) ∧ (l.contains 0 = decide (0 ≤ Lib.indexByte l 0)) := by
  refine ⟨Lib.indexByte_ge l 0, ?_⟩
  by_cases h : Lib.indexByte l 0 = -1
  · rw [h]
    have := index_out h
    rw [decide_eq_false (by decide)]
    rw [← Bool.not_eq_true, List.contains_iff_mem]
    exact fun e => this 0 e rfl
  · have hg := Lib.indexByte_ge l 0
    rw [decide_eq_true (show 0 ≤ Lib.indexByte l 0 by omega), List.contains_iff_mem]
    apply Decidable.byContradiction
    intro hn
    exact h (index_in fun x hx e => hn (e ▸ hx))
set_option maxHeartbeats 1000000 in
theorem pnought (w : World) (s : ByteArray) : Calls Tryz.prog 18 #[.string s] w fun e w' => e = .returned (.bool (s.data.toList.contains 0)) ∧ w = w' := by
  have H := Lib.hid (psindex w s)
  obtain ⟨hg, hc⟩ := index_has s.data.toList
  rw [hc]
  obtain ⟨R, hR⟩ : ∃ R, R = Lib.indexByte s.data.toList 0 := ⟨_, rfl⟩
  rw [← hR] at H hg ⊢
  clear hR hc
  go_enter Tryz.func18, Tryz.ntmps18
  go_wp2_with (go_at_call 33; refine H.out.mono ?_; rintro e w' ⟨rfl, rfl⟩)
  go_ret
  exact ⟨rfl, rfl⟩
end Go.Proofs.YtcdhakfmljjaoaaGreatDoor.gz

/-
  The program's frame that is being read: its sums; the closures that read its parts.
-/

namespace Go.Proofs.YtcdhakfmljjaoaaGreatDoor.gz
set_option maxRecDepth 100000
open Go.RowKit Go.Maps Go.Proofs.YtcdhakfmljjaoaaGreatDoor.fl Go.Proofs.YtcdhakfmljjaoaaGreatDoor.cd Go.Proofs.YtcdhakfmljjaoaaGreatDoor.ft
set_option maxRecDepth 100000

/-- What lies in the program's data: crc's table, the streams' tables, the table of parts. -/
def prtL : List Int := [4, 0, 8, 1, 16, 1, 2, 2]
structure DT (w : World) : Prop where
  crc : Tab w
  fla : Tabs w
  prt : ∀ k x, prtL[k]? = some x → w.cell? ⟨0, k, none⟩ = some (.int .i64 x)
theorem DT.keep {w w' : World} (h : DT w) (hF : Fr (fun _ => False) w w') : DT w' := ⟨fun j hj => cell_keep (h.crc j hj) hF, h.fla.keep hF, fun k x hk => cell_keep (h.prt k x hk) hF⟩
theorem uv_csum (l : By) : uv (crcMore 0#32 l) = (csum l : Nat) := rfl
theorem psum (w : World) (hT : DT w) (A : Option Addr) (n cap B : Nat) (l : By) (hr : Rd w B A l) (hn : n = l.length) (hl : n ≤ 4000000) : Calls Tryz.prog 17 #[.slice A n cap] w fun e w' => e = .returned (.int .u32 (csum l : Nat)) ∧ w = w' := by
  rw [← uv_csum]
  exact sum_rd hT.crc hr hn.symm (by omega)
set_option maxHeartbeats 1000000 in
theorem psumHead (w : World) (hT : DT w) (A : Option Addr) (n cap B : Nat) (l : By) (hr : Rd w B A l) (hn : n = l.length) (hl : n ≤ 4000000) : Calls Tryz.prog 36 #[.slice A n cap] w fun e w' => e = .returned (.int .i64 (csum l % 65536 : Nat)) ∧ w = w' := by
  have H := Lib.hid (psum w hT A n cap B l hr hn hl)
  have hc := csum_lt l
  obtain ⟨c, hcc⟩ : ∃ c, c = csum l := ⟨_, rfl⟩
  rw [← hcc] at H hc ⊢
  have h1 : IntKind.u16.wrap (c : Int) = ((c % 65536 : Nat) : Int) := by rw [IntKind.wrap_u16]; omega
  have h2 : IntKind.i64.wrap ((c % 65536 : Nat) : Int) = ((c % 65536 : Nat) : Int) := IntWalk.i64_in _ (by omega)
  clear hr hn hcc hT
  go_enter Tryz.func36, Tryz.ntmps36
  go_wp2_with (go_at_call 17; refine H.out.mono ?_; rintro e w' ⟨rfl, rfl⟩)
  go_ret
  exact ⟨rfl, rfl⟩
set_option maxHeartbeats 1000000 in
theorem psumOf (w : World) (hT : DT w) (A : Option Addr) (n cap B : Nat) (l : By) (hr : Rd w B A l) (hn : n = l.length) (hl : n ≤ 4000000) : Calls Tryz.prog 40 #[.slice A n cap] w fun e w' => e = .returned (.int .i64 (csum l : Nat)) ∧ w = w' := by
  have H := Lib.hid (psum w hT A n cap B l hr hn hl)
  have hc := csum_lt l
  obtain ⟨c, hcc⟩ : ∃ c, c = csum l := ⟨_, rfl⟩
  rw [← hcc] at H hc ⊢
  have h2 : IntKind.i64.wrap (c : Int) = (c : Int) := IntWalk.i64_in _ (by omega)
  clear hr hn hcc hT
  go_enter Tryz.func40, Tryz.ntmps40
  go_wp2_with (go_at_call 17; refine H.out.mono ?_; rintro e w' ⟨rfl, rfl⟩)
  go_ret
  exact ⟨rfl, rfl⟩
set_option maxHeartbeats 1000000 in
theorem psizeOf (w : World) (A : Option Addr) (n cap : Nat) (hl : n ≤ 4000000) : Calls Tryz.prog 41 #[.slice A n cap] w fun e w' => e = .returned (.int .i64 (n : Int)) ∧ w = w' := by
  have h1 : IntKind.u32.wrap (n : Int) = (n : Int) := by rw [IntKind.wrap_u32]; omega
  have h2 : IntKind.i64.wrap (n : Int) = (n : Int) := IntWalk.i64_in _ (by omega)
  go_enter Tryz.func41, Tryz.ntmps41
  go_wp2_with fail
  go_ret
  exact ⟨rfl, rfl⟩

/-! ### the closures -/
section
variable {w0 w w' : World} {g n cap p bx : Nat} {A : Option Addr} {b : By}
/-- The box that the closures share holds the reader. -/
def Bx (w : World) (bx g : Nat) : Prop := w.heap[bx]? = some (.cells #[.pointer (some ⟨g, 0, none⟩)] 46 (0, 0)) ∧ bx ≠ g
theorem Bx.cell (h : Bx w bx g) : w.cell? ⟨bx, 0, none⟩ = some (.pointer (some ⟨g, 0, none⟩)) := (cellAt h.1 0).trans rfl
theorem Bx.keep (h : Bx w bx g) (hF : Fr (fun i => i = g) w w') : Bx w' bx g := ⟨(hF.block bx (lt_of_block h.1) h.2).trans h.1, h.2⟩
set_option maxHeartbeats 1000000 in
theorem pcounted (h : JZ w0 w g A n cap b p) (hB : Bx w bx g) : Calls Tryz.prog 88 #[.pointer (some ⟨bx, 0, none⟩)] w (Tells extraM w0 w g A n cap b p) := by
  have c0 := hB.cell
  by_cases hk : p + 2 ≤ n
  · have HN := Lib.hid (pnumber_ok h (k := 2) (by decide) (by decide) hk)
    have HX := Lib.hid (show extraM (bitsOf b) (8 * p) = skipM (num ((b.drop p).take 2)) (bitsOf b) (8 * (p + 2)) from by
      unfold extraM
      rw [bnd_of (by8_in (by have := h.len; omega))]
      rfl)
    have hlt := num_lt ((b.drop p).take 2)
    rw [List.length_take, List.length_drop, Nat.min_eq_left (by have := h.len; omega)] at hlt
    obtain ⟨N, hN⟩ : ∃ N, N = num ((b.drop p).take 2) := ⟨_, rfl⟩
    rw [← hN] at HN HX hlt
    have HB := Lib.hid hB
    clear h hN
    go_enter Tryz.func88, Tryz.ntmps88
    go_wp2_with fail
    refine HN.out.mono ?_
    rintro e w1 ⟨rfl, hJ⟩
    have H1 := Lib.hid hJ
    have c1 := (HB.out.keep hJ.2).cell
    have HS := Lib.hid (pskip hJ.1 N (by omega))
    clear hJ HN
    go_wp2_with fail
    refine HS.out.mono ?_
    rintro e w2 hT
    obtain ⟨k, q, rfl, h2, h3, h4⟩ := hT
    have H2 := Lib.hid (show Tells extraM w0 w g A n cap b p (.returned (.int .i64 k)) w2 from ⟨k, q, rfl, H1.out.then h2, fun e => by rw [HX.out]; exact h3 e, fun e => by rw [HX.out]; exact h4 e⟩)
    clear h2 h3 h4 HS
    go_wp2_with fail
    go_ret
    exact H2.out
  · have HN := Lib.hid (pnumber_no h (k := 2) (by omega))
    have HX := Lib.hid (show extraM (bitsOf b) (8 * p) = .error 7 from by
      unfold extraM
      rw [bnd_err (by8_out (by have := h.len; omega))])
    clear h hB
    go_enter Tryz.func88, Tryz.ntmps88
    go_wp2_with fail
    refine HN.out.mono ?_
    rintro e w1 ⟨rfl, hJ⟩
    have H1 := Lib.hid hJ
    clear hJ HN
    go_wp2_with fail
    go_ret
    exact Tells.no rfl H1.out (by decide) HX.out
set_option maxHeartbeats 1000000 in
theorem pended (h : JZ w0 w g A n cap b p) (hB : Bx w bx g) : Calls Tryz.prog 89 #[.pointer (some ⟨bx, 0, none⟩)] w (Tells zeroM w0 w g A n cap b p) := by
  have c0 := hB.cell
  have HR := Lib.hid (prest h)
  have HI := Lib.hid (fun (w1 : World) (hC : Calm w w1) => pindex w1 (cutA A cap p) w0.heap.size (n - p) (cap - p) (b.drop p) ((cutA_rd h).calm hC) (by rw [List.length_drop, h.len]))
  have hge := (index_has (b.drop p)).1
  obtain ⟨R, hR⟩ : ∃ R, R = Lib.indexByte (b.drop p) 0 := ⟨_, rfl⟩
  rw [← hR] at HI hge
  have HJ := Lib.hid h
  have HB := Lib.hid hB
  obtain ⟨A', hA⟩ : ∃ A', A' = cutA A cap p := ⟨_, rfl⟩
  obtain ⟨n', hn⟩ : ∃ k, k = n - p := ⟨_, rfl⟩
  obtain ⟨c', hc⟩ : ∃ k, k = cap - p := ⟨_, rfl⟩
  rw [← hA, ← hn, ← hc] at HI HR
  clear hA hn hc hB
  by_cases hneg : R = -1
  · have HX := Lib.hid (show zeroM (bitsOf b) (8 * p) = .error 7 from zero_out (by have := h.len; have := h.le; omega) (by rw [← hR, hneg]))
    subst hneg
    clear h hR
    go_enter Tryz.func89, Tryz.ntmps89
    go_wp2_with fail
    refine HR.out.mono ?_
    rintro e w1 ⟨rfl, hC⟩
    have H1 := Lib.hid (HJ.out.step hC.fr)
    have HI1 := Lib.hid (HI.out w1 hC)
    clear hC HR
    go_wp2_with fail
    refine HI1.out.mono ?_
    rintro e w2 ⟨rfl, rfl⟩
    go_wp2_with fail
    go_ret
    exact Tells.no rfl H1.out (by decide) HX.out
  · obtain ⟨j, rfl⟩ : ∃ j : Nat, R = j := ⟨R.toNat, by omega⟩
    have hz := zero_in (b := b) (p := p) (j := j) (by have := h.len; have := h.le; omega) hR.symm
    have HX := Lib.hid (show zeroM (bitsOf b) (8 * p) = skipM (j + 1) (bitsOf b) (8 * p) from by rw [hz.2, skip_in (by omega)])
    have hj9 : j + 1 ≤ 4000000 := by have := hz.1; have := h.len; have := h.sm; omega
    clear h hR hz
    go_enter Tryz.func89, Tryz.ntmps89
    go_wp2_with fail
    refine HR.out.mono ?_
    rintro e w1 ⟨rfl, hC⟩
    have H1 := Lib.hid (HJ.out.step hC.fr)
    have HI1 := Lib.hid (HI.out w1 hC)
    have c1 := (HB.out.keep H1.out.2).cell
    have HS := Lib.hid (pskip H1.out.1 (j + 1) hj9)
    have hj1 : IntKind.i64.wrap ((j : Int) + 1) = ((j + 1 : Nat) : Int) := by rw [IntWalk.i64_in _ (by omega)]; omega
    clear hC HR
    go_wp2_with fail
    refine HI1.out.mono ?_
    rintro e w2 ⟨rfl, rfl⟩
    go_wp2_with (go_at_call 50; refine HS.out.mono ?_; rintro e w3 ⟨k, q, rfl, h2, h3, h4⟩)
    have H2 := Lib.hid (show Tells zeroM w0 w g A n cap b p (.returned (.int .i64 k)) w3 from ⟨k, q, rfl, H1.out.then h2, fun e => by rw [HX.out]; exact h3 e, fun e => by rw [HX.out]; exact h4 e⟩)
    clear h2 h3 h4 HS
    go_ret
    exact H2.out
end
end Go.Proofs.YtcdhakfmljjaoaaGreatDoor.gz
