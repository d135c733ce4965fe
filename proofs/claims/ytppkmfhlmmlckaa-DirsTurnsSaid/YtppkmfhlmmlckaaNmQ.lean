/-
  What is asked of the program's own functions; DirsFinds over it.
-/
import Derived.Test.YtppkmfhlmmlckaaNmM
import Derived.Test.YtppkmfhlmmlckaaNmN
namespace Go.Proofs.Ytppkmfhlmmlckaa.nm
set_option maxRecDepth 100000
open Go.RowKit Go.Maps
set_option maxRecDepth 100000

/-- New names, or none, and an answer. -/
def AnsM (w : World) (z : Int) (l : List Nm) (e : Ending) (w' : World) : Prop :=
  (z = 0 ∧ ∃ A cap, e = .returned (.tuple #[.slice A l.length cap, .int .i64 0]) ∧ OwnN w' w.heap.size (.slice A l.length cap) l ∧ (A = none → cap = 0) ∧ l.length ≤ cap ∧ Fr (fun _ => False) w w') ∨ (z ≠ 0 ∧ ∃ A cap, e = .returned (.tuple #[.slice A 0 cap, .int .i64 z]) ∧ Fr (fun _ => False) w w')
/-- A slice of names that a call gets. -/
structure In (w : World) (A : Option Addr) (cap : Nat) (l : List Nm) : Prop where
  rd : RdN w w.heap.size A l
  none_ : A = none → cap = 0
  cap : l.length ≤ cap
  len : l.length ≤ 5864062014805
theorem In.fr {w w' : World} {A : Option Addr} {cap : Nat} {l : List Nm} (h : In w A cap l) (hF : Fr (fun _ => False) w w') : In w' A cap l := ⟨(h.rd.still hF (Nat.le_refl _)).more hF.size, h.none_, h.cap, h.len⟩
/-- New bytes, or none, and an answer. -/
def AnsW (w : World) (l : List Nm) (e : Ending) (w' : World) : Prop :=
  (RightN l ∧ ∃ A cap, e = .returned (.tuple #[.slice A (prL l).length cap, .int .i64 0]) ∧ Own w' w.heap.size (.slice A (prL l).length cap) (prL l) ∧ (A = none → cap = 0) ∧ (prL l).length ≤ cap ∧ Fr (fun _ => False) w w') ∨ (¬ RightN l ∧ ∃ A cap, e = .returned (.tuple #[.slice A 0 cap, .int .i64 70]) ∧ Fr (fun _ => False) w w')
/-- New names out of bytes, or none. -/
def AnsV (w : World) (p : Option (List Nm)) (e : Ending) (w' : World) : Prop :=
  (∃ l, p = some l ∧ RightN l ∧ ∃ A cap, e = .returned (.tuple #[.slice A l.length cap, .int .i64 0]) ∧ OwnN w' w.heap.size (.slice A l.length cap) l ∧ (A = none → cap = 0) ∧ l.length ≤ cap ∧ Fr (fun _ => False) w w') ∨ ((∀ l, p = some l → ¬ RightN l) ∧ ∃ A cap, e = .returned (.tuple #[.slice A 0 cap, .int .i64 70]) ∧ Fr (fun _ => False) w w')
/-- The program's functions, as the chapter has them. -/
structure Dirs : Prop where
  check : ∀ (w : World) (s : ByteArray), s.size ≤ maxLen → Calls Try.prog 16 #[.string s] w fun e w' => e = .returned (.int .i64 (chkZ s)) ∧ Fr (fun _ => False) w w'
  look : ∀ (w : World) (A : Option Addr) (cap : Nat) (l : List Nm) (s : ByteArray), In w A cap l → s.size ≤ maxLen → Calls Try.prog 19 #[.slice A l.length cap, .string s] w fun e w' => e = .returned (.tuple #[.int .i64 (lookR l s).1, .int .i64 (lookR l s).2]) ∧ Fr (fun _ => False) w w'
  add : ∀ (w : World) (A : Option Addr) (cap : Nat) (l : List Nm) (s : ByteArray) (n : Int), In w A cap l → s.size ≤ maxLen → (-9223372036854775808 ≤ n ∧ n ≤ 9223372036854775807) → Calls Try.prog 21 #[.slice A l.length cap, .string s, .int .i64 n] w (AnsM w (addZ l s n) (insL l s n))
  remove : ∀ (w : World) (A : Option Addr) (cap : Nat) (l : List Nm) (s : ByteArray), In w A cap l → s.size ≤ maxLen → Calls Try.prog 23 #[.slice A l.length cap, .string s] w (AnsM w (lookR l s).2 (rmL l s))
  print : ∀ (w : World) (A : Option Addr) (cap : Nat) (l : List Nm), In w A cap l → Calls Try.prog 12 #[.slice A l.length cap] w (AnsW w l)
  parse : ∀ (w : World) (A : Option Addr) (cap : Nat) (b : List UInt8), Rd w w.heap.size A b → (A = none → cap = 0) → b.length ≤ cap → b.length ≤ 140737488351232 → Calls Try.prog 10 #[.slice A b.length cap] w (AnsV w (parP b))
  works : ∀ (w : World), Calls Try.prog 18 #[] w fun e w' => e = .returned (.bool true) ∧ Fr (fun _ => False) w w'

theorem wf_ins {l : List Nm} {s : ByteArray} {n : Int} (h : WfN l) (hs : s.size ≤ maxLen) (hn : -9223372036854775808 ≤ n ∧ n ≤ 9223372036854775807) : WfN (insL l s n) := fun x hx => by
  unfold insL at hx
  rcases List.mem_append.1 hx with hx | hx
  · rcases List.mem_append.1 hx with hx | hx
    · exact h x (List.mem_of_mem_take hx)
    · obtain rfl := List.mem_singleton.1 hx
      exact ⟨hs, hn⟩
  · exact h x (List.mem_of_mem_drop hx)

set_option maxHeartbeats 4000000 in
theorem finds_walk (HD : Dirs) (w : World) (A : Option Addr) (cap : Nat) (l : List Nm) (s : ByteArray) (num : Int) (o : ByteArray) (hl : In w A cap l) (hs : s.size ≤ maxLen) (hn : -9223372036854775808 ≤ num ∧ num ≤ 9223372036854775807) (ho : o.size ≤ maxLen) :
    Calls Try.prog 6 #[.slice A l.length cap, .string s, .int .i64 num, .string o] w fun e w' => e = .returned (.bool true) ∧ Fr (fun _ => False) w w' := by
  obtain ⟨n, hn'⟩ : ∃ n, n = l.length := ⟨_, rfl⟩
  have HL := Lib.hid (⟨hl, hn', hs, hn, ho⟩ : _ ∧ _ ∧ _ ∧ _ ∧ _)
  have HDD := Lib.hid HD
  rw [← hn']
  clear hl hn' hs hn ho HD
  go_enter Try.func6, Try.ntmps6
  go_wp2_with fail
  refine (HDD.out.works w).mono ?_
  rintro e w1 ⟨rfl, hF1⟩
  have HI1 := Lib.hid (HL.out.1.fr hF1)
  have HF1 := Lib.hid hF1
  clear hF1
  have HAD := Lib.hid (HDD.out.add w1 A cap l s num HI1.out HL.out.2.2.1 HL.out.2.2.2.1)
  rw [← HL.out.2.1] at HAD
  go_wp2_with fail
  refine HAD.out.mono ?_
  rintro e w2 (⟨hz, Am, cm, rfl, ho, hna, hcm, hF2⟩ | ⟨hz, Am, cm, rfl, hF2⟩)
  · have HZ := Lib.hid hz
    have HIM := Lib.hid (⟨OwnN.rd ho (wf_ins HL.out.1.rd.wf HL.out.2.2.1 HL.out.2.2.2.1), hna, hcm, by rw [insL_length]; have := (addZ_ok hz).2.2.2; omega⟩ : In w2 Am cm (insL l s num))
    have HIL := Lib.hid (HI1.out.fr hF2)
    have HF2 := Lib.hid (HF1.out.trans hF2 (fun _ _ e => e))
    obtain ⟨q, hq⟩ : ∃ q, q = (insL l s num).length := ⟨_, rfl⟩
    have HQ := Lib.hid hq
    have HLK := Lib.hid (HDD.out.look w2 Am cm (insL l s num) s HIM.out HL.out.2.2.1)
    rw [look_ins hz, ← hq] at HLK
    rw [← hq]
    clear hz ho hna hcm hF2 HAD HI1 hq
    go_wp2_with fail
    refine HLK.out.mono ?_
    rintro e w3 ⟨rfl, hF3⟩
    have HF3 := Lib.hid hF3
    clear hF3 HLK
    obtain ⟨ra, hra⟩ : ∃ ra, ra = (lookR l o).1 := ⟨_, rfl⟩
    obtain ⟨rg, hrg⟩ : ∃ rg, rg = (lookR l o).2 := ⟨_, rfl⟩
    obtain ⟨rb, hrb⟩ : ∃ rb, rb = (lookR (insL l s num) o).1 := ⟨_, rfl⟩
    obtain ⟨rh, hrh⟩ : ∃ rh, rh = (lookR (insL l s num) o).2 := ⟨_, rfl⟩
    have HRR := Lib.hid (show o ≠ s → rb = ra ∧ rh = rg by intro e; rw [hra, hrg, hrb, hrh, look_other e]; exact ⟨rfl, rfl⟩)
    have HLA := Lib.hid (HDD.out.look w3 A cap l o (HIL.out.fr HF3.out) HL.out.2.2.2.2)
    rw [← hra, ← hrg, ← HL.out.2.1] at HLA
    go_wp2_with fail
    refine HLA.out.mono ?_
    rintro e w4 ⟨rfl, hF4⟩
    have HF4 := Lib.hid (HF3.out.trans hF4 (fun _ _ e => e))
    have HLB := Lib.hid (HDD.out.look w4 Am cm (insL l s num) o (HIM.out.fr HF4.out) HL.out.2.2.2.2)
    rw [← hrb, ← hrh, ← HQ.out] at HLB
    clear hF4 HLA hra hrg hrb hrh
    go_wp2_with fail
    refine HLB.out.mono ?_
    rintro e w5 ⟨rfl, hF5⟩
    have HF5 := Lib.hid (HF4.out.trans hF5 (fun _ _ e => e))
    have HRM := Lib.hid (HDD.out.remove w5 Am cm (insL l s num) s (HIM.out.fr HF5.out) HL.out.2.2.1)
    rw [look_ins HZ.out, rm_ins HZ.out, ← HQ.out] at HRM
    clear hF5 HLB HF3 HF4
    go_wp2_with fail
    refine HRM.out.mono ?_
    rintro e w6 (⟨_, Ab, cb, rfl, hob, hnb, hcb, hF6⟩ | ⟨hz, _⟩)
    · have HF6 := Lib.hid (HF5.out.trans hF6 (fun _ _ e => e))
      have HOB := Lib.hid (OwnN.rd hob HL.out.1.rd.wf)
      have HSN := Lib.hid (sameN_any w6 Ab A w6.heap.size w6.heap.size cb cap l l HOB.out (HIL.out.fr HF6.out).rd (Nat.le_refl _) (Nat.le_refl _) (by have := HL.out.1.len; omega))
      rw [decide_eq_true rfl, ← HL.out.2.1] at HSN
      rw [← HL.out.2.1]
      clear hob hnb hcb hF6 HRM
      by_cases heo : o.toList = s.toList
      · have heb : (o.toList == s.toList) = true := beq_iff_eq.2 heo
        clear heo
        go_wp2_with fail
        refine HSN.out.mono ?_
        rintro e w7 ⟨rfl, hC⟩
        have HF7 := Lib.hid (HF6.out.trans hC.fr (fun _ _ e => e))
        clear hC
        go_wp2_with fail
        go_ret
        exact ⟨rfl, HF2.out.trans HF7.out (fun _ _ e => e)⟩
      · obtain ⟨rfl, rfl⟩ := HRR.out (fun e => heo (congrArg ByteArray.toList e))
        have heb : (o.toList == s.toList) = false := beq_eq_false_iff_ne.2 heo
        clear heo
        go_wp2_with fail
        refine HSN.out.mono ?_
        rintro e w7 ⟨rfl, hC⟩
        have HF7 := Lib.hid (HF6.out.trans hC.fr (fun _ _ e => e))
        clear hC
        go_wp2_with fail
        go_ret
        exact ⟨rfl, HF2.out.trans HF7.out (fun _ _ e => e)⟩
    · exact absurd rfl hz
  · obtain ⟨z, hzz⟩ : ∃ z, z = addZ l s num := ⟨_, rfl⟩
    rw [← hzz] at hz ⊢
    have hzb : (z != 0) = true := by simpa using hz
    have HF2 := Lib.hid (HF1.out.trans hF2 (fun _ _ e => e))
    clear hz hF2 HAD hzz
    go_wp2_with fail
    go_ret
    exact ⟨rfl, HF2.out⟩
end Go.Proofs.Ytppkmfhlmmlckaa.nm
