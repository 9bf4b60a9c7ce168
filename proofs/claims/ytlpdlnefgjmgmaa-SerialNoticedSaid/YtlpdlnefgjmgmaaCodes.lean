/- The walk of codes: it goes through lists of digits, and calls a closure with each of them. -/
import Derived.Test.YtlpdlnefgjmgmaaNum
import Derived.Test.YtlpdlnefgjmgmaaCode
import Derived.Deep.LoopGhost
namespace Go.Proofs.Ytlpdlnefgjmgmaa
open Go.RowKit

def P.numFrom (b a : Nat) (l : List Int) : Nat := l.foldl (fun n d => n * b + d.toNat) a

theorem P.numOf_append (b : Nat) (l m : List Int) : P.numOf b (l ++ m) = P.numFrom b (P.numOf b l) m := by
  unfold P.numOf P.numFrom
  rw [List.foldl_append]

theorem P.numFrom_zeros (b : Nat) : ∀ (m a : Nat), P.numFrom b a (List.replicate m 0) = a * b ^ m := by
  intro m
  induction m with
  | zero => intro a; simp [P.numFrom]
  | succ m ih =>
    intro a
    show P.numFrom b (a * b + (0 : Int).toNat) (List.replicate m 0) = _
    rw [ih, Nat.pow_succ, Nat.mul_comm (b ^ m) b, ← Nat.mul_assoc]
    simp

theorem P.numFrom_tops (b : Nat) (hb : 0 < b) : ∀ (m a : Nat), P.numFrom b a (List.replicate m ((b : Int) - 1)) + 1 = (a + 1) * b ^ m := by
  intro m
  induction m with
  | zero => intro a; simp [P.numFrom]
  | succ m ih =>
    intro a
    show P.numFrom b (a * b + ((b : Int) - 1).toNat) (List.replicate m ((b : Int) - 1)) + 1 = _
    have e : a * b + ((b : Int) - 1).toNat + 1 = (a + 1) * b := by rw [Nat.add_mul]; omega
    rw [ih, e, Nat.pow_succ, Nat.mul_comm (b ^ m) b, ← Nat.mul_assoc]

/-- The list whose digits from q on are struck. -/
def P.struck (L : List Int) (q : Nat) : List Int := L.take q ++ List.replicate (L.length - q) 0

theorem P.struck_all (L : List Int) : P.struck L L.length = L := by simp [P.struck]

theorem P.struck_length (L : List Int) {q : Nat} (h : q ≤ L.length) : (P.struck L q).length = L.length := by
  unfold P.struck
  rw [List.length_append, List.length_take, List.length_replicate]
  omega

theorem P.struck_set (L : List Int) {q : Nat} (h : q < L.length) (v : Int) : (P.struck L (q + 1)).set q v = L.take q ++ v :: List.replicate (L.length - (q + 1)) 0 := by
  unfold P.struck
  rw [List.set_append_left _ _ (by rw [List.length_take]; omega), List.take_succ_eq_append_getElem h, List.set_append_right _ _ (by rw [List.length_take]; omega)]
  rw [List.length_take, show q - min q L.length = 0 from by omega]
  simp

theorem P.struck_step (L : List Int) {q : Nat} (h : q < L.length) : (P.struck L (q + 1)).set q 0 = P.struck L q := by
  rw [P.struck_set L h]
  unfold P.struck
  rw [show L.length - q = L.length - (q + 1) + 1 from by omega, List.replicate_succ]

theorem P.struck_at (L : List Int) {q k : Nat} (hq : q ≤ L.length) (h : k < q) : (P.struck L q)[k]? = L[k]? := by
  unfold P.struck
  rw [List.getElem?_append_left (by rw [List.length_take]; omega), List.getElem?_take_of_lt h]

/-- The next list is the next number. -/
theorem P.next_num {b : Nat} {L : List Int} {q : Nat} (hb : 0 < b) (hq : q < L.length) (ht : ∀ k (hk : k < L.length), q < k → L[k] = (b : Int) - 1) {x : Nat} (hx : L[q] = (x : Int)) :
    P.numOf b (L.take q ++ ((x : Int) + 1) :: List.replicate (L.length - (q + 1)) 0) = P.numOf b L + 1 := by
  have hdrop : L.drop (q + 1) = List.replicate (L.length - (q + 1)) ((b : Int) - 1) := by
    rw [List.eq_replicate_iff]
    refine ⟨by simp, fun y hy => ?_⟩
    obtain ⟨k, hk, rfl⟩ := List.getElem_of_mem hy
    rw [List.getElem_drop]
    exact ht _ _ (by omega)
  have hL : L = L.take q ++ (x : Int) :: List.replicate (L.length - (q + 1)) ((b : Int) - 1) := by
    rw [← hdrop, ← hx, ← List.drop_eq_getElem_cons hq, List.take_append_drop]
  have e1 : P.numOf b L = P.numFrom b (P.numOf b (L.take q)) ((x : Int) :: List.replicate (L.length - (q + 1)) ((b : Int) - 1)) := by
    rw [← P.numOf_append, ← hL]
  rw [e1, P.numOf_append]
  generalize L.length - (q + 1) = m
  generalize P.numOf b (L.take q) = a
  show P.numFrom b (a * b + ((x : Int) + 1).toNat) (List.replicate m 0) = P.numFrom b (a * b + (x : Int).toNat) (List.replicate m ((b : Int) - 1)) + 1
  rw [P.numFrom_zeros, P.numFrom_tops b hb]
  congr 1

theorem P.next_dg {b : Nat} {L : List Int} {q : Nat} (hd : Dg b L) (hq : q < L.length) {x : Nat} (hx : L[q] = (x : Int)) (hne : x + 1 ≠ b) :
    Dg b (L.take q ++ ((x : Int) + 1) :: List.replicate (L.length - (q + 1)) 0) := Dg.of_mem fun y hy => by
  have h1 := hd q hq
  rcases List.mem_append.1 hy with h | h
  · exact hd.mem (List.mem_of_mem_take h)
  · rcases List.mem_cons.1 h with rfl | h
    · omega
    · have := List.eq_of_mem_replicate h
      omega

theorem P.numOf_lt' {b : Nat} {L : List Int} (hd : Dg b L) : P.numOf b L < b ^ L.length := by
  have := P.numOf_lt b L hd L.length (Nat.le_refl _)
  rwa [List.take_length] at this

set_option maxHeartbeats 2000000 in
set_option maxRecDepth 100000 in
/-- The closure is called with lists of size digits below n; it answers true. -/
theorem codes_any (n size : Nat) (hn2 : 2 ≤ n) (hn5 : n ≤ 5) (hs2 : 2 ≤ size) (hs3 : size ≤ 3) (q1 q2 q3 q4 : Value) (w : World)
    (hcall : ∀ w', Below w.heap.size w w' → ∀ (r : Option Addr) (cr : Nat) (l : List Int), l.length = size → Dg n l → RdI w' r l → size ≤ cr →
      Calls Try.prog 12 #[.slice r size cr, q1, q2, q3, q4] w' fun e w'' => e = .returned (.bool true) ∧ Below w'.heap.size w' w'') :
    Calls Try.prog 11 #[.int .i64 n, .int .i64 size, .func (.func 12) #[] #[q1, q2, q3, q4]] w
      fun e w' => e = .returned (.bool true) ∧ Below w.heap.size w w' := by
  have HC := hid hcall
  clear hcall
  have hmk := run_make_row' (P := Try.prog) 35 3 (.int .i64 0) 8 Try.underlying35 (by kernel_rfl) rfl .i64 .i64 size (by omega) (by omega)
  have hown0 : OwnI (w.alloc (.cells (madeCells #[.int .i64 0] size) 3)) w.heap.size w.heap.size size (List.replicate size 0) := by
    have h1 := World.ownsRow_lit (base := w.heap.size) (e := 3) (size := 1) w (madeCells #[.int .i64 0] size) size (Nat.le_refl _) (by unfold maxLen; omega) (by simp [madeCells])
    rw [toList_madeCells_one] at h1
    unfold OwnI
    rw [List.length_replicate, List.map_replicate]
    exact h1
  have HOWN := hid hown0; clear hown0
  have HB0 := hid ((Below.refl w.heap.size w).alloc (Nat.le_refl _) (.cells (madeCells #[.int .i64 0] size) 3))
  have HD0 : Hid (Dg n (List.replicate size (0 : Int))) := hid (Dg.of_mem fun x hx => by have := List.eq_of_mem_replicate hx; omega)
  go_enter Try.func11, Try.ntmps11
  go_wp2
  go_loopg [8] (n ^ size) (fun gh _ wr => ∃ L : List Int, L.length = size ∧ Dg n L ∧ OwnI wr w.heap.size w.heap.size size L ∧ Below w.heap.size w wr ∧ gh + P.numOf n L = n ^ size)
  case atStart => exact ⟨List.replicate size 0, by simp, HD0.out, HOWN.out, HB0.out, by rw [show P.numOf n (List.replicate size 0) = 0 from by have := P.numFrom_zeros n size 0; rw [Nat.zero_mul] at this; exact this]; omega⟩
  case round =>
    clear HOWN HB0 HD0
    obtain ⟨L, hL, hd, hown, hb, hgh⟩ := hrel
    have HO := hid hown
    have HB := hid hb
    have HDG := hid hd
    have hle := P.numOf_lt' hd
    rw [hL] at hle
    have HGH := hid hgh
    have HLT := hid hle
    clear hown hb hgh hle
    have HC1 := hid (HC.out wr HB.out (some ⟨w.heap.size, 0, none⟩) size L hL hd HO.out.rd (Nat.le_refl _))
    clear hd
    go_wp2_with fail
    refine HC1.out.mono ?_
    rintro e w1 ⟨rfl, hb1⟩
    have HO1 := hid (HO.out.stays hb1)
    have HB1 := hid (HB.out.trans (hb1.mono HB.out.size))
    clear hb1 HO HB HC1
    go_wp2_with fail
    go_loopw [8] (fun i wr => ∃ (q : Nat) (y : Int), q ≤ size ∧ y + 1 = q ∧ i = .int .i64 y ∧ OwnI wr w.heap.size w.heap.size size (P.struck L q) ∧ Below w.heap.size w wr ∧ ∀ k (hk : k < L.length), q ≤ k → L[k] = (n : Int) - 1) (fun i _ => (intOf i + 1).toNat)
    case atStart => exact ⟨size, (size : Int) - 1, Nat.le_refl _, by omega, rfl, by rw [← hL, P.struck_all, hL]; exact HO1.out, HB1.out, fun k hk h => by omega⟩
    case round =>
      obtain ⟨q, y, hq, hy, rfl, hown, hb, htop⟩ := hrel
      have HO := hid hown
      have HB := hid hb
      have HTOP := hid htop
      clear hown hb htop HO1 HB1
      cases q with
      | zero =>
        have hy' : y = -1 := by omega
        subst hy'
        clear hy
        go_wp2
        go_ret
        exact ⟨rfl, HB.out⟩
      | succ q =>
        have hy' : y = (q : Int) := by omega
        subst hy'
        have hqL : q < L.length := by omega
        have hdq := HDG.out q hqL
        obtain ⟨x, hxe⟩ := Int.eq_ofNat_of_zero_le hdq.1
        have hxn : x < n := by omega
        obtain ⟨b', off', he, hcell⟩ := HO.out.rd q (by rw [P.struck_length L (by omega)]; omega)
        simp only [Option.some.injEq, Addr.mk.injEq, and_true] at he
        obtain ⟨rfl, rfl⟩ := he
        have hv : (P.struck L (q + 1))[q]'(by rw [P.struck_length L (by omega)]; omega) = (x : Int) := by
          have := P.struck_at L (q := q + 1) (k := q) (by omega) (by omega)
          rw [List.getElem?_eq_getElem (by rw [P.struck_length L (by omega)]; omega), List.getElem?_eq_getElem hqL, hxe] at this
          exact Option.some.inj this
        rw [Nat.zero_add, hv] at hcell
        have hfr := World.ownsRow.frozenAt HO.out q
        have hi1 : (0 : Int) ≤ (q : Int) ∧ (q : Int) < (size : Int) := by omega
        have HXE := hid hxe
        clear hv hdq hy hxe
        by_cases hx : x + 1 = n
        · have hx1 : (n : Int) - 1 = (x : Int) := by omega
          have t_x : ((x : Int) == (x : Int)) = true := by simp
          have HXN := hid hx
          clear hx
          go_wp2
          go_roundw
          case rel => exact ⟨q, (q : Int) - 1, by omega, by omega, rfl, by rw [← P.struck_step L hqL]; exact HO.out.set q 0, HB.out.setCell (p := ⟨w.heap.size, q, none⟩) (Nat.le_refl _) _, fun k hk h => by
            by_cases e : k = q
            · subst e; rw [HXE.out]; have := HXN.out; omega
            · exact HTOP.out k hk (by omega)⟩
          case measure => simp [intOf]
        · have hx1 : ¬ (x : Int) = (n : Int) - 1 := by omega
          have t_x : ((x : Int) == (n : Int) - 1) = false := by simpa using hx1
          have HX := hid hx
          clear hx
          have HNEW : Hid (OwnI (wr.setCell ⟨w.heap.size, q, none⟩ (.int .i64 ((x : Int) + 1))) w.heap.size w.heap.size size (L.take q ++ ((x : Int) + 1) :: List.replicate (L.length - (q + 1)) 0)) := hid (by rw [← P.struck_set L hqL]; exact HO.out.set q _)
          have HNUM := hid (P.next_num (by omega) hqL (fun k hk h => HTOP.out k hk (by omega)) HXE.out (b := n))
          have HNDG := hid (P.next_dg HDG.out hqL HXE.out (by have := HX.out; omega))
          have HBN := hid (HB.out.setCell (p := ⟨w.heap.size, q, none⟩) (Nat.le_refl _) (.int .i64 ((x : Int) + 1)))
          go_wp2
          go_roundg (gk - 1)
          case measure => have := HGH.out; have := HLT.out; omega
          case rel => exact ⟨_, by simp; omega, HNDG.out, HNEW.out, HBN.out, by have h1 := HGH.out; have h2 := HLT.out; rw [HNUM.out]; omega⟩

end Go.Proofs.Ytlpdlnefgjmgmaa
