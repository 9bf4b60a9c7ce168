/- The walk of the law RackNeeded. -/
import Derived.Test.YtmbfpekcfeeifaaKMot
import Derived.Test.YtmbfpekcfeeifaaKRNdd
import Derived.Deep.DeepCutAuto
import Derived.Deep.RegionHeld3
namespace Go.Proofs.Ytmbfpekcfeeifaa
open Go.RowKit Ev

/-- Stiff without a brace, by all small motions. -/
theorem K.Ok.rgi {m n : Nat} {bs : List Br} (h : K.Ok m n bs) {i : Nat} (hi : i < bs.length) : K.rgk (m + n) m bs (i : Int) (3 ^ (m + n)) = decide ((K.gsv m n (K.wo bs i)).length = 1) := by
  have h1 := h.m1
  have hbt : K.bt bs (i : Int) = K.wo bs i := by unfold K.bt; rw [if_neg (by omega), Int.toNat_natCast]
  have hck : K.chk m n (K.wo bs i) = 0 := K.chk_wo h.chk hi
  have hst : K.stf m n (K.wo bs i) = decide ((K.gsv m n (K.wo bs i)).length = 1) := by unfold K.stf; rw [if_pos hck]; rfl
  rw [← hst, Bool.eq_iff_iff, K.stf_iff hck (by omega), K.rg_iff (by omega) (by rw [hbt]; exact fun b hb => h.inb b (K.wo_sub hb)) (by rw [hbt]; exact fun b hb => h.kind b (K.wo_sub hb)) (.inr ⟨by omega, by omega⟩), hbt]
/-- A brace is needed. -/
noncomputable def K.ne (m n : Nat) (bs : List Br) (i : Nat) : Bool := !decide ((K.gsv m n (K.wo bs i)).length = 1)
theorem K.nd_succ (m n : Nat) (bs : List Br) (i : Nat) : K.nd m n bs (i + 1) = if K.ne m n bs i = true then K.nd m n bs i ++ [(i : Int)] else K.nd m n bs i := by
  unfold K.ne
  conv => lhs; unfold K.nd
  by_cases e : (K.gsv m n (K.wo bs i)).length = 1
  · rw [if_pos e, if_neg (by rw [decide_eq_true e]; simp)]
  · rw [if_neg e, if_pos (by rw [decide_eq_false e]; rfl)]
theorem K.nd_split (m n : Nat) (bs : List Br) (i : Nat) : ∀ d, ∃ R, K.nd m n bs (i + d) = K.nd m n bs i ++ R ∧ ∀ x ∈ R, (i : Int) ≤ x
  | 0 => ⟨[], by simp, fun x hx => by cases hx⟩
  | d + 1 => by
    obtain ⟨R, h1, h2⟩ := K.nd_split m n bs i d
    rw [← Nat.add_assoc, K.nd_succ]
    split
    · refine ⟨R ++ [((i + d : Nat) : Int)], by rw [h1, List.append_assoc], fun x hx => ?_⟩
      rcases List.mem_append.1 hx with hx | hx
      · exact h2 x hx
      · have := List.mem_singleton.1 hx; omega
    · exact ⟨R, h1, h2⟩
/-- Where a brace stands in the list of those that are needed. -/
theorem K.nd_at {m n : Nat} {bs : List Br} {i : Nat} (hi : i < bs.length) : ∀ L, L = K.nd m n bs bs.length →
    (K.ne m n bs i = true → ∃ h : (K.nd m n bs i).length < L.length, L[(K.nd m n bs i).length] = (i : Int)) ∧ (K.ne m n bs i = false → ∀ h : (K.nd m n bs i).length < L.length, L[(K.nd m n bs i).length] ≠ (i : Int)) := by
  intro L hL
  obtain ⟨R, h1, h2⟩ := K.nd_split m n bs (i + 1) (bs.length - (i + 1))
  rw [show i + 1 + (bs.length - (i + 1)) = bs.length by omega, ← hL] at h1
  have hs := K.nd_succ m n bs i
  constructor
  · intro hn
    rw [if_pos hn] at hs
    rw [hs] at h1
    have hlt : (K.nd m n bs i).length < L.length := by rw [h1]; simp
    refine ⟨hlt, ?_⟩
    have : L[(K.nd m n bs i).length]? = some (i : Int) := by rw [h1]; simp
    rw [List.getElem?_eq_getElem hlt] at this
    exact Option.some.inj this
  · intro hn hlt he
    rw [if_neg (by rw [hn]; simp)] at hs
    rw [hs] at h1
    have hm : L[(K.nd m n bs i).length] ∈ R := by
      have hlR : 0 < R.length := by rw [h1, List.length_append] at hlt; omega
      have : L[(K.nd m n bs i).length]? = R[0]? := by rw [h1, List.getElem?_append_right (Nat.le_refl _), Nat.sub_self]
      rw [List.getElem?_eq_getElem hlt, List.getElem?_eq_getElem hlR] at this
      rw [Option.some.inj this]
      exact List.getElem_mem hlR
    have := h2 _ hm
    omega
/-- A rack in a new variable: without a brace. -/
def K.Lss (w : World) (m n : Nat) (bs : List Br) (v : Value) (wx : World) : Prop := ∃ g a c, v = .pointer (some ⟨g, 0, none⟩) ∧ wx.rowIs g 24 3 (K.rkF m n (.slice a bs.length c)) ∧ RdB wx a bs ∧ Below w.heap.size w wx

theorem K.bsame {B : Nat} {w a b : World} (h : Below B w b) (h1 : a.heap = b.heap) (h2 : a.os = b.os) (h3 : a.tape = b.tape) (h4 : a.output = b.output) : Below B w a :=
  ⟨h2.trans h.os, h3.trans h.tape, h4.trans h.output, by rw [h1]; exact h.size, fun k hk => by rw [h1]; exact h.block k hk⟩
/-- The first append's facts. -/
theorem K.armP {w W : World} {B b off k : Nat} {bs : List Br} (hk : k < bs.length) (h60 : bs.length ≤ 60) (hr : RdB W (some ⟨b, off, none⟩) bs) (hb : Below w.heap.size w W) (hB : w.heap.size ≤ B) (hW : W.heap[B]? = some (.cells #[] 63)) :
    W.ownsRow w.heap.size 63 3 (.slice (some ⟨B, 0, none⟩) 0 0) 0 [] ∧ (brCells (bs.take k)).length = k * 3 ∧ (∀ j u, (brCells (bs.take k))[j]? = some u → W.cell? (Addr.add ⟨b, off, none⟩ j) = some u) ∧ (∀ u ∈ brCells (bs.take k), u.oneCell' = true) ∧ 0 + k ≤ 1000 ∧ w.heap.size ≤ W.heap.size :=
  ⟨⟨rfl, Or.inr ⟨B, 0, #[], rfl, hB, hW, Nat.le_refl _, Nat.zero_le _, rfl, rfl⟩⟩, by rw [brCells_len, List.length_take]; congr 1; omega, (hr.take k).cells, brCells_one _, by omega, hb.size⟩
/-- The second append's facts. -/
theorem K.armQ {w W : World} {b off k : Nat} {bs : List Br} {v1 : Value} (hk : k < bs.length) (h60 : bs.length ≤ 60) (hr : RdB W (some ⟨b, off, none⟩) (bs.drop (k + 1))) (hb : Below w.heap.size w W) (ho : W.ownsRow w.heap.size 63 3 v1 (0 + k) ([] ++ brCells (bs.take k))) :
    W.ownsRow w.heap.size 63 3 v1 (0 + k) ([] ++ brCells (bs.take k)) ∧ (brCells (bs.drop (k + 1))).length = (bs.length - (k + 1)) * 3 ∧ (∀ j u, (brCells (bs.drop (k + 1)))[j]? = some u → W.cell? (Addr.add ⟨b, off, none⟩ j) = some u) ∧ (∀ u ∈ brCells (bs.drop (k + 1)), u.oneCell' = true) ∧ 0 + k + (bs.length - (k + 1)) ≤ 1000 ∧ w.heap.size ≤ W.heap.size :=
  ⟨ho, by rw [brCells_len, List.length_drop], hr.cells, brCells_one _, by omega, hb.size⟩
/-- A new box for a rack, beside a row. -/
def K.Bx (w W : World) (g : Nat) (v : Value) : Prop := W.rowIs g 24 3 (K.rkF 0 0 (.slice none 0 0)) ∧ w.heap.size ≤ g ∧ v.ownBlock ≠ some g
theorem K.Bx.go {w W wa : World} {g : Nat} {v v1 : Value} (h : K.Bx w W g v) (hg : W.grownBy wa v.ownBlock) (h3 : v1.ownBlock = v.ownBlock ∨ v1.ownBlock = some W.heap.size) : K.Bx w wa g v1 :=
  ⟨row_grown h.1 hg h.2.2, h.2.1, by
    rcases h3 with h3 | h3
    · rw [h3]; exact h.2.2
    · rw [h3]; intro e; have := h.1.lt; have := Option.some.inj e; omega⟩
theorem K.Bx.go2 {w W W2 wa : World} {g : Nat} {v v1 : Value} (h : K.Bx w W g v) (hg : W2.grownBy wa v.ownBlock) (h3 : v1.ownBlock = v.ownBlock ∨ v1.ownBlock = some W2.heap.size) (he : W2.heap = W.heap) (_ : v = v) : K.Bx w wa g v1 :=
  K.Bx.go (W := W2) ⟨h.1.of_block (by rw [he]), h.2.1, h.2.2⟩ hg h3
theorem K.bx_new (w W : World) (v : Value) (hw : w.heap.size ≤ W.heap.size) (hv : ∀ q, v.ownBlock = some q → q < W.heap.size) : K.Bx w (W.alloc (.cells #[.int .i64 0, .int .i64 0, .slice none 0 0] 24)) W.heap.size v :=
  ⟨World.rowIs_alloc W #[.int .i64 0, .int .i64 0, .slice none 0 0] 24 (K.rkF 0 0 (.slice none 0 0)) (fun i hi => by
    have h : i < 3 := hi
    have h2 : i = 0 ∨ i = 1 ∨ i = 2 := by omega
    rcases h2 with rfl | rfl | rfl <;> rfl), hw, fun e => by have := hv _ e; omega⟩
/-- What the two appends made: the rack's braces but one. -/
theorem K.wo_row {w wb : World} {k : Nat} {bs : List Br} {v : Value} (hk : k < bs.length) (h : wb.ownsRow w.heap.size 63 3 v (0 + k + (bs.length - (k + 1))) (([] ++ brCells (bs.take k)) ++ brCells (bs.drop (k + 1)))) : RowB wb w.heap.size v (K.wo bs k) := by
  unfold RowB
  rw [show (K.wo bs k).length = 0 + k + (bs.length - (k + 1)) by have := K.wo_len hk; omega]
  unfold K.wo
  rw [brCells_app]
  exact h
theorem RowB.setO {w : World} {lo g o : Nat} {v u : Value} {bs : List Br} (h : RowB w lo v bs) (hne : v.ownBlock ≠ some g) : RowB (w.setCell ⟨g, o, none⟩ u) lo v bs :=
  World.ownsRow.kept h (grown_set _ _ _) (.inr hne)
/-- The store into the box. -/
theorem K.lss_set {w wb : World} {m n g : Nat} {v : Value} {bs : List Br} (hB : Below w.heap.size w wb) (hx : K.Bx w wb g v) (hr : RowB wb w.heap.size v bs) :
    K.Lss w m n bs (.pointer (some ⟨g, 0, none⟩)) (((wb.setCell ⟨g, 0, none⟩ (.int .i64 m)).setCell ⟨g, 1, none⟩ (.int .i64 n)).setCell ⟨g, 2, none⟩ v) := by
  have hr2 := ((hr.setO (o := 0) (u := .int .i64 m) hx.2.2).setO (o := 1) (u := .int .i64 n) hx.2.2).setO (o := 2) (u := v) hx.2.2
  obtain ⟨a, c, rfl, hrd⟩ := hr2.rd
  exact ⟨g, a, c, rfl, rkF_put (m := m) (n := n) hx.1, hrd, ((hB.setCell (p := ⟨g, 0, none⟩) hx.2.1 _).setCell (p := ⟨g, 1, none⟩) hx.2.1 _).setCell (p := ⟨g, 2, none⟩) hx.2.1 _⟩

/-- The box made last. -/
theorem K.lss_alloc {w wb : World} {m n : Nat} {v : Value} {bs : List Br} (hB : Below w.heap.size w wb) (hr : RowB wb w.heap.size v bs) :
    K.Lss w m n bs (.pointer (some ⟨wb.heap.size, 0, none⟩)) (wb.alloc (.cells #[.int .i64 (m : Int), .int .i64 (n : Int), v] 24)) := by
  have hr2 : RowB (wb.alloc (.cells #[.int .i64 (m : Int), .int .i64 (n : Int), v] 24)) w.heap.size v bs := World.ownsRow.alloc hr _
  obtain ⟨a, c, rfl, hrd⟩ := hr2.rd
  exact ⟨_, a, c, rfl, World.rowIs_alloc wb #[.int .i64 (m : Int), .int .i64 (n : Int), .slice a bs.length c] 24 _ (fun i hi => by
    have h : i < 3 := hi
    have h2 : i = 0 ∨ i = 1 ∨ i = 2 := by omega
    rcases h2 with rfl | rfl | rfl <;> rfl), hrd, hB.alloc hB.size _⟩

set_option maxHeartbeats 8000000 in
set_option maxRecDepth 100000 in
theorem rackNeeded_walk (r0 c0 : Nat) (a : Option Addr) (cap : Nat) (T : List (Nat × Nat × Nat)) (w : World) (hr : r0 < 256) (hc : c0 < 256) (hmT : T.length ≤ maxLen) (hR : RdT w a T) (h8 : ∀ t ∈ T, t.1 < 256 ∧ t.2.1 < 256 ∧ t.2.2 < 256) :
    Calls Try.prog 9 #[K.shv r0 c0 a T.length cap] w fun e w' => e = .returned (.bool true) ∧ Below w.heap.size w w' := by
  have hb0 : Below w.heap.size w (w.alloc (.cells #[.int .u8 (r0 : Int), .int .u8 (c0 : Int), .slice a T.length cap] 72)) := (Below.refl _ _).alloc (Nat.le_refl _) _
  have HB0 := hid hb0
  have HMD := hid (made_any true r0 c0 a cap T _ hr hc hmT (hR.stays hb0) h8)
  have hm3 : 1 ≤ r0 % 3 + 1 ∧ r0 % 3 + 1 ≤ 3 := by have := Nat.mod_lt r0 (show 0 < 3 by decide); omega
  have hn3 : 1 ≤ c0 % 3 + 1 ∧ c0 % 3 + 1 ≤ 3 := by have := Nat.mod_lt c0 (show 0 < 3 by decide); omega
  have HOK := hid (K.mbs_ok true hm3 hn3 T)
  have hlen := K.mbs_len true (r0 % 3 + 1) (c0 % 3 + 1) T
  have HWK := hid works_gives
  unfold K.Gvn at HMD
  clear hb0 hR h8
  generalize r0 % 3 + 1 = m at *
  generalize c0 % 3 + 1 = n at *
  generalize K.mbs true m n T = bs at *
  have HCK : Hid (K.chk m n bs = 0) := hid HOK.out.chk
  have hmx : bs.length ≤ maxLen := by unfold maxLen; omega
  have HND := hid (fun a9 c9 W h1 h2 hx => needed_any m n a9 c9 bs W h1 h2 hx)
  have HRG := hid (fun but a9 c9 W hx => rigid_any m n a9 c9 bs but W (by omega) hx HOK.out.inb HOK.out.kind (by omega) (by omega))
  have HRI := hid (fun (i : Nat) (hi : i < bs.length) a9 c9 W hx => rigid_any m n a9 c9 bs (i : Int) W (by omega) hx HOK.out.inb HOK.out.kind (by omega) (by omega))
  have HRE := hid (fun (i : Nat) (hi : i < bs.length) => HOK.out.rgi hi)
  have HSW := hid (fun (i : Nat) (hi : i < bs.length) a9 c9 W hx => stiff_any m n a9 c9 (K.wo bs i) W (by have := K.wo_len hi; unfold maxLen; omega) hx)
  have HSC := hid (fun (i : Nat) (hi : i < bs.length) => show K.chk m n (K.wo bs i) = 0 ∧ K.stf m n (K.wo bs i) = decide ((K.gsv m n (K.wo bs i)).length = 1) from
    ⟨K.chk_wo HCK.out hi, by unfold K.stf; rw [if_pos (K.chk_wo HCK.out hi)]; rfl⟩)
  have HNA := hid (fun (i : Nat) (hi : i < bs.length) => K.nd_at (m := m) (n := n) hi _ rfl)
  have HNS := hid (fun (i : Nat) => K.nd_succ m n bs i)
  have HNL := hid (fun (i : Nat) => K.nd_len m n bs i)
  have HDE : Hid (K.ndl m n bs = (if K.stf m n bs = true then K.nd m n bs bs.length else []) ∧ K.nde m n bs = (if K.stf m n bs = true then 0 else 22)) := hid (by unfold K.ndl K.nde; rw [if_pos HCK.out, if_pos HCK.out]; exact ⟨rfl, rfl⟩)
  have HRS := hid HOK.out.rg
  unfold K.LsE at HND
  unfold K.rk at HMD HND HRG HRI HSW
  unfold K.shv
  clear HOK hmx
  go_enter Try.func9, Try.ntmps9
  go_wp2_with fail
  refine HMD.out.mono ?_
  rintro e w1 ⟨a9, c9, rfl, h91, h92, hr9, hb⟩
  have HB1 := hid (HB0.out.trans (hb.mono HB0.out.size))
  have hal : Below w1.heap.size w1 (w1.alloc (.cells #[.int .i64 (m : Int), .int .i64 (n : Int), .slice a9 bs.length c9] 24)) := (Below.refl _ _).alloc (Nat.le_refl _) _
  have HR2 := hid (hr9.stays hal)
  have HB2 := hid (HB1.out.trans (hal.mono HB1.out.size))
  have HZ2 : Hid ((w1.alloc (.cells #[.int .i64 (m : Int), .int .i64 (n : Int), .slice a9 bs.length c9] 24)).rowIs w1.heap.size 24 3 (K.rkF m n (.slice a9 bs.length c9))) := hid (World.rowIs_alloc w1 #[.int .i64 (m : Int), .int .i64 (n : Int), .slice a9 bs.length c9] 24 _ (fun i hi => by
    have h : i < 3 := hi
    have h2 : i = 0 ∨ i = 1 ∨ i = 2 := by omega
    rcases h2 with rfl | rfl | rfl <;> rfl))
  have HC1 := hid (show bs.length ≤ c9 ∧ c9 ≤ maxLen from ⟨h91, h92⟩)
  clear hb hr9 h91 h92 hal HMD HB0 HB1
  go_wp2_with fail
  generalize w1.alloc (.cells #[.int .i64 (m : Int), .int .i64 (n : Int), .slice a9 bs.length c9] 24) = w2 at *
  generalize w1.heap.size = gv at *
  clear w1
  refine (HND.out _ _ w2 HC1.out.1 HC1.out.2 HR2.out).mono ?_
  rintro e w3 ⟨rl, sl, rfl, hrl, hb⟩
  have HZ3 := hid (HZ2.out.of_block (hb.block _ HZ2.out.lt))
  have HR3 := hid (HR2.out.stays hb)
  have HB3 := hid (HB2.out.trans (hb.mono HB2.out.size))
  have HL3 := hid hrl
  have k0 : w3.cell? ⟨gv, 0, none⟩ = some (.int .i64 (m : Int)) := HZ3.out.cell (i := 0) (by omega)
  have k1 : w3.cell? ⟨gv, 1, none⟩ = some (.int .i64 (n : Int)) := HZ3.out.cell (i := 1) (by omega)
  have k2 : w3.cell? ⟨gv, 2, none⟩ = some (.slice a9 bs.length c9) := HZ3.out.cell (i := 2) (by omega)
  clear hb HZ2 HR2 HB2 HND hrl
  have HRG3 := hid (HRG.out (-1) a9 c9 w3 HR3.out)
  rw [HRS.out] at HRG3
  rw [HDE.out.1] at HL3 ⊢
  rw [HDE.out.2]
  clear HDE HRS HRG
  cases hst : K.stf m n bs with
  | false =>
    rw [hst] at HRG3
    rw [hst] at HL3
    simp only [Bool.false_eq_true, if_false] at HL3 ⊢
    clear hst
    go_wp2_with fail
    refine HRG3.out.mono ?_
    rintro e w4 ⟨rfl, hb⟩
    have HB4 := hid (HB3.out.trans (hb.mono HB3.out.size))
    clear hb
    go_wp2_with fail
    refine (HWK.out _).mono ?_
    rintro e w5 ⟨rfl, hb⟩
    have HB5 := hid (HB4.out.trans (hb.mono HB4.out.size))
    clear hb
    go_wp2
    go_ret
    exact ⟨rfl, HB5.out⟩
  | true =>
    rw [hst] at HRG3
    rw [hst] at HL3
    simp only [if_true] at HL3 ⊢
    clear hst
    generalize hnd : K.nd m n bs bs.length = L at *
    have HNN := hid hnd
    clear hnd
    go_wp2_with fail
    refine HRG3.out.mono ?_
    rintro e w4 ⟨rfl, hb⟩
    have HZ4 := hid (HZ3.out.of_block (hb.block _ HZ3.out.lt))
    have HR4 := hid (HR3.out.stays hb)
    have HB4 := hid (HB3.out.trans (hb.mono HB3.out.size))
    have HL4 := hid (HL3.out.stays2 hb)
    have j2 : w4.cell? ⟨gv, 2, none⟩ = some (.slice a9 bs.length c9) := HZ4.out.cell (i := 2) (by omega)
    clear hb HZ3 HR3 HB3 HL3 HRG3 k0 k1 k2
    go_wp2
    clear j2
    go_loopw [6, 35] (fun c i wr => ∃ k : Nat, k ≤ bs.length ∧ i = .int .i64 k ∧ c = .int .i64 ((K.nd m n bs k).length : Int) ∧ Below w4.heap.size w4 wr) (fun _ i _ => bs.length - (intOf i).toNat)
    case atStart => exact ⟨0, Nat.zero_le _, rfl, rfl, Below.refl _ _⟩
    case round =>
      obtain ⟨k, hk, rfl, rfl, hb⟩ := hrel
      have HBL := hid hb
      have HZR := hid (HZ4.out.of_block (hb.block _ HZ4.out.lt))
      have HRR := hid (HR4.out.stays hb)
      have HBR := hid (HB4.out.trans (hb.mono HB4.out.size))
      have k0 : wr.cell? ⟨gv, 0, none⟩ = some (.int .i64 (m : Int)) := HZR.out.cell (i := 0) (by omega)
      have k1 : wr.cell? ⟨gv, 1, none⟩ = some (.int .i64 (n : Int)) := HZR.out.cell (i := 1) (by omega)
      have k2 : wr.cell? ⟨gv, 2, none⟩ = some (.slice a9 bs.length c9) := HZR.out.cell (i := 2) (by omega)
      clear hb
      by_cases hlt : k < bs.length
      · have HRG5 := hid (HRI.out k hlt a9 c9 wr HRR.out)
        rw [HRE.out k hlt] at HRG5
        have HSWk := hid (fun a9 c9 W hx => HSW.out k hlt a9 c9 W hx)
        rw [(HSC.out k hlt).1, (HSC.out k hlt).2] at HSWk
        have HNE : Hid (K.ne m n bs k = !decide ((K.gsv m n (K.wo bs k)).length = 1)) := hid rfl
        have HAT := hid (HNA.out k hlt)
        have HNX := hid (HNS.out k)
        have hcl := HNL.out k
        have hcl1 := HNL.out (k + 1)
        generalize decide ((K.gsv m n (K.wo bs k)).length = 1) = d at *
        generalize he1 : K.nd m n bs (k + 1) = nd1 at *
        have HE1 := hid he1
        clear he1
        generalize K.nd m n bs k = nd0 at *
        have hclL : L.length ≤ bs.length := by rw [← HNN.out]; exact HNL.out bs.length
        go_wp2_with fail
        refine HRG5.out.mono ?_
        rintro e w5 ⟨rfl, hb⟩
        have HB5 := hid (HBL.out.trans (hb.mono HBL.out.size))
        have HZ5 := hid (HZR.out.of_block (hb.block _ HZR.out.lt))
        have HR5 := hid (HRR.out.stays hb)
        have HL5 := hid (HL4.out.stays2 HB5.out)
        clear hb k0 k1 k2 HZR HRR HRG5
        go_upto_region 10 with (fail)
        go_cut [55] (fun s55 wx => s55 = .bool false ∧ w5 = wx)
        case first =>
          by_cases hcL : nd0.length < L.length
          · obtain ⟨bl, ol, rfl, cl⟩ := HL5.out _ hcL
            have hix : (0 : Int) ≤ (nd0.length : Int) ∧ (nd0.length : Int) < (L.length : Int) := by omega
            cases d with
            | true =>
              have hx := HAT.out.2 (by rw [HNE.out]; rfl) hcL
              generalize L[nd0.length] = x at *
              have hxe : (x == (k : Int)) = false := by simpa using hx
              clear hx
              go_wp2
              go_meet
              exact ⟨rfl, rfl⟩
            | false =>
              obtain ⟨_, hx⟩ := HAT.out.1 (by rw [HNE.out]; rfl)
              rw [hx] at cl
              clear hx
              go_wp2
              go_meet
              exact ⟨rfl, rfl⟩
          · cases d with
            | true =>
              go_wp2
              go_meet
              exact ⟨rfl, rfl⟩
            | false =>
              obtain ⟨hx, _⟩ := HAT.out.1 (by rw [HNE.out]; rfl)
              exact absurd hx hcL
        case rest =>
          obtain ⟨rfl, rfl⟩ := hcut
          go_upto_if 56 with (fail)
          go_cut [6] (fun s6 wx => s6 = .int .i64 (nd1.length : Int) ∧ w5 = wx)
          case first =>
            cases d with
            | true =>
              have hn : nd1.length = nd0.length := by rw [HNX.out, if_neg (by rw [HNE.out]; simp)]
              have HN := hid hn
              clear hn
              go_wp2
              go_meet
              exact ⟨by rw [HN.out], rfl⟩
            | false =>
              have hn : nd1.length = nd0.length + 1 := by rw [HNX.out, if_pos (by rw [HNE.out]; rfl), List.length_append]; rfl
              have HN := hid hn
              clear hn
              go_wp2
              go_meet
              exact ⟨by rw [HN.out]; go_num, rfl⟩
          case rest =>
            obtain ⟨rfl, rfl⟩ := hcut
            go_upto_region 14 with (fail)
            go_cut [9] (fun s9 wx => K.Lss w5 m n (K.wo bs k) s9 wx)
            case first =>
              obtain ⟨b, off, rfl, _, _, _⟩ := HR5.out k hlt
              obtain ⟨i0, hi, hz0, hz1, hz2⟩ := info_parts (show (Try.prog.info? 63).map (fun i => (i.zero, i.size, i.bytes)) = some (some (.agg #[.int .i64 0, .int .i64 0, .int .i64 0]), 3, 24) by kernel_rfl)
              obtain ⟨hc1, hc2⟩ := HC1.out
              unfold maxLen at hc2
              have h1 : (0 : Int) ≤ (k : Int) ∧ (k : Int) ≤ (c9 : Int) := by omega
              have h2 : IntKind.i64.wrap ((k : Int) + 1) = ((k + 1 : Nat) : Int) := by rw [IntWalk.i64_in _ (by omega)]; rfl
              have h3 : (0 : Int) ≤ ((k + 1 : Nat) : Int) ∧ ((k + 1 : Nat) : Int) ≤ (bs.length : Int) ∧ (bs.length : Int) ≤ (c9 : Int) := by omega
              have h4 : ¬ c9 = 0 := by omega
              have h5 : (0 : Int) ≤ (k : Int) + 1 ∧ (k : Int) + 1 ≤ (bs.length : Int) ∧ (k : Int) + 1 ≤ (c9 : Int) ∧ (bs.length : Int) ≤ (c9 : Int) := by omega
              have h6 : IntKind.i64.wrap ((k : Int) + 1) = (k : Int) + 1 := IntWalk.i64_in _ (by omega)
              have HCS := hid (fun W (hW : Below w5.heap.size w5 W) => (show W.cell? ⟨gv, 0, none⟩ = some (.int .i64 (m : Int)) ∧ W.cell? ⟨gv, 1, none⟩ = some (.int .i64 (n : Int)) ∧ W.cell? ⟨gv, 2, none⟩ = some (.slice (some ⟨b, off, none⟩) bs.length c9) from
                have hz := HZ5.out.of_block (hW.block _ HZ5.out.lt)
                ⟨hz.cell (i := 0) (by omega), hz.cell (i := 1) (by omega), hz.cell (i := 2) (by omega)⟩))
              have HPA := hid (fun (W : World) (B : Nat) (hb : Below w5.heap.size w5 W) (hB : w5.heap.size ≤ B) (hW : W.heap[B]? = some (.cells #[] 63)) => K.armP hlt (by omega) (HR5.out.stays hb) hb hB hW)
              have HU0 : Hid (Below w5.heap.size w5 (w5.alloc (.cells #[.int .i64 0, .int .i64 0, .slice none 0 0] 24))) := hid ((Below.refl _ _).alloc (Nat.le_refl _) _)
              have HU1 : Hid (Below w5.heap.size w5 (w5.alloc (.cells #[] 63))) := hid ((Below.refl _ _).alloc (Nat.le_refl _) _)
              have HU2 : Hid (Below w5.heap.size w5 ((w5.alloc (.cells #[.int .i64 0, .int .i64 0, .slice none 0 0] 24)).alloc (.cells #[] 63))) := hid (HU0.out.alloc HU0.out.size _)
              have HU3 : Hid (Below w5.heap.size w5 ((w5.alloc (.cells #[] 63)).alloc (.cells #[.int .i64 0, .int .i64 0, .slice none 0 0] 24))) := hid (HU1.out.alloc HU1.out.size _)
              have hz0s : (w5.alloc (.cells #[.int .i64 0, .int .i64 0, .slice none 0 0] 24)).heap.size = w5.heap.size + 1 := by simp
              have hz1s : (w5.alloc (.cells #[] 63)).heap.size = w5.heap.size + 1 := by simp
              have HF1 : Hid ((w5.alloc (.cells #[] 63)).heap[w5.heap.size]? = some (.cells #[] 63)) := hid (Go.Deep.blk_alloc_new _ _)
              have HF2 : Hid (((w5.alloc (.cells #[.int .i64 0, .int .i64 0, .slice none 0 0] 24)).alloc (.cells #[] 63)).heap[w5.heap.size + 1]? = some (.cells #[] 63)) := hid (by rw [← hz0s]; exact Go.Deep.blk_alloc_new _ _)
              have HF3 : Hid (((w5.alloc (.cells #[] 63)).alloc (.cells #[.int .i64 0, .int .i64 0, .slice none 0 0] 24)).heap[w5.heap.size]? = some (.cells #[] 63)) := hid (by rw [Go.Deep.blk_alloc_lt _ _ _ (by rw [hz1s]; omega)]; exact HF1.out)
              have HX2 : Hid (K.Bx w5 ((w5.alloc (.cells #[.int .i64 0, .int .i64 0, .slice none 0 0] 24)).alloc (.cells #[] 63)) w5.heap.size (.slice (some ⟨w5.heap.size + 1, 0, none⟩) 0 0)) := hid (have h := K.bx_new w5 w5 (.slice none 0 0) (Nat.le_refl _) (fun q hq => by cases hq); ⟨h.1.alloc _, h.2.1, fun e => by have e2 : w5.heap.size + 1 = w5.heap.size := Option.some.inj e; omega⟩)
              have HX3 : Hid (K.Bx w5 ((w5.alloc (.cells #[] 63)).alloc (.cells #[.int .i64 0, .int .i64 0, .slice none 0 0] 24)) (w5.heap.size + 1) (.slice (some ⟨w5.heap.size, 0, none⟩) 0 0)) := hid (by rw [← hz1s]; exact K.bx_new w5 (w5.alloc (.cells #[] 63)) _ HU1.out.size (fun q hq => by cases hq; show w5.heap.size < _; rw [hz1s]; omega))
              have g0 : w5.heap.size ≤ w5.heap.size := Nat.le_refl _
              have g1 : w5.heap.size ≤ w5.heap.size + 1 := Nat.le_succ _
              clear hz0s hz1s
              clear HRI HRE HSW HSC HNS HNL HNA HNN HSWk HNE HE1 HAT HBL HBR HB4 HL4 HL5 HB5 HWK HCK
              have q0 := HCS.out w5 (Below.refl _ _)
              by_cases hcap : c9 = k + 1
              · have hE : (c9 = k + 1) = True := eq_true hcap
                have HQA := hid (fun (W : World) (v1 : Value) (hb : Below w5.heap.size w5 W) (ho : W.ownsRow w5.heap.size 63 3 v1 (0 + k) ([] ++ brCells (bs.take k))) => K.armQ (b := b) (off := off) hlt (by omega) (fun i hi => by rw [show bs.drop (k + 1) = [] from List.drop_eq_nil_iff.2 (by omega)] at hi; exact absurd hi (Nat.not_lt_zero _)) hb (v1 := v1) ho)
                clear hcap
                go_region_held3 (fun W => W.cell? ⟨gv, 0, none⟩ = some (.int .i64 (m : Int)) ∧ W.cell? ⟨gv, 1, none⟩ = some (.int .i64 (n : Int)) ∧ W.cell? ⟨gv, 2, none⟩ = some (.slice (some ⟨b, off, none⟩) bs.length c9)) (first | exact HCS.out _ (K.bsame (Below.refl _ _) rfl rfl rfl rfl) | exact HCS.out _ (K.bsame hb8.out rfl rfl rfl rfl) | exact HCS.out _ (K.bsame hb7.out rfl rfl rfl rfl) | exact HCS.out _ (K.bsame hb6.out rfl rfl rfl rfl) | exact HCS.out _ (K.bsame hb5.out rfl rfl rfl rfl) | exact HCS.out _ (K.bsame hb4.out rfl rfl rfl rfl) | exact HCS.out _ (K.bsame HU3.out rfl rfl rfl rfl) | exact HCS.out _ (K.bsame HU2.out rfl rfl rfl rfl) | exact HCS.out _ (K.bsame HU1.out rfl rfl rfl rfl) | exact HCS.out _ (K.bsame HU0.out rfl rfl rfl rfl) | go_keep) (first | (refine step_append_n rfl (.tmp 63) (.tmp 67) 22 (by rfl) 63 i0 (.agg #[.int .i64 0, .int .i64 0, .int .i64 0]) 3 Try.underlying22 hi hz0 hz1 (by rw [hz2]; decide) rfl (by decide) w5.heap.size (.slice (some ⟨w5.heap.size, 0, none⟩) 0 0) 0 [] (by simp [Act.eval]) ⟨b, off, none⟩ k c9 (brCells (bs.take k)) (by simp [Act.eval]) (HPA.out _ _ (K.bsame HU1.out rfl rfl rfl rfl) g0 (by exact HF1.out)) ?_; intro v1 wa hw1 hg1 h31; have hb4 := hid (Below.grown (show Below w5.heap.size w5 _ by exact K.bsame HU1.out rfl rfl rfl rfl) hg1 (by exact HU1.out.size) (fun q hq => by cases hq; exact g0)); have ho1 := hid hw1; have hb5 := hid (hb4.out.alloc hb4.out.size (.cells #[.int .i64 0, .int .i64 0, .slice none 0 0] 24)); have ho5 := hid (World.ownsRow.alloc hw1 (.cells #[.int .i64 0, .int .i64 0, .slice none 0 0] 24)); have hbx5 := hid (K.bx_new w5 wa v1 hb4.out.size (fun q hq => (World.ownsRow.lt hw1 q hq).2)); clear hw1 hg1 h31) | (refine step_append_n rfl (.tmp 63) (.tmp 67) 22 (by rfl) 63 i0 (.agg #[.int .i64 0, .int .i64 0, .int .i64 0]) 3 Try.underlying22 hi hz0 hz1 (by rw [hz2]; decide) rfl (by decide) w5.heap.size (.slice (some ⟨w5.heap.size + 1, 0, none⟩) 0 0) 0 [] (by simp [Act.eval]) ⟨b, off, none⟩ k c9 (brCells (bs.take k)) (by simp [Act.eval]) (HPA.out _ _ (K.bsame HU2.out rfl rfl rfl rfl) g1 (by exact HF2.out)) ?_; intro v1 wa hw1 hg1 h31; have hb4 := hid (Below.grown (show Below w5.heap.size w5 _ by exact K.bsame HU2.out rfl rfl rfl rfl) hg1 (by exact HU2.out.size) (fun q hq => by cases hq; exact g1)); have ho1 := hid hw1; have hbx := hid (K.Bx.go2 HX2.out hg1 h31 rfl rfl); clear hw1 hg1 h31) | (refine step_append_n rfl (.tmp 63) (.tmp 67) 22 (by rfl) 63 i0 (.agg #[.int .i64 0, .int .i64 0, .int .i64 0]) 3 Try.underlying22 hi hz0 hz1 (by rw [hz2]; decide) rfl (by decide) w5.heap.size (.slice (some ⟨w5.heap.size, 0, none⟩) 0 0) 0 [] (by simp [Act.eval]) ⟨b, off, none⟩ k c9 (brCells (bs.take k)) (by simp [Act.eval]) (HPA.out _ _ (K.bsame HU3.out rfl rfl rfl rfl) g0 (by exact HF3.out)) ?_; intro v1 wa hw1 hg1 h31; have hb4 := hid (Below.grown (show Below w5.heap.size w5 _ by exact K.bsame HU3.out rfl rfl rfl rfl) hg1 (by exact HU3.out.size) (fun q hq => by cases hq; exact g0)); have ho1 := hid hw1; have hbx := hid (K.Bx.go2 HX3.out hg1 h31 rfl rfl); clear hw1 hg1 h31) | (refine step_append_n rfl (.tmp 68) (.tmp 73) 22 (by rfl) 63 i0 (.agg #[.int .i64 0, .int .i64 0, .int .i64 0]) 3 Try.underlying22 hi hz0 hz1 (by rw [hz2]; decide) rfl (by decide) w5.heap.size v1 (0 + k) ([] ++ brCells (bs.take k)) (by simp [Act.eval]) ⟨b, off, none⟩ (bs.length - (k + 1)) (c9 - (k + 1)) (brCells (bs.drop (k + 1))) (by simp [Act.eval]) (HQA.out _ _ (K.bsame hb4.out rfl rfl rfl rfl) (by exact ho1.out)) ?_; intro v2 wb hw2 hg2 h32; have hb6 := hid (Below.grown (show Below w5.heap.size w5 _ by exact K.bsame hb4.out rfl rfl rfl rfl) hg2 (by exact hb4.out.size) (fun q hq => (World.ownsRow.lt ho1.out q hq).1)); have ho2 := hid (K.wo_row hlt hw2); have hbx2 := hid (K.Bx.go2 hbx.out hg2 h32 rfl rfl); clear hw2 hg2 h32; obtain ⟨a2, c2, rfl, hrd⟩ := ho2.out.rd; clear hrd; have r0 := hbx2.out.1.cell (i := 0) (show _ < 3 by omega); have r1 := hbx2.out.1.cell (i := 1) (show _ < 3 by omega); have r2 := hbx2.out.1.cell (i := 2) (show _ < 3 by omega); have p0 := hbx2.out.1.frozen 0; have p1 := hbx2.out.1.frozen 1; have p2 := hbx2.out.1.frozen 2; have hb8 := hid (((hb6.out.setCell (p := ⟨_, 0, none⟩) hbx2.out.2.1 (.int .i64 (m : Int))).setCell (p := ⟨_, 1, none⟩) hbx2.out.2.1 (.int .i64 (n : Int))).setCell (p := ⟨_, 2, none⟩) hbx2.out.2.1 (.slice a2 (K.wo bs k).length c2)); have hls := hid (K.lss_set (m := m) (n := n) hb6.out hbx2.out ho2.out)) | (refine step_append_n rfl (.tmp 68) (.tmp 73) 22 (by rfl) 63 i0 (.agg #[.int .i64 0, .int .i64 0, .int .i64 0]) 3 Try.underlying22 hi hz0 hz1 (by rw [hz2]; decide) rfl (by decide) w5.heap.size v1 (0 + k) ([] ++ brCells (bs.take k)) (by simp [Act.eval]) ⟨b, off, none⟩ (bs.length - (k + 1)) (c9 - (k + 1)) (brCells (bs.drop (k + 1))) (by simp [Act.eval]) (HQA.out _ _ (K.bsame hb5.out rfl rfl rfl rfl) (by exact ho5.out)) ?_; intro v2 wb hw2 hg2 h32; have hb6 := hid (Below.grown (show Below w5.heap.size w5 _ by exact K.bsame hb5.out rfl rfl rfl rfl) hg2 (by exact hb5.out.size) (fun q hq => (World.ownsRow.lt ho5.out q hq).1)); have ho2 := hid (K.wo_row hlt hw2); have hbx2 := hid (K.Bx.go2 hbx5.out hg2 h32 rfl rfl); clear hw2 hg2 h32; obtain ⟨a2, c2, rfl, hrd⟩ := ho2.out.rd; clear hrd; have r0 := hbx2.out.1.cell (i := 0) (show _ < 3 by omega); have r1 := hbx2.out.1.cell (i := 1) (show _ < 3 by omega); have r2 := hbx2.out.1.cell (i := 2) (show _ < 3 by omega); have p0 := hbx2.out.1.frozen 0; have p1 := hbx2.out.1.frozen 1; have p2 := hbx2.out.1.frozen 2; have hb8 := hid (((hb6.out.setCell (p := ⟨_, 0, none⟩) hbx2.out.2.1 (.int .i64 (m : Int))).setCell (p := ⟨_, 1, none⟩) hbx2.out.2.1 (.int .i64 (n : Int))).setCell (p := ⟨_, 2, none⟩) hbx2.out.2.1 (.slice a2 (K.wo bs k).length c2)); have hls := hid (K.lss_set (m := m) (n := n) hb6.out hbx2.out ho2.out)) | (refine step_append_n rfl (.tmp 68) (.tmp 73) 22 (by rfl) 63 i0 (.agg #[.int .i64 0, .int .i64 0, .int .i64 0]) 3 Try.underlying22 hi hz0 hz1 (by rw [hz2]; decide) rfl (by decide) w5.heap.size v1 (0 + k) ([] ++ brCells (bs.take k)) (by simp [Act.eval]) ⟨b, off, none⟩ (bs.length - (k + 1)) (c9 - (k + 1)) (brCells (bs.drop (k + 1))) (by simp [Act.eval]) (HQA.out _ _ (K.bsame hb4.out rfl rfl rfl rfl) (by exact ho1.out)) ?_; intro v2 wb hw2 hg2 h32; have hb6 := hid (Below.grown (show Below w5.heap.size w5 _ by exact K.bsame hb4.out rfl rfl rfl rfl) hg2 (by exact hb4.out.size) (fun q hq => (World.ownsRow.lt ho1.out q hq).1)); have ho2 := hid (K.wo_row hlt hw2); have hb7 := hid (hb6.out.alloc hb6.out.size (.cells #[.int .i64 0, .int .i64 0, .slice none 0 0] 24)); have hbx2 := hid (K.bx_new w5 wb v2 hb6.out.size (fun q hq => (World.ownsRow.lt hw2 q hq).2)); have ho7 := hid (World.ownsRow.alloc ho2.out (.cells #[.int .i64 0, .int .i64 0, .slice none 0 0] 24)); clear hw2 hg2 h32; obtain ⟨a2, c2, rfl, hrd⟩ := ho2.out.rd; clear hrd; have r0 := hbx2.out.1.cell (i := 0) (show _ < 3 by omega); have r1 := hbx2.out.1.cell (i := 1) (show _ < 3 by omega); have r2 := hbx2.out.1.cell (i := 2) (show _ < 3 by omega); have p0 := hbx2.out.1.frozen 0; have p1 := hbx2.out.1.frozen 1; have p2 := hbx2.out.1.frozen 2; have hb8 := hid (hb6.out.alloc hb6.out.size (.cells #[.int .i64 (m : Int), .int .i64 (n : Int), .slice a2 (K.wo bs k).length c2] 24)); have hls := hid (K.lss_alloc (m := m) (n := n) hb6.out ho2.out)))
                all_goals
                  go_wp2
                  go_meet
                  exact hls.out
              · have hcap2 : ¬ c9 - (k + 1) = 0 := by omega
                have hcap3 : ¬ c9 ≤ k + 1 := by omega
                have HQA := hid (fun (W : World) (v1 : Value) (hb : Below w5.heap.size w5 W) (ho : W.ownsRow w5.heap.size 63 3 v1 (0 + k) ([] ++ brCells (bs.take k))) => K.armQ (b := b) (off := off + (k + 1) * 3) hlt (by omega) ((HR5.out.stays hb).drop (k + 1)) hb (v1 := v1) ho)
                go_region_held3 (fun W => W.cell? ⟨gv, 0, none⟩ = some (.int .i64 (m : Int)) ∧ W.cell? ⟨gv, 1, none⟩ = some (.int .i64 (n : Int)) ∧ W.cell? ⟨gv, 2, none⟩ = some (.slice (some ⟨b, off, none⟩) bs.length c9)) (first | exact HCS.out _ (K.bsame (Below.refl _ _) rfl rfl rfl rfl) | exact HCS.out _ (K.bsame hb8.out rfl rfl rfl rfl) | exact HCS.out _ (K.bsame hb7.out rfl rfl rfl rfl) | exact HCS.out _ (K.bsame hb6.out rfl rfl rfl rfl) | exact HCS.out _ (K.bsame hb5.out rfl rfl rfl rfl) | exact HCS.out _ (K.bsame hb4.out rfl rfl rfl rfl) | exact HCS.out _ (K.bsame HU3.out rfl rfl rfl rfl) | exact HCS.out _ (K.bsame HU2.out rfl rfl rfl rfl) | exact HCS.out _ (K.bsame HU1.out rfl rfl rfl rfl) | exact HCS.out _ (K.bsame HU0.out rfl rfl rfl rfl) | go_keep) (first | (refine step_append_n rfl (.tmp 63) (.tmp 67) 22 (by rfl) 63 i0 (.agg #[.int .i64 0, .int .i64 0, .int .i64 0]) 3 Try.underlying22 hi hz0 hz1 (by rw [hz2]; decide) rfl (by decide) w5.heap.size (.slice (some ⟨w5.heap.size, 0, none⟩) 0 0) 0 [] (by simp [Act.eval]) ⟨b, off, none⟩ k c9 (brCells (bs.take k)) (by simp [Act.eval]) (HPA.out _ _ (K.bsame HU1.out rfl rfl rfl rfl) g0 (by exact HF1.out)) ?_; intro v1 wa hw1 hg1 h31; have hb4 := hid (Below.grown (show Below w5.heap.size w5 _ by exact K.bsame HU1.out rfl rfl rfl rfl) hg1 (by exact HU1.out.size) (fun q hq => by cases hq; exact g0)); have ho1 := hid hw1; have hb5 := hid (hb4.out.alloc hb4.out.size (.cells #[.int .i64 0, .int .i64 0, .slice none 0 0] 24)); have ho5 := hid (World.ownsRow.alloc hw1 (.cells #[.int .i64 0, .int .i64 0, .slice none 0 0] 24)); have hbx5 := hid (K.bx_new w5 wa v1 hb4.out.size (fun q hq => (World.ownsRow.lt hw1 q hq).2)); clear hw1 hg1 h31) | (refine step_append_n rfl (.tmp 63) (.tmp 67) 22 (by rfl) 63 i0 (.agg #[.int .i64 0, .int .i64 0, .int .i64 0]) 3 Try.underlying22 hi hz0 hz1 (by rw [hz2]; decide) rfl (by decide) w5.heap.size (.slice (some ⟨w5.heap.size + 1, 0, none⟩) 0 0) 0 [] (by simp [Act.eval]) ⟨b, off, none⟩ k c9 (brCells (bs.take k)) (by simp [Act.eval]) (HPA.out _ _ (K.bsame HU2.out rfl rfl rfl rfl) g1 (by exact HF2.out)) ?_; intro v1 wa hw1 hg1 h31; have hb4 := hid (Below.grown (show Below w5.heap.size w5 _ by exact K.bsame HU2.out rfl rfl rfl rfl) hg1 (by exact HU2.out.size) (fun q hq => by cases hq; exact g1)); have ho1 := hid hw1; have hbx := hid (K.Bx.go2 HX2.out hg1 h31 rfl rfl); clear hw1 hg1 h31) | (refine step_append_n rfl (.tmp 63) (.tmp 67) 22 (by rfl) 63 i0 (.agg #[.int .i64 0, .int .i64 0, .int .i64 0]) 3 Try.underlying22 hi hz0 hz1 (by rw [hz2]; decide) rfl (by decide) w5.heap.size (.slice (some ⟨w5.heap.size, 0, none⟩) 0 0) 0 [] (by simp [Act.eval]) ⟨b, off, none⟩ k c9 (brCells (bs.take k)) (by simp [Act.eval]) (HPA.out _ _ (K.bsame HU3.out rfl rfl rfl rfl) g0 (by exact HF3.out)) ?_; intro v1 wa hw1 hg1 h31; have hb4 := hid (Below.grown (show Below w5.heap.size w5 _ by exact K.bsame HU3.out rfl rfl rfl rfl) hg1 (by exact HU3.out.size) (fun q hq => by cases hq; exact g0)); have ho1 := hid hw1; have hbx := hid (K.Bx.go2 HX3.out hg1 h31 rfl rfl); clear hw1 hg1 h31) | (refine step_append_n rfl (.tmp 68) (.tmp 73) 22 (by rfl) 63 i0 (.agg #[.int .i64 0, .int .i64 0, .int .i64 0]) 3 Try.underlying22 hi hz0 hz1 (by rw [hz2]; decide) rfl (by decide) w5.heap.size v1 (0 + k) ([] ++ brCells (bs.take k)) (by simp [Act.eval]) ⟨b, off + (k + 1) * 3, none⟩ (bs.length - (k + 1)) (c9 - (k + 1)) (brCells (bs.drop (k + 1))) (by simp [Act.eval]) (HQA.out _ _ (K.bsame hb4.out rfl rfl rfl rfl) (by exact ho1.out)) ?_; intro v2 wb hw2 hg2 h32; have hb6 := hid (Below.grown (show Below w5.heap.size w5 _ by exact K.bsame hb4.out rfl rfl rfl rfl) hg2 (by exact hb4.out.size) (fun q hq => (World.ownsRow.lt ho1.out q hq).1)); have ho2 := hid (K.wo_row hlt hw2); have hbx2 := hid (K.Bx.go2 hbx.out hg2 h32 rfl rfl); clear hw2 hg2 h32; obtain ⟨a2, c2, rfl, hrd⟩ := ho2.out.rd; clear hrd; have r0 := hbx2.out.1.cell (i := 0) (show _ < 3 by omega); have r1 := hbx2.out.1.cell (i := 1) (show _ < 3 by omega); have r2 := hbx2.out.1.cell (i := 2) (show _ < 3 by omega); have p0 := hbx2.out.1.frozen 0; have p1 := hbx2.out.1.frozen 1; have p2 := hbx2.out.1.frozen 2; have hb8 := hid (((hb6.out.setCell (p := ⟨_, 0, none⟩) hbx2.out.2.1 (.int .i64 (m : Int))).setCell (p := ⟨_, 1, none⟩) hbx2.out.2.1 (.int .i64 (n : Int))).setCell (p := ⟨_, 2, none⟩) hbx2.out.2.1 (.slice a2 (K.wo bs k).length c2)); have hls := hid (K.lss_set (m := m) (n := n) hb6.out hbx2.out ho2.out)) | (refine step_append_n rfl (.tmp 68) (.tmp 73) 22 (by rfl) 63 i0 (.agg #[.int .i64 0, .int .i64 0, .int .i64 0]) 3 Try.underlying22 hi hz0 hz1 (by rw [hz2]; decide) rfl (by decide) w5.heap.size v1 (0 + k) ([] ++ brCells (bs.take k)) (by simp [Act.eval]) ⟨b, off + (k + 1) * 3, none⟩ (bs.length - (k + 1)) (c9 - (k + 1)) (brCells (bs.drop (k + 1))) (by simp [Act.eval]) (HQA.out _ _ (K.bsame hb5.out rfl rfl rfl rfl) (by exact ho5.out)) ?_; intro v2 wb hw2 hg2 h32; have hb6 := hid (Below.grown (show Below w5.heap.size w5 _ by exact K.bsame hb5.out rfl rfl rfl rfl) hg2 (by exact hb5.out.size) (fun q hq => (World.ownsRow.lt ho5.out q hq).1)); have ho2 := hid (K.wo_row hlt hw2); have hbx2 := hid (K.Bx.go2 hbx5.out hg2 h32 rfl rfl); clear hw2 hg2 h32; obtain ⟨a2, c2, rfl, hrd⟩ := ho2.out.rd; clear hrd; have r0 := hbx2.out.1.cell (i := 0) (show _ < 3 by omega); have r1 := hbx2.out.1.cell (i := 1) (show _ < 3 by omega); have r2 := hbx2.out.1.cell (i := 2) (show _ < 3 by omega); have p0 := hbx2.out.1.frozen 0; have p1 := hbx2.out.1.frozen 1; have p2 := hbx2.out.1.frozen 2; have hb8 := hid (((hb6.out.setCell (p := ⟨_, 0, none⟩) hbx2.out.2.1 (.int .i64 (m : Int))).setCell (p := ⟨_, 1, none⟩) hbx2.out.2.1 (.int .i64 (n : Int))).setCell (p := ⟨_, 2, none⟩) hbx2.out.2.1 (.slice a2 (K.wo bs k).length c2)); have hls := hid (K.lss_set (m := m) (n := n) hb6.out hbx2.out ho2.out)) | (refine step_append_n rfl (.tmp 68) (.tmp 73) 22 (by rfl) 63 i0 (.agg #[.int .i64 0, .int .i64 0, .int .i64 0]) 3 Try.underlying22 hi hz0 hz1 (by rw [hz2]; decide) rfl (by decide) w5.heap.size v1 (0 + k) ([] ++ brCells (bs.take k)) (by simp [Act.eval]) ⟨b, off + (k + 1) * 3, none⟩ (bs.length - (k + 1)) (c9 - (k + 1)) (brCells (bs.drop (k + 1))) (by simp [Act.eval]) (HQA.out _ _ (K.bsame hb4.out rfl rfl rfl rfl) (by exact ho1.out)) ?_; intro v2 wb hw2 hg2 h32; have hb6 := hid (Below.grown (show Below w5.heap.size w5 _ by exact K.bsame hb4.out rfl rfl rfl rfl) hg2 (by exact hb4.out.size) (fun q hq => (World.ownsRow.lt ho1.out q hq).1)); have ho2 := hid (K.wo_row hlt hw2); have hb7 := hid (hb6.out.alloc hb6.out.size (.cells #[.int .i64 0, .int .i64 0, .slice none 0 0] 24)); have hbx2 := hid (K.bx_new w5 wb v2 hb6.out.size (fun q hq => (World.ownsRow.lt hw2 q hq).2)); have ho7 := hid (World.ownsRow.alloc ho2.out (.cells #[.int .i64 0, .int .i64 0, .slice none 0 0] 24)); clear hw2 hg2 h32; obtain ⟨a2, c2, rfl, hrd⟩ := ho2.out.rd; clear hrd; have r0 := hbx2.out.1.cell (i := 0) (show _ < 3 by omega); have r1 := hbx2.out.1.cell (i := 1) (show _ < 3 by omega); have r2 := hbx2.out.1.cell (i := 2) (show _ < 3 by omega); have p0 := hbx2.out.1.frozen 0; have p1 := hbx2.out.1.frozen 1; have p2 := hbx2.out.1.frozen 2; have hb8 := hid (hb6.out.alloc hb6.out.size (.cells #[.int .i64 (m : Int), .int .i64 (n : Int), .slice a2 (K.wo bs k).length c2] 24)); have hls := hid (K.lss_alloc (m := m) (n := n) hb6.out ho2.out)))
                all_goals
                  go_wp2
                  go_meet
                  exact hls.out
            case rest =>
              obtain ⟨gx, ax, cx, rfl, hzx, hrx, hbx⟩ := hcut
              have HB6 := hid (HB5.out.trans (hbx.mono HB5.out.size))
              have HSX := hid (HSWk.out ax cx wc hrx)
              have q0 : wc.cell? ⟨gx, 0, none⟩ = some (.int .i64 (m : Int)) := hzx.cell (i := 0) (by omega)
              have q1 : wc.cell? ⟨gx, 1, none⟩ = some (.int .i64 (n : Int)) := hzx.cell (i := 1) (by omega)
              have q2 : wc.cell? ⟨gx, 2, none⟩ = some (.slice ax (K.wo bs k).length cx) := hzx.cell (i := 2) (by omega)
              clear hzx hrx hbx HSWk
              go_wp2_with fail
              refine HSX.out.mono ?_
              rintro e w6 ⟨rfl, hb⟩
              have HB7 := hid (HB6.out.trans (hb.mono HB6.out.size))
              clear hb q0 q1 q2
              cases d with
              | true =>
                go_wp2
                go_roundw
                case rel => exact ⟨k + 1, by omega, by go_num, by rw [HE1.out], HB7.out⟩
                case measure => simp [intOf]; omega
              | false =>
                go_wp2
                go_roundw
                case rel => exact ⟨k + 1, by omega, by go_num, by rw [HE1.out], HB7.out⟩
                case measure => simp [intOf]; omega
      · have hke : k = bs.length := by omega
        subst hke
        rw [HNN.out]
        go_wp2_with fail
        refine (HWK.out _).mono ?_
        rintro e w5 ⟨rfl, hb⟩
        have HB5 := hid (HBR.out.trans (hb.mono HBR.out.size))
        clear hb
        go_wp2
        go_ret
        exact ⟨rfl, HB5.out⟩
end Go.Proofs.Ytmbfpekcfeeifaa
