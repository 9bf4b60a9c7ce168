/- Package hours: the walk of boundOf. -/
import Derived.Test.YthlcnklbeolhpaaHKinds
namespace Go.Proofs.Ythlcnklbeolhpaa
open Go.RowKit

set_option maxHeartbeats 2000000 in
set_option maxRecDepth 100000 in
theorem boundOf0_any (a : Option Addr) (c : Nat) (T : List (List Int)) (s : Int) (x : Nat) (w : World) (hok : H.Ok T) (hi : x < T.length) (hx : RdM w a T) :
    Calls Try.prog 61 #[.slice a T.length c, .int .i64 s, .agg #[.int .i64 0, .int .i64 x]] w fun e w' => e = .returned (.int .i64 (H.sum T[x])) ∧ Below w.heap.size w w' := by
  have hb0 : Below w.heap.size w (w.alloc (.cells #[.int .i64 0, .int .i64 x] 24)) := (Below.refl _ _).alloc (Nat.le_refl _) _
  have k0 : (w.alloc (.cells #[.int .i64 0, .int .i64 x] 24)).cell? ⟨w.heap.size, 0, none⟩ = some (.int .i64 0) := by rw [World.cell?_alloc_at _ _ _ _ rfl]; rfl
  have k1 : (w.alloc (.cells #[.int .i64 0, .int .i64 x] 24)).cell? ⟨w.heap.size, 1, none⟩ = some (.int .i64 x) := by rw [World.cell?_alloc_at _ _ _ _ rfl]; rfl
  have HB0 := hid hb0
  have hx1 := hx.stays hb0
  have HS0 : Hid (w.heap.size < (w.alloc (.cells #[.int .i64 0, .int .i64 x] 24)).heap.size) := hid (World.block_lt_of_cell? _ _ k0)
  generalize hw1 : w.alloc (.cells #[.int .i64 0, .int .i64 x] 24) = w1 at *
  have HW1 := hid hw1
  clear hw1
  have HCL := hid (fun W (h : Below w1.heap.size w1 W) => show W.cell? ⟨w.heap.size, 0, none⟩ = some (.int .i64 0) ∧ W.cell? ⟨w.heap.size, 1, none⟩ = some (.int .i64 x) from ⟨cell_stays h (Nat.le_refl _) k0, cell_stays h (Nat.le_refl _) k1⟩)
  have HK := hid (fun W (h : Hid (Below w1.heap.size w1 W)) => (kinds_any W).mono (R' := fun e w' => e = .returned H.kv ∧ Hid (Below w1.heap.size w1 w')) (fun e w' hq => ⟨hq.1, hid (h.out.trans (hq.2.mono h.out.size))⟩))
  have HC := hid (fun W (h : Hid (Below w1.heap.size w1 W)) => (kinds2_any a c x s T W hok hi (hx1.stays h.out)).mono (R' := fun e w' => e = .returned (.int .i64 (H.sum T[x])) ∧ Hid (Below w1.heap.size w1 w')) (fun e w' hq => ⟨hq.1, by obtain ⟨_, rfl⟩ := hq; exact h⟩))
  have ik := indexK0
  have fk := fieldK01
  unfold H.kv at HK ik
  have hd : Hid (Below w1.heap.size w1 w1.drew) := hid (Below.refl _ _).drew
  obtain ⟨p0, p1⟩ := HCL.out _ hd.out
  clear hx hb0 k0 k1 hx1 hok
  generalize H.sum T[x] = r at *
  go_enter Try.func61, Try.ntmps61
  go_wp2
  rw [HW1.out]
  go_region_held3 (fun W => W.cell? ⟨w.heap.size, 0, none⟩ = some (.int .i64 0) ∧ W.cell? ⟨w.heap.size, 1, none⟩ = some (.int .i64 x)) (first | exact HCL.out _ (Hid.out (by assumption)) | go_keep) (first | (go_at_call 63; (with_reducible refine (HK.out _ (by assumption)).mono ?_); rintro e w10 ⟨rfl, hb10⟩) | (go_at_call 90; (with_reducible refine (HC.out _ (by assumption)).mono ?_); rintro e w11 ⟨rfl, hb11⟩))
  all_goals
    go_wp2
    go_ret
    exact ⟨rfl, HB0.out.trans (Below.mono (Hid.out (by assumption)) HB0.out.size)⟩

set_option maxHeartbeats 2000000 in
set_option maxRecDepth 100000 in
theorem boundOf1_any (a : Option Addr) (c : Nat) (T : List (List Int)) (s : Int) (x : Nat) (w : World) (hok : H.Ok T) (hi : x < H.wid T) (hx : RdM w a T) :
    Calls Try.prog 61 #[.slice a T.length c, .int .i64 s, .agg #[.int .i64 1, .int .i64 x]] w fun e w' => e = .returned (.int .i64 (H.col T x)) ∧ Below w.heap.size w w' := by
  have hb0 : Below w.heap.size w (w.alloc (.cells #[.int .i64 1, .int .i64 x] 24)) := (Below.refl _ _).alloc (Nat.le_refl _) _
  have k0 : (w.alloc (.cells #[.int .i64 1, .int .i64 x] 24)).cell? ⟨w.heap.size, 0, none⟩ = some (.int .i64 1) := by rw [World.cell?_alloc_at _ _ _ _ rfl]; rfl
  have k1 : (w.alloc (.cells #[.int .i64 1, .int .i64 x] 24)).cell? ⟨w.heap.size, 1, none⟩ = some (.int .i64 x) := by rw [World.cell?_alloc_at _ _ _ _ rfl]; rfl
  have HB0 := hid hb0
  have hx1 := hx.stays hb0
  have HS0 : Hid (w.heap.size < (w.alloc (.cells #[.int .i64 1, .int .i64 x] 24)).heap.size) := hid (World.block_lt_of_cell? _ _ k0)
  generalize hw1 : w.alloc (.cells #[.int .i64 1, .int .i64 x] 24) = w1 at *
  have HW1 := hid hw1
  clear hw1
  have HCL := hid (fun W (h : Below w1.heap.size w1 W) => show W.cell? ⟨w.heap.size, 0, none⟩ = some (.int .i64 1) ∧ W.cell? ⟨w.heap.size, 1, none⟩ = some (.int .i64 x) from ⟨cell_stays h (Nat.le_refl _) k0, cell_stays h (Nat.le_refl _) k1⟩)
  have HK := hid (fun W (h : Hid (Below w1.heap.size w1 W)) => (kinds_any W).mono (R' := fun e w' => e = .returned H.kv ∧ Hid (Below w1.heap.size w1 w')) (fun e w' hq => ⟨hq.1, hid (h.out.trans (hq.2.mono h.out.size))⟩))
  have HC := hid (fun W (h : Hid (Below w1.heap.size w1 W)) => (kinds4_any a c x s T W hok hi (hx1.stays h.out)).mono (R' := fun e w' => e = .returned (.int .i64 (H.col T x)) ∧ Hid (Below w1.heap.size w1 w')) (fun e w' hq => ⟨hq.1, hid (h.out.trans (hq.2.mono h.out.size))⟩))
  have ik := indexK1
  have fk := fieldK11
  unfold H.kv at HK ik
  have hd : Hid (Below w1.heap.size w1 w1.drew) := hid (Below.refl _ _).drew
  obtain ⟨p0, p1⟩ := HCL.out _ hd.out
  clear hx hb0 k0 k1 hx1 hok
  generalize H.col T x = r at *
  go_enter Try.func61, Try.ntmps61
  go_wp2
  rw [HW1.out]
  go_region_held3 (fun W => W.cell? ⟨w.heap.size, 0, none⟩ = some (.int .i64 1) ∧ W.cell? ⟨w.heap.size, 1, none⟩ = some (.int .i64 x)) (first | exact HCL.out _ (Hid.out (by assumption)) | go_keep) (first | (go_at_call 63; (with_reducible refine (HK.out _ (by assumption)).mono ?_); rintro e w10 ⟨rfl, hb10⟩) | (go_at_call 92; (with_reducible refine (HC.out _ (by assumption)).mono ?_); rintro e w11 ⟨rfl, hb11⟩))
  all_goals
    go_wp2
    go_ret
    exact ⟨rfl, HB0.out.trans (Below.mono (Hid.out (by assumption)) HB0.out.size)⟩

set_option maxHeartbeats 2000000 in
set_option maxRecDepth 100000 in
theorem boundOf2_any (a : Option Addr) (c : Nat) (T : List (List Int)) (s : Int) (x : Nat) (w : World) (hok : H.Ok T) (hs : 1 ≤ s) (hx : RdM w a T) :
    Calls Try.prog 61 #[.slice a T.length c, .int .i64 s, .agg #[.int .i64 2, .int .i64 x]] w fun e w' => e = .returned (.int .i64 (H.ceil (H.tot T) s)) ∧ Below w.heap.size w w' := by
  have hb0 : Below w.heap.size w (w.alloc (.cells #[.int .i64 2, .int .i64 x] 24)) := (Below.refl _ _).alloc (Nat.le_refl _) _
  have k0 : (w.alloc (.cells #[.int .i64 2, .int .i64 x] 24)).cell? ⟨w.heap.size, 0, none⟩ = some (.int .i64 2) := by rw [World.cell?_alloc_at _ _ _ _ rfl]; rfl
  have k1 : (w.alloc (.cells #[.int .i64 2, .int .i64 x] 24)).cell? ⟨w.heap.size, 1, none⟩ = some (.int .i64 x) := by rw [World.cell?_alloc_at _ _ _ _ rfl]; rfl
  have HB0 := hid hb0
  have hx1 := hx.stays hb0
  have HS0 : Hid (w.heap.size < (w.alloc (.cells #[.int .i64 2, .int .i64 x] 24)).heap.size) := hid (World.block_lt_of_cell? _ _ k0)
  generalize hw1 : w.alloc (.cells #[.int .i64 2, .int .i64 x] 24) = w1 at *
  have HW1 := hid hw1
  clear hw1
  have HCL := hid (fun W (h : Below w1.heap.size w1 W) => show W.cell? ⟨w.heap.size, 0, none⟩ = some (.int .i64 2) ∧ W.cell? ⟨w.heap.size, 1, none⟩ = some (.int .i64 x) from ⟨cell_stays h (Nat.le_refl _) k0, cell_stays h (Nat.le_refl _) k1⟩)
  have HK := hid (fun W (h : Hid (Below w1.heap.size w1 W)) => (kinds_any W).mono (R' := fun e w' => e = .returned H.kv ∧ Hid (Below w1.heap.size w1 w')) (fun e w' hq => ⟨hq.1, hid (h.out.trans (hq.2.mono h.out.size))⟩))
  have HC := hid (fun W (h : Hid (Below w1.heap.size w1 W)) => (kinds6_any a c s x T W hok hs (hx1.stays h.out)).mono (R' := fun e w' => e = .returned (.int .i64 (H.ceil (H.tot T) s)) ∧ Hid (Below w1.heap.size w1 w')) (fun e w' hq => ⟨hq.1, by obtain ⟨_, rfl⟩ := hq; exact h⟩))
  have ik := indexK2
  have fk := fieldK21
  unfold H.kv at HK ik
  have hd : Hid (Below w1.heap.size w1 w1.drew) := hid (Below.refl _ _).drew
  obtain ⟨p0, p1⟩ := HCL.out _ hd.out
  clear hx hb0 k0 k1 hx1 hok
  generalize H.ceil (H.tot T) s = r at *
  go_enter Try.func61, Try.ntmps61
  go_wp2
  rw [HW1.out]
  go_region_held3 (fun W => W.cell? ⟨w.heap.size, 0, none⟩ = some (.int .i64 2) ∧ W.cell? ⟨w.heap.size, 1, none⟩ = some (.int .i64 x)) (first | exact HCL.out _ (Hid.out (by assumption)) | go_keep) (first | (go_at_call 63; (with_reducible refine (HK.out _ (by assumption)).mono ?_); rintro e w10 ⟨rfl, hb10⟩) | (go_at_call 94; (with_reducible refine (HC.out _ (by assumption)).mono ?_); rintro e w11 ⟨rfl, hb11⟩))
  all_goals
    go_wp2
    go_ret
    exact ⟨rfl, HB0.out.trans (Below.mono (Hid.out (by assumption)) HB0.out.size)⟩

/-- The bound of a reason. -/
def H.bnd (T : List (List Int)) (s : Int) (kd ix : Nat) : Int := if kd = 0 then H.sum (T.getD ix []) else if kd = 1 then H.col T ix else H.ceil (H.tot T) s
/-- A reason of a work. -/
def H.OkR (T : List (List Int)) (kd ix : Nat) : Prop := (kd = 0 ∧ ix < T.length) ∨ (kd = 1 ∧ ix < H.wid T) ∨ (kd = 2 ∧ ix = 0)
theorem boundOf_any (a : Option Addr) (c : Nat) (T : List (List Int)) (s : Int) (kd ix : Nat) (w : World) (hok : H.Ok T) (hs : 1 ≤ s) (hr : H.OkR T kd ix) (hx : RdM w a T) :
    Calls Try.prog 61 #[.slice a T.length c, .int .i64 s, .agg #[.int .i64 kd, .int .i64 ix]] w fun e w' => e = .returned (.int .i64 (H.bnd T s kd ix)) ∧ Below w.heap.size w w' := by
  rcases hr with ⟨rfl, h⟩ | ⟨rfl, h⟩ | ⟨rfl, rfl⟩
  · have e : H.bnd T s 0 ix = H.sum T[ix] := by unfold H.bnd; rw [if_pos rfl]; simp only [List.getD, List.getElem?_eq_getElem h, Option.getD_some]
    rw [e]
    exact boundOf0_any a c T s ix w hok h hx
  · exact boundOf1_any a c T s ix w hok h hx
  · exact boundOf2_any a c T s 0 w hok hs hx
end Go.Proofs.Ythlcnklbeolhpaa
