/- Package hours: the walks of shortest and Shortest. -/
import Derived.Test.YthlcnklbeolhpaaHReas
namespace Go.Proofs.Ythlcnklbeolhpaa
open Go.RowKit

theorem H.rsK_map (kd : Nat) (f : Nat → Nat → Int) : ∀ j, (H.rsK kd j).map (fun r => f r.1 r.2) = (List.range j).map (f kd)
  | 0 => rfl
  | j + 1 => by rw [H.rsK, List.map_append, H.rsK_map kd f j, List.range_succ, List.map_append]; rfl
theorem H.rsK_mem {kd : Nat} {r : Rs} : ∀ {j}, r ∈ H.rsK kd j ↔ r.1 = kd ∧ r.2 < j
  | 0 => by simp [H.rsK]
  | j + 1 => by
    rw [H.rsK, List.mem_append, H.rsK_mem (j := j), List.mem_singleton]
    obtain ⟨x, y⟩ := r
    simp only [Prod.mk.injEq]
    omega
/-- The bounds of all reasons. -/
def H.bnds (T : List (List Int)) (s : Int) : List Int := (H.rsn T).map fun r => H.bnd T s r.1 r.2
theorem H.bnds_eq (T : List (List Int)) (s : Int) : H.bnds T s = H.rows T ++ H.cols T ++ [H.ceil (H.tot T) s] := by
  unfold H.bnds H.rsn
  simp only [H.pre, List.nil_append, List.map_append, H.rsK_map _ (H.bnd T s)]
  congr 1
  congr 1
  · unfold H.rows H.szK
    refine List.ext_getElem (by simp) fun i h1 h2 => ?_
    have hi : i < T.length := by simpa using h2
    simp only [List.getElem_map, List.getElem_range]
    unfold H.bnd
    rw [if_pos rfl]
    simp only [List.getD, List.getElem?_eq_getElem hi, Option.getD_some]
theorem H.bnds_top (T : List (List Int)) (s : Int) : H.top (H.bnds T s) = H.sht T s ∨ H.ceil (H.tot T) s < 0 := by
  rw [H.bnds_eq, H.top_append, H.top_append]
  unfold H.sht
  simp only [H.top]
  omega
theorem H.sht_eq {T : List (List Int)} {s : Int} (hok : H.Ok T) (hs : 1 ≤ s) : H.top (H.bnds T s) = H.sht T s := by
  rcases H.bnds_top T s with h | h
  · exact h
  · have := (H.ceil_bd hok.tot_bd.1 hs).1; omega
theorem H.bnds_bd {T : List (List Int)} {s : Int} (hok : H.Ok T) (hs : 1 ≤ s) : ∀ x ∈ H.bnds T s, 0 ≤ x ∧ x ≤ 1080 := by
  rw [H.bnds_eq]
  intro x hx
  rcases List.mem_append.1 hx with hx | hx
  · rcases List.mem_append.1 hx with hx | hx
    · have := hok.rows_bd x hx; omega
    · have := hok.cols_bd x hx; omega
  · have e := List.mem_singleton.1 hx
    have h1 := H.ceil_bd hok.tot_bd.1 hs
    have h2 := hok.tot_bd
    omega
theorem H.sht_bd {T : List (List Int)} {s : Int} (hok : H.Ok T) (hs : 1 ≤ s) : 0 ≤ H.sht T s ∧ H.sht T s ≤ 1080 := by
  rw [← H.sht_eq hok hs]
  exact ⟨H.top_nonneg _, H.top_le (by decide) (fun x hx => (H.bnds_bd hok hs x hx).2)⟩
theorem H.rsn_ok {T : List (List Int)} : ∀ r ∈ H.rsn T, H.OkR T r.1 r.2 := fun r hr => by
  unfold H.rsn at hr
  simp only [H.pre, List.nil_append, List.mem_append, H.rsK_mem, H.szK] at hr
  unfold H.OkR
  omega
theorem H.rsn_len {T : List (List Int)} (hok : H.Ok T) : (H.rsn T).length ≤ 13 := by
  have h1 := hok.m6
  have h2 := hok.n6
  unfold H.rsn
  simp only [H.pre, List.length_append, H.rsK_len, List.length_nil, H.szK]
  omega
theorem H.bnds_at {T : List (List Int)} {s : Int} {k : Nat} (h : k < (H.rsn T).length) : (H.bnds T s)[k]'(by unfold H.bnds; simpa using h) = H.bnd T s (H.rsn T)[k].1 (H.rsn T)[k].2 := by
  unfold H.bnds
  rw [List.getElem_map]

set_option maxHeartbeats 1000000 in
set_option maxRecDepth 100000 in
theorem shortest1_any (a : Option Addr) (c : Nat) (T : List (List Int)) (s m : Int) (kd ix b1 b2 : Nat) (w : World) (hok : H.Ok T) (hs : 1 ≤ s) (hr : H.OkR T kd ix) (hx : RdM w a T)
    (k1 : w.cell? ⟨b1, 0, none⟩ = some (.slice a T.length c)) (k2 : w.cell? ⟨b2, 0, none⟩ = some (.int .i64 s)) :
    Calls Try.prog 88 #[.int .i64 m, .agg #[.int .i64 kd, .int .i64 ix], .pointer (some ⟨b1, 0, none⟩), .pointer (some ⟨b2, 0, none⟩)] w fun e w' => e = .returned (.int .i64 (max m (H.bnd T s kd ix))) ∧ Below w.heap.size w w' := by
  have hb0 : Below w.heap.size w (w.alloc (.cells #[.int .i64 kd, .int .i64 ix] 24)) := (Below.refl _ _).alloc (Nat.le_refl _) _
  have HB0 := hid hb0
  have HC := hid (boundOf_any a c T s kd ix _ hok hs hr (hx.stays hb0))
  have l1 : b1 < w.heap.size := World.block_lt_of_cell? _ _ k1
  have l2 : b2 < w.heap.size := World.block_lt_of_cell? _ _ k2
  have h6 := hok.m6
  clear hx hok hb0
  generalize H.bnd T s kd ix = q at *
  go_enter Try.func88, Try.ntmps88
  go_wp2_with fail
  refine HC.out.mono ?_
  rintro e w' ⟨rfl, hb⟩
  have HB := hid (HB0.out.trans (hb.mono HB0.out.size))
  clear hb
  go_wp2
  all_goals
    go_ret
    exact ⟨ret_int (by omega), HB.out⟩

set_option maxHeartbeats 1000000 in
set_option maxRecDepth 100000 in
theorem gatheredSht_any (a : Option Addr) (c : Nat) (T : List (List Int)) (s : Int) (b1 b2 : Nat) (ra : Option Addr) (rc : Nat) (w : World) (hok : H.Ok T) (hs : 1 ≤ s) (hx : RdM w a T) (hr : RdR w ra (H.rsn T))
    (k1 : w.cell? ⟨b1, 0, none⟩ = some (.slice a T.length c)) (k2 : w.cell? ⟨b2, 0, none⟩ = some (.int .i64 s)) :
    Calls Try.prog 87 #[.slice ra (H.rsn T).length rc, .func (.func 88) #[] #[.pointer (some ⟨b1, 0, none⟩), .pointer (some ⟨b2, 0, none⟩)]] w fun e w' => e = .returned (.int .i64 (H.top (H.bnds T s))) ∧ Below w.heap.size w w' := by
  have hlen := H.rsn_len hok
  have HX := hid hr
  have HC := hid (fun m k (h : k < (H.rsn T).length) W (hW : Below w.heap.size w W) => shortest1_any a c T s m (H.rsn T)[k].1 (H.rsn T)[k].2 b1 b2 W hok hs (H.rsn_ok _ (List.getElem_mem h)) (hx.stays hW) (cell_stays hW (Nat.le_refl _) k1) (cell_stays hW (Nat.le_refl _) k2))
  have HT := hid (fun k (h : k < (H.rsn T).length) => show H.top ((H.bnds T s).take (k + 1)) = max (H.top ((H.bnds T s).take k)) (H.bnd T s (H.rsn T)[k].1 (H.rsn T)[k].2) from by
    rw [← H.bnds_at h]
    exact H.top_take _)
  have HE : Hid (H.top ((H.bnds T s).take (H.rsn T).length) = H.top (H.bnds T s)) := hid (by rw [List.take_of_length_le (by unfold H.bnds; simp)])
  clear hx hr k1 k2 hok
  generalize H.rsn T = rs at *
  go_enter Try.func87, Try.ntmps87
  go_wp2
  go_loopw [5, 10] (fun v i wr => ∃ k : Nat, k ≤ rs.length ∧ i = .int .i64 k ∧ v = .int .i64 (H.top ((H.bnds T s).take k)) ∧ Below w.heap.size w wr) (fun _ i _ => rs.length - (intOf i).toNat)
  case atStart => exact ⟨0, Nat.zero_le _, rfl, by rw [List.take_zero]; rfl, Below.refl _ _⟩
  case round =>
    obtain ⟨k, hk, rfl, rfl, hb⟩ := hrel
    have HB := hid hb
    clear hb
    by_cases hlt : k < rs.length
    · obtain ⟨b, off, rfl, q1, q2⟩ := (HX.out.stays HB.out) k hlt
      have HBA := hid (HB.out.alloc HB.out.size (.cells #[.int .i64 (rs[k].1 : Nat), .int .i64 (rs[k].2 : Nat)] 24))
      have HF := hid (HC.out (H.top ((H.bnds T s).take k)) k hlt _ HBA.out)
      have HTK := hid (HT.out k hlt)
      generalize rs[k].1 = x at *
      generalize rs[k].2 = y at *
      generalize H.bnd T s x y = z at *
      generalize H.top ((H.bnds T s).take k) = t at *
      have hix : (0 : Int) ≤ (k : Int) ∧ (k : Int) < (rs.length : Int) := by omega
      go_wp2_with fail
      refine HF.out.mono ?_
      rintro e w' ⟨rfl, hb⟩
      have HB2 := hid (HBA.out.trans (hb.mono HBA.out.size))
      clear hb
      go_wp2
      go_roundw
      case rel => exact ⟨k + 1, by omega, by go_num, by rw [HTK.out], HB2.out⟩
      case measure => simp [intOf]; omega
    · have hke : k = rs.length := by omega
      subst hke
      go_wp2
      go_ret
      exact ⟨ret_int HE.out, HB.out⟩

set_option maxHeartbeats 1000000 in
set_option maxRecDepth 100000 in
theorem shortest_any (a : Option Addr) (c : Nat) (T : List (List Int)) (s : Int) (w : World) (hok : H.Ok T) (hs : 1 ≤ s) (hx : RdM w a T) :
    Calls Try.prog 57 #[.slice a T.length c, .int .i64 s] w fun e w' => e = .returned (.int .i64 (H.sht T s)) ∧ Below w.heap.size w w' := by
  have hb1 : Below w.heap.size w (w.alloc (.cells #[.slice a T.length c] 22)) := (Below.refl _ _).alloc (Nat.le_refl _) _
  have hb0 : Below w.heap.size w ((w.alloc (.cells #[.slice a T.length c] 22)).alloc (.cells #[.int .i64 s] 3)) := hb1.alloc (by simp) _
  have k1 : ((w.alloc (.cells #[.slice a T.length c] 22)).alloc (.cells #[.int .i64 s] 3)).cell? ⟨w.heap.size, 0, none⟩ = some (.slice a T.length c) :=
    cell_stays ((Below.refl _ _).alloc (Nat.le_refl _) _) (Nat.le_refl _) (by rw [World.cell?_alloc_at _ _ _ _ rfl]; rfl)
  have k2 : ((w.alloc (.cells #[.slice a T.length c] 22)).alloc (.cells #[.int .i64 s] 3)).cell? ⟨w.heap.size + 1, 0, none⟩ = some (.int .i64 s) := by
    rw [World.cell?_alloc_at _ _ _ _ (by simp)]; rfl
  have HB0 := hid hb0
  have HR := hid (reasonsOf_any a c T _ hok (hx.stays hb0))
  have HS := hid (H.sht_eq hok hs)
  have HG := hid (fun ra rc W (hW : Below ((w.alloc (.cells #[.slice a T.length c] 22)).alloc (.cells #[.int .i64 s] 3)).heap.size ((w.alloc (.cells #[.slice a T.length c] 22)).alloc (.cells #[.int .i64 s] 3)) W) hr => gatheredSht_any a c T s w.heap.size (w.heap.size + 1) ra rc W hok hs ((hx.stays hb0).stays hW) hr (cell_stays hW (Nat.le_refl _) k1) (cell_stays hW (Nat.le_refl _) k2))
  clear hx hok hb0 hb1 k1 k2
  go_enter Try.func57, Try.ntmps57
  go_wp2_with fail
  refine HR.out.mono ?_
  rintro e w' ⟨v, rfl, hrow, hb⟩
  obtain ⟨ra, rc, rfl, hrd⟩ := hrow.rd
  have HG2 := hid (HG.out ra rc w' hb hrd)
  have HB2 := hid (HB0.out.trans (hb.mono HB0.out.size))
  clear hrow hb hrd HR HG
  go_wp2_with fail
  refine HG2.out.mono ?_
  rintro e w2 ⟨rfl, hb⟩
  have HB3 := hid (HB2.out.trans (hb.mono HB2.out.size))
  clear hb
  go_wp2
  go_ret
  exact ⟨ret_int HS.out, HB3.out⟩
/-- What Shortest returns. -/
def H.shE (T : List (List Int)) (s : Int) : Int := if H.chks T s = 0 then H.sht T s else 0
set_option maxHeartbeats 400000 in
theorem Shortest_any (a : Option Addr) (c : Nat) (T : List (List Int)) (s : Int) (w : World) (hm : T.length ≤ maxLen) (hl : ∀ i (h : i < T.length), T[i].length ≤ maxLen) (hx : RdM w a T) :
    Calls Try.prog 19 #[.slice a T.length c, .int .i64 s] w fun e w' => e = .returned (.tuple #[.int .i64 (H.shE T s), .int .i64 (H.chks T s)]) ∧ Below w.heap.size w w' := by
  have HC := hid (checkSeats_any a c T s w hm hl hx)
  unfold H.shE
  by_cases h : H.chks T s = 0
  · obtain ⟨hok, hs, _⟩ := H.chks_ok h
    rw [if_pos h]
    have HS := hid (shortest_any a c T s w hok hs hx)
    rw [h] at HC ⊢
    clear h hm hl hx hok
    generalize H.sht T s = q at *
    go_enter Try.func19, Try.ntmps19
    go_wp2_with fail
    refine HC.out.mono ?_
    rintro e w' ⟨rfl, rfl⟩
    go_wp2_with fail
    refine HS.out.mono ?_
    rintro e w' ⟨rfl, hb⟩
    have HB := hid hb
    clear hb
    go_wp2
    go_ret2
    exact ⟨rfl, HB.out⟩
  · rw [if_neg h]
    have hne : (H.chks T s != 0) = true := by simpa using h
    generalize H.chks T s = ec at *
    clear h hx
    go_enter Try.func19, Try.ntmps19
    go_wp2_with fail
    refine HC.out.mono ?_
    rintro e w' ⟨rfl, rfl⟩
    go_wp2
    go_ret2
    exact ⟨rfl, Below.refl _ _⟩
end Go.Proofs.Ythlcnklbeolhpaa
