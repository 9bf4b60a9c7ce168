/- Package repeat: Root. -/
import Derived.Test.YtiodcgdjphmffaaBPers
import Derived.Test.YtiodcgdjphmffaaBPln
import Derived.Deep.RegionHeld3
namespace Go.Proofs.Ytiodcgdjphmffaa
open Go.RowKit Go.Shelf
attribute [local go_sem] Oper.semAt_some

def B.isRt (l : List UInt8) (p : Nat) : Bool := B.per l p && l.length % p == 0
def B.rt2 (l : List UInt8) : Nat := (((List.range l.length).find? (fun k => B.isRt l (k + 1))).map (· + 1)).getD l.length
/-- The smallest one. -/
structure B.RtIs (l : List UInt8) (r : Nat) : Prop where
  lo : 1 ≤ r
  hi : r ≤ l.length
  is : B.isRt l r = true
  no : ∀ q, 1 ≤ q → q < r → B.isRt l q = false
theorem B.RtIs.eq {l : List UInt8} {r : Nat} (h : B.RtIs l r) : B.rt2 l = r := by
  obtain ⟨k, rfl⟩ : ∃ k, r = k + 1 := ⟨r - 1, by have := h.lo; omega⟩
  unfold B.rt2
  rw [B.find_hit (p := fun k => B.isRt l (k + 1)) (by have := h.hi; omega) h.is (fun y hy => h.no (y + 1) (by omega) (by omega))]
  rfl
theorem B.per_len (l : List UInt8) : B.per l l.length = true := by unfold B.per; rw [List.drop_length]; rfl
theorem B.isRt_len {l : List UInt8} (_ : 1 ≤ l.length) : B.isRt l l.length = true := by unfold B.isRt; rw [B.per_len]; simp
theorem B.sel_mem {f : Nat → Bool} {x : Int} : ∀ {k}, x ∈ B.sel f k ↔ ∃ j : Nat, 1 ≤ j ∧ j ≤ k ∧ f j = true ∧ x = j
  | 0 => ⟨fun h => absurd h (List.not_mem_nil), fun ⟨j, h1, h2, _⟩ => absurd h1 (by omega)⟩
  | k + 1 => by
    unfold B.sel
    split
    · rename_i h
      rw [List.mem_append, B.sel_mem, List.mem_singleton]
      constructor
      · rintro (⟨j, h1, h2, h3, h4⟩ | h4)
        · exact ⟨j, h1, by omega, h3, h4⟩
        · exact ⟨k + 1, by omega, by omega, h, h4⟩
      · rintro ⟨j, h1, h2, h3, h4⟩
        by_cases e : j = k + 1
        · subst e; exact .inr h4
        · exact .inl ⟨j, h1, by omega, h3, h4⟩
    · rename_i h
      rw [B.sel_mem]
      constructor
      · rintro ⟨j, h1, h2, h3, h4⟩; exact ⟨j, h1, by omega, h3, h4⟩
      · rintro ⟨j, h1, h2, h3, h4⟩
        by_cases e : j = k + 1
        · subst e; rw [h3] at h; exact absurd rfl h
        · exact ⟨j, h1, by omega, h3, h4⟩
/-- Where the smallest one is found. -/
theorem B.rt_stop {l : List UInt8} {k : Nat} (hk : k < l.length) (hp : B.per l (k + 1) = true) (hd : l.length % (k + 1) = 0) (hn : ∀ x ∈ B.sel (B.per l) k, ((l.length : Nat) : Int) % x ≠ 0) : B.RtIs l (k + 1) where
  lo := by omega
  hi := by omega
  is := by unfold B.isRt; rw [hp, hd]; rfl
  no := fun q h1 h2 => by
    unfold B.isRt
    by_cases h : B.per l q = true
    · have := hn q (B.sel_mem.2 ⟨q, h1, by omega, h, rfl⟩)
      rw [h]
      simp only [Bool.true_and, beq_eq_false_iff_ne]
      omega
    · simp [h]
theorem B.rt_go {l : List UInt8} (h0 : 1 ≤ l.length) (hn : ∀ x ∈ B.sel (B.per l) l.length, ((l.length : Nat) : Int) % x ≠ 0) : False := by
  have := hn l.length (B.sel_mem.2 ⟨l.length, h0, Nat.le_refl _, B.per_len l, rfl⟩)
  simp at this

def B.rootV (s : ByteArray) : ByteArray × Int × Int := if B.chk s = 0 then (s.extract 0 (B.rt2 s.data.toList), ((s.size / B.rt2 s.data.toList : Nat) : Int), 0) else (⟨#[]⟩, 0, B.chk s)

set_option maxRecDepth 100000 in
set_option maxHeartbeats 2000000 in
theorem root_in (n : Nat) (hn : 3 ≤ n) (s : ByteArray) (w : World) (hm : s.size ≤ maxLen) (h0 : B.chk s = 0) :
    CallsIn Fence.wide n Try.prog 18 #[.string s] w fun e w' => e = .returned (.tuple #[.string (B.rootV s).1, .int .i64 (B.rootV s).2.1, .int .i64 (B.rootV s).2.2]) ∧ Below w.heap.size w w' := by
  have CC := hid (fun w => check_any s w hm)
  have h24 := (B.chk_zero h0).2.1
  have h11 := (B.chk_zero h0).1
  have HV : Hid (B.rootV s = (s.extract 0 (B.rt2 s.data.toList), ((s.size / B.rt2 s.data.toList : Nat) : Int), 0)) := hid (by unfold B.rootV; rw [if_pos h0])
  rw [h0] at CC
  rw [HV.out]
  clear h0
  have h1 : 1 ≤ n := by omega
  refine callsIn_of_wp_marks Try.func18 rfl trivial ?_ rfl
  simp only [Try.ntmps18, List.size_toArray, List.length_cons, List.length_nil, Nat.reduceAdd, Nat.reduceSub, Array.replicate_succ, Array.replicate_zero, List.push_toArray, List.append_toArray, List.nil_append, List.cons_append]
  have bS := Boxed.new w 9 (.string s)
  gi_wp2_with (refine ⟨trivial, ?_⟩; first | (gi_at_call 23; refine (callsIn_wide.2 (CC.out _)).mono ?_; rintro e w1 ⟨rfl, b1⟩; have bS1 : Boxed w1 w.heap.size 9 (.string s) := (b1.block _ (by simp)).trans bS; have hcS := bS1.cell; have hcS2 := fun o => (bS1.alloc o).cell; replace b1 := hid b1) | (gi_at_call 47; refine (periodsOf_in _ s _).mono ?_; rintro e w' ⟨rfl, rfl⟩))
  have hs0 : w.heap.size + 1 ≤ w1.heap.size := by have := b1.out.size; simpa using this
  have hbw : Below w.heap.size w w1 := ((Below.refl _ w).alloc (Nat.le_refl _) _).trans (b1.out.mono (by simp))
  have hs1 : w.heap.size ≤ w1.heap.size := by omega
  have bO := Boxed.new w1 3 (.int .i64 (s.size : Int))
  have bN := Boxed.new (w1.alloc (.cells #[.int .i64 (s.size : Int)] 3)) 9 (.string s)
  rw [World.size_alloc] at bN
  have hB0 : Below w.heap.size w ((w1.alloc (.cells #[.int .i64 (s.size : Int)] 3)).alloc (.cells #[.string s] 9)) := (hbw.alloc hs1 _).alloc (by simp; omega) _
  obtain ⟨W2, hW2⟩ : ∃ W2, (w1.alloc (.cells #[.int .i64 (s.size : Int)] 3)).alloc (.cells #[.string s] 9) = W2 := ⟨_, rfl⟩
  have hsz : W2.heap.size = w1.heap.size + 2 := by rw [← hW2]; simp
  have bO2 : Boxed W2 w1.heap.size 3 (.int .i64 (s.size : Int)) := by rw [← hW2]; exact bO.alloc _
  have bS2 : Boxed W2 w.heap.size 9 (.string s) := by rw [← hW2]; exact (bS1.alloc _).alloc _
  rw [hW2] at bN hB0 ⊢
  clear hW2 bO hcS hcS2
  obtain ⟨G, hG⟩ : ∃ G, w1.heap.size = G := ⟨_, rfl⟩
  obtain ⟨S0, hS0⟩ : ∃ S0, w.heap.size = S0 := ⟨_, rfl⟩
  rw [hG] at bN bO2 hsz hs0 hs1 ⊢
  rw [hS0] at bS2 hs0 hs1 ⊢
  have HS0 := hid hS0
  have HB0 := hid hB0
  clear hG hS0 hB0 b1 hbw bS bS1
  refine wpIn_rangeFunc_ownG rfl h1 (gf := 65) (lb := #[.pointer (some ⟨G + 1, 0, none⟩)]) rfl trivial (enters_of Try.func65 (by kernel_rfl) rfl)
    (periodsOf_stops (n - 1) (by omega) (G + 1) s (by omega) W2 (by omega) bN.cell) B.Kc_t (B.Kc_b (by omega)) (Below.refl _ _) (fun _ => rfl)
    (fun pre W => ((((∀ x ∈ pre, (s.size : Int) % x.1 ≠ 0) ∧ Boxed W G 3 (.int .i64 (s.size : Int))) ∧ Boxed W (G + 1) 9 (.string s)) ∧ Boxed W S0 9 (.string s)) ∧ Below w.heap.size w W)
    (fun c pre W => ((c = .exit 0 ∧ ∃ (p : B.Pos) (pre' : List B.Pos), pre = pre' ++ [p] ∧ (∀ x ∈ pre', (s.size : Int) % x.1 ≠ 0) ∧ (s.size : Int) % p.1 = 0 ∧ Boxed W G 3 (.int .i64 p.1)) ∧ Boxed W S0 9 (.string s)) ∧ Below w.heap.size w W)
    (OwnFrom.and (OwnFrom.and (OwnFrom.and (Own.from (fun pre A C row hs hg hr => ⟨hs.1, boxed_own G 3 (fun (_ : Unit) => .int .i64 (s.size : Int)) () A C row hs.2 hg hr⟩) _) (Own.from (boxed_own (G + 1) 9 (fun (_ : List B.Pos) => .string s)) _)) (Own.from (boxed_own S0 9 (fun (_ : List B.Pos) => .string s)) _)) (ownFrom_below (Nat.le_refl _) (by have := HS0.out; omega)))
    (fun c => OwnFrom.and (OwnFrom.and (Own.from (fun pre A C row hs hg hr => by
      obtain ⟨hc, p, pre', e1, e2, e3, hb⟩ := hs
      exact ⟨hc, p, pre', e1, e2, e3, boxed_own G 3 (fun (_ : Unit) => .int .i64 p.1) () A C row hb hg hr⟩) _) (Own.from (boxed_own S0 9 (fun (_ : List B.Pos) => .string s)) _)) (ownFrom_below (Nat.le_refl _) (by have := HS0.out; omega)))
    ⟨⟨⟨⟨by simp, bO2⟩, bN⟩, bS2⟩, HB0.out⟩
    (fun x => { tmps := #[.string s, .pointer (some ⟨S0, 0, none⟩), .string ⟨#[]⟩, .int .i64 0, .int .i64 0, .int .i64 0, .pointer (some ⟨G, 0, none⟩), .int .i64 x.1, .string s, .int .i64 0, .int .i64 0, .bool false, undef, .string s, .int .i64 (s.size : Int), .string s, .func (.func 65) #[] #[.pointer (some ⟨G + 1, 0, none⟩)], .int .i64 x.1, undef, undef, undef, undef, undef, undef, undef, undef, undef, undef, undef, undef, undef, undef], defers := [] }) ?assign ?body ?done ?stop
  case assign =>
    intro l x W K hK
    gi_wp2
    exact hK
  case body =>
    rintro l pre ⟨x, hx1, hx2⟩ W ⟨⟨⟨⟨hp, hL⟩, hbn⟩, hbs⟩, hB⟩ hlt
    dsimp only
    have hcl := hL.cell
    have hfl := hL.frozen
    have hcs := hbs.cell
    have hne : ¬ x = 0 := by omega
    have HB := hid hB
    have HP := hid hp
    clear hB hp
    by_cases hr : (s.size : Int) % x = 0
    · have hr2 : (s.size : Int).tmod x = 0 := by rw [Int.tmod_eq_emod_of_nonneg (by omega)]; exact hr
      have HR := hid hr
      gi_wp2
      exact ⟨(KeepsOthers.setCell _ _ _).from _, ⟨⟨rfl, ⟨x, hx1, hx2⟩, pre, rfl, HP.out, HR.out, hL.set _⟩, hbs.other (by omega) _⟩, HB.out.setCell (p := ⟨G, 0, none⟩) (by have := HS0.out; show w.heap.size ≤ G; omega) _⟩
    · obtain ⟨r, hr1⟩ : ∃ r, (s.size : Int) % x = r := ⟨_, rfl⟩
      have hr2 : (s.size : Int).tmod x = r := by rw [Int.tmod_eq_emod_of_nonneg (by omega)]; exact hr1
      rw [hr1] at hr
      have hr3 : (r == 0) = false := by simpa using hr
      have HR := hid hr
      have HR1 := hid hr1
      clear hr
      gi_wp2
      refine ⟨KeepsFrom.refl _ _, rfl, ⟨⟨⟨fun y hy => ?_, hL⟩, hbn⟩, hbs⟩, HB.out⟩
      rcases List.mem_append.1 hy with h | h
      · exact HP.out y h
      · simp only [List.mem_singleton] at h
        subst h
        show (s.size : Int) % x ≠ 0
        rw [HR1.out]; exact HR.out
  case done =>
    rintro D ys W hD hys ⟨⟨⟨⟨hp, hL⟩, hbn⟩, hbs⟩, hB⟩ hK
    exfalso
    have hl := B.len s
    refine B.rt_go (l := s.data.toList) (by omega) (fun x hx => ?_)
    rw [hl, ← hys] at hx
    obtain ⟨y, hy, rfl⟩ := List.mem_map.1 hx
    rw [hl]
    exact hp y hy
  case stop =>
    rintro D c pre W hD ⟨k, hk, hper, hpre⟩ ⟨⟨⟨rfl, p, pre', rfl, hno, hyes, hL⟩, hbs⟩, hB⟩ hK
    have hl := B.len s
    rw [B.sel_hit hper, List.map_append] at hpre
    obtain ⟨e1, e2⟩ := List.append_inj' hpre (by simp)
    simp only [List.map_cons, List.map_nil, List.cons.injEq, and_true] at e2
    rw [e2] at hL hyes
    have hmod : s.size % (k + 1) = 0 := by omega
    have HRT := B.rt_stop (l := s.data.toList) (k := k) (by omega) hper (by rw [hl]; exact hmod) (fun x hx => by
      rw [← e1] at hx
      obtain ⟨y, hy, rfl⟩ := List.mem_map.1 hx
      rw [hl]
      exact hno y hy)
    have HEQ := hid HRT.eq
    rw [HEQ.out] at HV
    obtain ⟨r, hr⟩ : ∃ r, k + 1 = r := ⟨_, rfl⟩
    rw [hr] at hL HV HEQ
    have hr1 : 1 ≤ r := by omega
    have hr2 : r ≤ s.size := by omega
    have CL := hid (fun w => clone_any (s.extract 0 r) w (by rw [B.size_extract]; omega))
    have hcl := hL.cell
    have hcs := hbs.cell
    have hne : ¬ (r : Int) = 0 := by omega
    have HB := hid hB
    have HK := hid hK
    have HW := hid hbs
    have HW2 := hid hL
    clear hr HRT e1 e2 hpre hno hyes hmod hper hB hK hbs hL
    have HKC := hid (fun (W' : World) (h : Below W.heap.size W W') => (⟨(Below.cell (p := ⟨S0, 0, none⟩) h HW.out.lt).trans HW.out.cell, (Below.cell (p := ⟨G, 0, none⟩) h HW2.out.lt).trans HW2.out.cell⟩ : W'.cell? ⟨S0, 0, none⟩ = some (.string s) ∧ W'.cell? ⟨G, 0, none⟩ = some (.int .i64 (r : Int))))
    have hsl := B.size_extract s 0 r
    obtain ⟨q, hq⟩ : ∃ q : Nat, s.size / r = q := ⟨_, rfl⟩
    have hql : q ≤ s.size := by rw [← hq]; exact Nat.div_le_self _ _
    have hd1 : (s.size : Int) / (r : Int) = (q : Int) := by rw [← hq]; simp
    have hd2 : (s.size : Int).tdiv (r : Int) = (q : Int) := by rw [Int.tdiv_eq_ediv_of_nonneg (by omega)]; exact hd1
    have hd3 : IntKind.i64.wrap (q : Int) = (q : Int) := IntWalk.i64_in _ ⟨by omega, by omega⟩
    have HQ := hid hq
    have hne2 : ¬ r = 0 := by omega
    clear hq
    gi_wp2
    refine wpIn_wide.2 ?_
    go_region_held3 (fun W' => W'.cell? ⟨S0, 0, none⟩ = some (.string s) ∧ W'.cell? ⟨G, 0, none⟩ = some (.int .i64 (r : Int))) (first | exact ⟨z1, z2⟩ | go_keep) (first | (go_at_call 49; (with_reducible refine (CL.out _).mono ?_); rintro e w5 ⟨rfl, hb5⟩; have hbx : Below W.heap.size W w5 := (Below.refl W.heap.size W).drew.trans hb5; have z1 := (HKC.out _ hbx).1; have z2 := (HKC.out _ hbx).2; have HB5 := hid hbx; clear hb5 hbx))
    gi_wp2
    have hK' : w5.heap[D]? = some (Obj.deferred (some [])) := (HB5.out.block D (Array.getElem?_eq_some_iff.1 HK.out).1).trans HK.out
    refine ⟨by simp, .inl ⟨_, _, rfl, run_takeDeferred hK', ?_⟩⟩
    have hBe : Below w.heap.size w w5 := HB.out.trans (HB5.out.mono HB.out.size)
    refine ⟨_, results_tmp3 rfl _ _ _, ?_, hBe.trans (belowK_b (w := w) (Nat.le_refl _) w5 D _ _ (by have := HS0.out; omega) hK' rfl rfl)⟩
    rw [HEQ.out, HQ.out]
    rfl

theorem B.root_bad (s : ByteArray) (w : World) (hm : s.size ≤ maxLen) (h0 : B.chk s ≠ 0) :
    Calls Try.prog 18 #[.string s] w fun e w' => e = .returned (.tuple #[.string (B.rootV s).1, .int .i64 (B.rootV s).2.1, .int .i64 (B.rootV s).2.2]) ∧ Below w.heap.size w w' := by
  have CC := hid (fun w => check_any s w hm)
  have HV : Hid (B.rootV s = (⟨#[]⟩, 0, B.chk s)) := hid (by unfold B.rootV; rw [if_neg h0])
  have hn : (B.chk s != 0) = true := by simpa using h0
  rw [HV.out]
  clear h0
  generalize B.chk s = c at *
  go_enter Try.func18, Try.ntmps18
  go_wp2_with (refine (CC.out _).mono ?_; rintro e w1 ⟨rfl, b1⟩; replace b1 := hid b1)
  go_ret3
  exact ⟨rfl, ((Below.refl _ w).alloc (Nat.le_refl _) _).trans (b1.out.mono (by simp))⟩

theorem root_any (s : ByteArray) (w : World) (hm : s.size ≤ maxLen) :
    Calls Try.prog 18 #[.string s] w fun e w' => e = .returned (.tuple #[.string (B.rootV s).1, .int .i64 (B.rootV s).2.1, .int .i64 (B.rootV s).2.2]) ∧ Below w.heap.size w w' := by
  by_cases h0 : B.chk s = 0
  · exact (callsIn_wide (n := 3)).1 (root_in 3 (Nat.le_refl _) s w hm h0)
  · exact B.root_bad s w hm h0
end Go.Proofs.Ytiodcgdjphmffaa
