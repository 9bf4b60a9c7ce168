/- The reference's joined. -/
import Derived.Test.YtiodcgdjphmffaaBRef6
namespace Go.Proofs.Ytiodcgdjphmffaa
open Go.RowKit

theorem RowL.base {w : World} {lo : Nat} {v : Value} {xs : List Bool} (h : RowL w lo v xs) (h0 : 0 < xs.length) : ∃ g cap, v = .slice (some ⟨g, 0, none⟩) xs.length cap ∧ lo ≤ g := by
  rcases h.2 with ⟨_, h2⟩ | ⟨g, cap, cur, rfl, h1, _⟩
  · omega
  · exact ⟨g, cap, rfl, h1⟩
theorem B.empty_if (b : ByteArray) : b.toList.isEmpty = decide (b.size = 0) := empty_of b
/-- The best row, when so many have been tried: "" is none. -/
def B.bst (r : ByteArray) (R : List ByteArray) (k : Nat) : ByteArray := if k = 0 then ⟨#[]⟩ else B.jnTo (B.jn (R.length - 1)) r R k

set_option maxHeartbeats 4000000 in
set_option maxRecDepth 100000 in
theorem refJoined_step (L : List ByteArray) (a : Option Addr) (c : Nat) (hL5 : L.length ≤ 5) (hx : ∀ x ∈ L, 1 ≤ x.size ∧ x.size ≤ 24) (m : Nat)
    (ih : ∀ m', m' + 1 = m → ∀ (r : ByteArray) (u : List Bool) (ua : Option Addr) (uc : Nat) (w : World), u.length = L.length → (B.rem L u).length = m' → r.size + 24 * m' ≤ 1000 → RdS w a L → RdL w ua u →
      Calls Try.prog 64 #[.string r, .slice a L.length c, .slice ua L.length uc] w fun e w' => e = .returned (.string (B.jn m' r (B.rem L u))) ∧ Below w.heap.size w w')
    (r : ByteArray) (u : List Bool) (ua : Option Addr) (uc : Nat) (w : World) (hu : u.length = L.length) (hm : (B.rem L u).length = m) (hz : r.size + 24 * m ≤ 1000) (hr : RdS w a L) (hru : RdL w ua u) :
    Calls Try.prog 64 #[.string r, .slice a L.length c, .slice ua L.length uc] w fun e w' => e = .returned (.string (B.jn m r (B.rem L u))) ∧ Below w.heap.size w w' := by
  have HIH := hid ih
  have HX := hid hx
  have HR := hid hr
  have HU := hid hru
  have HC0 : Hid (B.cnt u 0 = 0) := hid rfl
  have HCE := hid (B.cnt_end hu)
  have HCS := hid (fun i (h : i < u.length) => B.cnt_succ h)
  have HRA := hid (fun i hi hi' e => B.rem_at hu (i := i) hi hi' e)
  have HRS := hid (fun i hi e => B.rem_set hu (i := i) hi e)
  have HRX : Hid (∀ x ∈ B.rem L u, 1 ≤ x.size ∧ x.size ≤ 24) := hid (by
    have : ∀ (l : List ByteArray) (v : List Bool), (∀ x ∈ l, 1 ≤ x.size ∧ x.size ≤ 24) → ∀ x ∈ B.rem l v, 1 ≤ x.size ∧ x.size ≤ 24 := by
      intro l
      induction l with
      | nil => intro v _ x hx; cases v <;> cases hx
      | cons b l ihl =>
        intro v hl x hx
        cases v with
        | nil => exact hl x hx
        | cons f v =>
          cases f
          · rcases List.mem_cons.1 hx with rfl | hx
            · exact hl _ (by simp)
            · exact ihl v (fun y hy => hl y (by simp [hy])) x hx
          · exact ihl v (fun y hy => hl y (by simp [hy])) x hx
    exact this L u hx)
  have HB0 : Hid (B.bst r (B.rem L u) 0 = ⟨#[]⟩) := hid rfl
  have HFI : Hid (B.rem L u = [] → r = B.jn m r (B.rem L u)) := hid (fun h => by rw [h] at hm; rw [← hm]; rfl)
  have HFJ : Hid (1 ≤ m → B.bst r (B.rem L u) m = B.jn m r (B.rem L u)) := hid (fun h => by
    obtain ⟨q, rfl⟩ : ∃ q, m = q + 1 := ⟨m - 1, by omega⟩
    unfold B.bst
    rw [if_neg (by omega), hm]
    show B.jnTo (B.jn q) r (B.rem L u) (q + 1) = B.jnTo (B.jn q) r (B.rem L u) (B.rem L u).length
    rw [hm])
  have HML := hid hm
  have HUL := hid hu
  clear ih hx hr hru
  go_enter Try.func64, Try.ntmps64
  go_wp2
  go_loopw [7, 8, 9] (fun x y z wr => ∃ i : Nat, i ≤ L.length ∧ z = .int .i64 i ∧ y = .bool (decide (0 < B.cnt u i)) ∧ x = .string (B.bst r (B.rem L u) (B.cnt u i)) ∧ Below w.heap.size w wr) (fun _ _ z _ => L.length - (intOf z).toNat)
  case atStart => exact ⟨0, Nat.zero_le _, rfl, by rw [HC0.out]; rfl, by rw [HC0.out, HB0.out], Below.refl _ _⟩
  case round =>
    obtain ⟨i, hi, rfl, rfl, rfl, hb⟩ := hrel
    have HB := hid hb
    clear hb
    by_cases hlt : i < L.length
    · have hlt' : i < u.length := by omega
      obtain ⟨ub, uo, rfl, huc⟩ := (HU.out.stays HB.out) i hlt'
      obtain ⟨b, off, rfl, hcl⟩ := (HR.out.stays HB.out) i hlt
      have HCS1 := hid (HCS.out i hlt')
      have hix : (0 : Int) ≤ (i : Int) ∧ (i : Int) < (L.length : Int) := by omega
      generalize hf : u[i] = f at *
      have HF := hid hf
      clear hf
      cases f with
      | true =>
        have HC2 : Hid (B.cnt u (i + 1) = B.cnt u i) := hid (by rw [HCS1.out]; rfl)
        clear HCS1
        generalize hk : B.cnt u i = k at *
        clear hk
        go_wp2
        go_roundw
        case rel => exact ⟨i + 1, by omega, by go_num, by rw [HC2.out], by rw [HC2.out], HB.out⟩
        case measure => simp [intOf]; omega
      | false =>
        have HC2 : Hid (B.cnt u (i + 1) = B.cnt u i + 1) := hid (by rw [HCS1.out]; rfl)
        obtain ⟨hkl, hke⟩ := HRA.out i hlt hlt' HF.out
        have HRS1 := hid (HRS.out i hlt' HF.out)
        have hx1 := HX.out L[i] (List.getElem_mem hlt)
        clear HCS1
        obtain ⟨i0, hi0, hz0, hz1, hz2⟩ := info_parts (show (Try.prog.info? 4).map (fun i => (i.zero, i.size, i.bytes)) = some (some (.bool false), 1, 1) by kernel_rfl)
        go_wp2_with (at_builtin; refine wpList_append_own _ rfl _ _ 57 rfl wr.heap.size 4 i0 (.bool false) 1 1 Try.underlying57 hi0 hz0 hz1 hz2 rfl (by decide) _ _ _ rfl (World.ownsRow_made wr #[] 0 (Nat.le_refl _) (Nat.zero_le _) rfl) ⟨ub, uo, none⟩ L.length uc (u.map Value.bool) rfl ?qc1 ?qc2 ?qc3 ?qc4 ?qc5 ?qc6 ?_)
        case qc1 => simp [HUL.out]
        case qc2 =>
          intro j x hj
          have hjn : j < u.length := by
            have := (List.getElem?_eq_some_iff.1 hj).1
            simpa using this
          obtain ⟨b', off', he, hc⟩ := (HU.out.stays HB.out) j hjn
          simp only [Option.some.injEq, Addr.mk.injEq, and_true] at he
          obtain ⟨rfl, rfl⟩ := he
          rw [Addr.add_lit]
          refine Lib.cell?_alloc_some _ ?_
          rw [hc]
          simpa [hjn] using hj
        case qc3 => intro x hx; obtain ⟨y, _, rfl⟩ := List.mem_map.1 hx; rfl
        case qc4 => unfold maxLen; omega
        case qc5 => omega
        case qc6 => simp
        intro v' w1 hown hgrow _
        have hbel := ((Below.refl wr.heap.size wr).alloc (Nat.le_refl _) (.cells #[] 4)).grown hgrow (by simp) (by intro k hk; simp [Value.ownBlock] at hk; omega)
        have hown2 : RowL w1 wr.heap.size v' u := by unfold RowL; rw [HUL.out]; simpa using hown
        clear hown hgrow
        obtain ⟨g, c1, rfl, hg⟩ := hown2.base (by omega)
        have hc1 := (World.ownsRow.cellAt hown2 i (by omega))
        have hf1 := World.ownsRow.frozenAt hown2 i
        have hbl : b < wr.heap.size := World.block_lt_of_cell? _ _ hcl
        have HB2 : Hid (Below wr.heap.size wr (w1.setCell ⟨g, i, none⟩ (.bool true))) := hid (hbel.setCell (p := ⟨g, i, none⟩) hg _)
        have hcl2 : (w1.setCell ⟨g, i, none⟩ (.bool true)).cell? ⟨b, off + i, none⟩ = some (.string L[i]) := (HB2.out.cell (p := ⟨b, off + i, none⟩) hbl).trans hcl
        have HRL : Hid (RdL (w1.setCell ⟨g, i, none⟩ (.bool true)) (some ⟨g, 0, none⟩) (u.set i true)) := hid (by
          have := hown2.set i true
          obtain ⟨a', c', e', hr'⟩ := this.rd
          simp only [Value.slice.injEq] at e'
          obtain ⟨rfl, _, _⟩ := e'
          exact hr')
        have HB3 : Hid (Below w.heap.size w (w1.setCell ⟨g, i, none⟩ (.bool true))) := hid (HB.out.trans (HB2.out.mono HB.out.size))
        rw [HUL.out] at hown2
        simp only [List.getElem?_map, List.getElem?_eq_getElem hlt', Option.map_some, HF.out] at hc1
        clear hown2 hbel
        have HK1 : Hid (B.cnt u i < m) := hid (by have := HML.out; omega)
        have hgs := B.grow_size r L[i]
        have hgg := B.grow_ge r L[i]
        have KP := hid (fun W => refPut_any r L[i] W (by omega) (by omega))
        have HO1 : Hid ((B.rem L (u.set i true)).length = m - 1) := hid (by
          rw [HRS1.out, List.length_append, List.length_take, List.length_drop]
          have := HML.out
          omega)
        have KJ := hid (fun W (hb : Below w.heap.size w W) (hr2 : RdL W (some ⟨g, 0, none⟩) (u.set i true)) => HIH.out (m - 1) (by have := HK1.out; omega) (B.grow r L[i]) (u.set i true) (some ⟨g, 0, none⟩) c1 W (by rw [List.length_set]; exact HUL.out) HO1.out (by have := HK1.out; omega) (HR.out.stays hb) hr2)
        have hoge := B.jn_ge (m - 1) (B.grow r L[i]) (B.rem L (u.set i true)) HO1.out
        have HBS : Hid (B.bst r (B.rem L u) (B.cnt u i + 1) = if B.cnt u i = 0 ∨ B.cmpR (B.jn (m - 1) (B.grow r L[i]) (B.rem L (u.set i true))) (B.bst r (B.rem L u) (B.cnt u i)) < 0 then B.jn (m - 1) (B.grow r L[i]) (B.rem L (u.set i true)) else B.bst r (B.rem L u) (B.cnt u i)) := hid (by
          have e1 : (B.rem L u).getD (B.cnt u i) ⟨#[]⟩ = L[i] := by simp only [List.getD, List.getElem?_eq_getElem hkl, Option.getD_some, hke]
          have e2 : B.bst r (B.rem L u) (B.cnt u i + 1) = B.jnTo (B.jn (m - 1)) r (B.rem L u) (B.cnt u i + 1) := by unfold B.bst; rw [if_neg (by omega), HML.out]
          rw [e2, B.jnTo, e1, ← HRS1.out]
          by_cases hk0 : B.cnt u i = 0
          · rw [if_pos (Or.inl hk0), if_pos (Or.inl hk0)]
          · have e3 : B.bst r (B.rem L u) (B.cnt u i) = B.jnTo (B.jn (m - 1)) r (B.rem L u) (B.cnt u i) := by unfold B.bst; rw [if_neg hk0, HML.out]
            rw [e3])
        have HBZ : Hid (B.cnt u i ≠ 0 → 1 ≤ (B.bst r (B.rem L u) (B.cnt u i)).size) := hid (fun h => by
          obtain ⟨q, hq⟩ : ∃ q, B.cnt u i = q + 1 := ⟨B.cnt u i - 1, by omega⟩
          unfold B.bst
          rw [if_neg h, hq, HML.out]
          refine B.jnTo_ge (n := 1) (fun k hk => ?_) q (by omega)
          have h1 := B.jn_ge (m - 1) (B.grow r (B.rem L u)[k]) ((B.rem L u).take k ++ (B.rem L u).drop (k + 1)) (by rw [List.length_append, List.length_take, List.length_drop]; have := HML.out; omega)
          have h2 := (B.grow_ge r (B.rem L u)[k]).2
          have h3 := (HRX.out (B.rem L u)[k] (List.getElem_mem hk)).1
          omega)
        have HBZ0 : Hid (B.cnt u i = 0 → (B.bst r (B.rem L u) (B.cnt u i)).size = 0) := hid (fun h => by rw [h]; rfl)
        have HCX := hid (B.cmpR_lt (B.jn (m - 1) (B.grow r L[i]) (B.rem L (u.set i true))) (B.bst r (B.rem L u) (B.cnt u i)))
        have HLS : Hid (∀ (x y : ByteArray), Op.bytesLess x.toList y.toList = decide (x.data.toList < y.data.toList)) := hid (fun x y => by rw [bytesLess_eq, Lib.toList_data, Lib.toList_data])
        have hnz1 : 1 ≤ (B.jn (m - 1) (B.grow r L[i]) (B.rem L (u.set i true))).size := by omega
        have hemp := B.empty_if (B.bst r (B.rem L u) (B.cnt u i))
        have hls := HLS.out (B.jn (m - 1) (B.grow r L[i]) (B.rem L (u.set i true))) (B.bst r (B.rem L u) (B.cnt u i))
        generalize B.jn (m - 1) (B.grow r L[i]) (B.rem L (u.set i true)) = o at *
        generalize B.grow r L[i] = gr at *
        generalize B.bst r (B.rem L u) (B.cnt u i) = bs at *
        have HSUB : Hid (∀ W, Below (w1.setCell ⟨g, i, none⟩ (.bool true)).heap.size (w1.setCell ⟨g, i, none⟩ (.bool true)) W → RdL W (some ⟨g, 0, none⟩) (u.set i true)) := hid (fun W h => HRL.out.stays h)
        generalize hws : w1.setCell ⟨g, i, none⟩ (.bool true) = ws at *
        clear HRA HRS HRS1 hkl hke HRL HIH hcl huc hbl
        by_cases hk0 : B.cnt u i = 0
        · have hsz := HBZ0.out hk0
          have HS2 : Hid (B.bst r (B.rem L u) (B.cnt u i + 1) = o) := hid (by rw [HBS.out, if_pos (Or.inl hk0)])
          rw [decide_eq_true hsz] at hemp
          clear hsz hk0 HBS hls hz hgs hgg hoge
          go_wp2_with (first | (go_at_call 74; refine (KP.out _).mono ?_; rintro e w5 ⟨rfl, hb5⟩; have HB5 := hid hb5; clear hb5) | (go_at_call 64; refine (KJ.out w5 (HB3.out.trans (HB5.out.mono HB3.out.size)) (HSUB.out w5 HB5.out)).mono ?_; rintro e w6 ⟨rfl, hb6⟩; have HB6 := hid hb6; clear hb6))
          go_roundw
          case rel => exact ⟨i + 1, by omega, by go_num, by rw [HC2.out]; simp, by rw [HC2.out, HS2.out], HB3.out.trans ((HB5.out.trans (HB6.out.mono HB5.out.size)).mono HB3.out.size)⟩
          case measure => simp [intOf]; omega
        · have hsz := HBZ.out hk0
          rw [decide_eq_false (show ¬ bs.size = 0 by omega)] at hemp
          by_cases hA : o.size < bs.size
          · have HS2 : Hid (B.bst r (B.rem L u) (B.cnt u i + 1) = o) := hid (by rw [HBS.out, if_pos (Or.inr (HCX.out.2 (Or.inl hA)))])
            have hA' : (o.size : Int) < (bs.size : Int) := by omega
            clear hsz hk0 HBS hls hz hgs hgg hoge hA
            go_wp2_with (first | (go_at_call 74; refine (KP.out _).mono ?_; rintro e w5 ⟨rfl, hb5⟩; have HB5 := hid hb5; clear hb5) | (go_at_call 64; refine (KJ.out w5 (HB3.out.trans (HB5.out.mono HB3.out.size)) (HSUB.out w5 HB5.out)).mono ?_; rintro e w6 ⟨rfl, hb6⟩; have HB6 := hid hb6; clear hb6))
            go_roundw
            case rel => exact ⟨i + 1, by omega, by go_num, by rw [HC2.out]; simp, by rw [HC2.out, HS2.out], HB3.out.trans ((HB5.out.trans (HB6.out.mono HB5.out.size)).mono HB3.out.size)⟩
            case measure => simp [intOf]; omega
          · by_cases hB : o.size = bs.size
            · have hB' : ((o.size : Int) == (bs.size : Int)) = true := by simp [hB]
              have hA' : ¬ (o.size : Int) < (bs.size : Int) := by omega
              have hA2 : decide ((o.size : Int) < (bs.size : Int)) = false := decide_eq_false hA'
              have hA3 : decide (o.size < bs.size) = false := decide_eq_false hA
              by_cases hC : o.data.toList < bs.data.toList
              · have HS2 : Hid (B.bst r (B.rem L u) (B.cnt u i + 1) = o) := hid (by rw [HBS.out, if_pos (Or.inr (HCX.out.2 (Or.inr ⟨hB, hC⟩)))])
                rw [decide_eq_true hC] at hls
                clear hsz hk0 HBS hz hgs hgg hoge hA hB hC
                go_wp2_with (first | (go_at_call 74; refine (KP.out _).mono ?_; rintro e w5 ⟨rfl, hb5⟩; have HB5 := hid hb5; clear hb5) | (go_at_call 64; refine (KJ.out w5 (HB3.out.trans (HB5.out.mono HB3.out.size)) (HSUB.out w5 HB5.out)).mono ?_; rintro e w6 ⟨rfl, hb6⟩; have HB6 := hid hb6; clear hb6))
                go_roundw
                case rel => exact ⟨i + 1, by omega, by go_num, by rw [HC2.out]; simp, by rw [HC2.out, HS2.out], HB3.out.trans ((HB5.out.trans (HB6.out.mono HB5.out.size)).mono HB3.out.size)⟩
                case measure => simp [intOf]; omega
              · have HS2 : Hid (B.bst r (B.rem L u) (B.cnt u i + 1) = bs) := hid (by
                  rw [HBS.out, if_neg]
                  rintro (h | h)
                  · exact hk0 h
                  · rcases HCX.out.1 h with h | h
                    · exact hA h
                    · exact hC h.2)
                rw [decide_eq_false hC] at hls
                clear hsz hk0 HBS hz hgs hgg hoge hA hB hC
                go_wp2_with (first | (go_at_call 74; refine (KP.out _).mono ?_; rintro e w5 ⟨rfl, hb5⟩; have HB5 := hid hb5; clear hb5) | (go_at_call 64; refine (KJ.out w5 (HB3.out.trans (HB5.out.mono HB3.out.size)) (HSUB.out w5 HB5.out)).mono ?_; rintro e w6 ⟨rfl, hb6⟩; have HB6 := hid hb6; clear hb6))
                go_roundw
                case rel => exact ⟨i + 1, by omega, by go_num, by rw [HC2.out]; simp, by rw [HC2.out, HS2.out], HB3.out.trans ((HB5.out.trans (HB6.out.mono HB5.out.size)).mono HB3.out.size)⟩
                case measure => simp [intOf]; omega
            · have hB' : ((o.size : Int) == (bs.size : Int)) = false := by rw [beq_eq_false_iff_ne]; omega
              have hA' : ¬ (o.size : Int) < (bs.size : Int) := by omega
              have hA2 : decide ((o.size : Int) < (bs.size : Int)) = false := decide_eq_false hA'
              have hA3 : decide (o.size < bs.size) = false := decide_eq_false hA
              have HS2 : Hid (B.bst r (B.rem L u) (B.cnt u i + 1) = bs) := hid (by
                rw [HBS.out, if_neg]
                rintro (h | h)
                · exact hk0 h
                · rcases HCX.out.1 h with h | h
                  · exact hA h
                  · exact hB h.1)
              clear hsz hk0 HBS hls hz hgs hgg hoge hA hB
              go_wp2_with (first | (go_at_call 74; refine (KP.out _).mono ?_; rintro e w5 ⟨rfl, hb5⟩; have HB5 := hid hb5; clear hb5) | (go_at_call 64; refine (KJ.out w5 (HB3.out.trans (HB5.out.mono HB3.out.size)) (HSUB.out w5 HB5.out)).mono ?_; rintro e w6 ⟨rfl, hb6⟩; have HB6 := hid hb6; clear hb6))
              go_roundw
              case rel => exact ⟨i + 1, by omega, by go_num, by rw [HC2.out]; simp, by rw [HC2.out, HS2.out], HB3.out.trans ((HB5.out.trans (HB6.out.mono HB5.out.size)).mono HB3.out.size)⟩
              case measure => simp [intOf]; omega
    · have hie : i = L.length := by omega
      subst hie
      rw [HCE.out, HML.out]
      by_cases hm0 : m = 0
      · have HE := hid (HFI.out (List.length_eq_zero_iff.1 (by rw [HML.out]; exact hm0)))
        have hd : decide (0 < m) = false := by simp [hm0]
        clear hm0 hm hz
        go_wp2
        go_ret
        exact ⟨by rw [← HE.out]; rfl, HB.out⟩
      · have HE := hid (HFJ.out (by omega))
        have hd : decide (0 < m) = true := by simp; omega
        clear hm0 hm hz
        go_wp2
        go_ret
        exact ⟨by rw [← HE.out]; rfl, HB.out⟩
end Go.Proofs.Ytiodcgdjphmffaa
