/- The walk of arranged: numbers in an order by numbers. -/
import Derived.Test.YtlpdlnefgjmgmaaCode
import Derived.Deep.RegionLaw
import Derived.Maps.AppendAt
namespace Go.Proofs.Ytlpdlnefgjmgmaa
open Go.RowKit

/-- append onto a slice that the call owns, as a step of a region that draws. -/
theorem step_append_at {P : Program} {ops : Array Oper} {o : Oper} {a : Act} {w : World} {K : Act → World → Prop} {Q : Exit → Act → World → Prop} {E : Prop} (hgd : o.guard = none) (s x : Operand) (t : TypeId)
    (ho : o.op = .call { callee := .builtin .append, args := #[s, x], argTypes := #[t, t] })
    (e : TypeId) (i : TypeInfo) (z : Value) (ht : P.underlying t = some (.slice e)) (hi : P.info? e = some i) (hz : i.zero = some z) (hsize : i.size = 1) (hby : i.bytes ≤ 24) (hzs : z.cells.size = 1)
    (base : Nat) (v : Value) (n : Nat) (xs : List Value) (hs : a.eval s = v) (ad : Addr) (m c : Nat) (news : List Value) (hx : a.eval x = .slice (some ad) m c)
    (hf : w.ownsRow base e 1 v n xs ∧ news.length = m ∧ (∀ j u, news[j]? = some u → w.cell? (ad.add j) = some u) ∧ (∀ u ∈ news, u.oneCell' = true) ∧ n + m ≤ 1000 ∧ base ≤ w.heap.size)
    (h : ∀ v' w', w'.ownsRow base e 1 v' (n + m) (xs ++ news) → w.grownBy w' v.ownBlock → (v'.ownBlock = v.ownBlock ∨ v'.ownBlock = some w.heap.size) → K (a.put o.dst v') w') :
    if Region.wanted o (yielded ops a.tmps) = true then Oper.wp P o a w K Q else E := by
  have hw : Region.wanted o (yielded ops a.tmps) = true := by simp [Region.wanted, hgd]
  rw [if_pos hw]
  obtain ⟨f1, f2, f3, f4, f5, f6⟩ := hf
  obtain ⟨v', w', hr, h2, h3, _, h5⟩ := run_append_own_at (P := P) w base t o.type e i z 1 i.bytes ht hi hz hsize rfl hzs (by decide) v n xs f1 ad m c news (by omega) f3 f4 (by unfold maxLen; omega)
    (by have : (n + m) * i.bytes ≤ 1000 * 24 := Nat.mul_le_mul f5 hby; omega) f6
  unfold Oper.wp execOp
  simp only [ho, resolve, invoke, builtin, Sem.run_bind, Sem.run_pure, Result.andThen_ok, List.map_toArray, List.map_cons, List.map_nil, hs, hx, hr]
  exact h v' w' h2 h3 h5

/-- The value is the call's own slice and holds these numbers. -/
def OwnV (w : World) (base : Nat) (v : Value) (xs : List Int) : Prop := w.ownsRow base 3 1 v xs.length (xs.map (Value.int .i64))

theorem OwnV.any {w : World} {base : Nat} {v : Value} {xs : List Int} (h : OwnV w base v xs) : ∃ a c, v = .slice a xs.length c := by
  rcases h.2 with ⟨rfl, h0⟩ | ⟨g, cap, cur, rfl, _⟩
  · exact ⟨none, 0, by rw [h0]⟩
  · exact ⟨_, _, rfl⟩

theorem OwnV.lt {w : World} {base : Nat} {v : Value} {xs : List Int} (h : OwnV w base v xs) : ∀ k, v.ownBlock = some k → base ≤ k ∧ k < w.heap.size := World.ownsRow.lt h

theorem OwnV.rd {w : World} {base : Nat} {a : Option Addr} {n c : Nat} {xs : List Int} (h : OwnV w base (.slice a n c) xs) : RdI w a xs := fun k hk => by
  rcases h.2 with ⟨h1, h0⟩ | ⟨g, cap, cur, h1, _⟩
  · omega
  · simp only [Value.slice.injEq] at h1
    obtain ⟨rfl, rfl, rfl⟩ := h1
    have h : OwnI w base g c xs := h
    exact h.rd k hk

theorem OwnV.at0 {w : World} {base : Nat} {a : Option Addr} {n c : Nat} {xs : List Int} (h : OwnV w base (.slice a n c) xs) (h0 : 0 < xs.length) : ∃ g, a = some ⟨g, 0, none⟩ := by
  rcases h.2 with ⟨_, h2⟩ | ⟨g, cap, cur, h1, _⟩
  · omega
  · simp only [Value.slice.injEq] at h1
    exact ⟨g, h1.1⟩

def P.upto (n : Nat) : List Int := (List.range n).map fun k : Nat => (k : Int)

theorem P.upto_succ (n : Nat) : P.upto (n + 1) = P.upto n ++ [(n : Int)] := by
  unfold P.upto
  rw [List.range_succ, List.map_append]
  rfl

theorem P.upto_length (n : Nat) : (P.upto n).length = n := by simp [P.upto]

theorem ownsRow_heap {w w' : World} {base : Nat} {e : TypeId} {size n : Nat} {v : Value} {xs : List Value} (h : w.ownsRow base e size v n xs) (hw : w'.heap = w.heap) : w'.ownsRow base e size v n xs := by
  unfold World.ownsRow at *
  rw [hw]
  exact h

theorem cell_heap {w w' : World} (hw : w'.heap = w.heap) (a : Addr) : w'.cell? a = w.cell? a := World.cell?_of_block (by rw [hw])

/-- What the first of the two appends asks: an empty slice of the call's own, and the front of the old one. -/
theorem arr42 {w1 W : World} {base g cl i : Nat} {L : List Int} (hl : OwnV w1 base (.slice (some ⟨g, 0, none⟩) L.length cl) L) (hil : i ≤ L.length) (hL : L.length ≤ 5) (hb : base ≤ w1.heap.size)
    (hW : W.heap = (w1.alloc (.cells #[] 3)).heap) :
    W.ownsRow base 3 1 (.slice (some ⟨w1.heap.size, 0, none⟩) 0 0) 0 [] ∧ ((L.take i).map (Value.int .i64)).length = i ∧
      (∀ j u, ((L.take i).map (Value.int .i64))[j]? = some u → W.cell? ((⟨g, 0, none⟩ : Addr).add j) = some u) ∧ (∀ u ∈ (L.take i).map (Value.int .i64), u.oneCell' = true) ∧ 0 + i ≤ 1000 ∧ base ≤ W.heap.size := by
  have hlt := (OwnV.lt hl g rfl).2
  refine ⟨ownsRow_heap (World.ownsRow_made w1 #[] 0 hb (Nat.zero_le _) rfl) hW, by simp; omega, ?_, ?_, by omega, by rw [hW]; simp; omega⟩
  · intro j u hj
    have hj' : j < (L.take i).length := by have := (List.getElem?_eq_some_iff.1 hj).1; simpa using this
    have hj2 : j < i ∧ j < L.length := by simpa [List.length_take, Nat.lt_min] using hj'
    obtain ⟨b', off', he, hc⟩ := hl.rd j hj2.2
    simp only [Option.some.injEq, Addr.mk.injEq, and_true] at he
    obtain ⟨rfl, rfl⟩ := he
    rw [Addr.add_lit, cell_heap hW, World.cell?_alloc_old _ _ _ (by show g ≠ w1.heap.size; omega), hc]
    simpa [hj2.1, hj2.2] using hj
  · intro u hu; obtain ⟨x, _, rfl⟩ := List.mem_map.1 hu; rfl

/-- Where the back of the old slice begins. -/
def P.back (g cl i : Nat) : Addr := if cl = i + 1 then ⟨g, 0, none⟩ else ⟨g, i + 1, none⟩

/-- What the second asks: the front, and the back of the old one. -/
theorem arr47 {w1 W42 w2 W : World} {v1 : Value} {base g cl i : Nat} {L : List Int} (hl : OwnV w1 base (.slice (some ⟨g, 0, none⟩) L.length cl) L) (hil : i < L.length) (hL : L.length ≤ 5) (hb : base ≤ w1.heap.size)
    (h42 : W42.heap = (w1.alloc (.cells #[] 3)).heap) (ho : w2.ownsRow base 3 1 v1 (0 + i) ([] ++ (L.take i).map (Value.int .i64))) (hg : W42.grownBy w2 (Value.ownBlock (.slice (some ⟨w1.heap.size, 0, none⟩) 0 0)))
    (hW : W.heap = w2.heap) :
    W.ownsRow base 3 1 v1 (0 + i) ([] ++ (L.take i).map (Value.int .i64)) ∧ ((L.drop (i + 1)).map (Value.int .i64)).length = L.length - (i + 1) ∧
      (∀ j u, ((L.drop (i + 1)).map (Value.int .i64))[j]? = some u → W.cell? ((P.back g cl i).add j) = some u) ∧ (∀ u ∈ (L.drop (i + 1)).map (Value.int .i64), u.oneCell' = true) ∧ 0 + i + (L.length - (i + 1)) ≤ 1000 ∧ base ≤ W.heap.size := by
  have hlt := (OwnV.lt hl g rfl).2
  have hcl : L.length ≤ cl := OwnI.le (show OwnI w1 base g cl L from hl)
  have hs : W42.heap.size = w1.heap.size + 1 := by rw [h42]; simp
  refine ⟨ownsRow_heap ho hW, by simp, ?_, ?_, by omega, by rw [hW]; have := hg.size; omega⟩
  · intro j u hj
    have hj' : j < (L.drop (i + 1)).length := by have := (List.getElem?_eq_some_iff.1 hj).1; simpa using this
    have hj2 : i + 1 + j < L.length := by simp at hj'; omega
    obtain ⟨b', off', he, hc⟩ := hl.rd (i + 1 + j) hj2
    simp only [Option.some.injEq, Addr.mk.injEq, and_true] at he
    obtain ⟨rfl, rfl⟩ := he
    unfold P.back
    rw [if_neg (by omega), Addr.add_lit, cell_heap hW]
    rw [Nat.zero_add] at hc
    refine hg.cell ?_ (by simp [Value.ownBlock]; omega)
    rw [cell_heap h42, World.cell?_alloc_old _ _ _ (by show g ≠ w1.heap.size; omega), hc]
    simpa [hj2] using hj
  · intro u hu; obtain ⟨x, _, rfl⟩ := List.mem_map.1 hu; rfl

/-- The array's cells. -/
def Box5 (w : World) (b : Nat) (f : Nat → Nat) : Prop := ∀ k, k < 5 → w.cell? ⟨b, k, none⟩ = some (.int .u8 (f k))

theorem Box5.grown {w w' : World} {b : Nat} {f : Nat → Nat} (h : Box5 w b f) {row : Option Nat} (hg : w.grownBy w' row) (hne : some b ≠ row) : Box5 w' b f := fun k hk => hg.cell (h k hk) hne

set_option maxHeartbeats 2000000 in
set_option maxRecDepth 100000 in
theorem arranged_any (n : Nat) (f : Nat → Nat) (w : World) (hn : n ≤ 5) (hf : ∀ k, f k < 256) :
    Calls Try.prog 23 #[.int .i64 n, .agg #[.int .u8 (f 0), .int .u8 (f 1), .int .u8 (f 2), .int .u8 (f 3), .int .u8 (f 4)]] w
      fun e w' => ∃ a c xs, e = .returned (.slice a xs.length c) ∧ xs.Perm (P.upto n) ∧ RdI w' a xs ∧ Below w.heap.size w w' := by
  obtain ⟨i0, hi, hz0, hz1, hz2⟩ := info_parts (show (Try.prog.info? 3).map (fun i => (i.zero, i.size, i.bytes)) = some (some (.int .i64 0), 1, 8) by kernel_rfl)
  have hbox0 : Box5 (w.alloc (.cells #[.int .u8 (f 0), .int .u8 (f 1), .int .u8 (f 2), .int .u8 (f 3), .int .u8 (f 4)] 22)) w.heap.size f := by
    intro k hk
    rw [World.cell?_alloc_at _ _ _ _ rfl]
    match k, hk with
    | 0, _ => rfl | 1, _ => rfl | 2, _ => rfl | 3, _ => rfl | 4, _ => rfl
  have HBX := hid hbox0; clear hbox0
  go_enter Try.func23, Try.ntmps23
  go_wp2
  go_loopw [5, 7] (fun v i wr => ∃ k : Nat, k ≤ n ∧ i = .int .i64 k ∧ OwnV wr (w.heap.size + 1) v (P.upto k) ∧ Below w.heap.size w wr ∧ Box5 wr w.heap.size f ∧ w.heap.size < wr.heap.size) (fun _ i _ => n - (intOf i).toNat)
  case atStart => exact ⟨0, Nat.zero_le _, rfl, World.ownsRow_nil _ _ _ _, (Below.refl _ _).alloc (Nat.le_refl _) _, HBX.out, by simp⟩
  case round =>
    obtain ⟨k, hk, rfl, hown, hb, hbx, hsz⟩ := hrel
    by_cases hlt : k < n
    · obtain ⟨a5, c5, rfl⟩ := hown.any
      have HO := hid hown
      have HB := hid hb
      have HX := hid hbx
      clear hown hb hbx
      go_wp2_with (at_builtin; refine wpList_append_own_at _ rfl _ _ 35 rfl (w.heap.size + 1) 3 i0 (.int .i64 0) 1 8 Try.underlying35 hi hz0 hz1 hz2 rfl (by decide) _ _ _ rfl (World.ownsRow.alloc HO.out _) ⟨wr.heap.size, 0, none⟩ 1 1 [.int .i64 k] rfl rfl ?c1 ?c2 ?c3 ?c4 ?c5 ?_)
      case c1 =>
        intro j u hj
        match j, hj with
        | 0, hj => simp at hj; subst hj; simp [Addr.add]
      case c2 => intro u hu; simp at hu; subst hu; rfl
      case c3 => rw [P.upto_length]; unfold maxLen; omega
      case c4 => rw [P.upto_length]; omega
      case c5 => simp; omega
      intro v' w3 hown' hgrow _ hat
      have hlow : ∀ q, Value.ownBlock (.slice a5 (P.upto k).length c5) = some q → w.heap.size + 1 ≤ q := fun q hq => (OwnV.lt HO.out q hq).1
      have HB4 := hid ((HB.out.alloc (by omega) (.cells #[.int .i64 k] 3)).grown hgrow (by simp; omega) (fun q hq => by have := hlow q hq; omega))
      have HO4 : Hid (OwnV w3 (w.heap.size + 1) v' (P.upto (k + 1))) := hid (by
        unfold OwnV
        rw [P.upto_succ, List.map_append, List.length_append]
        exact hown')
      have HX4 : Hid (Box5 w3 w.heap.size f) := hid (Box5.grown (fun j hj => by rw [World.cell?_alloc_old _ _ _ (by show w.heap.size ≠ wr.heap.size; omega)]; exact HX.out j hj) hgrow (fun e => by have := hlow _ e.symm; omega))
      have hsz4 : w.heap.size < w3.heap.size := by have := hgrow.size; simp at this; omega
      clear hown' hgrow hat hlow
      go_wp2
      go_roundw
      case rel => exact ⟨k + 1, by omega, by go_num, HO4.out, HB4.out, HX4.out, hsz4⟩
      case measure => simp [intOf]; omega
    · have hk' : k = n := by omega
      subst hk'
      have HO := hid hown
      have HB := hid hb
      have HX := hid hbx
      clear hown hb hbx
      go_wp2
      go_loopw [5, 6, 8] (fun v u i wr => ∃ L O : List Int, i = .int .i64 O.length ∧ O.length + L.length = k ∧ (O ++ L).Perm (P.upto k) ∧ OwnV wr (w.heap.size + 1) v L ∧ OwnV wr (w.heap.size + 1) u O ∧ (∀ q, v.ownBlock = some q → u.ownBlock ≠ some q) ∧ Below w.heap.size w wr ∧ Box5 wr w.heap.size f ∧ w.heap.size < wr.heap.size) (fun _ _ i _ => k - (intOf i).toNat)
      case atStart => exact ⟨P.upto k, [], rfl, by simp [P.upto_length], List.Perm.refl _, HO.out, World.ownsRow_nil _ _ _ _, fun q _ h => by simp [Value.ownBlock] at h, HB.out, HX.out, hsz⟩
      case round =>
        clear HO HB HX hsz HBX
        obtain ⟨L, O, rfl, hlen, hperm, hl, ho, hdis, hb, hbx, hsz⟩ := hrel
        obtain ⟨al, cl, rfl⟩ := hl.any
        obtain ⟨ao, co, rfl⟩ := ho.any
        have HL := hid hl
        have HO := hid ho
        have HB := hid hb
        have HX := hid hbx
        have HP := hid hperm
        have HD := hid hdis
        clear hl ho hb hbx hperm hdis
        by_cases h0 : 0 < L.length
        · have hk5 : O.length < 5 := by omega
          have hby := HX.out O.length hk5
          have hfk := hf O.length
          obtain ⟨i, hii⟩ : ∃ i : Nat, i = f O.length % L.length := ⟨_, rfl⟩
          have hil : i < L.length := by rw [hii]; exact Nat.mod_lt _ h0
          have hmod : ((f O.length : Nat) : Int) % (L.length : Int) = (i : Int) := by rw [hii]; simp
          clear hii
          generalize f O.length = y at *
          obtain ⟨g, rfl⟩ := HL.out.at0 h0
          obtain ⟨g', off', he, hcell⟩ := HL.out.rd i hil
          simp only [Option.some.injEq, Addr.mk.injEq, and_true] at he
          obtain ⟨rfl, rfl⟩ := he
          rw [Nat.zero_add] at hcell
          go_wp2_with (at_builtin; refine wpList_append_own_at _ rfl _ _ 35 rfl (w.heap.size + 1) 3 i0 (.int .i64 0) 1 8 Try.underlying35 hi hz0 hz1 hz2 rfl (by decide) _ _ _ rfl (World.ownsRow.alloc HO.out _) ⟨wr.heap.size, 0, none⟩ 1 1 [.int .i64 L[i]] rfl rfl ?c1 ?c2 ?c3 ?c4 ?c5 ?_)
          case c1 =>
            intro j u hj
            match j, hj with
            | 0, hj => simp at hj; subst hj; simp [Addr.add]
          case c2 => intro u hu; simp at hu; subst hu; rfl
          case c3 => unfold maxLen; omega
          case c4 => omega
          case c5 => simp; omega
          intro u1 w1 hown' hgrow _ hat
          have hlowO : ∀ q, Value.ownBlock (.slice ao O.length co) = some q → w.heap.size + 1 ≤ q ∧ q < wr.heap.size := fun q hq => OwnV.lt HO.out q hq
          have hlowL : w.heap.size + 1 ≤ g ∧ g < wr.heap.size := OwnV.lt HL.out g rfl
          have HB1 := hid ((HB.out.alloc (by omega) (.cells #[.int .i64 L[i]] 3)).grown hgrow (by simp; omega) (fun q hq => by have := hlowO q hq; omega))
          have HO1 : Hid (OwnV w1 (w.heap.size + 1) u1 (O ++ [L[i]])) := hid (by
            unfold OwnV
            rw [List.map_append, List.length_append]
            exact hown')
          have HX1 : Hid (Box5 w1 w.heap.size f) := hid (Box5.grown (fun j hj => by rw [World.cell?_alloc_old _ _ _ (by show w.heap.size ≠ wr.heap.size; omega)]; exact HX.out j hj) hgrow (fun e => by have := hlowO _ e.symm; omega))
          have HL1 : Hid (OwnV w1 (w.heap.size + 1) (.slice (some ⟨g, 0, none⟩) L.length cl) L) := hid (World.ownsRow.kept (World.ownsRow.alloc HL.out _) hgrow (Or.inr (fun e => HD.out g rfl e.symm)))
          have hsz1 : wr.heap.size < w1.heap.size := by have := hgrow.size; simp at this; omega
          have HD1 : Hid (∀ q, u1.ownBlock = some q → q < w1.heap.size) := hid (fun q hq => (OwnV.lt HO1.out q hq).2)
          clear hown' hgrow hat hlowO HO HX HL HD hcell hby
          have hcl : L.length ≤ cl := OwnI.le (show OwnI w1 (w.heap.size + 1) g cl L from HL1.out)
          have hback : (if cl = i + 1 then some (⟨g, 0, none⟩ : Addr) else some ⟨g, i + 1, none⟩) = some (P.back g cl i) := by unfold P.back; split <;> rfl
          have F42 := hid (fun W (hW : W.heap = (w1.alloc (.cells #[] 3)).heap) => arr42 (W := W) HL1.out (Nat.le_of_lt hil) (by omega) (by omega) hW)
          have F47 := hid (fun W42 v1 w2 W hg h42 ho hW => arr47 (W42 := W42) (v1 := v1) (w2 := w2) (W := W) HL1.out hil (by omega) (by omega) h42 ho hg hW)
          have hic : i ≤ cl := by omega
          have hwr : IntKind.i64.wrap ((i : Int) + 1) = (i : Int) + 1 := by rw [IntKind.wrap_i64]; omega
          have hp0 : (0 : Int) ≤ (i : Int) + 1 := by omega
          have hp1 : (i : Int) + 1 ≤ (L.length : Int) := by omega
          have hp2 : ((i : Int) + 1).toNat = i + 1 := by omega
          go_wp2
          go_region_law first
            | (refine step_append_at rfl (.tmp 38) (.tmp 41) 35 rfl 3 i0 (.int .i64 0) Try.underlying35 hi hz0 hz1 (by rw [hz2]; decide) rfl (w.heap.size + 1) (.slice (some ⟨w1.heap.size, 0, none⟩) 0 0) 0 [] (by simp [Act.eval]) ⟨g, 0, none⟩ i cl ((L.take i).map (Value.int .i64)) (by simp [Act.eval]) (F42.out _ rfl) ?_; intro v1 w2 ho1 hg1 ha1)
            | (refine step_append_at rfl (.tmp 42) (.tmp 46) 35 rfl 3 i0 (.int .i64 0) Try.underlying35 hi hz0 hz1 (by rw [hz2]; decide) rfl (w.heap.size + 1) v1 (0 + i) ([] ++ (L.take i).map (Value.int .i64)) (by simp [Act.eval]) (P.back g cl i) (L.length - (i + 1)) (cl - (i + 1)) ((L.drop (i + 1)).map (Value.int .i64)) (by simp [Act.eval]) (F47.out _ _ _ _ hg1 rfl ho1 rfl) ?_; intro v2 w3 ho2 hg2 ha2)
          have hs42 : w1.heap.size + 1 ≤ w2.heap.size := by have := hg1.size; simp at this; omega
          have hv1 : ∀ q, v1.ownBlock = some q → w1.heap.size ≤ q := fun q hq => by
            rcases ha1 with h | h
            · rw [h] at hq; simp [Value.ownBlock] at hq; omega
            · rw [h] at hq; simp at hq; omega
          have HV2 : Hid (∀ q, v2.ownBlock = some q → w1.heap.size ≤ q) := hid (fun q hq => by
            rcases ha2 with h | h
            · rw [h] at hq; exact hv1 q hq
            · rw [h] at hq; simp at hq; omega)
          have HL3 : Hid (OwnV w3 (w.heap.size + 1) v2 (L.take i ++ L.drop (i + 1))) := hid (by
            unfold OwnV
            rw [List.map_append, List.length_append, List.length_take, List.length_drop, Nat.min_eq_left (Nat.le_of_lt hil)]
            simpa using ho2)
          have hO2 : OwnV w2 (w.heap.size + 1) u1 (O ++ [L[i]]) := by
            refine World.ownsRow.kept (ownsRow_heap (World.ownsRow.alloc HO1.out (.cells #[] 3)) ?_) hg1 (Or.inr fun e => ?_)
            · rfl
            · have := HD1.out w1.heap.size (by rw [e]; rfl); omega
          have HO3 : Hid (OwnV w3 (w.heap.size + 1) u1 (O ++ [L[i]])) := hid (by
            rcases hu : u1.ownBlock with _ | q
            · exact World.ownsRow.kept hO2 hg2 (Or.inl hu)
            · exact World.ownsRow.kept hO2 hg2 (Or.inr fun e => by have := HD1.out q hu; have := hv1 q (by rw [← e, hu]); omega))
          have hB2 : Below w.heap.size w w2 := Below.grown (below_same (a := (w1.alloc (.cells #[] 3)).drew) (HB1.out.alloc (by omega) (.cells #[] 3)) ⟨rfl, rfl, rfl, rfl⟩) hg1 (by simp; omega) (fun q hq => by simp [Value.ownBlock] at hq; omega)
          have HB3 := hid (hB2.grown hg2 (by omega) (fun q hq => by have := hv1 q hq; omega))
          have HX3 : Hid (Box5 w3 w.heap.size f) := hid ((Box5.grown (w := (w1.alloc (.cells #[] 3)).drew) (fun j hj => (cell_heap (w := w1.alloc (.cells #[] 3)) rfl _).trans (by rw [World.cell?_alloc_old _ _ _ (by show w.heap.size ≠ w1.heap.size; omega)]; exact HX1.out j hj)) hg1 (fun e => by simp [Value.ownBlock] at e; omega)).grown hg2 (fun e => by have := hv1 _ e.symm; omega))
          have hsz3 : w.heap.size < w3.heap.size := by have := hg2.size; omega
          have HP3 : Hid ((O ++ [L[i]] ++ (L.take i ++ L.drop (i + 1))).Perm (P.upto k)) := hid (by
            refine List.Perm.trans ?_ HP.out
            rw [List.append_assoc]
            refine List.Perm.append_left O ?_
            have e : L = L.take i ++ L[i] :: L.drop (i + 1) := by rw [List.getElem_cons_drop, List.take_append_drop]
            conv => rhs; rw [e]
            show (L[i] :: (L.take i ++ L.drop (i + 1))).Perm _
            exact (List.perm_middle).symm)
          clear hO2 hB2 hg1 hg2 ho1 ho2 ha1 ha2 hv1 hback hwr hp0 hp1 hp2 F42 F47
          go_wp2
          go_roundw
          case rel =>
            exact ⟨L.take i ++ L.drop (i + 1), O ++ [L[i]], by simp, by simp; omega, HP3.out, HL3.out, HO3.out, fun q hq hu => by have := HV2.out q hq; have := HD1.out q hu; omega, HB3.out, HX3.out, hsz3⟩
          case measure => simp [intOf]; omega
        · have hL : L = [] := List.eq_nil_of_length_eq_zero (by omega)
          subst hL
          have HR := hid (OwnV.rd HO.out)
          have HP2 : Hid (O.Perm (P.upto k)) := hid (by have := HP.out; rwa [List.append_nil] at this)
          clear h0
          go_wp2
          go_ret
          exact ⟨_, _, O, rfl, HP2.out, HR.out, HB.out⟩

end Go.Proofs.Ytlpdlnefgjmgmaa
