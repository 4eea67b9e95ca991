/- Two cosets are made the same, and all that are the same therefore. -/
import Derived.Test.YtmaopnbnbiediaaDoorGrpInv
import Derived.WalkSmall
namespace Go.Proofs.YtmaopnbnbiediaaDoor
open Go.RowKit Go.Sort

theorem duoOne (l : List Duo) : ∀ u ∈ duoCells l, u.oneCell' = true := fun u hu => by
  obtain ⟨p, _, h⟩ := List.mem_flatMap.1 hu
  rcases List.mem_cons.1 h with rfl | h
  · rfl
  · rcases List.mem_cons.1 h with rfl | h
    · rfl
    · cases h
/-- Pairs of the call's own are appended onto others. -/
theorem wpList_append_duo {P : Program} {w : World} {ops : Array Oper} {rest : List Oper} {o : Oper} {a : Act} {Q : Exit → Act → World → Prop} (hgd : o.guard = none) (s x : Operand) (t : TypeId)
    (ho : o.op = .call { callee := .builtin .append, args := #[s, x], argTypes := #[t, t] })
    (base base2 : Nat) (e : TypeId) (i : TypeInfo) (z : Value) (ht : P.underlying t = some (.slice e)) (hi : P.info? e = some i) (hz : i.zero = some z)
    (hsize : i.size = 2) (hby : i.bytes = 16) (hzs : z.cells.size = 2)
    (v : Value) (n : Nat) (xs : List Value) (hs : a.eval s = v) (hown : w.ownsRow base e 2 v n xs)
    (u : Value) (l : List Duo) (hx : a.eval x = u) (hu : DuoRow base2 e w u l)
    (h63 : n + l.length ≤ 200000) (hbase : base ≤ w.heap.size)
    (h : ∀ v' w', w'.ownsRow base e 2 v' (n + l.length) (xs ++ duoCells l) → w.grownBy w' v.ownBlock → wpList P ops Q rest (a.put o.dst v') w') : wpList P ops Q (o :: rest) a w := by
  have hu0 := hu
  obtain ⟨hl, hr⟩ := hu
  rcases hr with ⟨rfl, hr⟩ | ⟨g, cap, cur, rfl, _⟩
  · have hl0 : l = [] := List.eq_nil_of_length_eq_zero hr
    subst hl0
    refine wpList_append_own_none hgd s x t ho base e i 2 ht hi v n xs hs hown hx ?_
    exact h v w (by simpa [duoCells] using hown) ⟨rfl, rfl, rfl, Nat.le_refl _, fun _ _ _ => rfl⟩
  · exact wpList_append_own_at w hgd s x t ho base e i z 2 16 ht hi hz hsize hby hzs (by decide) v n xs hs hown ⟨g, 0, none⟩ l.length cap (duoCells l) hx (duoCells_len l) (World.ownsRow.cells (g := g) hu0 rfl) (duoOne l) (by unfold maxLen; omega) (by omega) hbase (fun v' w' h2 h3 _ _ => h v' w' h2 h3)

def lenV (v : Value) : Nat := match v with
  | .slice _ n _ => n
  | _ => 0
def rootW (H : Nat) (W : World) (i : Nat) : Bool := match W.cell? ⟨H, i, none⟩ with
  | some (.int _ x) => x == (i : Int)
  | _ => false
/-- How many stand for themselves, off the memory. -/
def rootsW (P : Nat) (W : World) : Nat := match W.cell? ⟨P, 2, none⟩ with
  | some (.slice (some ad) N _) => (List.range N).countP (rootW ad.block W)
  | _ => 0
theorem roots_of {B : Nat} {X : Nat → Prop} {P n : Nat} {W : World} {s : Cos} (h : OpAt B X P n W s) : rootsW P W = rootsN s.R.length s.cls := by
  obtain ⟨G, cG, H, cH, rb, c, h⟩ := h
  unfold rootsW rootsN
  rw [h.p2]
  refine List.countP_congr fun i hi => ?_
  have hi' := List.mem_range.1 hi
  unfold rootW
  rw [h.same_at hi']
  simp only [beq_iff_eq]
  constructor
  · intro e; exact h.lead.top i hi' (by omega)
  · intro e; have := h.lead.self i hi' e; omega
theorem OpAt.is {B : Nat} {X : Nat → Prop} {P n : Nat} {W : World} {s : Cos} (h : OpAt B X P n W s) : Cls s.cls ∧ Wide n s.R ∧ s.R.length ≤ 5000 ∧ (∀ i, s.R.length ≤ i → s.cls i = i) := by
  obtain ⟨G, cG, H, cH, rb, c, h⟩ := h
  exact ⟨h.lead.is, h.wide, h.few, h.far⟩
theorem OpAt.cls_lt {B : Nat} {X : Nat → Prop} {P n : Nat} {W : World} {s : Cos} (h : OpAt B X P n W s) {i : Nat} (hi : i < s.R.length) : s.cls i < s.R.length := Nat.lt_of_le_of_lt (h.is.1.le i) hi
theorem duo_new (W : World) (a b : Int) (t : TypeId) {base : Nat} (hb : base ≤ W.heap.size) : DuoRow base t (W.alloc (.cells #[.int .i64 a, .int .i64 b] t)) (.slice (some ⟨W.heap.size, 0, none⟩) 1 1) [(a, b)] := World.ownsRow_lit W _ 1 hb (by decide) rfl

/-- While pairs are made the same. -/
structure UnAt (n N : Nat) (OUT s : Cos) (ps : List Duo) (m : Nat) : Prop where
  out : uniteF n m s ps = OUT
  len : s.R.length = N
  rng : Rng s.R
  pin : PairsIn N ps
  fuel : rootsN N s.cls * (2 * n + 1) + ps.length ≤ m
  small : m ≤ 200000

set_option maxRecDepth 100000 in
set_option maxHeartbeats 4000000 in
theorem unite_ {B : Nat} {X : Nat → Prop} {P n : Nat} {s : Cos} (a b : Nat) (w : World) (h : OpAt B X P n w s) (ha : a < s.R.length) (hb : b < s.R.length) (hR : Rng s.R) (hn : n ≤ 12) :
    Calls Tryd.prog 65 #[.pointer (some ⟨P, 0, none⟩), .int .i64 (a : Int), .int .i64 (b : Int)] w fun e w' => e = .returned (.tuple #[]) ∧ OpAt B X P n w' (uniteP n s a b) ∧ Kp B X w w' := by
  obtain ⟨i0, hi0, hz0, hz1, hz2⟩ := info_parts Tryd.infop
  have hP : P < w.heap.size := by obtain ⟨G, cG, H, cH, rb, c, h⟩ := h; exact cell_lt h.p0
  have HO : Hid (OpAt B (fun b => X b ∨ w.heap.size ≤ b) P n w s) := h.turn (fun b hb hy => hy.elim id fun h => by omega)
  have HXX : Hid (∀ (V : World) (s' : Cos), w.heap.size ≤ V.heap.size → OpAt B (fun b => X b ∨ w.heap.size ≤ b) P n V s' → OpAt B X P n V s') := fun V s' _ h => h.turn fun b _ hx => .inl hx
  obtain ⟨N, hN⟩ : ∃ N, s.R.length = N := ⟨_, rfl⟩
  have HN : Hid (s.R.length = N) := hN
  rw [hN] at ha hb
  have h5 : N ≤ 5000 := by rw [← hN]; exact h.is.2.2.1
  have HU : Hid (UnAt n N (uniteP n s a b) s [((a : Int), (b : Int))] (s.R.length * (2 * n + 1) + 1)) := by
    refine ⟨rfl, HN.out, hR, fun p hp => ?_, ?_, ?_⟩
    · obtain rfl := List.mem_singleton.1 hp
      exact ⟨by omega, by omega⟩
    · have h1 := Nat.mul_le_mul_right (2 * n + 1) (roots_le N s.cls)
      rw [hN]
      simpa using h1
    · have h1 := Nat.mul_le_mul (show s.R.length ≤ 5000 by omega) (show 2 * n + 1 ≤ 25 by omega)
      omega
  have HRG := Hid.mk' hR
  obtain ⟨OUT, hOUT⟩ : ∃ OUT, uniteP n s a b = OUT := ⟨_, rfl⟩
  rw [hOUT] at HU ⊢
  have HD := Hid.mk' (duo_new w (a : Int) (b : Int) 123 (Nat.le_refl _))
  have HBa : Hid (Below w.heap.size w (w.alloc (.cells #[.int .i64 (a : Int), .int .i64 (b : Int)] 123))) := (Below.refl _ w).alloc (Nat.le_refl _) _
  clear hN h hR hOUT
  go_enter Tryd.func65, Tryd.ntmps65
  go_wp2_with fail
  obtain ⟨W1, hW1⟩ : ∃ W1, w.alloc (.cells #[.int .i64 (a : Int), .int .i64 (b : Int)] 123) = W1 := ⟨_, rfl⟩
  rw [hW1] at HD HBa ⊢
  clear hW1
  go_loopw [6] (fun pv W => ∃ (v : Value) (s' : Cos) (ps : List Duo) (m : Nat), pv = v ∧ Hid (UnAt n N OUT s' ps m ∧ DuoRow w.heap.size 123 W v ps ∧ OpAt B (fun b => X b ∨ w.heap.size ≤ b) P n W s' ∧ Kp B X w W)) (fun v W => rootsW P W * (2 * n + 1) + lenV v)
  case atStart => exact ⟨_, s, _, _, rfl, HU.out, HD.out, HO.out.below HBa.out, Kp.of_below HBa.out⟩
  case round =>
    obtain ⟨v, s', ps, m, rfl, HK⟩ := hrel
    rcases List.eq_nil_or_concat ps with e | ⟨qs, p, e⟩
    · subst e
      obtain ⟨av, cv, hv⟩ := own_two HK.out.2.1
      rw [List.length_nil] at hv
      subst hv
      have HE : Hid (s' = OUT) := by have := HK.out.1.out; rw [uniteF_nil] at this; exact this
      go_wp2_with fail
      refine bodyPost_end (v := .tuple #[]) ?_ rfl ⟨rfl, ?_, HK.out.2.2.2⟩
      · simp [results, Tryd.f65, go_sem]
      · rw [← HE.out]; exact HXX.out _ _ HK.out.2.2.2.size HK.out.2.2.1
    · rw [List.concat_eq_append] at e
      subst e
      obtain ⟨nv, hnv⟩ : ∃ nv, qs.length = nv := ⟨_, rfl⟩
      have HNV : Hid (qs.length = nv) := hnv
      have hlen : (qs ++ [p]).length = nv + 1 := by rw [List.length_append, hnv]; rfl
      obtain ⟨g, cv, hv, -⟩ := World.ownsRow.form (show _ from HK.out.2.1) (by rw [hlen]; omega)
      rw [hlen] at hv
      subst hv
      have hfu := HK.out.1.fuel
      rw [hlen] at hfu
      have hsm := HK.out.1.small
      have hnv2 : nv + 1 ≤ 200000 := by omega
      have hpin := HK.out.1.pin p (List.mem_append.2 (.inr (List.mem_singleton.2 rfl)))
      obtain ⟨p1, p2⟩ := p
      obtain ⟨i1, rfl⟩ : ∃ i1 : Nat, p1 = (i1 : Int) := ⟨p1.toNat, by have := hpin.1.1; simp only at this; omega⟩
      obtain ⟨i2, rfl⟩ : ∃ i2 : Nat, p2 = (i2 : Int) := ⟨p2.toNat, by have := hpin.2.1; simp only at this; omega⟩
      have hi1 : i1 < N := by have := hpin.1.2; simp only at this; omega
      have hi2 : i2 < N := by have := hpin.2.2; simp only at this; omega
      have hrow : wr.ownsRow w.heap.size 123 2 (.slice (some ⟨g, 0, none⟩) (nv + 1) cv) (nv + 1) (duoCells qs ++ [.int .i64 (i1 : Int), .int .i64 (i2 : Int)]) := by
        have := HK.out.2.1
        unfold DuoRow at this
        rw [hlen, duoCells_snoc] at this
        exact this
      have hdl : (duoCells qs).length = nv * 2 := by rw [duoCells_len, hnv]
      have c1 : wr.cell? ⟨g, nv * 2, none⟩ = some (.int .i64 (i1 : Int)) := by
        rw [hrow.cellAt (nv * 2) (by omega), List.getElem?_append_right (by omega), hdl, Nat.sub_self]; rfl
      have c2 : wr.cell? ⟨g, nv * 2 + 1, none⟩ = some (.int .i64 (i2 : Int)) := by
        rw [hrow.cellAt (nv * 2 + 1) (by omega), List.getElem?_append_right (by omega), hdl, show nv * 2 + 1 - nv * 2 = 1 by omega]; rfl
      have hcap : nv + 1 ≤ cv := by
        obtain ⟨_, hr⟩ := hrow
        rcases hr with ⟨h0, _⟩ | ⟨g', cap', cur, hv', _, _, h1, _⟩
        · cases h0
        · cases hv'; exact h1
      have HPOP : Hid (wr.ownsRow w.heap.size 123 2 (.slice (some ⟨g, 0, none⟩) nv cv) nv (duoCells qs)) := ownsRow_pop hdl hrow
      have HGG : Hid (w.heap.size ≤ g) := (hrow.lt g rfl).1
      obtain ⟨n1, hn1⟩ : ∃ n1, nv + 1 = n1 := ⟨_, rfl⟩
      have HN1 : Hid (nv + 1 = n1) := hn1
      rw [hn1] at hcap hnv2 ⊢
      have e9 : (n1 : Int) - 1 = (nv : Int) := by omega
      have z0 : (0 : Int) ≤ (nv : Int) := by omega
      have z1 : (nv : Int) < (n1 : Int) := by omega
      have z2 : (0 : Int) < (n1 : Int) := by omega
      have hgs : g < wr.heap.size := (hrow.lt g rfl).2
      clear hnv hlen hfu hsm hpin hrow hdl hn1
      go_upto_region 4 with fail
      have HLEN : Hid (s'.R.length = N) := HK.out.1.len
      obtain ⟨X', hX'⟩ : ∃ X' : Nat → Prop, (fun b => X b ∨ w.heap.size ≤ b) = X' := ⟨_, rfl⟩
      have HX' : Hid (∀ b, X' b ↔ (X b ∨ w.heap.size ≤ b)) := fun b => by rw [← hX']
      have hws : w.heap.size ≤ wr.heap.size := HK.out.2.2.2.size
      have hBa : Below wr.heap.size wr (wr.alloc (.cells #[.int .i64 (i1 : Int), .int .i64 (i2 : Int)] 123)) := (Below.refl _ wr).alloc (Nat.le_refl _) _
      have q1 := cells_new wr [.int .i64 (i1 : Int), .int .i64 (i2 : Int)] 123 0 _ rfl
      have q2 := cells_new wr [.int .i64 (i1 : Int), .int .i64 (i2 : Int)] 123 1 _ rfl
      rw [Addr.add_lit, Nat.zero_add] at q1 q2
      obtain ⟨W2, hW2⟩ : ∃ W2, wr.alloc (.cells #[.int .i64 (i1 : Int), .int .i64 (i2 : Int)] 123) = W2 := ⟨_, rfl⟩
      obtain ⟨pb, hpb⟩ : ∃ pb, wr.heap.size = pb := ⟨_, rfl⟩
      have HPB : Hid (X' pb ∧ X' g) := ⟨(HX'.out pb).2 (.inr (by omega)), (HX'.out g).2 (.inr HGG.out)⟩
      rw [show (List.toArray [Value.int .i64 (i1 : Int), .int .i64 (i2 : Int)]) = #[.int .i64 (i1 : Int), .int .i64 (i2 : Int)] from rfl, hW2, hpb] at q1 q2
      have HB2 : Hid (Below wr.heap.size wr W2) := by rw [← hW2]; exact hBa
      have HO2 : Hid (OpAt B X' P n W2 s' ∧ Kp B X w W2 ∧ W2.ownsRow w.heap.size 123 2 (.slice (some ⟨g, 0, none⟩) nv cv) nv (duoCells qs)) := by
        rw [← hX']
        exact ⟨HK.out.2.2.1.below HB2.out, HK.out.2.2.2.trans (Kp.of_below HB2.out), HPOP.out.kept (Below.grownBy HB2.out) (.inr (by intro h; cases h))⟩
      rw [hW2, hpb]
      clear hW2 hpb hBa c1 c2
      rw [show decide (0 < n1) = true from decide_eq_true (by omega)]
      go_cut [8, 9] from 28 to 35 (fun x y wx => x = .int .i64 (s'.cls i1 : Int) ∧ y = .int .i64 (s'.cls i2 : Int) ∧ Hid (OpAt B X' P n wx s' ∧ Kp B X' W2 wx))
      case first =>
        have HD : Hid (OpAt B X' P n W2.drew s' ∧ Kp B X' W2 W2.drew) := ⟨HO2.out.1.drew, (Kp.refl _ _ _).drew⟩
        go_wp2_with fail
        go_region_with (go_at_call 52; refine (stands_ _ _ HD.out.1 (by rw [HLEN.out]; first | exact hi1 | exact hi2)).mono ?_; rintro e V ⟨rfl, hO, hK⟩; replace HD : Hid (OpAt B X' P n V s' ∧ Kp B X' W2 V) := ⟨hO, HD.out.2.trans hK⟩; have r1 := HD.out.2.cell q1 (.inr HPB.out.1); have r2 := HD.out.2.cell q2 (.inr HPB.out.1); clear hO hK)
        all_goals go_wp2_with fail
        all_goals go_meet
        all_goals exact ⟨rfl, rfl, HD.out⟩
      obtain ⟨rfl, rfl, HC⟩ := hcut
      obtain ⟨W3, hW3⟩ : ∃ W, W = wc := ⟨_, rfl⟩
      subst hW3
      obtain ⟨x, hx⟩ : ∃ x, s'.cls i1 = x := ⟨_, rfl⟩
      obtain ⟨y, hy⟩ : ∃ y, s'.cls i2 = y := ⟨_, rfl⟩
      have HXY : Hid (s'.cls i1 = x ∧ s'.cls i2 = y) := ⟨hx, hy⟩
      rw [hx, hy]
      have hxN : x < N := by rw [← hx, ← HLEN.out]; exact HC.out.1.cls_lt (by rw [HLEN.out]; exact hi1)
      have hyN : y < N := by rw [← hy, ← HLEN.out]; exact HC.out.1.cls_lt (by rw [HLEN.out]; exact hi2)
      have HR3 : Hid (W3.ownsRow w.heap.size 123 2 (.slice (some ⟨g, 0, none⟩) nv cv) nv (duoCells qs) ∧ Kp B X w W3) := by
        refine ⟨?_, HO2.out.2.1.trans (HC.out.2.mono fun b hb _ => (HX'.out b).2 (.inl hb))⟩
        have h1 := HO2.out.2.2
        refine ⟨h1.1, h1.2.imp id fun ⟨g', cap, cur, e, k1, k2, k3⟩ => ⟨g', cap, cur, e, k1, ?_, k3⟩⟩
        cases e
        exact (HC.out.2.block g (row_lt k2) (.inr HPB.out.2)).trans k2
      have hw3 := HR3.out.2.size
      obtain ⟨m', hm'⟩ : ∃ m', m = m' + 1 := ⟨m - 1, by have := HK.out.1.fuel; rw [List.length_append, List.length_singleton] at this; omega⟩
      subst hm'
      clear hx hy q1 q2
      by_cases e : x = y
      · subst e
        go_wp2_with fail
        go_roundw
        case rel =>
          refine ⟨_, s', qs, m', rfl, ⟨?_, HLEN.out, HK.out.1.rng, fun p hp => HK.out.1.pin p (List.mem_append.2 (.inl hp)), ?_, by have := HK.out.1.small; omega⟩, by unfold DuoRow; rw [HNV.out]; exact HR3.out.1, HC.out.1.turn (fun b _ hb => (HX'.out b).2 hb), HR3.out.2⟩
          · rw [← HK.out.1.out]
            exact (uniteF_skip (by simp only [Int.toNat_natCast]; rw [HXY.out.1, HXY.out.2])).symm
          · have := HK.out.1.fuel
            rw [List.length_append, List.length_singleton] at this
            omega
        case measure =>
          have r1 := roots_of HC.out.1
          have r2 := roots_of HK.out.2.2.1
          show rootsW P W3 * (2 * n + 1) + nv < rootsW P wr * (2 * n + 1) + n1
          rw [r1, r2]
          have := HN1.out
          omega
      · have hyx : (x == y) = false := beq_false_of_ne e
        have hyx2 : ((x : Int) == (y : Int)) = false := beq_false_of_ne (by omega)
        have htk := take_ (min x y) (max x y) (i1, i2) W3 HC.out.1 (by rw [HLEN.out]; exact hi1) (by rw [HLEN.out]; exact hi2) (by rw [HXY.out.1, HXY.out.2]) (by rw [HXY.out.1, HXY.out.2]) (by omega) hn
        have HKP : Hid (∀ V, Kp B X' W3 V → V.ownsRow w.heap.size 123 2 (.slice (some ⟨g, 0, none⟩) nv cv) nv (duoCells qs)) := fun V hV => by
          have h1 := HR3.out.1
          refine ⟨h1.1, h1.2.imp id fun ⟨g', cap, cur, e, k1, k2, k3⟩ => ⟨g', cap, cur, e, k1, ?_, k3⟩⟩
          cases e
          exact (hV.block g (row_lt k2) (.inr HPB.out.2)).trans k2
        have HLL : Hid (∀ a b, nv + (takeP a b (2 * n) s'.R).2.length ≤ 200000) := fun a b => by
          have h1 := takeP_more a b (2 * n) s'.R
          have h2 := HK.out.1.fuel
          have h3 := HK.out.1.small
          have h4 : 0 < rootsN N s'.cls := by
            have := roots_lt (N := N) HC.out.1.is.1 (p := (i1, i2)) hi1 hi2 (by rw [HXY.out.1, HXY.out.2]; exact e)
            omega
          have h5 := Nat.mul_le_mul_right (2 * n + 1) h4
          rw [List.length_append, List.length_singleton, HNV.out] at h2
          omega
        have HEND : Hid ((∀ W4 v4 v5 w5, DuoRow W3.heap.size 123 W4 v4 (takeP (min x y) (max x y) (2 * n) s'.R).2 → OpAt B (fun b => X' b ∨ W3.heap.size ≤ b) P n W4 ⟨(takeP (min x y) (max x y) (2 * n) s'.R).1, joinC s'.cls (i1, i2)⟩ → Kp B X' W3 W4 → w5.ownsRow w.heap.size 123 2 v5 (nv + (takeP (min x y) (max x y) (2 * n) s'.R).2.length) (duoCells qs ++ duoCells (takeP (min x y) (max x y) (2 * n) s'.R).2) → W4.grownBy w5 (some g) →
            ∃ (v : Value) (s' : Cos) (ps : List Duo) (m : Nat), v5 = v ∧ Hid (UnAt n N OUT s' ps m ∧ DuoRow w.heap.size 123 w5 v ps ∧ OpAt B (fun b => X b ∨ w.heap.size ≤ b) P n w5 s' ∧ Kp B X w w5)) ∧
          (∀ W4 v4 v5 w5, DuoRow W3.heap.size 123 W4 v4 (takeP (min x y) (max x y) (2 * n) s'.R).2 → OpAt B (fun b => X' b ∨ W3.heap.size ≤ b) P n W4 ⟨(takeP (min x y) (max x y) (2 * n) s'.R).1, joinC s'.cls (i1, i2)⟩ → Kp B X' W3 W4 → w5.ownsRow w.heap.size 123 2 v5 (nv + (takeP (min x y) (max x y) (2 * n) s'.R).2.length) (duoCells qs ++ duoCells (takeP (min x y) (max x y) (2 * n) s'.R).2) → W4.grownBy w5 (some g) →
            rootsW P w5 * (2 * n + 1) + lenV v5 < rootsW P wr * (2 * n + 1) + n1)) := by
          have hne : s'.cls i1 ≠ s'.cls i2 := by rw [HXY.out.1, HXY.out.2]; exact e
          have hrl := roots_lt (N := N) HC.out.1.is.1 (p := (i1, i2)) hi1 hi2 hne
          have hrm := Nat.mul_le_mul_right (2 * n + 1) hrl
          have htm := takeP_more (min x y) (max x y) (2 * n) s'.R
          have htl := takeP_len (min x y) (max x y) (2 * n) s'.R
          have hO5 : ∀ W4 w5, OpAt B (fun b => X' b ∨ W3.heap.size ≤ b) P n W4 ⟨(takeP (min x y) (max x y) (2 * n) s'.R).1, joinC s'.cls (i1, i2)⟩ → W4.grownBy w5 (some g) → OpAt B (fun b => X b ∨ w.heap.size ≤ b) P n w5 ⟨(takeP (min x y) (max x y) (2 * n) s'.R).1, joinC s'.cls (i1, i2)⟩ := fun W4 w5 h1 h2 => (h1.grown h2 (fun b e => by cases e; exact .inl HPB.out.2)).turn (fun b _ hb => .inl ((HX'.out b).2 hb))
          refine ⟨fun W4 v4 v5 w5 h1 h2 h3 h4 h5 => ?_, fun W4 v4 v5 w5 h1 h2 h3 h4 h5 => ?_⟩
          · refine ⟨_, ⟨(takeP (min x y) (max x y) (2 * n) s'.R).1, joinC s'.cls (i1, i2)⟩, qs ++ (takeP (min x y) (max x y) (2 * n) s'.R).2, m', rfl, ⟨?_, htl.trans HLEN.out, HK.out.1.rng.take HC.out.1.is.2.1 (by rw [HLEN.out]; omega), fun p hp => ?_, ?_, by have := HK.out.1.small; omega⟩, ?_, hO5 W4 w5 h2 h5, (HR3.out.2.trans (h3.mono fun b hb _ => (HX'.out b).2 (.inl hb))).on h5 (fun b e => by cases e; exact .inl HGG.out)⟩
            · have := uniteF_take (n := n) (m := m') (s := s') (ps := qs) (p := ((i1 : Int), (i2 : Int))) (by simpa using hne)
              rw [HK.out.1.out] at this
              simp only [Int.toNat_natCast] at this
              rw [HXY.out.1, HXY.out.2] at this
              exact this.symm
            · rcases List.mem_append.1 hp with hp | hp
              · exact HK.out.1.pin p (List.mem_append.2 (.inl hp))
              · rw [← HLEN.out]; exact HK.out.1.rng.pairs p hp
            · have h6 := HK.out.1.fuel
              rw [List.length_append, List.length_singleton] at h6
              rw [List.length_append]
              show rootsN N (joinC s'.cls (i1, i2)) * (2 * n + 1) + _ ≤ m'
              rw [Nat.succ_mul] at hrm
              omega
            · unfold DuoRow
              rw [List.length_append, HNV.out]
              have h6 : duoCells (qs ++ (takeP (min x y) (max x y) (2 * n) s'.R).2) = duoCells qs ++ duoCells (takeP (min x y) (max x y) (2 * n) s'.R).2 := by simp [duoCells]
              rw [h6]
              exact h4
          · have r1 := roots_of (hO5 W4 w5 h2 h5)
            have r2 := roots_of HK.out.2.2.1
            obtain ⟨a5, c5, rfl⟩ := own_two h4
            show rootsW P w5 * (2 * n + 1) + (nv + (takeP (min x y) (max x y) (2 * n) s'.R).2.length) < rootsW P wr * (2 * n + 1) + n1
            rw [r1, r2, HLEN.out]
            show rootsN (takeP (min x y) (max x y) (2 * n) s'.R).1.length (joinC s'.cls (i1, i2)) * (2 * n + 1) + _ < _
            rw [htl, HLEN.out]
            rw [Nat.succ_mul] at hrm
            have := HN1.out
            omega
        rcases Nat.lt_or_gt_of_ne e with hl | hl
        · have hg : ¬ y < x := by omega
          rw [Nat.min_eq_left (Nat.le_of_lt hl), Nat.max_eq_right (Nat.le_of_lt hl)] at htk HEND
          go_wp2_with (first
            | (refine htk.mono ?_; rintro e W4 ⟨v4, rfl, hd4, ho4, hk4⟩; have H4 := Hid.mk' (And.intro hd4 (And.intro ho4 hk4)); have hw4 := hk4.size; clear hd4 ho4 hk4 htk)
            | (at_builtin; refine wpList_append_duo rfl (.tmp 39) (.tmp 47) 124 rfl w.heap.size W3.heap.size 123 i0 (.agg #[.int .i64 0, .int .i64 0]) Tryd.underlying124 hi0 hz0 hz1 hz2 rfl _ nv (duoCells qs) rfl (HKP.out W4 H4.out.2.2) v4 _ rfl H4.out.1 (HLL.out _ _) (by omega) ?_; intro v5 w5 hown5 hg5; have H5 := Hid.mk' (And.intro hown5 hg5); clear hown5 hg5)
            | fail)
          go_roundw
          case rel => exact HEND.out.1 W4 v4 v5 w5 H4.out.1 H4.out.2.1 H4.out.2.2 H5.out.1 H5.out.2
          case measure => exact HEND.out.2 W4 v4 v5 w5 H4.out.1 H4.out.2.1 H4.out.2.2 H5.out.1 H5.out.2
        · have hg : ¬ x < y := by omega
          rw [Nat.min_eq_right (Nat.le_of_lt hl), Nat.max_eq_left (Nat.le_of_lt hl)] at htk HEND
          go_wp2_with (first
            | (refine htk.mono ?_; rintro e W4 ⟨v4, rfl, hd4, ho4, hk4⟩; have H4 := Hid.mk' (And.intro hd4 (And.intro ho4 hk4)); have hw4 := hk4.size; clear hd4 ho4 hk4 htk)
            | (at_builtin; refine wpList_append_duo rfl (.tmp 39) (.tmp 47) 124 rfl w.heap.size W3.heap.size 123 i0 (.agg #[.int .i64 0, .int .i64 0]) Tryd.underlying124 hi0 hz0 hz1 hz2 rfl _ nv (duoCells qs) rfl (HKP.out W4 H4.out.2.2) v4 _ rfl H4.out.1 (HLL.out _ _) (by omega) ?_; intro v5 w5 hown5 hg5; have H5 := Hid.mk' (And.intro hown5 hg5); clear hown5 hg5)
            | fail)
          go_roundw
          case rel => exact HEND.out.1 W4 v4 v5 w5 H4.out.1 H4.out.2.1 H4.out.2.2 H5.out.1 H5.out.2
          case measure => exact HEND.out.2 W4 v4 v5 w5 H4.out.1 H4.out.2.1 H4.out.2.2 H5.out.1 H5.out.2

end Go.Proofs.YtmaopnbnbiediaaDoor
