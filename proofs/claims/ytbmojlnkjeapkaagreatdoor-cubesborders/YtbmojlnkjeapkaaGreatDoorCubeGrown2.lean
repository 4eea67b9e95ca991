/- What grown answers: the piece of a square, each square once; and all of it is met then. The walk of grown. -/
import Derived.Test.YtbmojlnkjeapkaaGreatDoorCubeNear
import Derived.Test.YtbmojlnkjeapkaaGreatDoorCubeBad
namespace Go.Proofs.YtbmojlnkjeapkaaGreatDoor
open Go.RowKit Go.Sort Go.Maps

theorem zero_i (w : World) : (zeroValue 3).run Tryz.prog w = .ok (.int .i64 0) w := by kernel_rfl

/-- Texts lie in no map. -/
theorem strs_apart {w : World} {v : Value} {m : List (List UInt8)} (h : Strs w v m) {kt : TypeId} {bm : Nat} {L : List Lit} (hM : MapAt w kt bm L) : StrsIn (fun b => b ≠ bm) w v m := by
  obtain ⟨a, cap, e, h1, h2⟩ := h
  refine ⟨a, cap, e, h1, fun h0 => ?_⟩
  obtain ⟨b, off, e1, -, e3⟩ := h2 h0
  refine ⟨b, off, e1, fun hb => ?_, e3⟩
  subst hb
  obtain ⟨D, ⟨es, clock, hb, _⟩, _⟩ := hM
  have := e3 0 _ (List.getElem?_eq_getElem h0)
  simp [World.cell?, hb] at this

theorem row_lit (W : World) (x y : Int) (base : Nat) (hb : base ≤ W.heap.size) : SqRow base (W.alloc (.cells #[.int .i64 x, .int .i64 y] 59)) (.slice (some ⟨W.heap.size, 0, none⟩) 1 1) [(x, y)] :=
  ⟨rfl, .inr ⟨W.heap.size, 1, #[.int .i64 x, .int .i64 y], rfl, hb, (Go.MapKept.heap_alloc W _).1, Nat.le_refl _, by decide, rfl, rfl⟩⟩

/-- A piece under way. -/
structure GrowMid (W1 : World) (bm : Nat) (R : Sq → Sq → Prop) (s : Sq) (L0 : List Sq) (i : Nat) (q : List Sq) (W : World) (v : Value) : Prop where
  queue : Queue R s q i
  row : SqRow W1.heap.size W v q
  map : MapAt W 59 bm ((L0 ++ q).map keyC)
  grown : W1.grownBy W (some bm)

theorem grown_on {W1 W W' : World} {bm : Nat} {row : Option Nat} (h : W1.grownBy W (some bm)) (hg : W.grownBy W' row) (hr : ∀ b, row = some b → b = bm ∨ W1.heap.size ≤ b) : W1.grownBy W' (some bm) :=
  ⟨hg.os.trans h.os, hg.tape.trans h.tape, hg.output.trans h.output, Nat.le_trans h.size hg.size, fun k hk hne => by
    rw [hg.block k (Nat.lt_of_lt_of_le hk h.size) (fun e => by rcases hr k e.symm with e' | e'; exact hne (by rw [e']); omega)]
    exact h.block k hk hne⟩

theorem GrowMid.below {W1 : World} {bm : Nat} {R : Sq → Sq → Prop} {s : Sq} {L0 : List Sq} {i : Nat} {q : List Sq} {W W' : World} {v : Value} (h : GrowMid W1 bm R s L0 i q W v) (hB : Below W.heap.size W W') : GrowMid W1 bm R s L0 i q W' v :=
  ⟨h.queue, h.row.kept (Below.grownBy hB) (by cases v.ownBlock <;> simp), h.map.below hB, grown_on h.grown (Below.grownBy hB) (fun _ e => by cases e)⟩

theorem GrowMid.push {W1 : World} {bm : Nat} {R : Sq → Sq → Prop} {s : Sq} {L0 : List Sq} {i : Nat} {q : List Sq} {W Wb Wd : World} {v v' : Value} {b : Sq} (h : GrowMid W1 bm R s L0 i q W v) (hbm : bm < W1.heap.size) (hi : i ≤ q.length) (hr : Reach R s b) (hb : b ∉ q)
    (hU : W.grownBy Wb (some bm)) (hM : MapAt Wb 59 bm ((L0 ++ (q ++ [b])).map keyC)) (hA : Wb.grownBy Wd v.ownBlock) (hrow : SqRow W1.heap.size Wd v' (q ++ [b])) : GrowMid W1 bm R s L0 i (q ++ [b]) Wd v' := by
  have hv : ∀ k, v.ownBlock = some k → W1.heap.size ≤ k := fun k hk => (World.ownsRow.lt h.row k hk).1
  exact ⟨queue_push h.queue hi hr hb, hrow, hM.kept hA (fun e => by have := hv _ e.symm; omega), grown_on (grown_on h.grown hU (fun k e => by cases e; exact .inl rfl)) hA (fun k e => .inr (hv k e))⟩

/-- What grown answers. -/
def GrownSays (m : List (List UInt8)) (c : Bool) (s : Sq) (L0 : List Sq) (bm : Nat) (w : World) (e : Ending) (w' : World) : Prop :=
  ∃ v p, e = .returned v ∧ SqIn (fun b => w.heap.size ≤ b) w' v p ∧ (p.Nodup ∧ ∀ b, b ∈ p ↔ Reach (StepTo m (wide m) m.length c) s b) ∧ MapAt w' 59 bm ((L0 ++ p).map keyC) ∧ w.grownBy w' (some bm)

theorem sq_nat {w h : Nat} {a : Sq} (ha : InSq w h a) : ∃ x y : Nat, a = ((x : Int), (y : Int)) ∧ x < w ∧ y < h := by
  obtain ⟨h1, h2, h3, h4⟩ := ha
  exact ⟨a.1.toNat, a.2.toNat, Prod.ext (by simp only; omega) (by simp only; omega), by omega, by omega⟩

theorem in_small {w h : Nat} (hw : w ≤ 1000) (hh : h ≤ 1000) {a : Sq} (ha : InSq w h a) : Small a := by
  unfold InSq at ha; unfold Small; omega

end Go.Proofs.YtbmojlnkjeapkaaGreatDoor

namespace Go.Proofs.YtbmojlnkjeapkaaGreatDoor
open Go.RowKit Go.Sort Go.Maps

set_option maxRecDepth 100000 in
set_option maxHeartbeats 4000000 in
theorem grown_ (vm : Value) (m : List (List UInt8)) (w : World) (hm : Strs w vm m) (hi : Img m) (hr24 : m.length ≤ 24) (hc24 : wide m ≤ 24) (c : Bool) (s : Sq) (hs : InSq (wide m) m.length s) (bm : Nat) (L0 : List Sq) (hmap : MapAt w 59 bm ((L0 ++ [s]).map keyC))
    (hL : L0.length ≤ 10000) (hsm : ∀ a ∈ L0, Small a) (hap : ∀ b, Reach (StepTo m (wide m) m.length c) s b → b ∉ L0) :
    Calls Tryz.prog 48 #[vm, cornerV s, .int .i64 (farN c), .map (some bm)] w fun e w' => GrownSays m c s L0 bm w e w' := by
  obtain ⟨i0, hi0, hz0, hz1, hz2⟩ := info_parts Tryz.info59
  have HS := strs_apart hm hmap
  have hnb : ∀ (W : World) (ax ay : Nat), w.grownBy W (some bm) → ax < wide m → ay < m.length → Calls Tryz.prog 65 #[vm, cornerV ((ax : Int), (ay : Int)), .int .i64 (farN c)] W fun e w' => NearSays m c ((ax : Int), (ay : Int)) W e w' := fun W ax ay hW h1 h2 =>
    neighbours_ vm m W (SliceIn.mono (SliceIn.keep HS (fun b hb hne => hW.block b hb (fun e => hne (by cases e; rfl)))) (fun _ _ _ => trivial)) hi c ax ay h1 h2
  have hbl := hmap.lt
  have hss : Small s := in_small (by omega) (by omega) hs
  have HIN : Hid (InSq (wide m) m.length s ∧ (∀ a ∈ L0, Small a) ∧ (∀ b, Reach (StepTo m (wide m) m.length c) s b → b ∉ L0) ∧ L0.length ≤ 10000) := ⟨hs, hsm, hap, hL⟩
  have hkeyS := hss.key
  obtain ⟨R, hR⟩ : ∃ R, StepTo m (wide m) m.length c = R := ⟨_, rfl⟩
  have HR : Hid (StepTo m (wide m) m.length c = R) := hR
  obtain ⟨sx, sy⟩ := s
  have h2 := two_cells w (.int .i64 sx) (.int .i64 sy) 59
  have hBa : Below w.heap.size w (w.alloc (.cells #[.int .i64 sx, .int .i64 sy] 59)) := (Below.refl _ w).alloc (Nat.le_refl _) _
  have HM0 : Hid (MapAt (w.alloc (.cells #[.int .i64 sx, .int .i64 sy] 59)) 59 bm ((L0 ++ [(sx, sy)]).map keyC)) := hmap.below hBa
  have hrl := row_lit (w.alloc (.cells #[.int .i64 sx, .int .i64 sy] 59)) sx sy _ (Nat.le_refl _)
  have hB2 : Below (w.alloc (.cells #[.int .i64 sx, .int .i64 sy] 59)).heap.size (w.alloc (.cells #[.int .i64 sx, .int .i64 sy] 59)) ((w.alloc (.cells #[.int .i64 sx, .int .i64 sy] 59)).alloc (.cells #[.int .i64 sx, .int .i64 sy] 59)) := (Below.refl _ _).alloc (Nat.le_refl _) _
  unfold cornerV at hkeyS hnb ⊢
  clear hm hi hmap hL hsm hap hs hR HS
  go_enter Tryz.func48, Tryz.ntmps48
  go_upto_region 2 with fail
  obtain ⟨W1, hW1⟩ : ∃ W1, w.alloc (.cells #[.int .i64 sx, .int .i64 sy] 59) = W1 := ⟨_, rfl⟩
  obtain ⟨ab, hab⟩ : ∃ ab, w.heap.size = ab := ⟨_, rfl⟩
  have hl1 : ab < W1.heap.size := by rw [← hW1, ← hab]; simp
  have HAB : Hid (w.heap.size = ab) := hab
  have hsz : (w.heap.size + 1) = W1.heap.size := by rw [← hW1]; simp
  rw [hW1] at hBa HM0 hrl hB2
  rw [hW1, hab] at h2
  rw [hab] at hbl
  first | rw [hW1, hsz, hab] | rw [hW1, hab]
  have HW1 : Hid (w.grownBy W1 (some bm)) := by have h := Below.grownBy hBa; exact ⟨h.os, h.tape, h.output, h.size, fun k hk _ => h.block k hk (by simp)⟩
  have HG0 : Hid (GrowMid W1 bm R (sx, sy) L0 0 [(sx, sy)] (W1.alloc (.cells #[.int .i64 sx, .int .i64 sy] 59)) (.slice (some ⟨W1.heap.size, 0, none⟩) 1 1)) := ⟨queue_first _ _, hrl, HM0.out.below hB2, by have h := Below.grownBy hB2; exact ⟨h.os, h.tape, h.output, h.size, fun k hk _ => h.block k hk (by simp)⟩⟩
  clear hW1 hab hsz HM0 hrl hB2
  go_wp2_with fail
  go_loopw [9, 10] (fun v p W => ∃ (i : Nat) (q : List Sq), i ≤ q.length ∧ p = .int .i64 i ∧ Hid (GrowMid W1 bm R (sx, sy) L0 i q W v)) (fun _ p _ => m.length * wide m - (intOf p).toNat)
  case atStart => exact ⟨0, [(sx, sy)], by simp, rfl, HG0.out⟩
  case round =>
    obtain ⟨i, q, hiq, rfl, HG⟩ := hrel
    clear HG0
    have hql : q.length ≤ m.length * wide m := by
      have h := HG.out.queue
      rw [← HR.out] at h
      exact queue_len h HIN.out.1
    have hmw : m.length * wide m ≤ 24 * 24 := Nat.mul_le_mul hr24 hc24
    have hrd := HG.out.row.reads (S := fun b => W1.heap.size ≤ b) (fun b hb _ => hb)
    obtain ⟨av, cv, rfl, hrr⟩ := hrd
    by_cases hlt : i < q.length
    · obtain ⟨g, rfl, hg1, hg2, hgc⟩ := hrr (by omega)
      have hqi : Reach R (sx, sy) q[i] := HG.out.queue.reach _ (List.getElem_mem hlt)
      have hqin : InSq (wide m) m.length q[i] := by rw [← HR.out] at hqi; exact reach_in hqi HIN.out.1
      obtain ⟨ax, ay, hxy, hax, hay⟩ := sq_nat hqin
      have hc := hgc i hlt
      rw [hxy] at hc hqi
      obtain ⟨c0, c1⟩ := hc
      simp only at c0 c1
      have HQI : Hid (q[i]? = some ((ax : Int), (ay : Int)) ∧ Reach R (sx, sy) ((ax : Int), (ay : Int))) := ⟨by rw [List.getElem?_eq_getElem hlt, hxy], hqi⟩
      have hnc := hnb wr ax ay (grown_on HW1.out HG.out.grown (fun k e => by cases e; exact .inl rfl)) hax hay
      clear hgc hrr hqin hxy hqi
      go_wp2_with (first
        | (go_at_call 65; refine hnc.mono ?_; rintro e w2 ⟨vn, ns, rfl, hsn, hns, hn9, hB2⟩; obtain ⟨an, cn, rfl, hnr⟩ := hsn)
        | fail)
      have HNS : Hid (∀ b, b ∈ ns ↔ R ((ax : Int), (ay : Int)) b) := by rw [← HR.out]; exact hns
      have HG2 : Hid (GrowMid W1 bm R (sx, sy) L0 i q w2 (.slice (some ⟨g, 0, none⟩) q.length cv)) := HG.out.below hB2
      have HSN : Hid (SqIn (fun b => b ≠ bm ∧ some b ≠ (Value.slice (some ⟨g, 0, none⟩) q.length cv).ownBlock) w2 (.slice an ns.length cn) ns) := by
        refine SqIn.mono (S := fun b => wr.heap.size ≤ b) ⟨an, cn, rfl, hnr⟩ (fun b _ hb => ⟨?_, ?_⟩)
        · have h1 := HG.out.map.lt; omega
        · intro e; simp [Value.ownBlock] at e; omega
      clear hnc hns hnr HG hB2 c0 c1
      go_loopw [9, 31] (fun v p W => ∃ (k : Nat) (q' : List Sq), k ≤ ns.length ∧ p = .int .i64 k ∧ Hid (GrowMid W1 bm R (sx, sy) L0 i q' W v) ∧ Hid (q'[i]? = some ((ax : Int), (ay : Int)) ∧ i < q'.length ∧ ∀ j b, j < k → ns[j]? = some b → b ∈ q') ∧ Hid (SqIn (fun b => b ≠ bm ∧ some b ≠ v.ownBlock) W (.slice an ns.length cn) ns)) (fun _ p _ => ns.length - (intOf p).toNat)
      case atStart => exact ⟨0, q, by omega, rfl, HG2.out, ⟨HQI.out.1, hlt, fun j b hj => absurd hj (Nat.not_lt_zero j)⟩, HSN.out⟩
      case round =>
        obtain ⟨k, q', hk, rfl, HG3, HQ3, HS3⟩ := hrel
        clear HG2 HSN
        by_cases hkt : k < ns.length
        · obtain ⟨a', cap', e', hx'⟩ := HS3.out
          cases e'
          obtain ⟨gn, rfl, hgn1, hgn2, hgnc⟩ := hx' (by omega)
          obtain ⟨b0, hb0⟩ : ∃ b0, ns[k] = b0 := ⟨_, rfl⟩
          have hbR : R ((ax : Int), (ay : Int)) b0 := by rw [← hb0]; exact (HNS.out _).1 (List.getElem_mem hkt)
          have hbr : Reach R (sx, sy) b0 := HQI.out.2.step hbR
          have hbin : InSq (wide m) m.length b0 := by rw [← HR.out] at hbr; exact reach_in hbr HIN.out.1
          have hbsm : Small b0 := in_small (by omega) (by omega) hbin
          have hbap : b0 ∉ L0 := HIN.out.2.2.1 b0 (by rw [HR.out]; exact hbr)
          have hqs : ∀ b ∈ L0 ++ q', Small b := fun b hb => by
            rcases List.mem_append.1 hb with h | h
            · exact HIN.out.2.1 b h
            · have h1 := HG3.out.queue.reach b h
              rw [← HR.out] at h1
              exact in_small (by omega) (by omega) (reach_in h1 HIN.out.1)
          obtain ⟨c0, c1⟩ := hgnc k hkt
          rw [hb0] at c0 c1
          obtain ⟨D, hD1, hD2, hD3⟩ := HG3.out.map
          have hkeyB := hbsm.key
          have hhas : Maps.has D (keyC b0) = true ↔ b0 ∈ q' := by
            rw [show keyC b0 = .string _ from rfl, hD2, ← show keyC b0 = .string _ from rfl, mem_keysC hbsm hqs, List.mem_append]
            exact ⟨fun h => h.elim (fun h => absurd h hbap) id, .inr⟩
          have HBN : Hid (ns[k]? = some b0) := by show ns[k]? = some b0; rw [List.getElem?_eq_getElem hkt, hb0]
          have HBR : Hid (Reach R (sx, sy) b0) := hbr
          have hql' : q'.length ≤ m.length * wide m := by
            have h := HG3.out.queue
            rw [← HR.out] at h
            exact queue_len h HIN.out.1
          have hD1s := hD1.size_le
          obtain ⟨bx, by_⟩ := b0
          unfold cornerV at hkeyB
          have HB3 : Hid (Below wr.heap.size wr (wr.alloc (.cells #[.int .i64 bx, .int .i64 by_] 59))) := (Below.refl _ wr).alloc (Nat.le_refl _) _
          clear hb0 hbR hbr hbin hgnc hx' hbap
          by_cases hin : (bx, by_) ∈ q'
          · have hh : Maps.has D (keyC (bx, by_)) = true := hhas.2 hin
            have HIQ : Hid ((bx, by_) ∈ q') := hin
            clear hhas hin
            go_wp2_with (first
              | (at_lookup; refine wpList_lookup_own_ok_int _ rfl _ _ 52 rfl 59 3 .i64 law_corner Tryz.underlying52 Tryz.underlying3 (zero_i _) bm _ D rfl (hD1.alloc _) _ _ rfl hkeyB ?_; intro c0 hat hwc; rw [hh])
              | fail)
            go_roundw
            case rel =>
              refine ⟨k + 1, q', by omega, by go_num, HG3.out.below HB3.out, ⟨HQ3.out.1, HQ3.out.2.1, fun j b hj hb => ?_⟩, HS3.out.below HB3.out⟩
              by_cases e : j = k
              · subst e
                rw [HBN.out] at hb
                cases hb
                exact HIQ.out
              · exact HQ3.out.2.2 j b (by omega) hb
            case measure => simp [intOf]; omega
          · have hh : Maps.has D (keyC (bx, by_)) = false := by rw [Bool.eq_false_iff]; exact fun h => hin (hhas.1 h)
            have HIQ : Hid ((bx, by_) ∉ q') := hin
            have hLn : ((L0 ++ q').map keyC).length ≤ 20000 := by have := HIN.out.2.2.2; rw [List.length_map, List.length_append]; omega
            obtain ⟨cs, hlu, hat2, hwc2⟩ := ((hD1.alloc (.cells #[.int .i64 bx, .int .i64 by_] 59)).drew).lookup_int law_corner Tryz.underlying52 Tryz.underlying3 (zero_i _) hkeyS
            obtain ⟨Wu, hup, hownu, hgu⟩ := ((hD1.alloc (.cells #[.int .i64 bx, .int .i64 by_] 59)).drew).update law_corner Tryz.underlying52 (by unfold maxLen; omega) hkeyB (plainElem_int Tryz.underlying3 hwc2)
            have hgu2 : wr.grownBy Wu (some bm) := (World.grownBy_alloc wr (.cells #[.int .i64 bx, .int .i64 by_] 59) (some bm)).trans ⟨hgu.os, hgu.tape, hgu.output, hgu.size, hgu.block⟩
            have HGU : Hid (wr.grownBy Wu (some bm)) := hgu2
            have h3 := two_cells wr (.int .i64 bx) (.int .i64 by_) 59
            have hbmr : bm < wr.heap.size := hD1.lt
            have hnew : wr.heap.size < (wr.alloc (.cells #[.int .i64 bx, .int .i64 by_] 59)).heap.size := by simp
            have u0 : Wu.cell? ⟨wr.heap.size, 0, none⟩ = some (.int .i64 bx) := (World.cell?_of_block (a := ⟨wr.heap.size, 0, none⟩) (hgu.block wr.heap.size hnew (by simp; omega))).trans h3.1
            have u1 : Wu.cell? ⟨wr.heap.size, 1, none⟩ = some (.int .i64 by_) := (World.cell?_of_block (a := ⟨wr.heap.size, 1, none⟩) (hgu.block wr.heap.size hnew (by simp; omega))).trans h3.2
            have s0 : wr.cell? ⟨ab, 0, none⟩ = some (.int .i64 sx) := (far_c HG3.out.grown ⟨ab, 0, none⟩ hl1 (by simp; omega)).trans h2.1
            have s1 : wr.cell? ⟨ab, 1, none⟩ = some (.int .i64 sy) := (far_c HG3.out.grown ⟨ab, 1, none⟩ hl1 (by simp; omega)).trans h2.2
            have habr : ab < wr.heap.size := Nat.lt_of_lt_of_le hl1 HG3.out.grown.size
            have s0a : ∀ o, (wr.alloc o).cell? ⟨ab, 0, none⟩ = some (.int .i64 sx) := fun o => (World.cell?_alloc_lt wr o ⟨ab, 0, none⟩ habr).trans s0
            have s1a : ∀ o, (wr.alloc o).cell? ⟨ab, 1, none⟩ = some (.int .i64 sy) := fun o => (World.cell?_alloc_lt wr o ⟨ab, 1, none⟩ habr).trans s1
            have HMU : Hid (MapAt Wu 59 bm ((L0 ++ (q' ++ [(bx, by_)])).map keyC)) := by
              rw [← List.append_assoc, List.map_append]
              refine map_push (x := _) (fun h => ?_) (hD1.tidy law_corner) hD2 hD3 hownu
              have := (mem_keysC hbsm hqs).1 h
              rcases List.mem_append.1 this with h | h
              · exact HIN.out.2.2.1 _ (by rw [HR.out]; exact HBR.out) h
              · exact hin h
            have hrowu : Wu.ownsRow W1.heap.size 59 2 u9 q'.length (sqCells q') := World.ownsRow.kept HG3.out.row hgu2 (by
              cases e : u9.ownBlock with
              | none => exact .inl rfl
              | some b => refine .inr fun h => ?_; have := (World.ownsRow.lt HG3.out.row b e).1; simp at h; omega)
            have hsu : W1.heap.size ≤ Wu.heap.size := Nat.le_trans HG3.out.grown.size hgu2.size
            clear hhas hin hgu hgu2 hownu h3 hD2 hD3 hat2
            go_wp2_with (first
              | (at_lookup; refine wpList_lookup_own_ok_int _ rfl _ _ 52 rfl 59 3 .i64 law_corner Tryz.underlying52 Tryz.underlying3 (zero_i _) bm _ D rfl (hD1.alloc _) _ _ rfl hkeyB ?_; intro c0 hat hwc; rw [hh])
              | fail)
            go_region
            all_goals go_wp2_with (first
              | (at_builtin; refine wpList_append_own_at _ rfl (.tmp 47) (.tmp 49) 54 rfl W1.heap.size 59 i0 (.agg #[.int .i64 0, .int .i64 0]) 2 16 Tryz.underlying54 hi0 hz0 hz1 hz2 rfl (by decide) _ q'.length (sqCells q') rfl (hrowu.alloc _) ⟨_, 0, none⟩ 1 1 [.int .i64 bx, .int .i64 by_] rfl rfl (cells_new _ _ _) (by simp [Value.oneCell']) (by unfold maxLen; omega) (by omega) (by simp; omega) ?_; intro v5 w5 hown5 hg5 hnil5 hl5)
              | fail)
            all_goals go_roundw
            case rel =>
              have hgA : Wu.grownBy w5 u9.ownBlock := (World.grownBy_alloc Wu (.cells #[.int .i64 bx, .int .i64 by_] 59) u9.ownBlock).trans hg5
              have hwu := HGU.out.size
              refine ⟨k + 1, q' ++ [(bx, by_)], by omega, by go_num, HG3.out.push (by omega) (by have := HQ3.out.2.1; omega) HBR.out HIQ.out HGU.out HMU.out hgA ?_, ⟨?_, ?_, ?_⟩, ?_⟩
              · unfold SqRow
                rw [sqCells_snoc, List.length_append]
                exact hown5
              · rw [List.getElem?_append_left HQ3.out.2.1]; exact HQ3.out.1
              · rw [List.length_append]; have := HQ3.out.2.1; omega
              · intro j b hj hb
                by_cases e : j = k
                · subst e
                  rw [HBN.out] at hb
                  cases hb
                  simp
                · exact List.mem_append_left _ (HQ3.out.2.2 j b (by omega) hb)
              · have h1 : SqIn (fun b => (b ≠ bm ∧ some b ≠ u9.ownBlock) ∧ b < wr.heap.size) wr _ ns := HS3.out.mono (fun b hb hS => ⟨hS, hb⟩)
                have h4 := h1.keep (W' := w5) (Nat.le_trans hwu hgA.size) (fun b hb hS => (hgA.block b (by omega) hS.1.2).trans (HGU.out.block b hb (fun e => hS.1.1 (by cases e; rfl))))
                refine h4.mono (fun b _ hS => ⟨hS.1.1, fun e => ?_⟩)
                rcases hl5 with h | h
                · exact hS.1.2 (e.trans h)
                · rw [h] at e; simp at e; omega
            case measure => simp [intOf]; omega
        · obtain rfl : k = ns.length := by omega
          go_wp2_with fail
          go_roundw
          case rel =>
            refine ⟨i + 1, q', HQ3.out.2.1, by go_num, ⟨queue_next HG3.out.queue HQ3.out.1 (fun b hb => ?_), HG3.out.row, HG3.out.map, HG3.out.grown⟩⟩
            obtain ⟨j, hj, e⟩ := List.getElem_of_mem ((HNS.out b).2 hb)
            exact HQ3.out.2.2 j b hj (by rw [List.getElem?_eq_getElem hj, e])
          case measure => simp [intOf]; omega
    · obtain rfl : i = q.length := by omega
      have HRD : Hid (SqIn (fun b => W1.heap.size ≤ b) wr (.slice av q.length cv) q) := ⟨av, cv, rfl, hrr⟩
      clear hrr
      go_wp2_with fail
      go_ret
      refine ⟨_, q, rfl, ?_, ⟨HG.out.queue.nodup, fun b => ?_⟩, HG.out.map, grown_on HW1.out HG.out.grown (fun k e => by cases e; exact .inl rfl)⟩
      · rw [HAB.out]
        exact HRD.out.mono (fun b _ hb => by omega)
      · rw [HR.out]
        exact queue_end HG.out.queue (Nat.le_refl _) b

end Go.Proofs.YtbmojlnkjeapkaaGreatDoor
