/- What pieces answers: for each piece of a kind, by its first square, the squares of it. -/
import Derived.Test.YtbmojlnkjeapkaaGreatDoorCubeGrown2
namespace Go.Proofs.YtbmojlnkjeapkaaGreatDoor
open Go.RowKit Go.Sort Go.Maps

theorem Tryz.info54 : (Tryz.prog.info? 54).map (fun i => (i.zero, i.size, i.bytes)) = some (some (.slice none 0 0), 1, 24) := by kernel_rfl

/-- Lists of squares, one for each first square. -/
def Pieced (R : Sq → Sq → Prop) (ss : List Sq) (ps : List (List Sq)) : Prop := ps.length = ss.length ∧ ∀ (k : Nat) (s : Sq) (p : List Sq), ss[k]? = some s → ps[k]? = some p → p.Nodup ∧ ∀ b, b ∈ p ↔ Reach R s b

theorem Pieced.nil (R : Sq → Sq → Prop) : Pieced R [] [] := ⟨rfl, fun k s p h => by simp at h⟩
theorem Pieced.snoc {R : Sq → Sq → Prop} {ss : List Sq} {ps : List (List Sq)} (h : Pieced R ss ps) {s : Sq} {p : List Sq} (hp : p.Nodup ∧ ∀ b, b ∈ p ↔ Reach R s b) : Pieced R (ss ++ [s]) (ps ++ [p]) := by
  refine ⟨by rw [List.length_append, List.length_append, h.1]; rfl, fun k s' p' hs hp' => ?_⟩
  by_cases e : k < ss.length
  · rw [List.getElem?_append_left e] at hs
    rw [List.getElem?_append_left (by rw [h.1]; exact e)] at hp'
    exact h.2 k s' p' hs hp'
  · rw [List.getElem?_append_right (by omega)] at hs
    rw [List.getElem?_append_right (by rw [h.1]; omega), h.1] at hp'
    have h0 : k - ss.length = 0 := by
      rcases Nat.eq_zero_or_pos (k - ss.length) with h | h
      · exact h
      · rw [List.getElem?_eq_none (by simp; omega)] at hs; cases hs
    rw [h0] at hs hp'
    simp at hs hp'
    subst hs; subst hp'
    exact hp

/-- A row of the call's own whose elements are slices of squares that lie elsewhere. -/
def PieceRow (base bm : Nat) (W : World) (v : Value) (ps : List (List Sq)) : Prop :=
  ∃ vs : List Value, W.ownsRow base 54 1 v ps.length vs ∧ ∀ (k : Nat) (u : Value) (p : List Sq), vs[k]? = some u → ps[k]? = some p → SqIn (fun b => base ≤ b ∧ b ≠ bm ∧ some b ≠ v.ownBlock) W u p

theorem PieceRow.nil (base bm : Nat) (W : World) : PieceRow base bm W (.slice none 0 0) [] := ⟨[], World.ownsRow_nil _ _ _ _, fun k u p h => by simp at h⟩
theorem PieceRow.kept {base bm : Nat} {W W' : World} {v : Value} {ps : List (List Sq)} (h : PieceRow base bm W v ps) (hbm : bm < base) (hg : W.grownBy W' (some bm)) : PieceRow base bm W' v ps := by
  obtain ⟨vs, h1, h2⟩ := h
  refine ⟨vs, h1.kept hg ?_, fun k u p hu hp => (h2 k u p hu hp).keep hg.size (fun b hb hS => hg.block b hb (fun e => hS.2.1 (by cases e; rfl)))⟩
  cases e : v.ownBlock with
  | none => exact .inl rfl
  | some b => refine .inr fun h => ?_; have := (h1.lt b e).1; simp at h; omega
theorem grown_any {W W' : World} (bm : Nat) (hB : Below W.heap.size W W') : W.grownBy W' (some bm) := ⟨hB.os, hB.tape, hB.output, hB.size, fun k hk _ => hB.block k hk⟩
theorem PieceRow.below {base bm : Nat} {W W' : World} {v : Value} {ps : List (List Sq)} (h : PieceRow base bm W v ps) (hbm : bm < base) (hB : Below W.heap.size W W') : PieceRow base bm W' v ps := h.kept hbm (grown_any bm hB)

/-- One more, behind its append. -/
theorem PieceRow.push {base bm : Nat} {W Wd : World} {v v' u : Value} {ps : List (List Sq)} {p : List Sq} {vs : List Value} {o : Obj} (h1 : W.ownsRow base 54 1 v ps.length vs) (h2 : ∀ (k : Nat) (u : Value) (p : List Sq), vs[k]? = some u → ps[k]? = some p → SqIn (fun b => base ≤ b ∧ b ≠ bm ∧ some b ≠ v.ownBlock) W u p)
    (hu : SqIn (fun b => base ≤ b ∧ b ≠ bm ∧ some b ≠ v.ownBlock) W u p) (hown : Wd.ownsRow base 54 1 v' (ps.length + 1) (vs ++ [u])) (hg : (W.alloc o).grownBy Wd v.ownBlock) (hl : v'.ownBlock = v.ownBlock ∨ v'.ownBlock = some (W.alloc o).heap.size) : PieceRow base bm Wd v' (ps ++ [p]) := by
  have key : ∀ {u : Value} {p : List Sq}, SqIn (fun b => base ≤ b ∧ b ≠ bm ∧ some b ≠ v.ownBlock) W u p → SqIn (fun b => base ≤ b ∧ b ≠ bm ∧ some b ≠ v'.ownBlock) Wd u p := fun {u p} h => by
    have h' : SqIn (fun b => (base ≤ b ∧ b ≠ bm ∧ some b ≠ v.ownBlock) ∧ b < W.heap.size) W u p := h.mono (fun b hb hS => ⟨hS, hb⟩)
    have h'' := h'.keep (W' := Wd) (by have := hg.size; simp at this; omega) (fun b hb hS => (hg.block b (by simp; omega) hS.1.2.2).trans (Below.heap_alloc W o b hb))
    refine h''.mono (fun b _ hS => ⟨hS.1.1, hS.1.2.1, fun e => ?_⟩)
    rcases hl with hl | hl
    · exact hS.1.2.2 (e.trans hl)
    · rw [hl] at e; simp at e; omega
  have hvl : vs.length = ps.length := by have := h1.1; simpa using this
  refine ⟨vs ++ [u], by rw [List.length_append]; exact hown, fun k u' p' hu' hp' => ?_⟩
  rw [List.getElem?_append] at hu' hp'
  rw [hvl] at hu'
  by_cases hk : k < ps.length
  · rw [if_pos hk] at hu' hp'
    exact key (h2 k u' p' hu' hp')
  · rw [if_neg hk] at hu' hp'
    have h0 : k - ps.length = 0 := by
      rcases Nat.eq_zero_or_pos (k - ps.length) with h | h
      · exact h
      · rw [List.getElem?_eq_none (by simp; omega)] at hu'; cases hu'
    rw [h0] at hu' hp'
    simp at hu' hp'
    subst hu'; subst hp'
    exact key hu

theorem starts_len {α : Type} {K : α → Prop} {R : α → α → Prop} (l : List α) : ∀ d, (starts K R d l).length ≤ l.length := by
  induction l with
  | nil => intro d; simp [starts]
  | cons a l ih =>
    intro d
    have := ih (d ++ [a])
    unfold starts
    rw [List.length_append, List.length_cons]
    split <;> simp <;> omega

/-- The pieces under way: what was met, and the pieces of what was new. -/
structure PiecesMid (base bm : Nat) (K : Sq → Prop) (R : Sq → Sq → Prop) (d : List Sq) (L : List Sq) (ps : List (List Sq)) (W : World) (v : Value) : Prop where
  nodup : L.Nodup
  met : ∀ b, b ∈ L ↔ Met K R d b
  map : MapAt W 59 bm (L.map keyC)
  row : PieceRow base bm W v ps
  pieced : Pieced R (starts K R [] d) ps

/-- What pieces answers. -/
def PiecesSay (m : List (List UInt8)) (c : Bool) (kb : UInt8) (w : World) (e : Ending) (w' : World) : Prop :=
  ∃ v ps base bm, e = .returned v ∧ PieceRow base bm w' v ps ∧ Pieced (StepTo m (wide m) m.length c) (firsts m (wide m) m.length kb c) ps ∧ Below w.heap.size w w'

set_option maxRecDepth 100000 in
set_option maxHeartbeats 4000000 in
theorem pieces_ (vm : Value) (m : List (List UInt8)) (w : World) (hm : Strs w vm m) (hi : Img m) (hr24 : m.length ≤ 24) (hc24 : wide m ≤ 24) (c : Bool) (kb : UInt8) (kn : Int) (hkn : kn = (kb.toNat : Int)) :
    Calls Tryz.prog 35 #[vm, .int .u8 kn, .int .i64 (farN c)] w fun e w' => PiecesSay m c kb w e w' := by
  obtain ⟨i0, hi0, hz0, hz1, hz2⟩ := info_parts Tryz.info54
  have hmm := @run_makeMap Tryz.prog
  have hwd : ∀ W, Below w.heap.size w W → _ := fun W hW => width_ vm m W (hm.below hW) hi.rows
  have HGR : Hid (∀ (W : World), Below w.heap.size w W → ∀ s : Sq, InSq (wide m) m.length s → ∀ bm L0, MapAt W 59 bm ((L0 ++ [s]).map keyC) → L0.length ≤ 10000 → (∀ a ∈ L0, Small a) → (∀ b, Reach (StepTo m (wide m) m.length c) s b → b ∉ L0) →
      Calls Tryz.prog 48 #[vm, cornerV s, .int .i64 (farN c), .map (some bm)] W fun e w' => GrownSays m c s L0 bm W e w') := fun W hW s hs bm L0 h1 h2 h3 h4 => grown_ vm m W (hm.below hW) hi hr24 hc24 c s hs bm L0 h1 h2 h3 h4
  have HI : Hid (Img m) := hi
  obtain ⟨am, ca, rfl, -, ha⟩ := hm.open_
  have HA : Hid (0 < m.length → ∃ b off, am = some ⟨b, off, none⟩ ∧ anyBlock b ∧ b < w.heap.size ∧ ∀ k, k < m.length → w.cell? ⟨b, off + k, none⟩ = some (encStr (m[k]?.getD []))) := ha
  obtain ⟨R, hR⟩ : ∃ R, StepTo m (wide m) m.length c = R := ⟨_, rfl⟩
  obtain ⟨K, hK⟩ : ∃ K, OfKind m (wide m) m.length kb = K := ⟨_, rfl⟩
  have HRK : Hid (StepTo m (wide m) m.length c = R ∧ OfKind m (wide m) m.length kb = K) := ⟨hR, hK⟩
  have HKN : Hid (kn = (kb.toNat : Int)) := hkn
  have HM0 : Hid (MapAt (w.alloc (.map #[] 0)) 59 w.heap.size (([] : List Sq).map keyC)) := ⟨.map [], World.ownsMap_made (H := Unit) w Tryz.prog 59 (plainElem Tryz.prog 3), fun x => by simp [Maps.has], rfl⟩
  have HB0 : Hid (Below w.heap.size w (w.alloc (.map #[] 0))) := (Below.refl _ w).alloc (Nat.le_refl _) _
  clear hm hi ha hR hK hkn
  go_enter Tryz.func35, Tryz.ntmps35
  go_upto_region 2 with fail
  obtain ⟨W0, hW0⟩ : ∃ W0, w.alloc (.map #[] 0) = W0 := ⟨_, rfl⟩
  have hsz0 : w.heap.size < W0.heap.size := by rw [← hW0]; simp
  obtain ⟨B, hB⟩ : ∃ B, w.heap.size = B := ⟨_, rfl⟩
  have HBB : Hid (w.heap.size = B) := hB
  rw [hW0, hB] at HM0 HB0
  rw [hB] at hwd HGR HA hsz0
  rw [hW0, hB]
  clear hW0 hB hmm
  go_wp2_with fail
  go_loopw [8, 17] (fun v p W => ∃ (k : Nat) (L : List Sq) (ps : List (List Sq)), k ≤ m.length ∧ p = .int .i64 k ∧ Hid (PiecesMid (B + 1) B K R (sqTo (wide m) k) L ps W v) ∧ Hid (Below B w W)) (fun _ p _ => m.length - (intOf p).toNat)
  case atStart => exact ⟨0, [], [], by omega, rfl, ⟨List.nodup_nil, fun b => ⟨fun h => (by cases h), fun h => absurd h (met_nil b)⟩, HM0.out, PieceRow.nil _ _ _, Pieced.nil _⟩, HB0.out⟩
  case round =>
    obtain ⟨k, L, ps, hk, rfl, HP, HB⟩ := hrel
    by_cases hlt : k < m.length
    · have hwk := hwd wr HB.out
      go_wp2_with (first
        | (go_at_call 22; refine hwk.mono ?_; rintro e w2 ⟨rfl, rfl⟩)
        | fail)
      go_loopw [8, 22] (fun v p W => ∃ (j : Nat) (L : List Sq) (ps : List (List Sq)), j ≤ wide m ∧ p = .int .i64 j ∧ Hid (PiecesMid (B + 1) B K R (sqTo (wide m) k ++ rowTo k j) L ps W v) ∧ Hid (Below B w W)) (fun _ p _ => wide m - (intOf p).toNat)
      case atStart => exact ⟨0, L, ps, by omega, rfl, by rw [rowTo_zero, List.append_nil]; exact HP.out, HB.out⟩
      case round =>
        obtain ⟨j, L2, ps2, hj, rfl, HP2, HB2⟩ := hrel
        clear HP HB hwk
        by_cases hjt : j < wide m
        · obtain ⟨b, o, rfl, -, hbw, hcell⟩ := HA.out (by omega)
          obtain ⟨t, ht⟩ : ∃ t, (⟨(m[k]?.getD []).toArray⟩ : ByteArray) = t := ⟨_, rfl⟩
          have r1 : wr.cell? ⟨b, o + k, none⟩ = some (.string t) := (HB2.out.cell (p := ⟨b, o + k, none⟩) hbw).trans ((hcell k hlt).trans (by rw [← ht]))
          have hst : j < t.size := by rw [text_size ht, row_of HI.out hlt]; exact hjt
          obtain ⟨q, hq⟩ : ∃ q, t[j]'hst = q := ⟨_, rfl⟩
          have HQ : Hid (q = byteOf m ((j : Int), (k : Int))) := hq.symm.trans (byte_eq ht hst)
          have hq8 : q.toNat < 256 := q.toNat_lt
          have i1 : (k : Int) < (m.length : Int) := by omega
          have i2 : (j : Int) < (t.size : Int) := by omega
          have hbr : b < wr.heap.size := by have := HB2.out.size; have := HBB.out; omega
          have r1a : ∀ ob, (wr.alloc ob).cell? ⟨b, o + k, none⟩ = some (.string t) := fun ob => (World.cell?_alloc_lt wr ob ⟨b, o + k, none⟩ hbr).trans r1
          have hin0 : InSq (wide m) m.length ((j : Int), (k : Int)) := ⟨by simp only; omega, by simp only; omega, by simp only; omega, by simp only; omega⟩
          have hsm0 : Small ((j : Int), (k : Int)) := in_small (by omega) (by omega) hin0
          have hkeyB := hsm0.key
          have hLin : ∀ a ∈ L2, InSq (wide m) m.length a := fun a ha => by
            obtain ⟨x, _, hx, hr⟩ := (HP2.out.met a).1 ha
            rw [← HRK.out.2] at hx
            rw [← HRK.out.1] at hr
            exact reach_in hr hx.1
          have hLs : ∀ a ∈ L2, Small a := fun a ha => in_small (by omega) (by omega) (hLin a ha)
          have hLl : L2.length ≤ 576 := by
            have h1 := nodup_le HP2.out.nodup (Y := sqTo (wide m) m.length) fun a ha => mem_sqTo.2 (hLin a ha)
            rw [sqTo_len] at h1
            have : m.length * wide m ≤ 24 * 24 := Nat.mul_le_mul hr24 hc24
            omega
          obtain ⟨D, hD1, hD2, hD3⟩ := HP2.out.map
          have hhas : Maps.has D (keyC ((j : Int), (k : Int))) = true ↔ ((j : Int), (k : Int)) ∈ L2 := by
            rw [show keyC ((j : Int), (k : Int)) = .string _ from rfl, hD2, ← show keyC ((j : Int), (k : Int)) = .string _ from rfl, mem_keysC hsm0 hLs]
          obtain ⟨d, hd⟩ : ∃ d, sqTo (wide m) k ++ rowTo k j = d := ⟨_, rfl⟩
          have HD : Hid (sqTo (wide m) k ++ rowTo k (j + 1) = d ++ [((j : Int), (k : Int))]) := by rw [rowTo_succ, ← List.append_assoc, hd]; exact rfl
          rw [hd] at HP2
          have hdl : d.length ≤ 576 := by
            rw [← hd, List.length_append, sqTo_len, rowTo_len]
            have h5 : (k + 1) * wide m ≤ 24 * 24 := Nat.mul_le_mul (by omega) hc24
            rw [Nat.succ_mul] at h5
            omega
          have HIN : Hid (InSq (wide m) m.length ((j : Int), (k : Int)) ∧ (∀ a ∈ L2, Small a) ∧ L2.length ≤ 576) := ⟨hin0, hLs, hLl⟩
          have HB3 : Hid (Below wr.heap.size wr (wr.alloc (.cells #[.int .i64 (j : Int), .int .i64 (k : Int)] 59))) := (Below.refl _ wr).alloc (Nat.le_refl _) _
          have hbs : B ≤ wr.heap.size := by have := hD1.lt; omega
          unfold cornerV at hkeyB
          clear hd hcell ht hin0 hLin hLs
          by_cases hin : ((j : Int), (k : Int)) ∈ L2
          · have hh : Maps.has D (keyC ((j : Int), (k : Int))) = true := hhas.2 hin
            have HNW : Hid (¬ New K R d ((j : Int), (k : Int))) := fun h => h.2 ((HP2.out.met _).1 hin)
            clear hhas hin
            go_wp2_with (first
              | (at_lookup; refine wpList_lookup_own_ok_int _ rfl _ _ 52 rfl 59 3 .i64 law_corner Tryz.underlying52 Tryz.underlying3 (zero_i _) B _ D rfl (hD1.alloc _) _ _ rfl hkeyB ?_; intro c0 hat hwc; rw [hh])
              | fail)
            go_roundw
            case rel =>
              refine ⟨j + 1, L2, ps2, by omega, by go_num, ?_, HB2.out.trans (HB3.out.mono hbs)⟩
              rw [HD.out]
              exact ⟨HP2.out.nodup, fun b => by rw [HP2.out.met b, met_skip HNW.out], HP2.out.map.below HB3.out, HP2.out.row.below (by omega) HB3.out, by rw [starts_skip HNW.out]; exact HP2.out.pieced⟩
            case measure => simp [intOf]; omega
          · have hh : Maps.has D (keyC ((j : Int), (k : Int))) = false := by rw [Bool.eq_false_iff]; exact fun h => hin (hhas.1 h)
            have HNI : Hid (((j : Int), (k : Int)) ∉ L2) := hin
            clear hhas hin
            by_cases hqk : q = kb
            · have hqb : ((q.toNat : Int) != kn) = false := by rw [HKN.out, hqk]; simp
              have HNW : Hid (New K R d ((j : Int), (k : Int))) := ⟨by rw [← HRK.out.2]; exact ⟨HIN.out.1, by rw [← HQ.out, hqk]⟩, fun h => HNI.out ((HP2.out.met _).2 h)⟩
              clear hqk
              have hrow2 := HP2.out.row
              obtain ⟨vs0, hv0, -⟩ := hrow2
              obtain ⟨av, cv, rfl⟩ := own_slice hv0
              have hpl : ps2.length ≤ 576 := by
                have h2 := HP2.out.pieced.1
                have h4 := starts_len (K := K) (R := R) d []
                omega
              have hwf : (Lit.int .i64 (ps2.length : Int)).wf = true := wfI (by omega) (by omega)
              have hvb : ∀ bb, (Value.slice av ps2.length cv).ownBlock = some bb → bb < wr.heap.size := fun bb hbb => (hv0.lt bb hbb).2
              have h3 := two_cells wr (.int .i64 (j : Int)) (.int .i64 (k : Int)) 59
              have hnew : wr.heap.size < (wr.alloc (.cells #[.int .i64 (j : Int), .int .i64 (k : Int)] 59)).heap.size := by simp
              have hBl := hD1.lt
              have HTD : Hid (Tidy D ∧ (∀ x : List UInt8, Maps.has D (.string x) = true ↔ Lit.string x ∈ L2.map keyC) ∧ Maps.size D = (L2.map keyC).length) := ⟨hD1.tidy law_corner, hD2, hD3⟩
              have hLm : (L2.map keyC).length ≤ 576 := by rw [List.length_map]; exact hLl
              clear hv0 hD2 hD3 vs0
              go_wp2_with (first
                | (at_lookup; refine wpList_lookup_own_ok_int _ rfl _ _ 52 rfl 59 3 .i64 law_corner Tryz.underlying52 Tryz.underlying3 (zero_i _) B _ D rfl (hD1.alloc _) _ _ rfl hkeyB ?_; intro c0 hat hwc; rw [hh])
                | (at_mapUpdate; refine wpList_mapUpdate_own _ rfl _ _ _ 52 rfl 59 3 law_corner Tryz.underlying52 _ B _ D rfl (hD1.alloc _) (by unfold maxLen; omega) _ _ _ rfl rfl hkeyB _ [] (plainElem_int Tryz.underlying3 hwf) ?_; intro w3 hown3 hg3; have e0 : w3.cell? ⟨wr.heap.size, 0, none⟩ = some (.int .i64 (j : Int)) := (far_c hg3 ⟨wr.heap.size, 0, none⟩ hnew (by simp; omega)).trans h3.1; have e1 : w3.cell? ⟨wr.heap.size, 1, none⟩ = some (.int .i64 (k : Int)) := (far_c hg3 ⟨wr.heap.size, 1, none⟩ hnew (by simp; omega)).trans h3.2; have HG3 : Hid (wr.grownBy w3 (some B)) := (grown_any B HB3.out).trans hg3; have HM3 : Hid (MapAt w3 59 B ((L2 ++ [((j : Int), (k : Int))]).map keyC)) := (by rw [List.map_append]; exact map_push (fun h => HNI.out ((mem_keysC hsm0 HIN.out.2.1).1 h)) HTD.out.1 HTD.out.2.1 HTD.out.2.2 hown3); have hgc := HGR.out w3 (HB2.out.grown HG3.out hbs (fun bb hbb => by cases hbb; exact Nat.le_refl _)) ((j : Int), (k : Int)) HIN.out.1 B L2 HM3.out (by omega) HIN.out.2.1 (fun bb hbb hm => new_apart (K := K) (R := R) (fun x y hxy => by rw [← HRK.out.1] at hxy ⊢; exact step_symm x y hxy) HNW.out (by rw [← HRK.out.1]; exact hbb) ((HP2.out.met bb).1 hm)); unfold cornerV at hgc; clear hown3 hg3)
                | (go_at_call 48; refine hgc.mono ?_; rintro e w4 ⟨v4, p4, rfl, hsq4, hpn4, hM4, hg4⟩; obtain ⟨a4, c4, rfl, hx4⟩ := hsq4; have HS4 : Hid (SqIn (fun bb => w3.heap.size ≤ bb) w4 (.slice a4 p4.length c4) p4) := ⟨a4, c4, rfl, hx4⟩; have HP4 : Hid ((p4.Nodup ∧ ∀ bb, bb ∈ p4 ↔ Reach (StepTo m (wide m) m.length c) ((j : Int), (k : Int)) bb) ∧ MapAt w4 59 B ((L2 ++ p4).map keyC) ∧ w3.grownBy w4 (some B)) := ⟨hpn4, hM4, hg4⟩; obtain ⟨vs, hv1, hv2⟩ := (HP2.out.row.kept (by omega) HG3.out).kept (by omega) hg4; have hsz4 : wr.heap.size ≤ w4.heap.size := Nat.le_trans HG3.out.size hg4.size; clear hx4 hpn4 hM4 hg4 hgc)
                | (at_builtin; refine wpList_append_own_at _ rfl (.tmp 49) (.tmp 55) 76 rfl (B + 1) 54 i0 (.slice none 0 0) 1 24 Tryz.underlying76 hi0 hz0 hz1 hz2 rfl (by decide) _ ps2.length vs rfl (hv1.alloc _) ⟨_, 0, none⟩ 1 1 [.slice a4 p4.length c4] rfl rfl (cells_new _ _ _) (by simp [Value.oneCell']) (by unfold maxLen; omega) (by omega) (by simp; omega) ?_; intro v5 w5 hown5 hg5 hnil5 hl5)
                | fail)
              go_roundw
              case rel =>
                refine ⟨j + 1, L2 ++ p4, ps2 ++ [p4], by omega, by go_num, ?_, ?_⟩
                · rw [HD.out]
                  have hap : ∀ bb, bb ∈ p4 → bb ∉ L2 := fun bb hbb hm => new_apart (K := K) (R := R) (fun x y hxy => by rw [← HRK.out.1] at hxy ⊢; exact step_symm x y hxy) HNW.out (by rw [← HRK.out.1]; exact (HP4.out.1.2 bb).1 hbb) ((HP2.out.met bb).1 hm)
                  have hpr : ∀ bb, bb ∈ p4 ↔ Reach R ((j : Int), (k : Int)) bb := by rw [← HRK.out.1]; exact HP4.out.1.2
                  have hga : w4.grownBy w5 (Value.slice av ps2.length cv).ownBlock := (World.grownBy_alloc w4 (.cells #[.slice a4 p4.length c4] 54) (Value.slice av ps2.length cv).ownBlock).trans hg5
                  refine ⟨?_, fun bb => ?_, ?_, ?_, ?_⟩
                  · rw [List.nodup_append]
                    exact ⟨HP2.out.nodup, HP4.out.1.1, fun x hx y hy e => hap y hy (e ▸ hx)⟩
                  · rw [List.mem_append, HP2.out.met bb, hpr bb, met_new HNW.out.1]
                  · exact HP4.out.2.1.kept hga (fun e => by have := (hv1.lt _ e.symm).1; omega)
                  · refine PieceRow.push hv1 hv2 (HS4.out.mono (fun bb _ hbb => ⟨by have := HG3.out.size; omega, by have := HG3.out.size; omega, fun e => ?_⟩)) hown5 hg5 hl5
                    have := hvb bb e.symm
                    have := HG3.out.size
                    omega
                  · rw [starts_new HNW.out]
                    exact HP2.out.pieced.snoc ⟨HP4.out.1.1, hpr⟩
                · have h5 : Below B w w4 := (HB2.out.grown HG3.out hbs (fun bb hbb => by cases hbb; exact Nat.le_refl _)).grown HP4.out.2.2 (by have := HG3.out.size; omega) (fun bb hbb => by cases hbb; exact Nat.le_refl _)
                  exact (h5.alloc (by omega) _).grown hg5 (by simp; omega) (fun bb hbb => by have := (hv1.lt bb hbb).1; omega)
              case measure => simp [intOf]; omega
            · have hqb : ((q.toNat : Int) != kn) = true := by rw [HKN.out]; exact bne_iff_ne.2 fun h => hqk (UInt8.toNat_inj.1 (by omega))
              have HNW : Hid (¬ New K R d ((j : Int), (k : Int))) := fun h => hqk (by have := h.1; rw [← HRK.out.2] at this; exact HQ.out.trans this.2)
              clear hqk
              go_wp2_with (first
                | (at_lookup; refine wpList_lookup_own_ok_int _ rfl _ _ 52 rfl 59 3 .i64 law_corner Tryz.underlying52 Tryz.underlying3 (zero_i _) B _ D rfl (hD1.alloc _) _ _ rfl hkeyB ?_; intro c0 hat hwc; rw [hh])
                | fail)
              go_roundw
              case rel =>
                refine ⟨j + 1, L2, ps2, by omega, by go_num, ?_, HB2.out.trans (HB3.out.mono hbs)⟩
                rw [HD.out]
                exact ⟨HP2.out.nodup, fun b => by rw [HP2.out.met b, met_skip HNW.out], HP2.out.map.below HB3.out, HP2.out.row.below (by omega) HB3.out, by rw [starts_skip HNW.out]; exact HP2.out.pieced⟩
              case measure => simp [intOf]; omega
        · obtain rfl : j = wide m := by omega
          go_wp2_with fail
          go_roundw
          case rel => exact ⟨k + 1, L2, ps2, by omega, by go_num, by rw [sqTo_succ]; exact HP2.out, HB2.out⟩
          case measure => simp [intOf]; omega
    · obtain rfl : k = m.length := by omega
      have HV := HP.out.row
      go_wp2_with fail
      go_ret
      refine ⟨_, ps, B + 1, B, rfl, HV, ?_, ?_⟩
      · have h := HP.out.pieced
        rw [← HRK.out.1, ← HRK.out.2] at h
        exact h
      · rw [HBB.out]; exact HB.out

end Go.Proofs.YtbmojlnkjeapkaaGreatDoor
