/- What addSides does to the two tables of a shape. -/
import Derived.Test.YtnnkmkhamipfiaaGreatDoorRefPart
import Derived.Test.YtnnkmkhamipfiaaGreatDoorAppendTypes
import Derived.Test.YtnnkmkhamipfiaaGreatDoorMorseUnder
import Derived.Deep.DeepCutAuto
import Derived.Deep.RegionLaw
import Derived.Deep.Light
namespace Go.Proofs.YtnnkmkhamipfiaaGreatDoor
open Go.RowKit Go.Sort

theorem Tryz.info124 : (Tryz.prog.info? 124).map (fun i => (i.zero, i.size, i.bytes)) = some (some (.agg #[.int .i64 0, .int .i64 0]), 2, 16) := by kernel_rfl

/-- Both tables, and what else is kept. -/
structure AddAt (base N : Nat) (P : List (List Int)) (D1 D2 : Nat → Nat → Bool) (T : Nat → Prop) (W0 : World) (gs cs go co : Nat) (W : World) (vs1 vs2 : List Value) : Prop where
  t1 : TabAt base 122 124 2 W (.slice (some ⟨gs, 0, none⟩) N cs) vs1 (sidesC P D1)
  t2 : TabAt base 29 3 1 W (.slice (some ⟨go, 0, none⟩) N co) vs2 (oversC P D2)
  dis : ∀ b, TabBlock (.slice (some ⟨gs, 0, none⟩) N cs) vs1 b → ¬ TabBlock (.slice (some ⟨go, 0, none⟩) N co) vs2 b
  keep : KeepOff T W0 W
  b1 : ∀ b, TabBlock (.slice (some ⟨gs, 0, none⟩) N cs) vs1 b → T b ∨ W0.heap.size ≤ b
  b2 : ∀ b, TabBlock (.slice (some ⟨go, 0, none⟩) N co) vs2 b → T b ∨ W0.heap.size ≤ b

section
variable {base N : Nat} {P : List (List Int)} {D1 D2 D' : Nat → Nat → Bool} {T : Nat → Prop} {W0 W W' : World} {gs cs go co : Nat} {vs1 vs2 : List Value}

theorem AddAt.side {k m : Nat} {u u' : Value} {c' : List Value} {o : Obj} (h : AddAt base N P D1 D2 T W0 gs cs go co W vs1 vs2) (hN : N = P.length) (hk : k < N) (hu : vs1[k]? = some u) (hown : W'.ownsRow base 124 2 u' m c') (hg : (W.alloc o).grownBy W' u.ownBlock) (hl : u'.ownBlock = u.ownBlock ∨ u'.ownBlock = some (W.alloc o).heap.size)
    (hD : sidesC P D' = (sidesC P D1).set k c') : AddAt base N P D' D2 T W0 gs cs go co (W'.setCell ⟨gs, k, none⟩ u') (vs1.set k u') vs2 := by
  obtain ⟨p1, p2⟩ := h.t1.put hu (sidesC_at (by omega)) (by rw [sidesC_len]; exact hN) hown hg hl
  have hub : ∀ b, u.ownBlock = some b → TabBlock (.slice (some ⟨gs, 0, none⟩) N cs) vs1 b := fun b hb => .inr ⟨k, u, hu, hb⟩
  have hgs : TabBlock (.slice (some ⟨gs, 0, none⟩) N cs) vs1 gs := .inl rfl
  refine ⟨by rw [hD]; exact p1, ?_, fun b hb hb2 => ?_, ?_, fun b hb => ?_, h.b2⟩
  · exact ((h.t2.kept (World.grownBy_alloc W o none) (fun b e => by cases e)).kept hg (fun b e => h.dis b (hub b e))).kept (grown_one W' ⟨gs, k, none⟩ u') (fun b e => by cases e; exact h.dis gs hgs)
  · rcases p2 b hb with h1 | h1
    · exact h.dis b h1 hb2
    · have := (h.t2.lt hb2).2; omega
  · refine ((h.keep.on (World.grownBy_alloc W o none) (fun b e => by cases e)).on hg (fun b e => h.b1 b (hub b e))).on (grown_one W' ⟨gs, k, none⟩ u') (fun b e => by cases e; exact h.b1 gs hgs)
  · rcases p2 b hb with h1 | h1
    · exact h.b1 b h1
    · right; have := h.keep.size; omega

theorem AddAt.over {k m : Nat} {u u' : Value} {c' : List Value} {o : Obj} (h : AddAt base N P D1 D2 T W0 gs cs go co W vs1 vs2) (hN : N = P.length) (hk : k < N) (hu : vs2[k]? = some u) (hown : W'.ownsRow base 3 1 u' m c') (hg : (W.alloc o).grownBy W' u.ownBlock) (hl : u'.ownBlock = u.ownBlock ∨ u'.ownBlock = some (W.alloc o).heap.size)
    (hD : oversC P D' = (oversC P D2).set k c') : AddAt base N P D1 D' T W0 gs cs go co (W'.setCell ⟨go, k, none⟩ u') vs1 (vs2.set k u') := by
  obtain ⟨p1, p2⟩ := h.t2.put hu (oversC_at (by omega)) (by rw [oversC_len]; exact hN) hown hg hl
  have hub : ∀ b, u.ownBlock = some b → TabBlock (.slice (some ⟨go, 0, none⟩) N co) vs2 b := fun b hb => .inr ⟨k, u, hu, hb⟩
  have hgs : TabBlock (.slice (some ⟨go, 0, none⟩) N co) vs2 go := .inl rfl
  refine ⟨?_, by rw [hD]; exact p1, fun b hb hb2 => ?_, ?_, h.b1, fun b hb => ?_⟩
  · exact ((h.t1.kept (World.grownBy_alloc W o none) (fun b e => by cases e)).kept hg (fun b e hb => h.dis b hb (hub b e))).kept (grown_one W' ⟨go, k, none⟩ u') (fun b e hb => by cases e; exact h.dis go hb hgs)
  · rcases p2 b hb2 with h1 | h1
    · exact h.dis b hb h1
    · have := (h.t1.lt hb).2; omega
  · refine ((h.keep.on (World.grownBy_alloc W o none) (fun b e => by cases e)).on hg (fun b e => h.b2 b (hub b e))).on (grown_one W' ⟨go, k, none⟩ u') (fun b e => by cases e; exact h.b2 go hgs)
  · rcases p2 b hb with h1 | h1
    · exact h.b2 b h1
    · right; have := h.keep.size; omega

theorem AddAt.same {D1' D2' : Nat → Nat → Bool} (h : AddAt base N P D1 D2 T W0 gs cs go co W vs1 vs2) (h1 : sidesC P D1 = sidesC P D1') (h2 : oversC P D2 = oversC P D2') : AddAt base N P D1' D2' T W0 gs cs go co W vs1 vs2 :=
  ⟨by rw [← h1]; exact h.t1, by rw [← h2]; exact h.t2, h.dis, h.keep, h.b1, h.b2⟩
theorem AddAt.below (h : AddAt base N P D1 D2 T W0 gs cs go co W vs1 vs2) (hB : Below W.heap.size W W') : AddAt base N P D1 D2 T W0 gs cs go co W' vs1 vs2 :=
  ⟨h.t1.below hB, h.t2.below hB, h.dis, h.keep.on (Below.grownBy hB) (fun b e => by cases e), h.b1, h.b2⟩
theorem AddAt.start {Wb : World} (h : AddAt base N P D1 D2 T W0 gs cs go co W vs1 vs2) (hB : Below W.heap.size W Wb) (hT : ∀ b, W0.heap.size ≤ b → b < W.heap.size → T b) : AddAt base N P D1 D2 T Wb gs cs go co Wb vs1 vs2 := by
  have h1 := h.below hB
  refine ⟨h1.t1, h1.t2, h.dis, KeepOff.refl _ _, fun b hb => ?_, fun b hb => ?_⟩
  · rcases h.b1 b hb with h2 | h2
    · exact .inl h2
    · exact .inl (hT b h2 (h.t1.lt hb).2)
  · rcases h.b2 b hb with h2 | h2
    · exact .inl h2
    · exact .inl (hT b h2 (h.t2.lt hb).2)
end

set_option maxRecDepth 100000 in
set_option maxHeartbeats 4000000 in
theorem add_sides (base lo first Rn Cn N : Nat) (P : List (List Int)) (T : Nat → Prop) (M : List Int) (ad av : Option Addr) (nd cd cv gs cs go co : Nat) (w : World) (vs1 vs2 : List Value)
    (hat : AddAt base N P (doneP first lo 0 0) (doneP first lo 0 0) T w gs cs go co w vs1 vs2) (hT : ∀ b, T b → b < w.heap.size) (hm : IntsIn (fun b => ¬ T b) w (.slice av M.length cv) M) (hN : N = P.length) (hlo : lo + Rn = first) (hC : first + Cn = N) (hN6 : N ≤ 600) (hb : base ≤ w.heap.size) (hML : M.length = Rn * Cn)
    (hM : ∀ r c, r < Rn → c < Cn → M[r * Cn + c]? = some (entryI (faceAt P (lo + r)) (faceAt P (first + c)))) (hR : ∀ i, i < N → Rising (faceAt P i)) :
    Calls Tryz.prog 81 #[.agg #[.slice ad nd cd, .slice (some ⟨gs, 0, none⟩) N cs, .slice (some ⟨go, 0, none⟩) N co], .agg #[.int .i64 (Rn : Int), .int .i64 (Cn : Int), .slice av M.length cv], .int .i64 (first : Int)] w fun e w' => e = .returned (.tuple #[]) ∧ ∃ vs1' vs2', AddAt base N P (doneP first lo Rn 0) (doneP first lo Rn 0) T w gs cs go co w' vs1' vs2' := by
  obtain ⟨i0, hi0, hz0, hz1, hz2⟩ := info_parts Tryz.info124
  obtain ⟨j0, hj0, hy0, hy1, hy2⟩ := info_parts Tryz.info3
  have hBa : Below w.heap.size w ((w.alloc (.cells #[.slice ad nd cd, .slice (some ⟨gs, 0, none⟩) N cs, .slice (some ⟨go, 0, none⟩) N co] 79)).alloc (.cells #[.int .i64 (Rn : Int), .int .i64 (Cn : Int), .slice av M.length cv] 45)) := ((Below.refl _ w).alloc (Nat.le_refl _) _).alloc (by simp) _
  have hmb := matBox_new (w.alloc (.cells #[.slice ad nd cd, .slice (some ⟨gs, 0, none⟩) N cs, .slice (some ⟨go, 0, none⟩) N co] 79)) Rn Cn (.slice av M.length cv) 45
  have hsb : ∀ j u, [Value.slice ad nd cd, .slice (some ⟨gs, 0, none⟩) N cs, .slice (some ⟨go, 0, none⟩) N co][j]? = some u → ((w.alloc (.cells #[.slice ad nd cd, .slice (some ⟨gs, 0, none⟩) N cs, .slice (some ⟨go, 0, none⟩) N co] 79)).alloc (.cells #[.int .i64 (Rn : Int), .int .i64 (Cn : Int), .slice av M.length cv] 45)).cell? ⟨w.heap.size, j, none⟩ = some u := fun j u hu => by
    have := cells_new w [.slice ad nd cd, .slice (some ⟨gs, 0, none⟩) N cs, .slice (some ⟨go, 0, none⟩) N co] 79 j u hu
    rw [Addr.add_lit, Nat.zero_add] at this
    exact (World.cell?_alloc_lt _ _ ⟨w.heap.size, j, none⟩ (by simp)).trans this
  have s1 := hsb 1 _ rfl
  have s2 := hsb 2 _ rfl
  have HA0 : Hid (AddAt base N P (doneP first lo 0 0) (doneP first lo 0 0) T _ gs cs go co _ vs1 vs2) := hat.start hBa (fun b h1 h2 => by omega)
  have HMI : Hid (IntsIn (fun b => ¬ T b) _ (.slice av M.length cv) M) := hm.below hBa
  have HR : Hid (∀ i, i < N → Rising (faceAt P i)) := hR
  have HM : Hid (∀ r c, r < Rn → c < Cn → M[r * Cn + c]? = some (entryI (faceAt P (lo + r)) (faceAt P (first + c)))) := hM
  have HTT : Hid (∀ b, T b → b < w.heap.size) := hT
  have HFI : Hid (∀ W a b, AddAt base N P (doneP first lo Rn 0) (doneP first lo Rn 0) T ((w.alloc (.cells #[.slice ad nd cd, .slice (some ⟨gs, 0, none⟩) N cs, .slice (some ⟨go, 0, none⟩) N co] 79)).alloc (.cells #[.int .i64 (Rn : Int), .int .i64 (Cn : Int), .slice av M.length cv] 45)) gs cs go co W a b → AddAt base N P (doneP first lo Rn 0) (doneP first lo Rn 0) T w gs cs go co W a b) := fun W a b h => ⟨h.t1, h.t2, h.dis, ⟨h.keep.os.trans hBa.os, h.keep.tape.trans hBa.tape, h.keep.output.trans hBa.output, Nat.le_trans hBa.size h.keep.size, fun b hb hT => (h.keep.block b (Nat.lt_of_lt_of_le hb hBa.size) hT).trans (hBa.block b hb)⟩, fun b hb => by
    rcases h.b1 b hb with h2 | h2
    · exact .inl h2
    · exact .inr (by have := hBa.size; omega), fun b hb => by
    rcases h.b2 b hb with h2 | h2
    · exact .inl h2
    · exact .inr (by have := hBa.size; omega)⟩
  have HEQ : Hid ((N = P.length ∧ lo + Rn = first) ∧ first + Cn = N ∧ M.length = Rn * Cn) := ⟨⟨hN, hlo⟩, hC, hML⟩
  have hfN : first ≤ N ∧ Rn ≤ first ∧ lo ≤ first := by omega
  clear hm hR hM hT hat hsb hN hlo hC hML
  go_enter Tryz.func81, Tryz.ntmps81
  go_upto_region 1 with fail
  rw [World.size_alloc] at hmb
  obtain ⟨W0, hW0⟩ : ∃ W0, (w.alloc (.cells #[.slice ad nd cd, .slice (some ⟨gs, 0, none⟩) N cs, .slice (some ⟨go, 0, none⟩) N co] 79)).alloc (.cells #[.int .i64 (Rn : Int), .int .i64 (Cn : Int), .slice av M.length cv] 45) = W0 := ⟨_, rfl⟩
  obtain ⟨B, hB⟩ : ∃ B, w.heap.size = B := ⟨_, rfl⟩
  have hBl : B + 1 < W0.heap.size := by rw [← hW0, ← hB]; simp
  rw [hW0, hB] at hmb s1 s2
  rw [hW0] at HA0 HMI HFI
  rw [hB] at HTT hb
  try rw [hW0]
  try rw [hB]
  obtain ⟨⟨q0, -⟩, ⟨q1, -⟩, ⟨q2, -⟩⟩ := hmb
  clear hW0 hB hBa
  go_wp2_with fail
  go_loopw [13] (fun p W => ∃ (row : Nat) (vs1 vs2 : List Value), row ≤ Rn ∧ p = .int .i64 row ∧ Hid (AddAt base N P (doneP first lo row 0) (doneP first lo row 0) T W0 gs cs go co W vs1 vs2)) (fun p _ => Rn - (intOf p).toNat)
  case atStart => exact ⟨0, vs1, vs2, by omega, rfl, HA0.out⟩
  case round =>
    obtain ⟨row, a1, a2, hrow, rfl, HA1⟩ := hrel
    clear HA0
    have hnT : ¬ T B ∧ ¬ T (B + 1) := ⟨fun h => by have := HTT.out B h; omega, fun h => by have := HTT.out (B + 1) h; omega⟩
    have r0 := (HA1.out.keep.cell (p := ⟨B + 1, 0, none⟩) hBl hnT.2).trans q0
    have r1 := (HA1.out.keep.cell (p := ⟨B + 1, 1, none⟩) hBl hnT.2).trans q1
    by_cases hlt : row < Rn
    · obtain ⟨I, hI⟩ : ∃ I, lo + row = I := ⟨_, rfl⟩
      have eI : (first : Int) - (Rn : Int) + (row : Int) = (I : Int) := by have := HEQ.out; omega
      have HII : Hid ((first : Int) - (Rn : Int) + (row : Int) = (I : Int) ∧ lo + row = I) := ⟨eI, hI⟩
      clear eI hI
      go_wp2_with fail
      rw [HII.out.1]
      go_loopw [24] (fun p W => ∃ (col : Nat) (vs1 vs2 : List Value), col ≤ Cn ∧ p = .int .i64 col ∧ Hid (AddAt base N P (doneP first lo row col) (doneP first lo row col) T W0 gs cs go co W vs1 vs2)) (fun p _ => Cn - (intOf p).toNat)
      case atStart => exact ⟨0, a1, a2, by omega, rfl, HA1.out⟩
      case round =>
        obtain ⟨col, e1, e2, hcol, rfl, HA2⟩ := hrel
        clear HA1 r0 r1
        have m0 := (HA2.out.keep.cell (p := ⟨B + 1, 0, none⟩) hBl hnT.2).trans q0
        have m1 := (HA2.out.keep.cell (p := ⟨B + 1, 1, none⟩) hBl hnT.2).trans q1
        have m2 := (HA2.out.keep.cell (p := ⟨B + 1, 2, none⟩) hBl hnT.2).trans q2
        have n1 := (HA2.out.keep.cell (p := ⟨B, 1, none⟩) (by simp only; omega) hnT.1).trans s1
        have n2 := (HA2.out.keep.cell (p := ⟨B, 2, none⟩) (by simp only; omega) hnT.1).trans s2
        by_cases hct : col < Cn
        · obtain ⟨m', c', em, -, hmx⟩ := HMI.out
          rw [List.length_map] at em
          cases em
          obtain ⟨bm, om, rfl, hbT, hcm⟩ := hmx (by rw [List.length_map, HEQ.out.2.2]; exact Nat.mul_pos (by omega) (by omega))
          have hMe := HM.out row col hlt hct
          obtain ⟨x, hx⟩ : ∃ x, entryI (faceAt P (lo + row)) (faceAt P (first + col)) = x := ⟨_, rfl⟩
          have HXE : Hid (entryI (faceAt P (lo + row)) (faceAt P (first + col)) = x) := hx
          rw [hx] at hMe
          obtain ⟨ix, hix⟩ : ∃ ix : Nat, row * Cn = ix := ⟨_, rfl⟩
          have hixl : ix + col < M.length := by rw [← hix]; exact (List.getElem?_eq_some_iff.1 hMe).1
          have hixb : ix ≤ 400000 := by
            rw [← hix]
            have h1 : row * Cn ≤ 600 * 600 := Nat.mul_le_mul (by omega) (by have := HEQ.out; omega)
            omega
          rw [hix] at hMe
          have p1 : IntKind.i64.wrap ((row : Int) * (Cn : Int)) = (ix : Int) := by rw [← Int.natCast_mul, hix]; exact wrapI (by omega) (by omega)
          have p1' : (row : Int) * (Cn : Int) = (ix : Int) := by rw [← Int.natCast_mul, hix]
          have mc0 := hcm (ix + col) (.int .i64 x) (by rw [List.getElem?_map, hMe]; rfl)
          have mc := (HA2.out.keep.cell (p := ⟨bm, om + (ix + col), none⟩) (cell_lt mc0) hbT).trans mc0
          have hiN : lo + row < N := by have := HEQ.out; omega
          have hkN : first + col < N := by have := HEQ.out; omega
          have hli : (ix : Int) + (col : Int) < (M.length : Int) := by omega
          clear hcm hmx hMe hix mc0 hx
          by_cases hx0 : x = 0
          · have HS : Hid (sidesC P (doneP first lo row col) = sidesC P (doneP first lo row (col + 1)) ∧ oversC P (doneP first lo row col) = oversC P (doneP first lo row (col + 1))) := by
              have hu : ¬ underB (faceAt P (lo + row)) (faceAt P (first + col)) = true := fun h => (entry_under (HR.out _ hiN) (HR.out _ hkN)).2 h (by rw [HXE.out]; exact hx0)
              have key : ∀ i k, i < P.length → k < P.length → underB (faceAt P i) (faceAt P k) = true → doneP first lo row col i k = doneP first lo row (col + 1) i k := fun i k _ _ h => (doneP_col fun e => hu (by rw [e.1, e.2] at h; exact h)).symm
              exact ⟨sidesC_congr key, oversC_congr key⟩
            subst hx0
            go_wp2_with fail
            go_roundw
            case rel => exact ⟨col + 1, e1, e2, by omega, by go_num, HA2.out.same HS.out.1 HS.out.2⟩
            case measure => simp [intOf]; omega
          · have hxb : (x == 0) = false := beq_false_of_ne hx0
            have HU : Hid (underB (faceAt P (lo + row)) (faceAt P (first + col)) = true) := (entry_under (HR.out _ hiN) (HR.out _ hkN)).1 (by rw [HXE.out]; exact hx0)
            obtain ⟨K, hK⟩ : ∃ K, first + col = K := ⟨_, rfl⟩
            have hI := HII.out.2
            have HK : Hid (first + col = K ∧ lo + row = I) := ⟨hK, hI⟩
            have HSS : Hid (sidesC P (doneP first lo row (col + 1)) = (sidesC P (doneP first lo row col)).set K (sidC P (doneP first lo row col) K ++ [.int .i64 (I : Int), .int .i64 x])) := by
              have h := sidesC_step (P := P) (first := first) (lo := lo) (row := row) (col := col) (by rw [← HEQ.out.1.1]; exact hiN) (by rw [← HEQ.out.1.1]; exact hkN) HU.out
              rw [HXE.out, hK, hI] at h
              exact h
            have HOO : Hid (oversC P (doneP first lo row (col + 1)) = (oversC P (doneP first lo row col)).set I (ovC P (doneP first lo row col) I ++ [.int .i64 (K : Int)])) := by
              have h := oversC_step (P := P) (first := first) (lo := lo) (row := row) (col := col) (by rw [← HEQ.out.1.1]; exact hiN) (by rw [← HEQ.out.1.1]; exact hkN) HU.out
              rw [hK, hI] at h
              exact h
            have eK : (first : Int) + (col : Int) = (K : Int) := by omega
            have HKI : Hid ((first : Int) + (col : Int) = (K : Int)) := eK
            have hcb : col < 600 ∧ row < 600 ∧ first < 600 := by omega
            rw [hK] at hkN
            rw [hI] at hiN
            clear hK hI eK
            obtain ⟨u, hu⟩ : ∃ u, e1[K]? = some u := ⟨_, List.getElem?_eq_getElem (by rw [HA2.out.t1.len, sidesC_len, ← HEQ.out.1.1]; exact hkN)⟩
            obtain ⟨nu, hou⟩ := HA2.out.t1.inner _ _ _ hu (sidesC_at (by rw [← HEQ.out.1.1]; exact hkN))
            have hcell := HA2.out.t1.outer.cells (g := gs) rfl (K) u hu
            rw [Addr.add_lit, Nat.zero_add] at hcell
            have hfr := HA2.out.t1.outer
            rw [sidesC_len, ← HEQ.out.1.1] at hfr
            have hfz := hfr.frozenAt (K)
            obtain ⟨au, cu, rfl⟩ := own_slice hou
            have HOU : Hid (wr.ownsRow base 124 2 (.slice au nu cu) nu (sidC P (doneP first lo row col) (K))) := hou
            have HUU : Hid (e1[K]? = some (.slice au nu cu)) := hu
            have hnu : nu ≤ 600 := by
              have h1 := hou.1
              have h2 : (sidC P (doneP first lo row col) (K)).length ≤ 600 * 2 := by
                unfold sidC
                rw [duoCells_len, List.length_map]
                refine Nat.mul_le_mul_right 2 (Nat.le_trans (List.length_filter_le _ _) ?_)
                rw [List.length_range]; have := HEQ.out.1.1; omega
              rw [h1] at h2; omega
            have hbw : base ≤ wr.heap.size := by have := HA2.out.keep.size; have := hb; omega
            have hug : some gs ≠ (Value.slice au nu cu).ownBlock := fun e => HA2.out.t1.out _ _ hu gs e.symm rfl
            have hub : some B ≠ (Value.slice au nu cu).ownBlock := fun e => by
              rcases HA2.out.b1 B (.inr ⟨_, _, hu, e.symm⟩) with h | h
              · exact hnT.1 h
              · omega
            have hBw : B < wr.heap.size := by have := HA2.out.keep.size; omega
            have hgw : gs < wr.heap.size := (HA2.out.t1.lt (.inl rfl)).2
            have n1a : ∀ o, (wr.alloc o).cell? ⟨B, 1, none⟩ = some (.slice (some ⟨gs, 0, none⟩) N cs) := fun o => (World.cell?_alloc_lt wr o ⟨B, 1, none⟩ hBw).trans n1
            have hca : ∀ o, (wr.alloc o).cell? ⟨gs, K, none⟩ = some (.slice au nu cu) := fun o => (World.cell?_alloc_lt wr o ⟨gs, K, none⟩ hgw).trans hcell
            have hn0 : (0 : Int) ≤ (K : Int) := by omega
            have hn1 : (K : Int) < (N : Int) := by omega
            go_upto_region 11 with fail
            rw [HKI.out]
            go_cut [] from 37 to 55 (fun wx => Hid (∃ f1, AddAt base N P (doneP first lo row (col + 1)) (doneP first lo row col) T W0 gs cs go co wx f1 e2))
            case first =>
              go_wp2_with fail
              go_region_law (refine step_append_wide (by rfl) (.tmp 49) (.tmp 53) 122 (by rfl) base 124 i0 (.agg #[.int .i64 0, .int .i64 0]) 2 16 Tryz.underlying122 hi0 hz0 hz1 hz2 (by rfl) (by decide) (.slice au nu cu) nu _ (by simp [Act.eval]) (HOU.out.drew.alloc _) ⟨_, 0, none⟩ 1 1 [.int .i64 (I : Int), .int .i64 x] (by simp [Act.eval]) rfl (cells_new _ _ _) (by simp [Value.oneCell']) (by unfold maxLen; omega) (by omega) (by simp; omega) ?_; intro v6 w6 hown6 hg60 hl6; have hg6 : (wr.alloc (.cells #[.int .i64 (I : Int), .int .i64 x] 124)).grownBy w6 (Value.slice au nu cu).ownBlock := ⟨hg60.os, hg60.tape, hg60.output, hg60.size, hg60.block⟩; have f6 := (far_cell hg6 n1 hub); have g6 := (far_kept hg6 (p := ⟨gs, K, none⟩) ⟨hcell, hfz⟩ hug); have g60 := g6.1; have g61 := g6.2; obtain ⟨a6, c6, rfl⟩ := own_slice hown6; have HST : Hid (AddAt base N P (doneP first lo row (col + 1)) (doneP first lo row col) T W0 gs cs go co (w6.setCell ⟨gs, K, none⟩ (.slice a6 (nu + 1) c6)) (e1.set K (.slice a6 (nu + 1) c6)) e2) := HA2.out.side HEQ.out.1.1 hkN HUU.out hown6 hg6 hl6 HSS.out; clear hown6 hg6 hg60 hl6 g6)
              all_goals go_wp2_with fail
              all_goals go_meet
              all_goals exact ⟨_, HST.out⟩
            obtain ⟨f1, HA3⟩ := hcut.out
            have HA3 := Hid.mk' HA3
            obtain ⟨W3, hW3⟩ : ∃ W, W = wc := ⟨_, rfl⟩
            subst hW3
            clear HA2 hcut hu hou hcell hfr hfz HOU HUU hnu hbw hug hub hBw hgw n1a hca m0 m1 m2 n1 n2 mc hbT HSS
            have n2 := (HA3.out.keep.cell (p := ⟨B, 2, none⟩) (by simp only; omega) hnT.1).trans s2
            obtain ⟨u, hu⟩ : ∃ u, e2[I]? = some u := ⟨_, List.getElem?_eq_getElem (by rw [HA3.out.t2.len, oversC_len, ← HEQ.out.1.1]; exact hiN)⟩
            obtain ⟨nu, hou⟩ := HA3.out.t2.inner _ _ _ hu (oversC_at (by rw [← HEQ.out.1.1]; exact hiN))
            have hcell := HA3.out.t2.outer.cells (g := go) rfl I u hu
            rw [Addr.add_lit, Nat.zero_add] at hcell
            have hfr := HA3.out.t2.outer
            rw [oversC_len, ← HEQ.out.1.1] at hfr
            have hfz := hfr.frozenAt I
            obtain ⟨au, cu, rfl⟩ := own_slice hou
            have HOU : Hid (W3.ownsRow base 3 1 (.slice au nu cu) nu (ovC P (doneP first lo row col) I)) := hou
            have HUU : Hid (e2[I]? = some (.slice au nu cu)) := hu
            have hnu : nu ≤ 600 := by
              have h1 := hou.1
              have h2 : (ovC P (doneP first lo row col) I).length ≤ 600 := by
                unfold ovC
                rw [List.length_map, List.length_map]
                refine Nat.le_trans (List.length_filter_le _ _) ?_
                rw [List.length_range]; have := HEQ.out.1.1; omega
              rw [h1] at h2; omega
            have hbw : base ≤ W3.heap.size := by have := HA3.out.keep.size; have := hb; omega
            have hug : some go ≠ (Value.slice au nu cu).ownBlock := fun e => HA3.out.t2.out _ _ hu go e.symm rfl
            have hub : some B ≠ (Value.slice au nu cu).ownBlock := fun e => by
              rcases HA3.out.b2 B (.inr ⟨_, _, hu, e.symm⟩) with h | h
              · exact hnT.1 h
              · omega
            have hBw : B < W3.heap.size := by have := HA3.out.keep.size; omega
            have hgw : go < W3.heap.size := (HA3.out.t2.lt (.inl rfl)).2
            have n2a : ∀ o, (W3.alloc o).cell? ⟨B, 2, none⟩ = some (.slice (some ⟨go, 0, none⟩) N co) := fun o => (World.cell?_alloc_lt W3 o ⟨B, 2, none⟩ hBw).trans n2
            have hca : ∀ o, (W3.alloc o).cell? ⟨go, I, none⟩ = some (.slice au nu cu) := fun o => (World.cell?_alloc_lt W3 o ⟨go, I, none⟩ hgw).trans hcell
            have hn0 : (0 : Int) ≤ (I : Int) := by omega
            have hn1 : (I : Int) < (N : Int) := by omega
            go_upto_region 12 with fail
            go_wp2_with fail
            go_region_law (refine step_append_slice (by rfl) (.tmp 63) (.tmp 65) 29 (by rfl) base 3 j0 (.int .i64 0) 8 Tryz.underlying29 hj0 hy0 hy1 hy2 (by rfl) (.slice au nu cu) nu _ (by simp [Act.eval]) (HOU.out.alloc _) (.slice (some ⟨W3.heap.size, 0, none⟩) 1 1) [.int .i64 (K : Int)] (by simp [Act.eval]) (slice_one _ _ _) (by simp [Value.oneCell']) (by simp; omega) (by unfold maxLen; simp; omega) (by simp; omega) ?_; intro v6 w6 hown6 hg60 hl6; have hg6 : (W3.alloc (.cells #[.int .i64 (K : Int)] 3)).grownBy w6 (Value.slice au nu cu).ownBlock := ⟨hg60.os, hg60.tape, hg60.output, hg60.size, hg60.block⟩; have f6 := (far_cell hg6 n2 hub); have g6 := (far_kept hg6 (p := ⟨go, I, none⟩) ⟨hcell, hfz⟩ hug); have g60 := g6.1; have g61 := g6.2; have hown7 : w6.ownsRow base 3 1 v6 (nu + 1) _ := hown6; obtain ⟨a6, c6, rfl⟩ := own_slice hown7; have HST : Hid (AddAt base N P (doneP first lo row (col + 1)) (doneP first lo row (col + 1)) T W0 gs cs go co (w6.setCell ⟨go, I, none⟩ (.slice a6 (nu + 1) c6)) f1 (e2.set I (.slice a6 (nu + 1) c6))) := HA3.out.over HEQ.out.1.1 hiN HUU.out hown7 hg6 hl6 HOO.out; clear hown6 hown7 hg6 hg60 hl6 g6)
            all_goals go_wp2_with fail
            all_goals go_roundw
            all_goals first
              | (go_light; exact ⟨col + 1, f1, _, hct, by go_num, HST.out⟩)
              | (go_light; simp [intOf]; omega)
        · obtain rfl : col = Cn := by omega
          have HS : Hid (sidesC P (doneP first lo row col) = sidesC P (doneP first lo (row + 1) 0) ∧ oversC P (doneP first lo row col) = oversC P (doneP first lo (row + 1) 0)) := by
            have key : ∀ i k, i < P.length → k < P.length → underB (faceAt P i) (faceAt P k) = true → doneP first lo row col i k = doneP first lo (row + 1) 0 i k := fun i k _ hk _ => doneP_row first lo row col i k (by have := HEQ.out; omega)
            exact ⟨sidesC_congr key, oversC_congr key⟩
          go_wp2_with fail
          go_roundw
          case rel => exact ⟨row + 1, e1, e2, by omega, by go_num, HA2.out.same HS.out.1 HS.out.2⟩
          case measure => simp [intOf]; omega
    · obtain rfl : row = Rn := by omega
      go_wp2_with fail
      refine bodyPost_end (v := .tuple #[]) ?_ rfl ⟨rfl, a1, a2, HFI.out _ _ _ HA1.out⟩
      simp [results, Tryz.f81, go_sem]

end Go.Proofs.YtnnkmkhamipfiaaGreatDoor
