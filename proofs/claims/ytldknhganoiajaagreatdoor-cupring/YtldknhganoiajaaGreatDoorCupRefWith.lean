/- The reference's Span, behind a pointer: one row more. -/
import Derived.Test.YtldknhganoiajaaGreatDoorCupRefSpan
import Derived.Test.YtldknhganoiajaaGreatDoorCupCocOf
namespace Go.Proofs.YtldknhganoiajaaGreatDoor
open Go.RowKit Go.Sort

/-- A span behind a pointer: its rows in blocks from base on. -/
structure SpanIn (base P : Nat) (W : World) (v : Value) (rows : List Nat) : Prop where
  cell : W.cell? ⟨P, 0, none⟩ = some v
  free : W.frozen? ⟨P, 0, none⟩ = false
  rows : OwnRows base W v (rows.map bitsI)
  low : P < base
  size : base ≤ W.heap.size
theorem SpanIn.below {base P : Nat} {W W' : World} {v : Value} {rows : List Nat} (h : SpanIn base P W v rows) (hB : Below W.heap.size W W') : SpanIn base P W' v rows :=
  ⟨(hB.cell (p := ⟨P, 0, none⟩) (cell_lt h.cell)).trans h.cell, (hB.frozen (p := ⟨P, 0, none⟩) (cell_lt h.cell)).trans h.free, h.rows.below hB, h.low, Nat.le_trans h.size hB.size⟩
theorem SpanIn.form {base P : Nat} {W : World} {v : Value} {rows : List Nat} (h : SpanIn base P W v rows) : ∃ a c, v = .slice a rows.length c := by
  obtain ⟨vs, h1, -⟩ := h.rows
  obtain ⟨a, c, e⟩ := own_form h1
  rw [List.length_map] at e
  exact ⟨a, c, e⟩

theorem box_set {W : World} {p : Addr} {u : Value} (h1 : W.cell? p = some u) (h2 : W.frozen? p = false) (v : Value) : (W.setCell p v).cell? p = some v ∧ (W.setCell p v).frozen? p = false := ⟨World.cell?_setCell_same' _ _ _ (by rw [h1]; rfl), by rw [World.frozen?_setCell]; exact h2⟩

/-- A row of rows, one of which is replaced by a new one. -/
theorem OwnRows.put {base g n cap k : Nat} {W W' : World} {u : Value} {xss : List (List Int)} {x : List Int} (h : OwnRows base W (.slice (some ⟨g, 0, none⟩) n cap) xss) (hn : xss.length = n) (hb : base ≤ W.heap.size) (hB : Below W.heap.size W W') (hu : IntsIn (fun b => W.heap.size ≤ b) W' u x) (hk : k < n) :
    OwnRows base (W'.setCell ⟨g, k, none⟩ u) (.slice (some ⟨g, 0, none⟩) n cap) (xss.set k x) ∧ W'.grownBy (W'.setCell ⟨g, k, none⟩ u) (some g) := by
  obtain ⟨vs, h1, h2⟩ := h
  subst hn
  have hg := (h1.lt g rfl).2
  have ho : W'.ownsRow base 39 1 (.slice (some ⟨g, 0, none⟩) xss.length cap) xss.length vs := h1.kept (Below.grownBy hB) (.inr (by simp [Value.ownBlock]))
  obtain ⟨s1, s2⟩ := ho.stored k u
  refine ⟨⟨vs.set k u, by rw [List.length_set]; exact s1, fun j y z hy hz => ?_⟩, s2⟩
  rw [List.getElem?_set] at hy hz
  have hvl : vs.length = xss.length := by have := h1.1; simpa using this
  by_cases e : k = j
  · rw [if_pos e, if_pos (by omega)] at hy hz
    cases hy; cases hz
    refine SliceIn.mono (S := fun b => W.heap.size ≤ b) (SliceIn.keep hu (fun b hbl hs => s2.block b hbl (fun e => by cases e; omega))) (fun b _ hs => ⟨by omega, fun e => by simp [Value.ownBlock] at e; omega⟩)
  · rw [if_neg e] at hy hz
    have hi := (h2 j y z hy hz).below hB
    exact SliceIn.keep hi (fun b hbl hs => s2.block b hbl (fun e => hs.2 (by rw [e]; rfl)))

/-- Is it not 0? -/
def nz (x : Nat) : Bool := !(x == 0)
theorem nz_false {x : Nat} (h : x = 0) : nz x = false := by subst h; rfl
theorem nz_true {x : Nat} (h : x ≠ 0) : nz x = true := by simp [nz, h]
/-- A later world in which all but a pointer's block and a row's own are as before. -/
structure KpS (P : Nat) (v : Value) (w w' : World) : Prop where
  os : w'.os = w.os
  tape : w'.tape = w.tape
  output : w'.output = w.output
  size : w.heap.size ≤ w'.heap.size
  block : ∀ b, b < w.heap.size → b ≠ P → v.ownBlock ≠ some b → w'.heap[b]? = w.heap[b]?
theorem KpS.of_below {P : Nat} {v : Value} {w w' : World} (h : Below w.heap.size w w') : KpS P v w w' := ⟨h.os, h.tape, h.output, h.size, fun b hb _ _ => h.block b hb⟩
theorem KpS.later {P : Nat} {v : Value} {w W W' : World} (h : KpS P v w W) (hB : Below W.heap.size W W') : KpS P v w W' :=
  ⟨hB.os.trans h.os, hB.tape.trans h.tape, hB.output.trans h.output, Nat.le_trans h.size hB.size, fun b hb h1 h2 => (hB.block b (Nat.lt_of_lt_of_le hb h.size)).trans (h.block b hb h1 h2)⟩
theorem KpS.grown {P : Nat} {v : Value} {w W W' : World} {row : Option Nat} (h : KpS P v w W) (hg : W.grownBy W' row) (hr : ∀ j, row = some j → j = P ∨ v.ownBlock = some j ∨ w.heap.size ≤ j) : KpS P v w W' :=
  ⟨hg.os.trans h.os, hg.tape.trans h.tape, hg.output.trans h.output, Nat.le_trans h.size hg.size, fun b hb h1 h2 => (hg.block b (Nat.lt_of_lt_of_le hb h.size) (fun e => by
    rcases hr b e.symm with h3 | h3 | h3
    · exact h1 h3
    · exact h2 h3
    · omega)).trans (h.block b hb h1 h2)⟩
def updS (g r : Nat) : Nat := if r.testBit (low g) = true then r ^^^ g else r
def mixS (g : Nat) (rows : List Nat) (k : Nat) : List Nat := (rows.take k).map (updS g) ++ rows.drop k
theorem mixS_zero (g : Nat) (rows : List Nat) : mixS g rows 0 = rows := by simp [mixS]
theorem mixS_len (g : Nat) (rows : List Nat) (k : Nat) : (mixS g rows k).length = rows.length := by simp [mixS]; omega
theorem mixS_full (g : Nat) (rows : List Nat) : mixS g rows rows.length = rows.map (updS g) := by simp [mixS]
theorem mixS_at (g : Nat) {rows : List Nat} {k : Nat} (hk : k < rows.length) : (mixS g rows k)[k]?.getD 0 = rows[k]?.getD 0 := by
  unfold mixS
  have hl : ((rows.take k).map (updS g)).length = k := by simp; omega
  rw [List.getElem?_append_right (by omega), hl, Nat.sub_self, List.getElem?_drop, Nat.add_zero]
theorem mixS_step (g : Nat) {rows : List Nat} {k : Nat} (hk : k < rows.length) : mixS g rows (k + 1) = (mixS g rows k).set k (updS g (rows[k]?.getD 0)) := by
  unfold mixS
  have hl : ((rows.take k).map (updS g)).length = k := by simp; omega
  rw [List.take_add_one, List.getElem?_eq_getElem hk, List.map_append, List.set_append_right _ _ (by omega), hl, Nat.sub_self, List.append_assoc]
  congr 1
  rw [List.drop_eq_getElem_cons hk]
  rfl
theorem mixS_same (g : Nat) {rows : List Nat} {k : Nat} (hk : k < rows.length) (h : (rows[k]?.getD 0).testBit (low g) = false) : mixS g rows (k + 1) = mixS g rows k := by
  rw [mixS_step g hk]
  unfold updS
  rw [h, if_neg (by simp), ← mixS_at g hk]
  have hl : k < (mixS g rows k).length := by rw [mixS_len]; exact hk
  refine List.ext_getElem? (fun j => ?_)
  rw [List.getElem?_set]
  by_cases e : k = j
  · subst e; rw [if_pos rfl, if_pos hl, List.getElem?_eq_getElem hl]; rfl
  · rw [if_neg e]
theorem map_set {rows : List Nat} {k r : Nat} : (rows.set k r).map bitsI = (rows.map bitsI).set k (bitsI r) := List.map_set

set_option maxRecDepth 100000 in
set_option maxHeartbeats 4000000 in
theorem withK_ (base P : Nat) (v vf : Value) (rows : List Nat) (x : Nat) (w : World) (hS : SpanIn base P w v rows) (hrl : rows.length ≤ 1000) (hok : SpOk rows) (hx : x < 2 ^ 64) (hf : IntsIn (fun b => base ≤ b ∧ some b ≠ v.ownBlock) w vf (bitsI x)) :
    Calls Tryz.prog 26 #[.pointer (some ⟨P, 0, none⟩), vf] w fun e w' => e = .returned (.bool (nz (restS rows x))) ∧ ∃ v', SpanIn base P w' v' (withS rows x) ∧ KpS P v w w' ∧ ∀ b, v'.ownBlock = some b → v.ownBlock = some b ∨ w.heap.size ≤ b := by
  obtain ⟨i0, hi, hz0, hz1, hz2⟩ := info_parts Tryz.info39
  obtain ⟨av, cv, rfl⟩ := hS.form
  have hre := rest_ (.slice av rows.length cv) vf rows x w hS.rows.rows hrl (fun r hr => hok.is r hr) hx hf (fun b hb => ⟨by have := hS.size; omega, fun e => by
    obtain ⟨vs, h1, -⟩ := hS.rows
    have := (h1.lt b e.symm).2; omega⟩)
  have HGL : Hid (restS rows x < 2 ^ 64) := restS_lt (fun r hr => (hok.is r hr).1) hx
  have HWS : Hid (withS rows x = if restS rows x = 0 then rows else rows.map (updS (restS rows x)) ++ [restS rows x]) := rfl
  have HOK : Hid (∀ r ∈ rows, r < 2 ^ 64) := fun r hr => (hok.is r hr).1
  have HSP := Hid.mk' hS
  have p0 := hS.cell
  obtain ⟨af, mf, cf, rfl⟩ : ∃ a m c, vf = .slice a m c := by obtain ⟨a, c, e, -⟩ := hf.open_; exact ⟨a, _, c, e⟩
  obtain ⟨n, hn⟩ : ∃ n, rows.length = n := ⟨_, rfl⟩
  have HN := Hid.mk' hn
  obtain ⟨g, hgg⟩ : ∃ g, restS rows x = g := ⟨_, rfl⟩
  rw [hgg] at hre HGL HWS ⊢
  rw [hn] at hre hrl p0 HSP ⊢
  clear hS hok hx hf hn hgg
  go_enter Tryz.func26, Tryz.ntmps26
  go_wp2_with fail
  refine hre.mono ?_
  clear hre
  rintro e W1 ⟨u1, rfl, hu1, hB1⟩
  have HS1 := Hid.mk' (HSP.out.below hB1)
  have HW1 : Hid (IntsIn (fun b => base ≤ b ∧ some b ≠ (Value.slice av n cv).ownBlock) W1 u1 (bitsI g) ∧ KpS P (.slice av n cv) w W1) := ⟨hu1, KpS.of_below hB1⟩
  obtain ⟨a1, c1, rfl, -, hx1⟩ := hu1.open_
  have HX1 := Hid.mk' hx1
  clear hu1 hB1 hx1 p0
  rcases Nat.eq_zero_or_pos (bitsI g).length with h0 | h0
  · have HE : Hid (withS rows x = rows) := by
      show withS rows x = rows
      rw [HWS.out, if_pos ((bitsI_len0 HGL.out).1 h0)]
    have HNZ := Hid.mk' (nz_false ((bitsI_len0 HGL.out).1 h0))
    rw [h0]
    clear h0
    go_wp2_with fail
    go_ret
    exact ⟨by rw [HNZ.out]; rfl, _, by rw [HE.out]; exact HS1.out, HW1.out.2, fun b hb => .inl hb⟩
  · have hg0 : g ≠ 0 := fun e => by have := (bitsI_len0 HGL.out).2 e; omega
    have HNZ := Hid.mk' (nz_true hg0)
    obtain ⟨bf, of', rfl, hSf, hbf, hcf⟩ := HX1.out h0
    have f0 : W1.cell? ⟨bf, of', none⟩ = some (.int .i64 (low g : Int)) := by
      have := hcf 0 h0
      rw [bitsI_head HGL.out hg0] at this
      exact this
    have HE : Hid (withS rows x = rows.map (updS g) ++ [g]) := by
      show withS rows x = rows.map (updS g) ++ [g]
      rw [HWS.out, if_neg hg0]
    obtain ⟨lg, hlg⟩ : ∃ lg, (bitsI g).length = lg := ⟨_, rfl⟩
    have HLG := Hid.mk' hlg
    have hlgb : lg ≤ 64 := by rw [← hlg]; exact bitsI_len g
    rw [hlg] at HW1 h0 ⊢
    have hne : ((lg : Int) == 0) = false := by simp; omega
    obtain ⟨z, hz⟩ : ∃ z, low g = z := ⟨_, rfl⟩
    have HZ := Hid.mk' hz
    rw [hz] at f0
    have HF0 := Hid.mk' (And.intro f0 hbf)
    clear hcf f0 hz hlg HWS hg0 hSf hbf HX1
    go_wp2_with fail
    go_loopw [5] (fun p W => ∃ (k : Nat), k ≤ n ∧ p = .int .i64 (k : Int) ∧ Hid (SpanIn base P W (.slice av n cv) (mixS g rows k) ∧ IntsIn (fun b => base ≤ b ∧ some b ≠ (Value.slice av n cv).ownBlock) W (.slice (some ⟨bf, of', none⟩) lg c1) (bitsI g) ∧ KpS P (.slice av n cv) w W)) (fun p _ => n - (intOf p).toNat)
    case atStart => exact ⟨0, by omega, rfl, by rw [mixS_zero]; exact HS1.out, HW1.out.1, HW1.out.2⟩
    case round =>
      obtain ⟨k, hk, rfl, HR⟩ := hrel
      have p1 := HR.out.1.cell
      by_cases hlt : k < n
      · have hkr : k < rows.length := by rw [HN.out]; exact hlt
        have hml : (mixS g rows k).length = n := by rw [mixS_len, HN.out]
        obtain ⟨G, cG, hG, hGb, hGl⟩ : ∃ G cG, Value.slice av n cv = .slice (some ⟨G, 0, none⟩) n cG ∧ base ≤ G ∧ G < wr.heap.size := by
          obtain ⟨vs, h1, -⟩ := HR.out.1.rows
          rw [List.length_map, hml] at h1
          exact h1.form (by omega)
        cases hG
        obtain ⟨a', c', g1, i1⟩ : ∃ a' c', wr.cell? ⟨G, k, none⟩ = some (.slice a' (bitsI (rows[k]?.getD 0)).length c') ∧ Ints wr (.slice a' (bitsI (rows[k]?.getD 0)).length c') (bitsI (rows[k]?.getD 0)) := by
          obtain ⟨a2, c2, e2, -, h2⟩ := HR.out.1.rows.rows.open_
          rw [List.length_map, hml] at e2 h2
          cases e2
          obtain ⟨b, o, e3, -, -, h3⟩ := h2 (by omega)
          cases e3
          have := h3 k hlt
          rw [bits_at (by rw [hml]; exact hlt), mixS_at g hkr, Nat.zero_add] at this
          exact this
        have fz : wr.frozen? ⟨G, k, none⟩ = false := by
          obtain ⟨vs, h1, -⟩ := HR.out.1.rows
          rw [List.length_map, hml] at h1
          exact h1.frozenAt k
        obtain ⟨r, hr⟩ : ∃ r, rows[k]?.getD 0 = r := ⟨_, rfl⟩
        have hrm : r ∈ rows := by rw [← hr, List.getElem?_eq_getElem hkr]; exact List.getElem_mem hkr
        have r1 := HOK.out r hrm
        have HSTEP : Hid ((mixS g rows (k + 1)) = (mixS g rows k).set k (updS g r)) := by
          show mixS g rows (k + 1) = (mixS g rows k).set k (updS g r)
          rw [mixS_step g hkr, hr]
        have HSAME : Hid (r.testBit z = false → mixS g rows (k + 1) = mixS g rows k) := fun h => mixS_same g hkr (by rw [hr, HZ.out]; exact h)
        have HUP : Hid (updS g r = if r.testBit z = true then r ^^^ g else r) := by
          show updS g r = if r.testBit z = true then r ^^^ g else r
          unfold updS; rw [HZ.out]
        rw [hr] at g1 i1
        have HML := Hid.mk' hml
        have f1 : wr.cell? ⟨bf, of', none⟩ = some (.int .i64 (z : Int)) := by
          obtain ⟨a2, c2, e2, -, h2⟩ := HR.out.2.1.open_
          have e4 := e2
          cases e2
          obtain ⟨b, o, e3, -, -, h3⟩ := h2 (by rw [HLG.out]; omega)
          cases e3
          have := h3 0 (by rw [HLG.out]; omega)
          rw [bitsI_head HGL.out (fun e => by have := (bitsI_len0 HGL.out).2 e; rw [HLG.out] at this; omega), HZ.out] at this
          exact this
        have hct : ∀ q, Calls Tryz.prog 46 #[.slice a' (bitsI r).length c', .int .i64 (z : Int)] (wr.drewN q) fun e w' => e = .returned (.bool (r.testBit z)) ∧ ∃ s, w' = (wr.drewN q).drewN s := fun q => by
          have := contains_ (.slice a' (bitsI r).length c') (bitsI r) (z : Int) (wr.drewN q) (i1.below (drew_below _ _)) (by have := bitsI_len r; omega)
          rw [bitsI_has r1] at this
          exact this
        have HSU : Hid (∀ W, Below wr.heap.size wr W → Calls Tryz.prog 47 #[.slice a' (bitsI r).length c', .slice (some ⟨bf, of', none⟩) lg c1] W fun e w' => ∃ v, e = .returned v ∧ IntsIn (fun b => W.heap.size ≤ b) w' v (bitsI (r ^^^ g)) ∧ Below W.heap.size W w') := fun W hW => sumOf_ _ _ r g r1 HGL.out W (i1.below hW) (HR.out.2.1.any.below hW)
        obtain ⟨lr, hlr⟩ : ∃ lr, (bitsI r).length = lr := ⟨_, rfl⟩
        rw [hlr] at g1 hct HSU
        obtain ⟨t, ht⟩ : ∃ t, r.testBit z = t := ⟨_, rfl⟩
        rw [ht] at hct HSAME HUP
        clear hkr hml i1 hr hrm r1 hlr ht
        cases t with
        | false =>
          have HSM : Hid (mixS g rows (k + 1) = mixS g rows k) := HSAME.out rfl
          clear HSAME
          go_wp2_with fail
          go_quiet ((go_at_call 46; exact Calls.quiet_of (hct _)))
          have HE2 : Hid (SpanIn base P (wr.drewN nq) (.slice (some ⟨G, 0, none⟩) n cv) (mixS g rows (k + 1)) ∧ IntsIn (fun b => base ≤ b ∧ some b ≠ (Value.slice (some ⟨G, 0, none⟩) n cv).ownBlock) (wr.drewN nq) (.slice (some ⟨bf, of', none⟩) lg c1) (bitsI g) ∧ KpS P (.slice (some ⟨G, 0, none⟩) n cv) w (wr.drewN nq)) := ⟨by rw [HSM.out]; exact HR.out.1.below (drew_below _ _), HR.out.2.1.below (drew_below _ _), HR.out.2.2.later (drew_below _ _)⟩
          clear HR HSU HSTEP
          go_wp2_with fail
          go_roundw
          case rel => exact ⟨k + 1, by omega, by go_num, HE2.out⟩
          case measure => simp [intOf]; omega
        | true =>
          have HRW : Hid ((mixS g rows (k + 1)).map bitsI = ((mixS g rows k).map bitsI).set k (bitsI (r ^^^ g))) := by
            show (mixS g rows (k + 1)).map bitsI = ((mixS g rows k).map bitsI).set k (bitsI (r ^^^ g))
            rw [HSTEP.out, HUP.out, if_pos rfl, map_set]
          clear HSAME HSTEP HUP
          go_wp2_with fail
          go_quiet ((go_at_call 46; exact Calls.quiet_of (hct _)))
          have HV0 := Hid.mk' (drew_below (m := wr.heap.size) wr nq)
          have y1 : (wr.drewN nq).cell? ⟨P, 0, none⟩ = some (.slice (some ⟨G, 0, none⟩) n cv) := p1
          have y2 : (wr.drewN nq).cell? ⟨G, k, none⟩ = some (.slice a' lr c') := g1
          have y3 : (wr.drewN nq).frozen? ⟨G, k, none⟩ = false := fz
          have HPL : Hid (P < wr.heap.size ∧ G < wr.heap.size) := ⟨cell_lt (p := ⟨P, 0, none⟩) p1, hGl⟩
          obtain ⟨V, hV⟩ : ∃ V, wr.drewN nq = V := ⟨_, rfl⟩
          rw [hV] at y1 y2 y3 HV0 ⊢
          have hzV : Hid (wr.heap.size = V.heap.size) := by rw [← hV]; rfl
          have z1 : (0 : Int) ≤ (k : Int) := by omega
          have z2 : (k : Int) < (n : Int) := by omega
          clear hV p1 g1 fz f1 hct
          go_wp2_with fail
          go_region_with (go_at_call 47; refine (HSU.out _ (by first | exact HV0.out | exact HV0.out.drew)).mono ?_; rintro e V2 ⟨u2, rfl, hu2, hV2⟩; have HV2 : Hid (IntsIn (fun b => wr.heap.size ≤ b) V2 u2 (bitsI (r ^^^ g)) ∧ Below wr.heap.size wr V2) := ⟨SliceIn.mono hu2 (fun b _ h => by have h' : V.heap.size ≤ b := h; have := hzV.out; omega), by first | exact HV0.out.trans (hV2.mono HV0.out.size) | exact HV0.out.drew.trans (hV2.mono HV0.out.size)⟩; have y4 := (hV2.cell (p := ⟨P, 0, none⟩) (by have := HPL.out; have := hzV.out; show P < V.heap.size; omega)).trans y1; have y5 := (hV2.cell (p := ⟨G, k, none⟩) (by have := HPL.out; have := hzV.out; show G < V.heap.size; omega)).trans y2; have y6 := (hV2.frozen (p := ⟨G, k, none⟩) (by have := HPL.out; have := hzV.out; show G < V.heap.size; omega)).trans y3; obtain ⟨a9, c9, rfl, -, -⟩ := hu2.open_; clear hu2 hV2)
          all_goals (
            have HE3 : Hid (SpanIn base P (V2.setCell ⟨G, k, none⟩ (.slice a9 (bitsI (r ^^^ g)).length c9)) (.slice (some ⟨G, 0, none⟩) n cv) (mixS g rows (k + 1)) ∧ IntsIn (fun b => base ≤ b ∧ some b ≠ (Value.slice (some ⟨G, 0, none⟩) n cv).ownBlock) (V2.setCell ⟨G, k, none⟩ (.slice a9 (bitsI (r ^^^ g)).length c9)) (.slice (some ⟨bf, of', none⟩) lg c1) (bitsI g) ∧ KpS P (.slice (some ⟨G, 0, none⟩) n cv) w (V2.setCell ⟨G, k, none⟩ (.slice a9 (bitsI (r ^^^ g)).length c9))) := by
              obtain ⟨pu1, pu2⟩ := OwnRows.put HR.out.1.rows (by rw [List.length_map]; exact HML.out) HR.out.1.size HV2.out.2 HV2.out.1 hlt
              have hP2 : P < V2.heap.size := by have := HPL.out.1; have := HV2.out.2.size; omega
              have hPG : some P ≠ some G := fun e => by cases e; have := HR.out.1.low; omega
              have hs1 := HR.out.1.below HV2.out.2
              refine ⟨⟨?_, ?_, by rw [HRW.out]; exact pu1, HR.out.1.low, ?_⟩, ?_, ?_⟩
              · rw [World.cell?_of_block (pu2.block P hP2 hPG)]; exact hs1.cell
              · rw [World.frozen?_of_block (pu2.block P hP2 hPG)]; exact hs1.free
              · have := pu2.size; have := hs1.size; omega
              · exact SliceIn.keep (HR.out.2.1.below HV2.out.2) (fun b hb hs => pu2.block b hb (fun e => hs.2 (by rw [e]; rfl)))
              · exact (HR.out.2.2.later HV2.out.2).grown pu2 (fun j hj => .inr (.inl (by cases hj; rfl)))
            clear y1 y2 y3 y4 y5 y6 HV2 HV0 HSU HR
            go_wp2_with fail
            go_roundw
            case rel => exact ⟨k + 1, by omega, by go_num, HE3.out⟩
            case measure => simp [intOf]; omega)
      · have hkm : k = n := by omega
        subst hkm
        have hml : (mixS g rows k).length = k := by rw [mixS_len, HN.out]
        have hmf : mixS g rows k = rows.map (updS g) := by rw [← HN.out]; exact mixS_full g rows
        obtain ⟨vs, o1, o2⟩ := HR.out.1.rows
        rw [List.length_map, hml] at o1
        have HO := Hid.mk' (And.intro o1 o2)
        have HFR : Hid (wr.cell? ⟨P, 0, none⟩ = some (.slice av k cv) ∧ wr.frozen? ⟨P, 0, none⟩ = false ∧ P < base ∧ base ≤ wr.heap.size) := ⟨p1, HR.out.1.free, HR.out.1.low, HR.out.1.size⟩
        have HMF := Hid.mk' (And.intro hmf hml)
        have HPO : Hid (∀ b, (Value.slice av k cv).ownBlock = some b → base ≤ b) := fun b hb => (o1.lt b hb).1
        have HMID : Hid (∀ w6 o, (wr.alloc o).grownBy w6 (Value.slice av k cv).ownBlock → w6.cell? ⟨P, 0, none⟩ = some (.slice av k cv) ∧ w6.frozen? ⟨P, 0, none⟩ = false) := fun w6 o hg => far_kept hg ⟨HFR.out.1, HFR.out.2.1⟩ (fun e => by have := HPO.out P e.symm; have := HFR.out.2.2.1; omega)
        clear o1 o2 hmf hml
        go_upto_region 11 with (first
          | (at_builtin; refine wpList_append_slice rfl (.tmp 55) (.tmp 57) 22 rfl base 39 i0 (.slice none 0 0) 24 Tryz.underlying22 hi hz0 hz1 hz2 rfl _ _ _ rfl (HO.out.1.alloc _) _ [.slice (some ⟨bf, of', none⟩) lg c1] rfl (slice_one _ _ _) (by simp [Value.oneCell']) (by simp; omega) (by unfold maxLen; simp; omega) (by have := HFR.out.2.2.2; simp; omega) ?_; intro v6 w6 hown6 hg6 hl6; obtain ⟨m1, m2⟩ := HMID.out _ _ hg6; replace hown6 : w6.ownsRow base 39 1 v6 (k + 1) (vs ++ [.slice (some ⟨bf, of', none⟩) lg c1]) := hown6; obtain ⟨a6, c6, rfl⟩ := own_form hown6)
          | fail)
        have HEE : Hid (SpanIn base P (w6.setCell ⟨P, 0, none⟩ (.slice a6 (k + 1) c6)) (.slice a6 (k + 1) c6) (withS rows x) ∧ KpS P (.slice av k cv) w (w6.setCell ⟨P, 0, none⟩ (.slice a6 (k + 1) c6)) ∧ ∀ b, (Value.slice a6 (k + 1) c6).ownBlock = some b → (Value.slice av k cv).ownBlock = some b ∨ w.heap.size ≤ b) := by
          have hps := OwnRows.push (by rw [List.length_map, HMF.out.2]; exact HO.out.1) HO.out.2 HR.out.2.1 (by rw [List.length_map, HMF.out.2]; exact hown6) hg6 hl6
          have hb6 : KpS P (.slice av k cv) w w6 := (HR.out.2.2.later ((Below.refl _ wr).alloc (Nat.le_refl _) _)).grown hg6 (fun j hj => .inr (.inl hj))
          have hwz := HR.out.2.2.size
          have hsz : base ≤ w6.heap.size := by have := hg6.size; have := HFR.out.2.2.2; simp at *; omega
          have hcs := box_set m1 m2 (.slice a6 (k + 1) c6)
          refine ⟨⟨hcs.1, hcs.2, ?_, HFR.out.2.2.1, by simpa using hsz⟩, hb6.grown (grown_word _ _ _) (fun j hj => by cases hj; exact .inl rfl), fun b hb => ?_⟩
          · have h1 := hps.setCell (p := ⟨P, 0, none⟩) HFR.out.2.2.1 (.slice a6 (k + 1) c6)
            rw [HE.out, List.map_append, ← HMF.out.1]
            exact h1
          · rcases hl6 with h | h
            · exact .inl (h.symm.trans hb)
            · rw [h] at hb
              simp at hb
              exact .inr (by omega)
        clear hown6 hg6 hl6 HR m1 m2 HMID
        go_wp2_with fail
        go_ret
        exact ⟨by rw [HNZ.out]; rfl, _, HEE.out.1, HEE.out.2.1, HEE.out.2.2⟩
theorem SpanIn.own_low {base P : Nat} {W : World} {v : Value} {rows : List Nat} (h : SpanIn base P W v rows) {b : Nat} (hb : v.ownBlock = some b) : base ≤ b ∧ b < W.heap.size := by
  obtain ⟨vs, h1, -⟩ := h.rows
  exact h1.lt b hb
theorem with_ (base P : Nat) (v vf : Value) (rows : List Nat) (x : Nat) (w : World) (hS : SpanIn base P w v rows) (hrl : rows.length ≤ 1000) (hok : SpOk rows) (hx : x < 2 ^ 64) (hf : IntsIn (fun b => base ≤ b ∧ some b ≠ v.ownBlock) w vf (bitsI x)) :
    Calls Tryz.prog 26 #[.pointer (some ⟨P, 0, none⟩), vf] w fun e w' => (∃ q, e = .returned (.bool q)) ∧ ∃ v', SpanIn base P w' v' (withS rows x) ∧ Below P w w' :=
  (withK_ base P v vf rows x w hS hrl hok hx hf).mono fun e w' h => by
    obtain ⟨h1, v', h2, h3, -⟩ := h
    refine ⟨⟨_, h1⟩, v', h2, h3.os, h3.tape, h3.output, h3.size, fun b hb => h3.block b (by have := hS.size; have := hS.low; omega) (by omega) (fun e => by have := (hS.own_low e).1; have := hS.low; omega)⟩

end Go.Proofs.YtldknhganoiajaaGreatDoor
