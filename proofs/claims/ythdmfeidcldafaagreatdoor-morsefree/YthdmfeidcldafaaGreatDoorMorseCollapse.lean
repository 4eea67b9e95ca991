/- What Collapse answers. -/
import Derived.Test.YthdmfeidcldafaaGreatDoorMorseCx2
import Derived.Test.YthdmfeidcldafaaGreatDoorMorsePair
import Derived.Test.YthdmfeidcldafaaGreatDoorFault0
namespace Go.Proofs.YthdmfeidcldafaaGreatDoor
open Go.RowKit Go.Sort

/-- What Collapse answers. -/
def CollapseSays (a : Nat → Addr) (l : List (List Int)) (ps : List Duo) (w : World) (e : Ending) (w' : World) : Prop :=
  Below w.heap.size w w' ∧ ((∃ i, BadAt l i ∧ e = .returned (.tuple #[.agg #[.slice none 0 0], .iface 176 (.pointer (some (a i)))])) ∨
    ∃ all, Good l all ∧ ((Goes (numL all) allL ps ∧ MakeSays a (leftTo (numL all) (leftBy allL ps) (numL all).length) w e w') ∨
      ∃ k, ∃ h : k < ps.length, Goes (numL all) allL (ps.take k) ∧ ¬ FreeP (numL all) (leftBy allL (ps.take k)) ps[k] ∧ ∃ ve, FaultAt a w' ve 3 (k : Int) ∧ e = .returned (.tuple #[.agg #[.slice none 0 0], ve])))

theorem good_faces {l all : List (List Int)} (g : Good l all) : FaceList (numL all) := faceList_of (fun t ht => by obtain ⟨y, hy, rfl⟩ := List.mem_map.1 ht; exact srt_rising (g.ok y hy).2.1) (order_nodup g.isAll.order) g.isAll

theorem goes_cplx {L : List (List Int)} (hL : FaceList L) : ∀ {ps : List Duo} {left : Nat → Bool}, Cplx L left → Goes L left ps → Cplx L (leftBy left ps)
  | [], _, h, _ => h
  | p :: ps, left, h, hg => by
    obtain ⟨⟨a, k, rfl, ha, _, hk⟩, hgo⟩ := hg
    exact goes_cplx hL (left := lessP left ((a : Int), (k : Int))) (cplx_less hL h ha ((free_iff hL h ha).1 hk)) hgo

/-- The face over a free face: both are left, and they are two. -/
theorem free_left {L : List (List Int)} {left : Nat → Bool} (hc : Cplx L left) {i q : Nat} (hi : i < L.length) (h : ovL L left i = [q]) : q < L.length ∧ left i = true ∧ left q = true ∧ i ≠ q := by
  obtain ⟨h1, ⟨h2, h3⟩, h4⟩ := ov_mem.1 ((ov_one.1 h q).2 rfl)
  exact ⟨h1, hc i q hi h1 h4 (partB_iff.2 h3), h4, fun e => by rw [e] at h2; omega⟩

set_option maxRecDepth 100000 in
set_option maxHeartbeats 8000000 in
theorem collapse_ {a : Nat → Addr} {s : Nat → ByteArray} (vl vp : Value) (l : List (List Int)) (ps : List Duo) (w : World) (hE : Errs a s w) (hl : Rows w vl l) (hll : l.length ≤ 100000) (hle : ∀ x ∈ l, x.length ≤ 1000) (hp : DuoIn anyBlock w vp ps) (hps : ps.length ≤ 1000) :
    Calls Tryz.prog 9 #[.agg #[vl], vp] w fun e w' => CollapseSays a l ps w e w' := by
  have HLL : Hid (Errs a s w ∧ Rows w vl l ∧ l.length ≤ 100000 ∧ ∀ x ∈ l, x.length ≤ 1000) := ⟨hE, hl, hll, hle⟩
  obtain ⟨al, cl, rfl, -, -⟩ := hl.open_
  have hBa : Below w.heap.size w ((w.alloc (.cells #[.slice al l.length cl] 32)).alloc (.cells #[.slice none 0 0] 32)) := ((Below.refl _ w).alloc (Nat.le_refl _) _).alloc (by simp) _
  have hnu := number_ (.slice al l.length cl) l _ (hE.below hBa) (hl.below hBa) hll hle
  have hcb : ((w.alloc (.cells #[.slice al l.length cl] 32)).alloc (.cells #[.slice none 0 0] 32)).cell? ⟨w.heap.size, 0, none⟩ = some (.slice al l.length cl) := (World.cell?_alloc_lt _ _ ⟨w.heap.size, 0, none⟩ (by simp)).trans (box_new w _ _).1
  have hrb := box_new (w.alloc (.cells #[.slice al l.length cl] 32)) (.slice none 0 0) 32
  rw [World.size_alloc] at hrb
  obtain ⟨ap, cp, rfl, hpr⟩ := hp
  have HPR := Hid.mk' hpr
  obtain ⟨m, hm⟩ : ∃ m, ps.length = m := ⟨_, rfl⟩
  have HMM : Hid (ps.length = m) := hm
  rw [hm] at hps ⊢
  clear hE hl hll hle hpr hm
  go_enter Tryz.func9, Tryz.ntmps9
  go_upto_region 1 with fail
  obtain ⟨X, hX⟩ : ∃ X, (w.alloc (.cells #[.slice al l.length cl] 32)).alloc (.cells #[.slice none 0 0] 32) = X := ⟨_, rfl⟩
  obtain ⟨xb, hxb⟩ : ∃ xb, w.heap.size = xb := ⟨_, rfl⟩
  have hxl : X.heap.size = xb + 2 := by rw [← hX, ← hxb]; simp
  rw [hX] at hnu
  rw [hX, hxb] at hcb hrb hBa
  try rw [hX]
  try rw [hxb]
  have HXB : Hid (w.heap.size = xb) := hxb
  have HXL : Hid (X.heap.size = xb + 2) := hxl
  have HBA : Hid (Below xb w X) := hBa
  have HCB : Hid (X.cell? ⟨xb, 0, none⟩ = some (.slice al l.length cl) ∧ X.cell? ⟨xb + 1, 0, none⟩ = some (.slice none 0 0) ∧ X.frozen? ⟨xb + 1, 0, none⟩ = false) := ⟨hcb, hrb⟩
  unfold NumSays noShape shapeV at hnu
  clear hX hxb hrb hBa hxl
  go_wp2_with fail
  refine hnu.mono ?_
  clear hnu
  rintro e w2 ⟨hB2, ⟨i, hbad, rfl⟩ | ⟨all, ad, aS, ao, cd, cs, co, hg, rfl, hsh⟩⟩
  · have hs3 := three_at w2 (.slice none 0 0) (.slice none 0 0) (.slice none 0 0) 56
    have s0 := hs3 0 _ rfl
    have s1 := hs3 1 _ rfl
    have s2 := hs3 2 _ rfl
    have HBD : Hid (BadAt l i) := hbad
    have HB2 : Hid (Below X.heap.size X w2) := hB2
    clear hbad hB2 hs3
    go_upto_region 2 with fail
    have hBV : Below w2.heap.size w2 (w2.alloc (.cells #[.slice none 0 0, .slice none 0 0, .slice none 0 0] 56)) := (Below.refl _ w2).alloc (Nat.le_refl _) _
    obtain ⟨V, hV⟩ : ∃ V, w2.alloc (.cells #[.slice none 0 0, .slice none 0 0, .slice none 0 0] 56) = V := ⟨_, rfl⟩
    rw [hV] at hBV
    rw [hV]
    have hs2 := HB2.out.size
    rw [HXL.out] at hs2
    have c1 : V.cell? ⟨xb + 1, 0, none⟩ = some (.slice none 0 0) := (hBV.cell (p := ⟨xb + 1, 0, none⟩) (by simp only; omega)).trans ((HB2.out.cell (p := ⟨xb + 1, 0, none⟩) (by rw [HXL.out]; simp only; omega)).trans HCB.out.2.1)
    have z1 : V.frozen? ⟨xb + 1, 0, none⟩ = false := (hBV.frozen (p := ⟨xb + 1, 0, none⟩) (by simp only; omega)).trans ((HB2.out.frozen (p := ⟨xb + 1, 0, none⟩) (by rw [HXL.out]; simp only; omega)).trans HCB.out.2.2)
    have c2 := World.cell?_setCell_same' V ⟨xb + 1, 0, none⟩ (.slice none 0 0) (by rw [c1]; rfl)
    have HBV : Hid (Below xb w V) := HBA.out.trans ((HB2.out.mono (by rw [HXL.out]; omega)).trans (hBV.mono (by omega)))
    clear hV hBV s0 s1 s2
    go_wp2_with fail
    refine bodyPost_ret (v := .tuple #[.agg #[.slice none 0 0], .iface 176 (.pointer (some (a i)))]) ?_ rfl ?_
    · simp [results, Tryz.f9, go_sem, c2]
    · unfold CollapseSays
      rw [HXB.out]
      exact ⟨HBV.out.setCell (p := ⟨xb + 1, 0, none⟩) (by simp only; omega) _, .inl ⟨i, HBD.out, rfl⟩⟩
  · obtain ⟨L, hL⟩ : ∃ L, numL all = L := ⟨_, rfl⟩
    obtain ⟨n, hn⟩ : ∃ n, L.length = n := ⟨_, rfl⟩
    have HG : Hid (Good l all ∧ numL all = L ∧ L.length = n) := ⟨hg, hL, hn⟩
    have hL6 : n ≤ 600 := by rw [← hn, ← hL]; exact Nat.le_trans (num_len (order_nodup hg.isAll.order) _) hg.length
    rw [hL] at hsh ⊢
    rw [hn]
    have HSH : Hid (ShapeIn (fun b => X.heap.size ≤ b) w2 L ad aS ao cd cs co) := hsh
    have hs3 := three_at w2 (.slice none 0 0) (.slice none 0 0) (.slice none 0 0) 56
    have s0 := hs3 0 _ rfl
    have s1 := hs3 1 _ rfl
    have s2 := hs3 2 _ rfl
    have HB2 : Hid (Below X.heap.size X w2) := hB2
    have hs4 := three_at w2 (.slice ad n cd) (.slice aS n cs) (.slice ao n co) 56
    have t0 := (hs4 0 _ rfl).1
    have t1 := (hs4 1 _ rfl).1
    have t2 := (hs4 2 _ rfl).1
    clear hg hsh hL hn hB2 hs3 hs4
    go_upto_region 2 with fail
    have hBV : Below w2.heap.size w2 (w2.alloc (.cells #[.slice ad n cd, .slice aS n cs, .slice ao n co] 56)) := (Below.refl _ w2).alloc (Nat.le_refl _) _
    obtain ⟨V, hV⟩ : ∃ V, w2.alloc (.cells #[.slice ad n cd, .slice aS n cs, .slice ao n co] 56) = V := ⟨_, rfl⟩
    rw [hV] at hBV t0 t1 t2
    rw [hV]
    obtain ⟨sb, hsb⟩ : ∃ sb, w2.heap.size = sb := ⟨_, rfl⟩
    have hVs : V.heap.size = sb + 1 := by rw [← hV, ← hsb]; simp
    have hs2 := HB2.out.size
    rw [HXL.out, hsb] at hs2
    have HBV : Hid (Below sb w2 V) := by rw [← hsb]; exact hBV
    have HSV : Hid (ShapeIn (fun b => b < V.heap.size) V L ad aS ao cd cs co) := (HSH.out.below hBV).mono (fun b hb _ => hb)
    have hun := uncut_ V HSV.out (by rw [HG.out.2.2]; exact hL6)
    rw [HG.out.2.2] at hun
    unfold shapeV restV at hun
    rw [hsb] at t0 t1 t2
    try rw [hsb]
    have HSB : Hid (w2.heap.size = sb ∧ V.heap.size = sb + 1) := ⟨hsb, hVs⟩
    clear hV hBV s0 s1 s2 hsb hVs
    go_wp2_with fail
    refine hun.mono ?_
    clear hun
    rintro e w4 ⟨gl, gc, rfl, hra, hB4⟩
    have hs5 := rest_cells w4 (.slice ad n cd) (.slice aS n cs) (.slice ao n co) (.slice (some ⟨gl, 0, none⟩) n n) (.slice (some ⟨gc, 0, none⟩) n n) 61
    have hBR : Below w4.heap.size w4 (w4.alloc (.cells #[.slice ad n cd, .slice aS n cs, .slice ao n co, .slice (some ⟨gl, 0, none⟩) n n, .slice (some ⟨gc, 0, none⟩) n n] 61)) := (Below.refl _ w4).alloc (Nat.le_refl _) _
    have HRA : Hid (RestAt V.heap.size w4 L ad aS ao cd cs co gl gc allL) := hra
    have HB4 : Hid (Below V.heap.size V w4) := hB4
    clear hra hB4
    go_upto_region 5 with fail
    obtain ⟨W5, hW5⟩ : ∃ W5, w4.alloc (.cells #[.slice ad n cd, .slice aS n cs, .slice ao n co, .slice (some ⟨gl, 0, none⟩) n n, .slice (some ⟨gc, 0, none⟩) n n] 61) = W5 := ⟨_, rfl⟩
    obtain ⟨rb, hrb⟩ : ∃ rb, w4.heap.size = rb := ⟨_, rfl⟩
    have h5s : W5.heap.size = rb + 1 := by rw [← hW5, ← hrb]; simp
    have hs4 := HB4.out.size
    rw [HSB.out.2, hrb] at hs4
    have HR5 : Hid (RestAt V.heap.size W5 L ad aS ao cd cs co gl gc allL) := by rw [← hW5]; exact HRA.out.below hBR
    have HB5 : Hid (Below (sb + 1) V W5) := by rw [← hW5, ← HSB.out.2]; exact HB4.out.trans (hBR.mono HB4.out.size)
    have HC5 : Hid (∀ j u, [Value.slice ad n cd, .slice aS n cs, .slice ao n co, .slice (some ⟨gl, 0, none⟩) n n, .slice (some ⟨gc, 0, none⟩) n n][j]? = some u → W5.cell? ⟨rb, j, none⟩ = some u) := by rw [← hW5, ← hrb]; exact hs5
    have HXW : Hid (Below (xb + 2) X W5) := by
      have h1 := HB2.out
      rw [HXL.out] at h1
      exact h1.trans ((HBV.out.mono (by omega)).trans (HB5.out.mono (by omega)))
    rw [hW5]
    try rw [hrb]
    have HRB : Hid (W5.heap.size = rb + 1) := h5s
    have hgg : sb + 1 ≤ gl ∧ gl < rb ∧ sb + 1 ≤ gc ∧ gc < rb ∧ gl ≠ gc := ⟨by rw [← HSB.out.2]; exact HRA.out.bl, by rw [← hrb]; exact HRA.out.lefts.lt, by rw [← HSB.out.2]; exact HRA.out.bc, by rw [← hrb]; exact HRA.out.counts.lt, HRA.out.ne⟩
    clear hW5 hrb h5s hs5 hBR HRA HB4
    have HFL : Hid (FaceList L) := by rw [← HG.out.2.1]; exact good_faces HG.out.1
    go_wp2_with fail
    go_loopw [26] (fun p W => ∃ k : Nat, k ≤ m ∧ p = .int .i64 k ∧ Hid (Goes L allL (ps.take k) ∧ RestAt V.heap.size W L ad aS ao cd cs co gl gc (leftBy allL (ps.take k)) ∧ KeepBut W5 W gl gc)) (fun p _ => m - (intOf p).toNat)
    case atStart => exact ⟨0, by omega, rfl, trivial, HR5.out, KeepBut.refl _ _ _⟩
    case round =>
      obtain ⟨k, hk, rfl, HK⟩ := hrel
      have hszr := HK.out.2.2.size
      rw [HRB.out] at hszr
      obtain ⟨left, hleft⟩ : ∃ left, leftBy allL (ps.take k) = left := ⟨_, rfl⟩
      have HCP : Hid (Cplx L left) := by rw [← hleft]; exact goes_cplx HFL.out (cplx_all L) HK.out.1
      have HLE : Hid (leftBy allL (ps.take k) = left) := hleft
      have HBW : Hid (Below xb w wr) := by
        have h1 : Below xb w W5 := HBA.out.trans (HXW.out.mono (by omega))
        exact ⟨HK.out.2.2.os.trans h1.os, HK.out.2.2.tape.trans h1.tape, HK.out.2.2.output.trans h1.output, Nat.le_trans h1.size HK.out.2.2.size, fun b hb => (HK.out.2.2.block b (by have := HRB.out; omega) (by omega) (by omega)).trans (h1.block b hb)⟩
      have kc : ∀ (p : Addr), p.block < rb + 1 → p.block ≠ gl → p.block ≠ gc → wr.cell? p = W5.cell? p := fun p h1 h2 h3 => HK.out.2.2.cell (by rw [HRB.out]; exact h1) h2 h3
      have kf : ∀ (p : Addr), p.block < rb + 1 → p.block ≠ gl → p.block ≠ gc → wr.frozen? p = W5.frozen? p := fun p h1 h2 h3 => World.frozen?_of_block (HK.out.2.2.block _ (by rw [HRB.out]; exact h1) h2 h3)
      have r0 := (kc ⟨rb, 0, none⟩ (by simp only; omega) (by simp only; omega) (by simp only; omega)).trans (HC5.out 0 _ rfl)
      have r1 := (kc ⟨rb, 1, none⟩ (by simp only; omega) (by simp only; omega) (by simp only; omega)).trans (HC5.out 1 _ rfl)
      have r2 := (kc ⟨rb, 2, none⟩ (by simp only; omega) (by simp only; omega) (by simp only; omega)).trans (HC5.out 2 _ rfl)
      have r3 := (kc ⟨rb, 3, none⟩ (by simp only; omega) (by simp only; omega) (by simp only; omega)).trans (HC5.out 3 _ rfl)
      have r4 := (kc ⟨rb, 4, none⟩ (by simp only; omega) (by simp only; omega) (by simp only; omega)).trans (HC5.out 4 _ rfl)
      have HRW : Hid (∀ W, Below wr.heap.size wr W → W.cell? ⟨xb, 0, none⟩ = some (.slice al l.length cl) ∧ W.cell? ⟨xb + 1, 0, none⟩ = some (.slice none 0 0) ∧ W.frozen? ⟨xb + 1, 0, none⟩ = false) := fun W hW => ⟨(hW.cell (p := ⟨xb, 0, none⟩) (by simp only; omega)).trans ((kc ⟨xb, 0, none⟩ (by simp only; omega) (by simp only; omega) (by simp only; omega)).trans ((HXW.out.cell (p := ⟨xb, 0, none⟩) (by simp only; omega)).trans HCB.out.1)), (hW.cell (p := ⟨xb + 1, 0, none⟩) (by simp only; omega)).trans ((kc ⟨xb + 1, 0, none⟩ (by simp only; omega) (by simp only; omega) (by simp only; omega)).trans ((HXW.out.cell (p := ⟨xb + 1, 0, none⟩) (by simp only; omega)).trans HCB.out.2.1)), (hW.frozen (p := ⟨xb + 1, 0, none⟩) (by simp only; omega)).trans ((kf ⟨xb + 1, 0, none⟩ (by simp only; omega) (by simp only; omega) (by simp only; omega)).trans ((HXW.out.frozen (p := ⟨xb + 1, 0, none⟩) (by simp only; omega)).trans HCB.out.2.2))⟩
      by_cases hkm : k < m
      · have hkp : k < ps.length := by rw [HMM.out]; exact hkm
        obtain ⟨gp, op, rfl, -, hgp, hpc⟩ := HPR.out (by omega)
        have hp2 := hpc k hkp
        obtain ⟨pa, pb, hpq⟩ : ∃ pa pb, ps[k] = (pa, pb) := ⟨_, _, rfl⟩
        rw [hpq] at hp2
        rw [HXB.out] at hgp
        have p0 := (HBW.out.cell (p := ⟨gp, op + k * 2, none⟩) hgp).trans hp2.1
        have p1 : wr.cell? ⟨gp, op + k * 2 + 1, none⟩ = some (.int .i64 pb) := (HBW.out.cell (p := ⟨gp, op + (k * 2 + 1), none⟩) hgp).trans hp2.2
        have HPQ : Hid (ps[k] = (pa, pb)) := hpq
        have HGO : Hid (Goes L allL (ps.take k)) := HK.out.1
        have HKK : Hid (RestAt V.heap.size wr L ad aS ao cd cs co gl gc left ∧ KeepBut W5 wr gl gc) := ⟨by rw [← hleft]; exact HK.out.2.1, HK.out.2.2⟩
        have z2 : (k : Int) < (m : Int) := by omega
        have hpx := two_box wr (.int .i64 pa) (.int .i64 pb) 52
        have hBq : Below wr.heap.size wr (wr.alloc (.cells #[.int .i64 pa, .int .i64 pb] 52)) := (Below.refl _ wr).alloc (Nat.le_refl _) _
        clear hpc hp2 hpq hleft kc kf HK
        go_upto_region 8 with fail
        obtain ⟨wq, hwq⟩ : ∃ wq, wr.alloc (.cells #[.int .i64 pa, .int .i64 pb] 52) = wq := ⟨_, rfl⟩
        obtain ⟨qb, hqb⟩ : ∃ qb, wr.heap.size = qb := ⟨_, rfl⟩
        have hqs : qb < wq.heap.size := by rw [← hwq, ← hqb]; simp
        rw [hwq] at hpx hBq
        rw [hqb] at hpx hszr
        rw [hwq]
        try rw [hqb]
        have HBQ : Hid (Below wr.heap.size wr wq) := hBq
        have hoo := only_over pa wq (HKK.out.1.below hBq) (by rw [HG.out.2.2]; exact hL6)
        rw [HG.out.2.2] at hoo
        unfold restV at hoo
        rw [hqb] at hBq
        have r0 := (hBq.cell (p := ⟨rb, 0, none⟩) (by simp only; omega)).trans r0
        have r1 := (hBq.cell (p := ⟨rb, 1, none⟩) (by simp only; omega)).trans r1
        have r2 := (hBq.cell (p := ⟨rb, 2, none⟩) (by simp only; omega)).trans r2
        have r3 := (hBq.cell (p := ⟨rb, 3, none⟩) (by simp only; omega)).trans r3
        have r4 := (hBq.cell (p := ⟨rb, 4, none⟩) (by simp only; omega)).trans r4
        obtain ⟨x0, x1⟩ := hpx
        have HQB : Hid (wr.heap.size = qb) := hqb
        clear hwq hqb hBq p0 p1
        go_wp2_with fail
        refine hoo.mono ?_
        clear hoo
        rintro e w6 ⟨hB6, ⟨i, q, rfl, hi, hov, rfl⟩ | ⟨hno, rfl⟩⟩
        · have HBr6 : Hid (Below wr.heap.size wr w6) := HBQ.out.trans (hB6.mono HBQ.out.size)
          have HB6 : Hid (Below xb w w6) := HBW.out.trans (HBr6.out.mono (by have := HQB.out; omega))
          have hrw6 := HRW.out w6 HBr6.out
          have HOV : Hid (ovL L left i = [q] ∧ i < L.length) := ⟨hov, hi⟩
          have y1 := (hB6.cell (p := ⟨qb, 1, none⟩) hqs).trans x1
          have hqq := free_left HCP.out hi hov
          by_cases hqp : (q : Int) = pb
          · subst hqp
            have y0 := (hB6.cell (p := ⟨qb, 0, none⟩) hqs).trans x0
            have r0 := (hB6.cell (p := ⟨rb, 0, none⟩) (by simp only; omega)).trans r0
            have r1 := (hB6.cell (p := ⟨rb, 1, none⟩) (by simp only; omega)).trans r1
            have r2 := (hB6.cell (p := ⟨rb, 2, none⟩) (by simp only; omega)).trans r2
            have r3 := (hB6.cell (p := ⟨rb, 3, none⟩) (by simp only; omega)).trans r3
            have r4 := (hB6.cell (p := ⟨rb, 4, none⟩) (by simp only; omega)).trans r4
            have hcu := cut_pair i q w6 (HKK.out.1.below HBr6.out) (by rw [HG.out.2.2]; exact hL6) hi hqq.1 hqq.2.1 hqq.2.2.1 hqq.2.2.2
            rw [HG.out.2.2] at hcu
            unfold restV at hcu
            have HLI : Hid (left i = true) := hqq.2.1
            clear hov hi hqq hrw6 x0 x1 hB6
            go_wp2_with (first
              | (go_at_call 26; refine hcu.mono ?_; rintro e w7 ⟨rfl, hr7, hk7⟩; have HR7 : Hid (RestAt V.heap.size w7 L ad aS ao cd cs co gl gc (less (less left q) i) ∧ KeepBut w6 w7 gl gc) := ⟨hr7, hk7⟩; clear hr7 hk7 hcu)
              | fail)
            go_roundw
            case rel =>
              refine ⟨k + 1, by omega, by go_num, ?_, ?_, (HKK.out.2.below HBr6.out).trans HR7.out.2⟩
              · rw [take_duo hkp]
                exact goes_snoc.2 ⟨HGO.out, i, q, HPQ.out, HOV.out.2, by rw [HLE.out]; exact HLI.out, by rw [HLE.out]; exact (free_iff HFL.out HCP.out HOV.out.2).2 HOV.out.1⟩
              · rw [take_duo hkp, leftBy_snoc, HLE.out, HPQ.out]
                exact HR7.out.1
            case measure => simp [intOf]; omega
          · have hne : ((q : Int) != pb) = true := by simpa using hqp
            have HNF : Hid (¬ FreeP L (leftBy allL (ps.take k)) ps[k]) := fun hf => by
              obtain ⟨a', k', e, _, _, h4⟩ := hf
              rw [HPQ.out] at e
              have e1 : a' = i := by have := congrArg Prod.fst e; simp only at this; omega
              subst e1
              rw [HLE.out] at h4
              have h5 := (free_iff HFL.out HCP.out HOV.out.2).1 h4
              rw [HOV.out.1] at h5
              cases h5
              exact hqp (congrArg Prod.snd e).symm
            clear hov hi hqq hB6 x0 x1
            obtain ⟨c1, z1⟩ := hrw6.2
            have hgl : w6.cell? ⟨0, 0, none⟩ = some (.iface 176 (.pointer (some (a 3)))) := (HLL.out.1.below (by rw [HXB.out]; exact HB6.out)).glob 3 (by decide)
            have hgx : 0 < xb := by have h2 : 0 < w.heap.size := cell_lt (HLL.out.1.glob 3 (by decide)); rw [HXB.out] at h2; exact h2
            have hgl2 : (w6.setCell ⟨xb + 1, 0, none⟩ (.slice none 0 0)).cell? ⟨0, 0, none⟩ = some (.iface 176 (.pointer (some (a 3)))) := (World.cell?_setCell_other w6 _ _ _ (addr_ne (.inl (by omega)))).trans hgl
            have hlt6 : xb + 1 < w6.heap.size := cell_lt c1
            have c2 := World.cell?_setCell_same' w6 ⟨xb + 1, 0, none⟩ (.slice none 0 0) (by rw [c1]; rfl)
            have c3 : ∀ o, ((w6.setCell ⟨xb + 1, 0, none⟩ (.slice none 0 0)).alloc o).cell? ⟨xb + 1, 0, none⟩ = some (.slice none 0 0) := fun o => (World.cell?_alloc_lt _ o ⟨xb + 1, 0, none⟩ (by simpa using hlt6)).trans c2
            have HFC : Hid (((w6.setCell ⟨xb + 1, 0, none⟩ (.slice none 0 0)).alloc (.cells #[.int .i64 (k : Int), .iface 176 (.pointer (some (a 3)))] 67)).cell? ⟨w6.heap.size, 0, none⟩ = some (.int .i64 (k : Int)) ∧ ((w6.setCell ⟨xb + 1, 0, none⟩ (.slice none 0 0)).alloc (.cells #[.int .i64 (k : Int), .iface 176 (.pointer (some (a 3)))] 67)).cell? ⟨w6.heap.size, 0 + 1, none⟩ = some (.iface 176 (.pointer (some (a 3))))) := by
              have := fault_cells (w6.setCell ⟨xb + 1, 0, none⟩ (.slice none 0 0)) (.int .i64 (k : Int)) (.iface 176 (.pointer (some (a 3)))) 67
              have e : (w6.setCell ⟨xb + 1, 0, none⟩ (.slice none 0 0)).heap.size = w6.heap.size := by simp
              rw [e] at this
              exact this
            have HBE : Hid (Below xb w ((w6.setCell ⟨xb + 1, 0, none⟩ (.slice none 0 0)).alloc (.cells #[.int .i64 (k : Int), .iface 176 (.pointer (some (a 3)))] 67)).drew) := ((HB6.out.setCell (p := ⟨xb + 1, 0, none⟩) (by simp only; omega) (.slice none 0 0)).alloc (by simp; omega) _).drew
            clear hrw6
            go_wp2_with fail
            go_region
            all_goals go_wp2
            all_goals
              refine bodyPost_ret (v := .tuple #[.agg #[.slice none 0 0], .iface 65 (.pointer (some ⟨w6.heap.size, 0, none⟩))]) ?_ rfl ?_
              · simp [results, Tryz.f9, go_sem, c3]
              · unfold CollapseSays
                rw [HXB.out]
                exact ⟨HBE.out, .inr ⟨all, HG.out.1, .inr ⟨k, hkp, by rw [HG.out.2.1]; exact HGO.out, by rw [HG.out.2.1]; exact HNF.out, _, ⟨w6.heap.size, rfl, HFC.out.1, HFC.out.2⟩, rfl⟩⟩⟩
        · have HBr6 : Hid (Below wr.heap.size wr w6) := HBQ.out.trans (hB6.mono HBQ.out.size)
          have HB6 : Hid (Below xb w w6) := HBW.out.trans (HBr6.out.mono (by have := HQB.out; omega))
          have hrw6 := HRW.out w6 HBr6.out
          have HNF : Hid (¬ FreeP L (leftBy allL (ps.take k)) ps[k]) := fun hf => by
            obtain ⟨a', k', e, h2, _, h4⟩ := hf
            rw [HPQ.out] at e
            rw [HLE.out] at h4
            exact hno a' (congrArg Prod.fst e) h2 k' ((free_iff HFL.out HCP.out h2).1 h4)
          clear hno hB6 x0 x1
          obtain ⟨c1, z1⟩ := hrw6.2
          have hgl : w6.cell? ⟨0, 0, none⟩ = some (.iface 176 (.pointer (some (a 3)))) := (HLL.out.1.below (by rw [HXB.out]; exact HB6.out)).glob 3 (by decide)
          have hgx : 0 < xb := by have h2 : 0 < w.heap.size := cell_lt (HLL.out.1.glob 3 (by decide)); rw [HXB.out] at h2; exact h2
          have hgl2 : (w6.setCell ⟨xb + 1, 0, none⟩ (.slice none 0 0)).cell? ⟨0, 0, none⟩ = some (.iface 176 (.pointer (some (a 3)))) := (World.cell?_setCell_other w6 _ _ _ (addr_ne (.inl (by omega)))).trans hgl
          have hlt6 : xb + 1 < w6.heap.size := cell_lt c1
          have c2 := World.cell?_setCell_same' w6 ⟨xb + 1, 0, none⟩ (.slice none 0 0) (by rw [c1]; rfl)
          have c3 : ∀ o, ((w6.setCell ⟨xb + 1, 0, none⟩ (.slice none 0 0)).alloc o).cell? ⟨xb + 1, 0, none⟩ = some (.slice none 0 0) := fun o => (World.cell?_alloc_lt _ o ⟨xb + 1, 0, none⟩ (by simpa using hlt6)).trans c2
          have HFC : Hid (((w6.setCell ⟨xb + 1, 0, none⟩ (.slice none 0 0)).alloc (.cells #[.int .i64 (k : Int), .iface 176 (.pointer (some (a 3)))] 67)).cell? ⟨w6.heap.size, 0, none⟩ = some (.int .i64 (k : Int)) ∧ ((w6.setCell ⟨xb + 1, 0, none⟩ (.slice none 0 0)).alloc (.cells #[.int .i64 (k : Int), .iface 176 (.pointer (some (a 3)))] 67)).cell? ⟨w6.heap.size, 0 + 1, none⟩ = some (.iface 176 (.pointer (some (a 3))))) := by
            have := fault_cells (w6.setCell ⟨xb + 1, 0, none⟩ (.slice none 0 0)) (.int .i64 (k : Int)) (.iface 176 (.pointer (some (a 3)))) 67
            have e : (w6.setCell ⟨xb + 1, 0, none⟩ (.slice none 0 0)).heap.size = w6.heap.size := by simp
            rw [e] at this
            exact this
          have HBE : Hid (Below xb w ((w6.setCell ⟨xb + 1, 0, none⟩ (.slice none 0 0)).alloc (.cells #[.int .i64 (k : Int), .iface 176 (.pointer (some (a 3)))] 67)).drew) := ((HB6.out.setCell (p := ⟨xb + 1, 0, none⟩) (by simp only; omega) (.slice none 0 0)).alloc (by simp; omega) _).drew
          clear hrw6
          go_wp2_with fail
          go_region
          all_goals go_wp2
          all_goals
            refine bodyPost_ret (v := .tuple #[.agg #[.slice none 0 0], .iface 65 (.pointer (some ⟨w6.heap.size, 0, none⟩))]) ?_ rfl ?_
            · simp [results, Tryz.f9, go_sem, c3]
            · unfold CollapseSays
              rw [HXB.out]
              exact ⟨HBE.out, .inr ⟨all, HG.out.1, .inr ⟨k, hkp, by rw [HG.out.2.1]; exact HGO.out, by rw [HG.out.2.1]; exact HNF.out, _, ⟨w6.heap.size, rfl, HFC.out.1, HFC.out.2⟩, rfl⟩⟩⟩
      · obtain rfl : k = m := by omega
        have HGS : Hid (Goes L allL ps ∧ leftBy allL ps = left) := by
          have h1 := HK.out.1
          have h2 := HLE.out
          rw [← HMM.out, List.take_length] at h1 h2
          exact ⟨h1, h2⟩
        have hRE : RestAt V.heap.size wr (numL all) ad aS ao cd cs co gl gc left := by rw [HG.out.2.1, ← hleft]; exact HK.out.2.1
        have hcx := complex_ (.slice al l.length cl) wr (HLL.out.1.below (by rw [HXB.out]; exact HBW.out)) (HLL.out.2.1.below (by rw [HXB.out]; exact HBW.out)) HLL.out.2.2.1 HLL.out.2.2.2 HG.out.1 hRE
        rw [HG.out.2.1, HG.out.2.2] at hcx
        unfold restV at hcx
        have hb0 := HRW.out wr (Below.refl _ _)
        have b0 := hb0.1
        obtain ⟨S, hSS⟩ : ∃ S, leftTo L left n = S := ⟨_, rfl⟩
        have HSS : Hid (leftTo L left n = S) := hSS
        rw [hSS] at hcx
        clear hSS hRE hleft kc kf HK hb0
        go_wp2_with fail
        refine hcx.mono ?_
        clear hcx
        rintro e w6 ⟨hB6, hms⟩
        obtain ⟨-, c1, z1⟩ := HRW.out w6 hB6
        have HB6 : Hid (Below xb w w6) := HBW.out.trans (hB6.mono (by omega))
        have hout : ∀ {e' : Ending} {w' : World}, MakeSays a S w e' w' → CollapseSays a l ps w e' w' := fun {e' w'} h => ⟨h.1, .inr ⟨all, HG.out.1, .inl ⟨by rw [HG.out.2.1]; exact HGS.out.1, by rw [HG.out.2.1, HG.out.2.2, HGS.out.2, HSS.out]; exact h⟩⟩⟩
        have HOUT : Hid (∀ (e' : Ending) (w' : World), MakeSays a S w e' w' → CollapseSays a l ps w e' w') := fun e' w' h => hout h
        rcases hms with ⟨hno, rfl⟩ | ⟨hok, ts, hts, ⟨hov, rfl⟩ | ⟨hov, v, ss, rfl, hown, hnd, hmem⟩⟩
        · have c2 := World.cell?_setCell_same' w6 ⟨xb + 1, 0, none⟩ (.slice none 0 0) (by rw [c1]; rfl)
          have H : Hid (¬ ∀ x ∈ S, SetOk x) := hno
          clear hno hB6 hout
          go_wp2_with fail
          refine bodyPost_ret (v := .tuple #[.agg #[.slice none 0 0], .iface 176 (.pointer (some (a 3)))]) ?_ rfl ?_
          · simp [results, Tryz.f9, go_sem, c2]
          · exact HOUT.out _ _ ⟨by rw [HXB.out]; exact HB6.out.setCell (p := ⟨xb + 1, 0, none⟩) (by simp only; omega) _, .inl ⟨H.out, rfl⟩⟩
        · have c2 := World.cell?_setCell_same' w6 ⟨xb + 1, 0, none⟩ (.slice none 0 0) (by rw [c1]; rfl)
          have H : Hid ((∀ x ∈ S, SetOk x) ∧ ts.map ints = S.map srt ∧ Over ts) := ⟨hok, hts, hov⟩
          clear hok hts hov hB6 hout
          go_wp2_with fail
          refine bodyPost_ret (v := .tuple #[.agg #[.slice none 0 0], .iface 176 (.pointer (some (a 1)))]) ?_ rfl ?_
          · simp [results, Tryz.f9, go_sem, c2]
          · exact HOUT.out _ _ ⟨by rw [HXB.out]; exact HB6.out.setCell (p := ⟨xb + 1, 0, none⟩) (by simp only; omega) _, .inr ⟨H.out.1, ts, H.out.2.1, .inl ⟨H.out.2.2, rfl⟩⟩⟩
        · have HOW : Hid (OwnRows wr.heap.size w6 v ((srtS ss).map ints)) := hown
          obtain ⟨a3, c3, rfl, -, -⟩ := hown.rows.open_
          have c2 := World.cell?_setCell_same' w6 ⟨xb + 1, 0, none⟩ (.slice a3 ((srtS ss).map ints).length c3) (by rw [c1]; rfl)
          rw [List.length_map] at c2
          have H : Hid (((∀ x ∈ S, SetOk x) ∧ ts.map ints = S.map srt ∧ ¬ Over ts) ∧ ss.Nodup ∧ ∀ x, x ∈ ss ↔ FaceOf ts x ∧ ¬ InnerOf ts x) := ⟨⟨hok, hts, hov⟩, hnd, hmem⟩
          clear hok hts hov hnd hmem hown hB6 hout
          go_wp2_with fail
          refine bodyPost_ret (v := .tuple #[.agg #[.slice a3 (srtS ss).length c3], .nilIface]) ?_ rfl ?_
          · simp [results, Tryz.f9, go_sem, c2]
          · have h1 := HOW.out
            rw [List.length_map] at h1
            refine HOUT.out _ _ ?_
            unfold MakeSays
            rw [HXB.out]
            exact ⟨HB6.out.setCell (p := ⟨xb + 1, 0, none⟩) (by simp only; omega) _, .inr ⟨H.out.1.1, ts, H.out.1.2.1, .inr ⟨H.out.1.2.2, _, ss, rfl, (h1.setCell (p := ⟨xb + 1, 0, none⟩) (by simp only; omega) _).lower (by omega), H.out.2.1, H.out.2.2⟩⟩⟩

end Go.Proofs.YthdmfeidcldafaaGreatDoor
