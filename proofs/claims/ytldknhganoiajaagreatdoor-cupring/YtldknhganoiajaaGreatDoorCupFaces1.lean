/- An append of elements of any size as a step of a region that draws; a block that was just laid; what lies far from a change. Ahead of the program's four faces: when cochains answers an error, and which. The program's Delta. -/
import Derived.Test.YtldknhganoiajaaGreatDoorBase
import Derived.Deep.RegionLaw
import Derived.Deep.AppendLies
import Derived.Test.YtldknhganoiajaaGreatDoorCupCochains
namespace Go.Proofs.YtldknhganoiajaaGreatDoor
open Go.RowKit Go.Sort

/-- An append onto a row of the call's own, of elements of any size, at a step of a region that draws its order. -/
theorem step_append_wide {P : Program} {w : World} {ops : Array Oper} {o : Oper} {a : Act} {K : Act → World → Prop} {Q : Exit → Act → World → Prop} {E : Prop} (hgd : o.guard = none) (s x : Operand) (t : TypeId)
    (ho : o.op = .call { callee := .builtin .append, args := #[s, x], argTypes := #[t, t] })
    (base : Nat) (e : TypeId) (i : TypeInfo) (z : Value) (size bytes : Nat) (ht : P.underlying t = some (.slice e)) (hi : P.info? e = some i) (hz : i.zero = some z)
    (hsize : i.size = size) (hby : i.bytes = bytes) (hzs : z.cells.size = size) (hsz : 0 < size) (v : Value) (n : Nat) (xs : List Value) (hs : a.eval s = v) (hown : w.ownsRow base e size v n xs)
    (ad : Addr) (m c : Nat) (news : List Value) (hx : a.eval x = .slice (some ad) m c) (hl : news.length = m * size) (hnews : ∀ j u, news[j]? = some u → w.cell? (ad.add j) = some u) (h1 : ∀ u ∈ news, u.oneCell' = true)
    (h63 : n + m ≤ maxLen) (hbytes : (n + m) * bytes ≤ 140737488355328) (hbase : base ≤ w.heap.size)
    (h : ∀ v' w', w'.ownsRow base e size v' (n + m) (xs ++ news) → w.grownBy w' v.ownBlock → (v'.ownBlock = v.ownBlock ∨ v'.ownBlock = some w.heap.size) → K (a.put o.dst v') w') :
    if Region.wanted o (yielded ops a.tmps) = true then Oper.wp P o a w K Q else E := by
  have hw : Region.wanted o (yielded ops a.tmps) = true := by simp [Region.wanted, hgd]
  rw [if_pos hw]
  obtain ⟨v', w', hr, h2, h3, -, h4⟩ := run_append_own_at (P := P) w base t o.type e i z size bytes ht hi hz hsize hby hzs hsz v n xs hown ad m c news hl hnews h1 h63 hbytes hbase
  unfold Oper.wp execOp
  simp only [ho, resolve, invoke, builtin, Sem.run_bind, Sem.run_pure, Result.andThen_ok, List.map_toArray, List.map_cons, List.map_nil, hs, hx, hr]
  exact h v' w' h2 h3 h4

theorem cells_new (w : World) (L : List Value) (t : TypeId) : ∀ j u, L[j]? = some u → (w.alloc (.cells L.toArray t)).cell? ((⟨w.heap.size, 0, none⟩ : Addr).add j) = some u := fun j u hu => by
  rw [Addr.add_lit]
  simpa using hu

theorem far_c {w w' : World} {row : Option Nat} (hg : w.grownBy w' row) (a : Addr) (hlt : a.block < w.heap.size) (hne : some a.block ≠ row) : w'.cell? a = w.cell? a := World.cell?_of_block (hg.block a.block hlt hne)
theorem far_f {w w' : World} {row : Option Nat} (hg : w.grownBy w' row) (a : Addr) (hlt : a.block < w.heap.size) (hne : some a.block ≠ row) : w'.frozen? a = w.frozen? a := World.frozen?_of_block (hg.block a.block hlt hne)

end Go.Proofs.YtldknhganoiajaaGreatDoor

namespace Go.Proofs.YtldknhganoiajaaGreatDoor
open Go.RowKit Go.Sort Go.Maps Go.Deep

/-- A complex and cochains of it are not as they ought to be: which error. -/
def CoBad (l : List (List Int)) (cs : List Co) (i : Nat) : Prop :=
  BadAt l i ∨ ∃ all, Good l all ∧ all.length ≤ 60 ∧ ((¬ DimsOk (topN all) cs ∧ i = 1) ∨ (DimsOk (topN all) cs ∧ ¬ ListsOk all cs ∧ i = 3))
theorem CoBad.lt {l : List (List Int)} {cs : List Co} {i : Nat} (h : CoBad l cs i) : i < 8 := by
  rcases h with h | ⟨all, -, -, ⟨-, rfl⟩ | ⟨-, -, rfl⟩⟩
  · exact h.lt
  · omega
  · omega
theorem cochains_err {a : Nat → Addr} {s : Nat → ByteArray} {l : List (List Int)} {cs : List Co} {i : Nat} (hb : CoBad l cs i) (vl : Value) (b cb : Nat) (us : Nat → Value) (w : World) (hE : Errs a s w) (hl : Rows w vl l) (hll : l.length ≤ 100000) (hle : ∀ x ∈ l, x.length ≤ 1000)
    (hc : CoAt w b cs us) (hcl : cs.length ≤ 100) (hcx : ∀ c ∈ cs, c.2.length ≤ 60) :
    Calls Tryz.prog 28 #[.agg #[vl], .slice (some ⟨b, 0, none⟩) cs.length cb] w fun e w' => e = .returned (.tuple #[.agg #[.slice none 0 0, .map none], .slice none 0 0, .iface 179 (.pointer (some (a i)))]) ∧ Below w.heap.size w w' := by
  rcases hb with hb | ⟨all, hg, h60, hb⟩
  · exact cochains_bad hb vl _ w hE hl hll hle
  · refine (cochains_good hg h60 vl b cb cs us w hE hl hll hle hc hcl hcx).mono ?_
    rintro e w' ⟨h1, ⟨h2, h3⟩ | ⟨h2, h4, h3⟩ | ⟨h2, h4, -⟩⟩
    · rcases hb with ⟨-, rfl⟩ | ⟨h5, -⟩
      · exact ⟨h3, h1⟩
      · exact absurd h5 h2
    · rcases hb with ⟨h5, -⟩ | ⟨-, -, rfl⟩
      · exact absurd h2 h5
      · exact ⟨h3, h1⟩
    · rcases hb with ⟨h5, -⟩ | ⟨-, h5, -⟩
      · exact absurd h2 h5
      · exact absurd h4 h5
/-- What cochains answers where all is well. -/
def CoGood (all : List (List Int)) (cs : List Co) (w : World) (e : Ending) (w' : World) : Prop :=
  ∃ B aF cF g av cv, e = .returned (.tuple #[.agg #[.slice aF (topN all) cF, .map (some g)], .slice av cs.length cv, .nilIface]) ∧ w.heap.size ≤ B ∧ B ≤ w'.heap.size ∧ ShapeS (fun b => b < B) w' (.agg #[.slice aF (topN all) cF, .map (some g)]) all ∧ WordsAt B w' (.slice av cs.length cv) (coN all cs) (coX cs) cs.length ∧ Below w.heap.size w w'
theorem cochains_ok {a : Nat → Addr} {s : Nat → ByteArray} {l all : List (List Int)} {cs : List Co} (hg : Good l all) (h60 : all.length ≤ 60) (hd : DimsOk (topN all) cs) (ho : ListsOk all cs) (vl : Value) (b cb : Nat) (us : Nat → Value) (w : World) (hE : Errs a s w) (hl : Rows w vl l) (hll : l.length ≤ 100000) (hle : ∀ x ∈ l, x.length ≤ 1000)
    (hc : CoAt w b cs us) (hcl : cs.length ≤ 100) (hcx : ∀ c ∈ cs, c.2.length ≤ 60) :
    Calls Tryz.prog 28 #[.agg #[vl], .slice (some ⟨b, 0, none⟩) cs.length cb] w fun e w' => CoGood all cs w e w' := by
  refine (cochains_good hg h60 vl b cb cs us w hE hl hll hle hc hcl hcx).mono ?_
  rintro e w' ⟨h1, ⟨h2, -⟩ | ⟨-, h4, -⟩ | ⟨-, -, B, sv, v, rfl, h5, h6, h7, h8⟩⟩
  · exact absurd hd h2
  · exact absurd ho h4
  · have h7' := h7
    obtain ⟨vF, g, L, rfl, hF, -⟩ := h7'
    obtain ⟨aF, cF, rfl, -⟩ := (hF.mono (S' := anyBlock) (fun _ _ _ => trivial)).open_
    rw [facesT_len] at h7 ⊢
    obtain ⟨ws, o1, -⟩ := id h8
    obtain ⟨av, cv, rfl⟩ := own_form o1
    exact ⟨B, aF, cF, g, av, cv, rfl, h5, h6, h7, h8, h1⟩
theorem co_one (W : World) (vf : Value) (d : Int) (f : List Int) (t : TypeId) (hf : Ints W vf f) : CoAt (W.alloc (.cells #[.int .i64 d, vf] t)) W.heap.size [(d, f)] (fun _ => vf) := by
  have h := cells_two W (.int .i64 d) vf t
  refine ⟨fun k hk => ?_, fun k hk => ?_, fun k hk => ?_⟩
  · obtain rfl : k = 0 := by simp at hk; omega
    exact h.1.1
  · obtain rfl : k = 0 := by simp at hk; omega
    exact h.1.2
  · obtain rfl : k = 0 := by simp at hk; omega
    exact hf.below ((Below.refl _ W).alloc (Nat.le_refl _) _)
theorem co_two (W : World) (vf vg : Value) (i k : Int) (f g : List Int) (t : TypeId) (hf : Ints W vf f) (hg : Ints W vg g) : CoAt (W.alloc (.cells #[.int .i64 i, vf, .int .i64 k, vg] t)) W.heap.size [(i, f), (k, g)] (fun j => if j = 0 then vf else vg) := by
  have h := cells_new W [.int .i64 i, vf, .int .i64 k, vg] t
  have hB : Below W.heap.size W (W.alloc (.cells #[.int .i64 i, vf, .int .i64 k, vg] t)) := (Below.refl _ W).alloc (Nat.le_refl _) _
  have h0 := h 0 _ rfl
  have h1 := h 1 _ rfl
  have h2 := h 2 _ rfl
  have h3 := h 3 _ rfl
  refine ⟨fun k hk => ?_, fun k hk => ?_, fun k hk => ?_⟩
  · rcases k with _ | _ | k
    · exact h0
    · exact h2
    · simp at hk; omega
  · rcases k with _ | _ | k
    · exact h1
    · exact h3
    · simp at hk; omega
  · rcases k with _ | _ | k
    · exact hf.below hB
    · exact hg.below hB
    · simp at hk; omega
/-- The words of one cochain, or of two. -/
theorem WordsAt.cellAt {base k : Nat} {W : World} {av : Option Addr} {cv : Nat} {ns xs : Nat → Nat} (h : WordsAt base W (.slice av k cv) ns xs k) (hk : 0 < k) : ∃ G, av = some ⟨G, 0, none⟩ ∧ base ≤ G ∧ G < W.heap.size ∧ ∀ j, j < k → ∃ a m c, W.cell? ⟨G, j, none⟩ = some (.slice a m c) ∧ WordIn (fun b => base ≤ b ∧ b ≠ G) W (.slice a m c) (ns j) (xs j) := by
  obtain ⟨us, o1, o2⟩ := h
  obtain ⟨G, cG, e, h1, h2⟩ := o1.form hk
  cases e
  refine ⟨G, rfl, h1, h2, fun j hj => ?_⟩
  have hl : us.length = k := by have := o1.1; simpa using this
  have hu : us[j]? = some us[j] := List.getElem?_eq_getElem (by omega)
  have hw := o2 j _ hu
  obtain ⟨a, m, c, e⟩ := hw.form
  rw [e] at hw hu
  exact ⟨a, m, c, by rw [o1.cellAt j (by omega), hu], hw.mono (fun b _ hb => ⟨hb.1, fun e => hb.2 (by rw [e]; rfl)⟩)⟩

end Go.Proofs.YtldknhganoiajaaGreatDoor

namespace Go.Proofs.YtldknhganoiajaaGreatDoor
open Go.RowKit Go.Sort Go.Maps Go.Deep

set_option maxRecDepth 100000 in
set_option maxHeartbeats 2000000 in
theorem cupDelta_err {a : Nat → Addr} {s : Nat → ByteArray} {l : List (List Int)} {d : Int} {f : List Int} {i : Nat} (hb : CoBad l [(d, f)] i) (vl vf : Value) (w : World) (hE : Errs a s w) (hl : Rows w vl l) (hll : l.length ≤ 100000) (hle : ∀ x ∈ l, x.length ≤ 1000) (hf : Ints w vf f) (hfl : f.length ≤ 60) :
    Calls Tryz.prog 13 #[.agg #[vl], .int .i64 d, vf] w fun e w' => e = .returned (.tuple #[.slice none 0 0, .iface 179 (.pointer (some (a i)))]) ∧ Below w.heap.size w w' := by
  obtain ⟨al, cl, rfl, -, -⟩ := hl.open_
  have hB1 : Below w.heap.size w (w.alloc (.cells #[.slice al l.length cl] 31)) := (Below.refl _ w).alloc (Nat.le_refl _) _
  have hco := co_one (w.alloc (.cells #[.slice al l.length cl] 31)) vf d f 66 (hf.below hB1)
  have hB2 : Below w.heap.size w ((w.alloc (.cells #[.slice al l.length cl] 31)).alloc (.cells #[.int .i64 d, vf] 66)) := hB1.alloc (by simp) _
  have hc := cochains_err hb (.slice al l.length cl) _ 1 _ _ (hE.below hB2) (hl.below hB2) hll hle hco (by simp) (by simpa using hfl)
  have q0 := (box_new w (.slice al l.length cl) 31).1
  obtain ⟨ev, hev⟩ : ∃ ev : Addr, a i = ev := ⟨_, rfl⟩
  rw [hev] at hc ⊢
  obtain ⟨af, mf, cf, rfl⟩ : ∃ a m c, vf = .slice a m c := by obtain ⟨a, c, e, -⟩ := hf.open_; exact ⟨a, _, c, e⟩
  have HB2 := Hid.mk' hB2
  rw [World.size_alloc] at hc
  clear hE hl hll hle hb hev hB1 hB2 hco hf hfl
  go_enter Tryz.func13, Tryz.ntmps13
  go_wp2_with fail
  refine hc.mono ?_
  clear hc
  rintro e W2 ⟨rfl, hB3⟩
  have HB3 : Hid (Below w.heap.size w (W2.alloc (.cells #[.slice none 0 0, .map none] 46))) := by
    have h := HB2.out.trans (hB3.mono HB2.out.size)
    exact h.alloc h.size _
  clear hB3
  go_wp2_with fail
  go_ret2
  exact ⟨rfl, HB3.out⟩

/-- Behind a good answer of cochains: the shape in a box, the words. -/
theorem behind_good {all : List (List Int)} {cs : List Co} {B : Nat} {W : World} {aF av : Option Addr} {cF cv g : Nat} (_hB : B ≤ W.heap.size) (hS : ShapeS (fun b => b < B) W (.agg #[.slice aF (topN all) cF, .map (some g)]) all) (hW : WordsAt B W (.slice av cs.length cv) (coN all cs) (coX cs) cs.length) :
    let W' := W.alloc (.cells #[.slice aF (topN all) cF, .map (some g)] 46)
    (W'.cell? ⟨W.heap.size, 0, none⟩ = some (.slice aF (topN all) cF) ∧ W'.cell? ⟨W.heap.size, 1, none⟩ = some (.map (some g))) ∧ ShapeS (fun b => b < B) W' (.agg #[.slice aF (topN all) cF, .map (some g)]) all ∧ WordsAt B W' (.slice av cs.length cv) (coN all cs) (coX cs) cs.length ∧ Below W.heap.size W W' := by
  have hb : Below W.heap.size W (W.alloc (.cells #[.slice aF (topN all) cF, .map (some g)] 46)) := (Below.refl _ W).alloc (Nat.le_refl _) _
  exact ⟨(cells_two W _ _ _).1, hS.below hb, hW.below hb, hb⟩

set_option maxRecDepth 100000 in
set_option maxHeartbeats 4000000 in
theorem cupDelta_ok {a : Nat → Addr} {s : Nat → ByteArray} {l all : List (List Int)} {d : Nat} {f : List Int} (hg : Good l all) (h60 : all.length ≤ 60) (hd : d < topN all) (ho : OkCo (ofDim all (d : Int)).length f) (vl vf : Value) (w : World) (hE : Errs a s w) (hT : TabOk w) (hl : Rows w vl l) (hll : l.length ≤ 100000) (hle : ∀ x ∈ l, x.length ≤ 1000) (hf : Ints w vf f) (hfl : f.length ≤ 60) :
    Calls Tryz.prog 13 #[.agg #[vl], .int .i64 (d : Int), vf] w fun e w' => ∃ u, e = .returned (.tuple #[u, .nilIface]) ∧ IntsIn (fun b => w.heap.size ≤ b) w' u (bitsI (deltaW all d (maskN f))) ∧ Below w.heap.size w w' := by
  have h7 : topN all ≤ 7 := topN_upto hg.short
  obtain ⟨al, cl, rfl, -, -⟩ := hl.open_
  have hB1 : Below w.heap.size w (w.alloc (.cells #[.slice al l.length cl] 31)) := (Below.refl _ w).alloc (Nat.le_refl _) _
  have hco := co_one (w.alloc (.cells #[.slice al l.length cl] 31)) vf (d : Int) f 66 (hf.below hB1)
  have hB2 : Below w.heap.size w ((w.alloc (.cells #[.slice al l.length cl] 31)).alloc (.cells #[.int .i64 (d : Int), vf] 66)) := hB1.alloc (by simp) _
  have hc := cochains_ok hg h60 (cs := [((d : Int), f)]) (by intro c hc; simp at hc; subst hc; exact ⟨by simp, by simpa using hd⟩) (by intro c hc; simp at hc; subst hc; exact ho) (.slice al l.length cl) _ 1 _ _ (hE.below hB2) (hl.below hB2) hll hle hco (by simp) (by simpa using hfl)
  have q0 := (box_new w (.slice al l.length cl) 31).1
  obtain ⟨af, mf, cf, rfl⟩ : ∃ a m c, vf = .slice a m c := by obtain ⟨a, c, e, -⟩ := hf.open_; exact ⟨a, _, c, e⟩
  have HB2 := Hid.mk' hB2
  have HT := Hid.mk' hT
  rw [World.size_alloc] at hc
  have HDE : Hid (∀ (S : Nat → Prop) (v u : Value) (W : World), ShapeAt W v all → WordIn S W u (ofDim all (d : Int)).length (maskN f) → TabOk W → Calls Tryz.prog 29 #[v, .int .i64 (d : Int), u] W fun e w' => ∃ r, e = .returned r ∧ WordIn (fun b => W.heap.size ≤ b) w' r (ofDim all ((d + 1 : Nat) : Int)).length (deltaW all d (maskN f)) ∧ Below W.heap.size W w') := fun S v u W h1 h2 h3 => delta_ hg h60 v u d (maskN f) (by omega) W h1 h2 h3
  obtain ⟨X, hX⟩ : ∃ X, deltaW all d (maskN f) = X := ⟨_, rfl⟩
  rw [hX] at HDE ⊢
  clear hE hl hll hle hg h60 hd ho hB1 hB2 hco hf hfl hT hX h7
  go_enter Tryz.func13, Tryz.ntmps13
  go_wp2_with fail
  refine hc.mono ?_
  clear hc
  rintro e W2 ⟨B, aF, cF, g, av, cv, rfl, hb1, hb2, hS, hW, hB3⟩
  obtain ⟨G, rfl, hG1, hG2, hcl⟩ := hW.cellAt (by simp)
  obtain ⟨k1, kS, kW, kB⟩ := behind_good hb2 hS hW
  obtain ⟨a0, m0, c0, y0, yw⟩ := hcl 0 (by simp)
  have HB3 : Hid (Below w.heap.size w (W2.alloc (.cells #[.slice aF (topN all) cF, .map (some g)] 46))) := by
    have h := HB2.out.trans (hB3.mono HB2.out.size)
    exact h.alloc h.size _
  have t0 := k1.1
  have t1 := k1.2
  have y1 := (kB.cell (p := ⟨G, 0, none⟩) hG2).trans y0
  obtain ⟨T, hT⟩ : ∃ T, topN all = T := ⟨_, rfl⟩
  rw [hT] at t0 t1 y1 kS HB3 ⊢
  obtain ⟨W3, hW3⟩ : ∃ W3, W2.alloc (.cells #[.slice aF T cF, .map (some g)] 46) = W3 := ⟨_, rfl⟩
  have HW3 := Hid.mk' hW3
  rw [hT] at kB
  rw [hW3] at t0 t1 y1 kS HB3 kB
  obtain ⟨Q, hQ⟩ : ∃ Q, W2.heap.size = Q := ⟨_, rfl⟩
  have HQ := Hid.mk' hQ
  rw [hQ] at t0 t1
  have HWD : Hid (WordIn (fun b => B ≤ b ∧ b ≠ G) W3 (.slice a0 m0 c0) (ofDim all (d : Int)).length (maskN f) ∧ ShapeAt W3 (.agg #[.slice aF T cF, .map (some g)]) all ∧ TabOk W3 ∧ Below W3.heap.size W3 W3) := ⟨yw.below kB, kS.at, HT.out.below HB3.out, Below.refl _ _⟩
  clear hb1 hb2 hS hW hB3 hG1 hG2 hcl k1 kS kW kB y0 yw hT hW3 hQ
  go_upto_region 4 with fail
  rw [HW3.out, HQ.out]
  go_region_with (first
    | (go_at_call 29; refine (HDE.out _ _ _ _ (by first | exact HWD.out.2.1 | exact HWD.out.2.1.below HWD.out.2.2.2.drew) (by first | exact HWD.out.1 | exact HWD.out.1.below HWD.out.2.2.2.drew) (by first | exact HWD.out.2.2.1 | exact HWD.out.2.2.1.below HWD.out.2.2.2.drew)).mono ?_; rintro e Wd ⟨r, rfl, hr, hbd⟩; obtain ⟨ar, mr, cr, rfl⟩ := hr.form; have HRD : Hid (WordIn (fun b => W3.heap.size ≤ b) Wd (.slice ar mr cr) (ofDim all ((d + 1 : Nat) : Int)).length X ∧ Below W3.heap.size W3 Wd) := ⟨hr, (by first | exact HWD.out.2.2.2.trans hbd | exact HWD.out.2.2.2.drew.trans hbd)⟩; clear hr hbd)
    | (go_at_call 30; refine (told_row _ _ _ _ HRD.out.1 (HWD.out.2.2.1.below HRD.out.2)).mono ?_; rintro e We ⟨u, rfl, hu, hbe⟩; have HUE : Hid (IntsIn (fun b => w.heap.size ≤ b) We u (bitsI X) ∧ Below w.heap.size w We) := ⟨SliceIn.mono hu (fun b _ h => by have h' : Wd.heap.size ≤ b := h; have := HRD.out.2.size; have := HB3.out.size; show w.heap.size ≤ b; omega), (HB3.out.trans (HRD.out.2.mono HB3.out.size)).trans (hbe.mono (by have := HRD.out.2.size; have := HB3.out.size; omega))⟩; obtain ⟨au, cu, rfl, -, -⟩ := hu.open_; clear hu hbe))
  all_goals (
    go_wp2_with fail
    go_ret2
    exact ⟨_, rfl, HUE.out⟩)

end Go.Proofs.YtldknhganoiajaaGreatDoor
