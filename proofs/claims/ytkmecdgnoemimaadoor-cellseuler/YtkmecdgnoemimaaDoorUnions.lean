/- What unions hands on: texts of both, and all of one of each put together. -/
import Derived.Test.YtkmecdgnoemimaaDoorConcat
import Derived.Test.YtkmecdgnoemimaaDoorKept2
import Derived.Test.YtkmecdgnoemimaaDoorBuilt
namespace Go.Proofs.YtkmecdgnoemimaaDoor
open Go.RowKit Go.Shelf Go.Sort Go.Maps Go.Deep

attribute [local go_sem] Oper.semAt_some

theorem SliceIn.cells {S : Nat → Prop} {w w' : World} {v : Value} {cs : List Value} (h : SliceIn S w v cs) (hk : KeepsCells w w') : SliceIn S w' v cs := by
  obtain ⟨a, cap, e, hc, hx⟩ := h
  refine ⟨a, cap, e, hc, fun h0 => ?_⟩
  obtain ⟨b, off, e1, e2, e3⟩ := hx h0
  exact ⟨b, off, e1, e2, fun k u hu => hk.cell (e3 k u hu)⟩

theorem flat_get {α : Type} (f g : List (List α)) (i j : Nat) (hj : j < g.length) : (f.flatMap (fun x => g.map (fun y => x ++ y)))[i * g.length + j]? = (f[i]?).map (fun x => x ++ g[j]) := by
  induction f generalizing i with
  | nil => simp
  | cons x f ih =>
    rw [List.flatMap_cons]
    cases i with
    | zero =>
      rw [Nat.zero_mul, Nat.zero_add, List.getElem?_append_left (by simpa using hj)]
      simp [hj]
    | succ i =>
      rw [List.getElem?_append_right (by simp [Nat.succ_mul]; omega)]
      have e : (i + 1) * g.length + j - (g.map (fun y => x ++ y)).length = i * g.length + j := by simp [Nat.succ_mul]; omega
      rw [e, ih]
      simp
theorem stepU_one {f g : List (List UInt8)} {k : Nat} (hk : k < (f ++ g).length) : (stepU f g)[k]? = some ((f ++ g)[k]?.getD []) := by
  unfold stepU
  rw [List.getElem?_append_left hk, List.getElem?_eq_getElem hk]; rfl
theorem stepU_two {f g : List (List UInt8)} {i j : Nat} (hi : i < f.length) (hj : j < g.length) : (stepU f g)[(f ++ g).length + (i * g.length + j)]? = some ((f[i]?.getD []) ++ (g[j]?.getD [])) := by
  unfold stepU
  rw [List.getElem?_append_right (by omega), Nat.add_sub_cancel_left, flat_get f g i j hj, List.getElem?_eq_getElem hi, List.getElem?_eq_getElem hj]; rfl
theorem stepU_length (f g : List (List UInt8)) : (stepU f g).length = (f ++ g).length + f.length * g.length := by
  unfold stepU
  rw [List.length_append]
  congr 1
  induction f with
  | nil => simp
  | cons x f ih => rw [List.flatMap_cons, List.length_append, ih]; simp [Nat.succ_mul]; omega
theorem take_more {zs : List Fc} {k : Nat} {t : List UInt8} (h : (zs.map Subtype.val)[k]? = some t) : ∃ z : Fc, z.1 = t ∧ k < zs.length ∧ zs.take (k + 1) = zs.take k ++ [z] := by
  rw [List.getElem?_map] at h
  cases hz : zs[k]? with
  | none => rw [hz] at h; cases h
  | some z =>
    rw [hz] at h
    have hk := (List.getElem?_eq_some_iff.1 hz).1
    refine ⟨z, Option.some.inj h, hk, ?_⟩
    rw [List.take_add_one, hz]; rfl

theorem two_row (W : World) (x y : Value) (t : TypeId) : (W.alloc (.cells #[x, y] t)).cell? ⟨W.heap.size, 0, none⟩ = some x ∧ (W.alloc (.cells #[x, y] t)).cell? ⟨W.heap.size, 0 + 1, none⟩ = some y := by
  have h := World.alloc_heap_new W (.cells #[x, y] t)
  constructor
  · unfold World.cell?; rw [h]; rfl
  · unfold World.cell?; rw [h]; rfl

/-- What unions hands on. -/
def unionArgs (B : Nat) : Array Value := #[.pointer (some ⟨B, 0, none⟩), .pointer (some ⟨B + 1, 0, none⟩)]

set_option maxRecDepth 100000 in
set_option maxHeartbeats 4000000 in
theorem unions_rounds (l B n₀ : Nat) (al ah : Option Addr) (cl ch : Nat) (low high : List (List UInt8)) (zs : List Fc) (hz : zs.map Subtype.val = stepU low high) (hll : low.length ≤ 600) (hhl : high.length ≤ 600) (J Jx : List Fc → World → Prop)
    (W : World) (_hn : n₀ ≤ W.heap.size) (hJ : AbidesFrom W.heap.size J) (hY : ∀ pre x W, J pre W → pre.length < zs.length → YieldAt Fence.wide (9 - 1) Tryd.prog l #[encStr x.1] W fun e W' =>
      (e = .returned (.bool true) ∧ J (pre ++ [x]) W' ∧ BelowC n₀ W W') ∨ (e = .returned (.bool false) ∧ Jx (pre ++ [x]) W'))
    (hb1 : W.cell? ⟨B, 0, none⟩ = some (.slice al low.length cl)) (hb2 : W.cell? ⟨B + 1, 0, none⟩ = some (.slice ah high.length ch)) (hlow : Strs W (.slice al low.length cl) low) (hhigh : Strs W (.slice ah high.length ch) high) (h0 : J [] W) :
    CallsIn Fence.wide 9 Tryd.prog 61 #[.func (.yield l) #[] #[], .pointer (some ⟨B, 0, none⟩), .pointer (some ⟨B + 1, 0, none⟩)] W fun e W' => (∃ v, e = .returned v) ∧
      ((∃ ys, ys = zs ∧ J ys W') ∨ (∃ pre, pre <+: zs ∧ Jx pre W')) := by
  have hBr : Below W.heap.size W (W.alloc (.cells #[.slice al low.length cl, .slice ah high.length ch] 52)) := (Below.refl _ W).alloc (Nat.le_refl _) _
  have hrw := two_row W (.slice al low.length cl) (.slice ah high.length ch) 52
  have hcc := concat_two W.heap.size 0 2 al ah cl ch low high (W.alloc (.cells #[.slice al low.length cl, .slice ah high.length ch] 52)) (hlow.below hBr) (hhigh.below hBr) (by omega) (by omega) hrw.1 hrw.2
  have HY : Hid (∀ pre x W, J pre W → pre.length < zs.length → YieldAt Fence.wide (9 - 1) Tryd.prog l #[encStr x.1] W fun e W' =>
      (e = .returned (.bool true) ∧ J (pre ++ [x]) W' ∧ BelowC n₀ W W') ∨ (e = .returned (.bool false) ∧ Jx (pre ++ [x]) W')) := hY
  have HJ : Hid (AbidesFrom W.heap.size J) := hJ
  have HZ : Hid (zs.map Subtype.val = stepU low high) := hz
  have HL : Hid (Strs W (.slice al low.length cl) low ∧ Strs W (.slice ah high.length ch) high) := ⟨hlow, hhigh⟩
  obtain ⟨C, hC⟩ : ∃ C, (low ++ high).length = C := ⟨_, rfl⟩
  have hC1 : C ≤ 1200 := by rw [← hC]; simp; omega
  have HC : Hid ((low ++ high).length = C) := hC
  clear hY hJ hz hlow hhigh hrw hC
  refine callsIn_of_wp Tryd.func61 rfl trivial ?_ rfl
  simp only [Tryd.ntmps61, List.size_toArray, List.length_cons, List.length_nil, Nat.reduceAdd, Nat.reduceSub, Array.replicate_succ, Array.replicate_zero, List.push_toArray, List.append_toArray, List.nil_append, List.cons_append]
  gi_wp2
  refine ⟨trivial, ?_⟩
  refine (callsIn_wide.2 hcc).mono ?_
  clear hcc
  rintro e W1 ⟨vc, rfl, hsc, hBc⟩
  have hB1 : Below W.heap.size W W1 := hBr.trans (hBc.mono hBr.size)
  have HJ0 : Hid (J [] W1) := HJ.out [] W W1 none h0 (Below.grownBy hB1) (fun r e => by cases e)
  obtain ⟨ac, cc, rfl, -, hxc⟩ := hsc.open_
  obtain ⟨al', cl', el, -, hxl⟩ := (HL.out.1.below hB1).open_
  obtain ⟨rfl, rfl⟩ : al = al' ∧ cl = cl' := by simpa using el
  obtain ⟨ah', ch', eh, -, hxh⟩ := (HL.out.2.below hB1).open_
  obtain ⟨rfl, rfl⟩ : ah = ah' ∧ ch = ch' := by simpa using eh
  have hb1' := (hB1.cell (p := ⟨B, 0, none⟩) (cell_lt hb1)).trans hb1
  have hb2' := (hB1.cell (p := ⟨B + 1, 0, none⟩) (cell_lt hb2)).trans hb2
  rw [HC.out] at hxc ⊢
  have HXC : Hid (0 < C → ∃ b off, ac = some ⟨b, off, none⟩ ∧ (W.alloc (.cells #[.slice al low.length cl, .slice ah high.length ch] 52)).heap.size ≤ b ∧ b < W1.heap.size ∧ ∀ k, k < C → W1.cell? ⟨b, off + k, none⟩ = some (encStr ((low ++ high)[k]?.getD []))) := hxc
  have HXL : Hid (0 < low.length → ∃ b off, al = some ⟨b, off, none⟩ ∧ True ∧ b < W1.heap.size ∧ ∀ k, k < low.length → W1.cell? ⟨b, off + k, none⟩ = some (encStr (low[k]?.getD []))) := hxl
  have HXH : Hid (0 < high.length → ∃ b off, ah = some ⟨b, off, none⟩ ∧ True ∧ b < W1.heap.size ∧ ∀ k, k < high.length → W1.cell? ⟨b, off + k, none⟩ = some (encStr (high[k]?.getD []))) := hxh
  obtain ⟨M, hM⟩ : ∃ M, high.length = M := ⟨_, rfl⟩
  obtain ⟨N, hN⟩ : ∃ N, low.length = N := ⟨_, rfl⟩
  have HM : Hid (high.length = M) := hM
  have HN : Hid (low.length = N) := hN
  rw [hM] at hb2' hhl
  rw [hN] at hb1' hll
  clear hxc hxl hxh hsc hBc hB1 hBr el eh h0 hb1 hb2 HL HJ hM hN
  gi_wp2
  gi_loopw [15] (fun p wr => ∃ k : Nat, k ≤ C ∧ p = .int .i64 k ∧ J (zs.take k) wr ∧ KeepsCells W1 wr) (fun p _ => C - (intOf p).toNat)
  case atStart => exact ⟨0, Nat.zero_le _, rfl, HJ0.out, KeepsCells.refl _⟩
  case round =>
    obtain ⟨k, hk, rfl, hJs, hK⟩ := hrel
    obtain ⟨wo, hwo⟩ : ∃ wo : World, wo = wr := ⟨_, rfl⟩
    subst hwo
    have HJs : Hid (J (zs.take k) wo) := hJs
    have HK : Hid (KeepsCells W1 wo) := hK
    clear hJs hK
    by_cases hlt : k < C
    · obtain ⟨b, off, rfl, -, -, hc⟩ := HXC.out (by omega)
      have hcx := HK.out.cell (hc k hlt)
      obtain ⟨z, hze, hkz, htk⟩ := take_more (zs := zs) (k := k) (t := (low ++ high)[k]?.getD []) (by rw [HZ.out]; exact stepU_one (by rw [HC.out]; exact hlt))
      rw [← hze] at hcx
      have HT : Hid (zs.take (k + 1) = zs.take k ++ [z]) := htk
      obtain ⟨fn, tmps, assign, body, hy, hR⟩ := HY.out _ z wo HJs.out (by simp; omega)
      clear hc hze htk
      gi_wp2
      refine hR.mono ?_
      clear hR
      rintro e W3 (⟨rfl, hJ3, hk3⟩ | ⟨rfl, hJx3⟩)
      · have HJ3 : Hid (J (zs.take k ++ [z]) W3) := hJ3
        have HK3 : Hid (KeepsCells W1 W3) := HK.out.trans hk3.2
        clear hJ3 hk3
        gi_wp2
        go_roundw
        case rel => exact ⟨k + 1, by omega, by simp, by rw [HT.out]; exact HJ3.out, HK3.out⟩
        case measure => simp [intOf]; omega
      · gi_wp2
        refine bodyPost_ret (results_none rfl _ _ _) rfl ?_
        exact ⟨⟨_, rfl⟩, .inr ⟨_, by rw [← HT.out]; exact List.take_prefix _ _, hJx3⟩⟩
    · obtain rfl : k = C := by omega
      have hb1w := HK.out.cell hb1'
      clear HXC
      gi_wp2
      gi_loopw [26] (fun p wr => ∃ i : Nat, i ≤ N ∧ p = .int .i64 i ∧ J (zs.take (k + i * M)) wr ∧ KeepsCells W1 wr) (fun p _ => N - (intOf p).toNat)
      case atStart => exact ⟨0, Nat.zero_le _, rfl, by rw [Nat.zero_mul]; exact HJs.out, HK.out⟩
      case round =>
        obtain ⟨i, hi, rfl, hJi, hKi⟩ := hrel
        obtain ⟨wi, hwi⟩ : ∃ wi : World, wi = wr := ⟨_, rfl⟩
        subst hwi
        have HJi : Hid (J (zs.take (k + i * M)) wi) := hJi
        have HKi : Hid (KeepsCells W1 wi) := hKi
        clear hJi hKi HJs HK hb1w
        by_cases hlti : i < N
        · obtain ⟨bl, ol, rfl, -, -, hcl⟩ := HXL.out (by rw [HN.out]; omega)
          have hci := HKi.out.cell (hcl i (by rw [HN.out]; exact hlti))
          have hb2w := HKi.out.cell hb2'
          obtain ⟨f, hf⟩ : ∃ f, low[i]?.getD [] = f := ⟨_, rfl⟩
          rw [hf] at hci
          have HF : Hid (low[i]?.getD [] = f) := hf
          obtain ⟨sf, hsf⟩ : ∃ s : ByteArray, encStr f = .string s := ⟨_, rfl⟩
          rw [hsf] at hci
          have HSF : Hid (encStr f = .string sf) := hsf
          clear hcl hf hsf
          gi_wp2
          gi_loopw [32] (fun p wr => ∃ j : Nat, j ≤ M ∧ p = .int .i64 j ∧ J (zs.take (k + (i * M + j))) wr ∧ KeepsCells W1 wr) (fun p _ => M - (intOf p).toNat)
          case atStart => exact ⟨0, Nat.zero_le _, rfl, HJi.out, HKi.out⟩
          case round =>
            obtain ⟨j, hj, rfl, hJj, hKj⟩ := hrel
            obtain ⟨wj, hwj⟩ : ∃ wj : World, wj = wr := ⟨_, rfl⟩
            subst hwj
            have HJj : Hid (J (zs.take (k + (i * M + j))) wj) := hJj
            have HKj : Hid (KeepsCells W1 wj) := hKj
            clear hJj hKj HJi HKi hb2w hci
            by_cases hltj : j < M
            · obtain ⟨bh, oh, rfl, -, -, hch⟩ := HXH.out (by rw [HM.out]; omega)
              have hcj := HKj.out.cell (hch j (by rw [HM.out]; exact hltj))
              obtain ⟨g, hg⟩ : ∃ g, high[j]?.getD [] = g := ⟨_, rfl⟩
              rw [hg] at hcj
              obtain ⟨sg, hsg⟩ : ∃ s : ByteArray, encStr g = .string s := ⟨_, rfl⟩
              rw [hsg] at hcj
              obtain ⟨z, hze, hkz, htk⟩ := take_more (zs := zs) (k := k + (i * M + j)) (t := f ++ g) (by
                have := stepU_two (f := low) (g := high) (i := i) (j := j) (by rw [HN.out]; exact hlti) (by rw [HM.out]; exact hltj)
                rw [HC.out, HM.out, HF.out, hg] at this
                rw [HZ.out]; exact this)
              have HT : Hid (zs.take (k + (i * M + (j + 1))) = zs.take (k + (i * M + j)) ++ [z]) := htk
              have hzl := z.2.2
              have hsum : encStr z.1 = .string (sf ++ sg) := by
                have h1 := HSF.out
                rw [hze]
                unfold encStr at h1 hsg ⊢
                cases h1; cases hsg
                congr 1
              have hss : (sf ++ sg).size ≤ 1000 := by
                unfold encStr at hsum
                injection hsum with h2
                rw [← h2]; exact hzl
              have hadd : ∀ W, (Op.stringOp .add sf sg).run Tryd.prog W = .ok (.string (sf ++ sg)) W := fun W => run_string_add_sum W _ _ (by simp at hss; omega)
              obtain ⟨fn, tmps, assign, body, hy, hR⟩ := HY.out _ z wj HJj.out (by simp; omega)
              rw [hsum] at hy
              clear hch hg hsg hze htk hss hsum hzl
              gi_wp2
              refine hR.mono ?_
              clear hR
              rintro e W3 (⟨rfl, hJ3, hk3⟩ | ⟨rfl, hJx3⟩)
              · have HJ3 : Hid (J (zs.take (k + (i * M + j)) ++ [z]) W3) := hJ3
                have HK3 : Hid (KeepsCells W1 W3) := HKj.out.trans hk3.2
                clear hJ3 hk3
                gi_wp2
                go_roundw
                case rel => exact ⟨j + 1, by omega, by simp, by rw [HT.out]; exact HJ3.out, HK3.out⟩
                case measure => simp [intOf]; omega
              · gi_wp2
                refine bodyPost_ret (results_none rfl _ _ _) rfl ?_
                exact ⟨⟨_, rfl⟩, .inr ⟨_, by rw [← HT.out]; exact List.take_prefix _ _, hJx3⟩⟩
            · obtain rfl : j = M := by omega
              have HJn : Hid (J (zs.take (k + (i + 1) * j)) wj) := by
                show J (zs.take (k + (i + 1) * j)) wj
                rw [Nat.succ_mul]; exact HJj.out
              gi_wp2
              go_roundw
              case rel => exact ⟨i + 1, by omega, by simp, HJn.out, HKj.out⟩
              case measure => simp [intOf]; omega
        · obtain rfl : i = N := by omega
          have hJe : J zs wi := by
            have h1 := congrArg List.length HZ.out
            rw [List.length_map, stepU_length, HC.out, HN.out, HM.out] at h1
            have h2 := HJi.out
            rw [List.take_of_length_le (by omega)] at h2
            exact h2
          gi_wp2
          go_end0
          exact ⟨⟨_, rfl⟩, .inl ⟨_, rfl, hJe⟩⟩

theorem unions_made (aa ab : Option Addr) (na nb ca cb : Nat) (w : World) :
    Calls Tryd.prog 39 #[.slice aa na ca, .slice ab nb cb] w fun e w' => e = .returned (.func (.func 61) #[] (unionArgs w.heap.size)) ∧ w' = (w.alloc (.cells #[.slice aa na ca] 52)).alloc (.cells #[.slice ab nb cb] 52) := by
  go_enter Tryd.func39, Tryd.ntmps39
  go_wp2
  go_ret
  exact ⟨by simp [unionArgs], rfl⟩

theorem unions_seq (w : World) (al ah : Option Addr) (cl ch : Nat) (low high : List (List UInt8)) (zs : List Fc) (hz : zs.map Subtype.val = stepU low high) (hll : low.length ≤ 600) (hhl : high.length ≤ 600)
    (hlow : Strs w (.slice al low.length cl) low) (hhigh : Strs w (.slice ah high.length ch) high) :
    SeqStopsK Fence.wide 9 Tryd.prog 61 (unionArgs w.heap.size) (fun x : Fc => #[encStr x.1]) (BelowC ((w.alloc (.cells #[.slice al low.length cl] 52)).alloc (.cells #[.slice ah high.length ch] 52)).heap.size) (fun ys => ys = zs) (fun pre => pre <+: zs) zs.length
      ((w.alloc (.cells #[.slice al low.length cl] 52)).alloc (.cells #[.slice ah high.length ch] 52)) := by
  intro l J Jx W2 hW hJ _ hY h0
  have hbx := two_boxes w (.slice al low.length cl) (.slice ah high.length ch) 52 52
  have hB := (two_below w (.slice al low.length cl) (.slice ah high.length ch) 52 52).trans (hW.mono (by rw [two_size]; omega))
  exact unions_rounds l w.heap.size _ al ah cl ch low high zs hz hll hhl J Jx W2 hW.size hJ hY ((hW.cell (p := ⟨w.heap.size, 0, none⟩) (by rw [two_size]; show w.heap.size < w.heap.size + 2; omega)).trans hbx.1.1)
    ((hW.cell (p := ⟨w.heap.size + 1, 0, none⟩) (by rw [two_size]; show w.heap.size + 1 < w.heap.size + 2; omega)).trans hbx.2.1) (hlow.below hB) (hhigh.below hB) h0

end Go.Proofs.YtkmecdgnoemimaaDoor
