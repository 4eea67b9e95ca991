/- What Counts and Euler answer. -/
import Derived.Test.YtbmojlnkjeapkaaGreatDoorCubeParts
import Derived.BigQuiet
import Derived.Deep.QuietTactic
namespace Go.Proofs.YtbmojlnkjeapkaaGreatDoor
open Go.RowKit Go.Sort Go.Maps

theorem MapAt.opened {w : World} {kt : TypeId} {b : Nat} {L : List Lit} (h : MapAt w kt b L) : ∃ es clock, w.heap[b]? = some (.map es clock) ∧ es.size = L.length := by
  obtain ⟨D, ⟨es, clock, hb, F, hs, rfl⟩, h2, h3⟩ := h
  refine ⟨es, clock, hb, ?_⟩
  simp only [Maps.size, length_sorted, List.length_map, Array.length_toList] at h3
  exact h3

theorem map_len {V : World} {b : Nat} {es : Array MapEntry} {ck : Nat} {t k e : TypeId} (ht : Tryz.prog.underlying t = some (.map k e)) (h : V.heap[b]? = some (.map es ck)) (ty : TypeId) : (Builtin.len_ #[t] ty #[.map (some b)]).run Tryz.prog V = .ok (.int .i64 es.size) V := by
  simp [Builtin.len_, run_underlying ht, MapKept.run_getObj_map h, goInt, Result.andThen]

/-- An error's value. -/
def errV (p : Addr) : Value := .iface 172 (.pointer (some p))

/-- What is answered of an image: an error with zeros, or what the image has. -/
def AnswerI (a : Nat → Addr) (m : List (List UInt8)) (bad : Value → Value) (good : Value) (w : World) (e : Ending) (w' : World) : Prop :=
  Below w.heap.size w w' ∧ ((∃ i, BadImg m i ∧ e = .returned (bad (errV (a i)))) ∨ (OkImg m ∧ e = .returned good))

/-- All corners of an image. -/
abbrev cornersI (m : List (List UInt8)) : List Sq := sqTo (wide m + 1) (m.length + 1)
abbrev fullI (m : List (List UInt8)) : Int → Int → Bool := fullAt m (wide m) m.length

def countsV (m : List (List UInt8)) : Value := .tuple #[.int .i64 (cornersN (fullI m) (cornersI m)), .int .i64 (edgesN (fullI m) (cornersI m)), .int .i64 (squaresN (fullI m) (cornersI m)), .nilIface]

set_option maxRecDepth 100000 in
set_option maxHeartbeats 1000000 in
theorem counts_ {a : Nat → Addr} {s : Nat → ByteArray} (vm : Value) (m : List (List UInt8)) (w : World) (hE : Errs a s w) (hm : Strs w vm m) (hl : m.length ≤ 1000) :
    Calls Tryz.prog 34 #[vm] w fun e w' => AnswerI a m (fun v => .tuple #[.int .i64 0, .int .i64 0, .int .i64 0, v]) (countsV m) w e w' := by
  have hval := valid_image vm m w hE hm hl
  have HM : Hid (Strs w vm m) := hm
  clear hE hm
  go_enter Tryz.func34, Tryz.ntmps34
  go_wp2_with fail
  refine hval.mono ?_
  rintro e w1 ⟨hd, ⟨i, hbad, rfl⟩ | ⟨hok, rfl⟩⟩
  · have HB : Hid (Below w.heap.size w w1) := hd.below
    have HI : Hid (BadImg m i) := hbad
    clear hval hd hbad
    go_wp2
    refine bodyPost_ret (v := .tuple #[.int .i64 0, .int .i64 0, .int .i64 0, errV (a i)]) ?_ rfl ⟨HB.out, .inl ⟨i, HI.out, rfl⟩⟩
    simp [results, Tryz.f34, go_sem, errV]
  · have HB : Hid (Below w.heap.size w w1) := hd.below
    have HO : Hid (OkImg m) := hok
    have hpa := parts_of vm m w1 (HM.out.below hd.below) hok.img.1 hok.img.2.1 hok.img.2.2.1
    clear hval hd hok
    go_wp2_with fail
    refine hpa.mono ?_
    rintro e w2 ⟨b1, b2, av, cv, rfl, hM1, hM2, -, -, hB2⟩
    obtain ⟨es1, ck1, hh1, hs1⟩ := hM1.map.opened
    obtain ⟨es2, ck2, hh2, hs2⟩ := hM2.map.opened
    have HS : Hid (es1.size = cornersN (fullI m) (cornersI m) ∧ es2.size = edgesN (fullI m) (cornersI m)) := ⟨hs1.trans (by rw [List.length_map, cornersL_len]), hs2.trans (by rw [List.length_map, edgesL_len])⟩
    obtain ⟨n, hn⟩ : ∃ n, (squaresL (fullAt m (wide m) m.length) (sqTo (wide m + 1) (m.length + 1))).length = n := ⟨_, rfl⟩
    have HNN : Hid (squaresN (fullI m) (cornersI m) = n) := by show squaresN _ _ = n; rw [← squaresL_len]; exact hn
    have HB2 : Hid (Below w1.heap.size w1 w2) := hB2
    rw [hn]
    have hl1 := hM1.lt
    have hl2 := hM2.lt
    clear hpa hM1 hM2 hs1 hs2 hn hB2
    go_upto_region 5 with fail
    have g1 := (Below.heap_alloc w2 (.cells #[.map (some b1), .map (some b2), .slice av n cv] 56) b1 hl1).trans hh1
    have g2 := (Below.heap_alloc w2 (.cells #[.map (some b1), .map (some b2), .slice av n cv] 56) b2 hl2).trans hh2
    have q : ∀ j u, [Value.map (some b1), .map (some b2), .slice av n cv][j]? = some u → (w2.alloc (.cells #[.map (some b1), .map (some b2), .slice av n cv] 56)).cell? ⟨w2.heap.size, j, none⟩ = some u := fun j u hu => by
      have := cells_new w2 [.map (some b1), .map (some b2), .slice av n cv] 56 j u hu
      rw [Addr.add_lit, Nat.zero_add] at this
      exact this
    have q0 := q 0 _ rfl
    have q1 := q 1 _ rfl
    have q2 := q 2 _ rfl
    have HB3 : Hid (Below w2.heap.size w2 (w2.alloc (.cells #[.map (some b1), .map (some b2), .slice av n cv] 56))) := (Below.refl _ w2).alloc (Nat.le_refl _) _
    obtain ⟨W3, hW3⟩ : ∃ W3, w2.alloc (.cells #[.map (some b1), .map (some b2), .slice av n cv] 56) = W3 := ⟨_, rfl⟩
    obtain ⟨pb, hpb⟩ : ∃ pb, w2.heap.size = pb := ⟨_, rfl⟩
    rw [hW3, hpb] at q0 q1 q2
    rw [hW3] at g1 g2 HB3
    rw [hW3, hpb]
    clear q hW3 hh1 hh2 hl1 hl2
    go_region_held3 (fun V => (V.cell? ⟨pb, 0, none⟩ = some (.map (some b1)) ∧ V.cell? ⟨pb, 1, none⟩ = some (.map (some b2)) ∧ V.cell? ⟨pb, 2, none⟩ = some (.slice av n cv)) ∧ V.heap[b1]? = some (.map es1 ck1) ∧ V.heap[b2]? = some (.map es2 ck2) ∧ (∀ ty, (Builtin.len_ #[52] ty #[.map (some b1)]).run Tryz.prog V = .ok (.int .i64 es1.size) V) ∧ (∀ ty, (Builtin.len_ #[53] ty #[.map (some b2)]).run Tryz.prog V = .ok (.int .i64 es2.size) V)) (first | exact ⟨⟨by assumption, by assumption, by assumption⟩, by assumption, by assumption, map_len Tryz.underlying52 (by assumption), map_len Tryz.underlying53 (by assumption)⟩ | go_keep) (fail)
    all_goals go_wp2_with fail
    all_goals refine bodyPost_ret (v := countsV m) ?_ rfl ⟨?_, .inr ⟨HO.out, rfl⟩⟩
    · simp [results, Tryz.f34, go_sem, countsV, HS.out.1, HS.out.2, HNN.out]
    · exact (HB.out.trans ((HB2.out.trans (HB3.out.mono HB2.out.size)).mono HB.out.size)).drew

theorem counts_le (m : List (List UInt8)) (h : OkImg m) : cornersN (fullI m) (cornersI m) ≤ 625 ∧ edgesN (fullI m) (cornersI m) ≤ 1250 ∧ squaresN (fullI m) (cornersI m) ≤ 625 := by
  have hl : (cornersI m).length ≤ 625 := by
    rw [sqTo_len]
    have := h.img.2.1
    have := h.img.2.2.1
    exact Nat.mul_le_mul (show m.length + 1 ≤ 25 by omega) (show wide m + 1 ≤ 25 by omega)
  have h1 := List.countP_le_length (p := cornerB (fullI m)) (l := cornersI m)
  have h2 := List.countP_le_length (p := rightB (fullI m)) (l := cornersI m)
  have h3 := List.countP_le_length (p := downB (fullI m)) (l := cornersI m)
  have h4 := List.countP_le_length (p := hereB (fullI m)) (l := cornersI m)
  unfold cornersN edgesN squaresN
  omega

/-- EULER's number. -/
def eulerI (m : List (List UInt8)) : Int := (cornersN (fullI m) (cornersI m) : Int) - (edgesN (fullI m) (cornersI m) : Int) + (squaresN (fullI m) (cornersI m) : Int)

set_option maxRecDepth 100000 in
set_option maxHeartbeats 1000000 in
theorem euler_i {a : Nat → Addr} {s : Nat → ByteArray} (vm : Value) (m : List (List UInt8)) (w : World) (hE : Errs a s w) (hm : Strs w vm m) (hl : m.length ≤ 1000) :
    Calls Tryz.prog 17 #[vm] w fun e w' => AnswerI a m (fun v => .tuple #[.int .i64 0, v]) (.tuple #[.int .i64 (eulerI m), .nilIface]) w e w' := by
  have hval := counts_ vm m w hE hm hl
  clear hE hm
  go_enter Tryz.func17, Tryz.ntmps17
  go_wp2_with fail
  refine hval.mono ?_
  rintro e w1 ⟨hB, ⟨i, hbad, rfl⟩ | ⟨hok, rfl⟩⟩
  · have HB : Hid (Below w.heap.size w w1) := hB
    have HI : Hid (BadImg m i) := hbad
    unfold errV
    clear hval hB hbad
    go_wp2
    go_ret2
    exact ⟨HB.out, .inl ⟨i, HI.out, rfl⟩⟩
  · have HB : Hid (Below w.heap.size w w1) := hB
    have HO : Hid (OkImg m) := hok
    have hle := counts_le m hok
    have HE : Hid (eulerI m = (cornersN (fullI m) (cornersI m) : Int) - (edgesN (fullI m) (cornersI m) : Int) + (squaresN (fullI m) (cornersI m) : Int)) := rfl
    unfold countsV
    obtain ⟨c, hc⟩ : ∃ c, cornersN (fullI m) (cornersI m) = c := ⟨_, rfl⟩
    obtain ⟨d, hd⟩ : ∃ d, edgesN (fullI m) (cornersI m) = d := ⟨_, rfl⟩
    obtain ⟨n, hn⟩ : ∃ n, squaresN (fullI m) (cornersI m) = n := ⟨_, rfl⟩
    rw [hc, hd, hn] at HE hle
    rw [hc, hd, hn]
    have e1 : IntKind.i64.wrap ((c : Int) - (d : Int)) = (c : Int) - (d : Int) := wrapI (by omega) (by omega)
    have e2 : IntKind.i64.wrap ((c : Int) - (d : Int) + (n : Int)) = (c : Int) - (d : Int) + (n : Int) := wrapI (by omega) (by omega)
    clear hval hB hok hc hd hn
    go_wp2
    go_ret2
    exact ⟨HB.out, .inr ⟨HO.out, by rw [HE.out]; rfl⟩⟩

end Go.Proofs.YtbmojlnkjeapkaaGreatDoor
