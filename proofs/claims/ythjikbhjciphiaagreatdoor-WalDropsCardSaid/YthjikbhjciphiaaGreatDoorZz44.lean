/-
  The program's journal and disk: all the contracts that the statements ask for but Drop's.
-/
import Derived.Test.YthjikbhjciphiaaGreatDoorZz37
import Derived.Test.YthjikbhjciphiaaGreatDoorZz41
import Derived.Test.YthjikbhjciphiaaGreatDoorZz43
import Derived.Test.YthjikbhjciphiaaGreatDoorZz26
import Derived.Deep.RegionHeld3
import Derived.Deep.CutRange
import Derived.Test.YthjikbhjciphiaaGreatDoorZz33
import Derived.Test.YthjikbhjciphiaaGreatDoorZz34
import Derived.Test.YthjikbhjciphiaaGreatDoorZz39
import Derived.Test.YthjikbhjciphiaaGreatDoorZz15
import Derived.LaidMore
import Derived.Stop.Joined
import Derived.Stop.LaidErr
import Derived.Lib.LaidTab
namespace Go.Proofs.YthjikbhjciphiaaGreatDoor
open Go.RowKit
set_option linter.unusedVariables false
set_option linter.unusedSimpArgs false

/-- The library's variables stand, whatever turns at N and behind. -/
def SVn (N : Nat) (w : World) : Prop := ∀ w', Turn (fun k => N ≤ k) w w' → SV w'
def PDn (N : Nat) (w : World) (S : Nat → Prop) (q : Nat) (m : Dk) : Prop := PD w S q m ∧ ∀ k, S k → N ≤ k
theorem SVn.sv {N : Nat} {w : World} (h : SVn N w) : SV w := h w (Turn.refl _ _)
theorem okj_okd {m : Dk} (h : OkJ m) : OkD 200 m := by
  obtain ⟨hx, hf, hs, own, pre, R0, cur, hH⟩ := h
  exact okd_of hH hx (by omega) (by omega) (by omega)
theorem OkJ.good {m : Dk} (h : OkJ m) : GoodD m := (okj_okd h).good (by omega)
section
variable {N : Nat} {w w' : World} {S S' T : Nat → Prop} {p q : Nat} {m : Dk} {j : Jn}
theorem PDn.lt (h : PDn N w S q m) : S q ∧ ∀ k, S k → N ≤ k ∧ k < w.heap.size := by
  obtain ⟨⟨_, _, _, _, _, hp⟩, hn⟩ := h
  exact ⟨hp.sq, fun k hk => ⟨hn k hk, hp.lt k hk⟩⟩
theorem PDn.big (h : PDn N w S q m) : N ≤ w.heap.size := by
  have := h.lt
  have h2 := this.2 q this.1
  omega
theorem LAn.lt (h : LAn N w T p q j) : T p ∧ ∀ k, T k → N ≤ k ∧ k < w.heap.size := by
  obtain ⟨hn, A, c, hL⟩ := h
  refine ⟨hL.here.1, fun k hk => ?_⟩
  have := hL.here.2 k hk
  omega
theorem LAn.big (h : LAn N w T p q j) : N ≤ w.heap.size := by
  have := h.lt
  have h2 := this.2 p this.1
  omega
end

theorem walC_all (N : Nat) : WalC N (SVn N) (PDn N) (LAn N) where
  iturn := fun {w w' S} h ht hS => fun w'' ht2 => h w'' ((ht.mono hS).trans ht2)
  dturn := fun {w w' S S' q m} h ht hS => ⟨h.1.turn ht fun k hk => (hS k hk).2, h.2⟩
  lturn := fun {w w' T S' p q j} h ht hS => by
    obtain ⟨hn, A, c, hL⟩ := h
    exact ⟨hn, A, c, hL.turn ht fun k hk => (hS k hk).2⟩
  dhere := fun h => h.lt
  lhere := fun h => h.lt
  new := fun W cap hI hN h1 h2 => (pnew_any W cap h2).mono fun e W' ⟨q, S, he, hP, hS, hb⟩ => ⟨q, S, he, ⟨hP, fun k hk => Nat.le_trans hN (hS k hk)⟩, hS, hb⟩
  arm := fun W S q m n keep h hO hn => by
    have hl := h.lt
    obtain ⟨⟨mb, l, kp, L, G, hp⟩, hN⟩ := h
    refine (parm_any W n keep hn hp).mono ?_
    rintro e W' ⟨he, hp2, ht⟩
    exact ⟨S, he, ⟨⟨mb, n, keep, L, G, hp2⟩, hN⟩, fun k hk => .inl hk, ht.mono fun k hk => by rw [hk]; exact hl.1⟩
  crash := fun W S q m keep h hO => by
    obtain ⟨⟨mb, l, kp, L, G, hp⟩, hN⟩ := h
    refine (pcrash_any W keep hp hO.good).mono ?_
    rintro e W' ⟨he, ⟨G', hp2⟩, ht⟩
    exact ⟨S, he, ⟨⟨mb, 0, 0, L, G', hp2⟩, hN⟩, fun k hk => .inl hk, ht⟩
  up := fun W S q m h hO => by
    have hl := h.lt
    obtain ⟨⟨mb, l, kp, L, G, hp⟩, hN⟩ := h
    refine (pup_any W hp).mono ?_
    rintro e W' ⟨he, hp2, ht⟩
    exact ⟨S, he, ⟨⟨mb, l, kp, L, G, hp2⟩, hN⟩, fun k hk => .inl hk, ht.mono fun k hk => by rw [hk]; exact hl.1⟩
  down := fun W S q m h hO => by
    obtain ⟨⟨mb, l, kp, L, G, hp⟩, hN⟩ := h
    exact pdown_any W hp
  size := fun W S q m h hO => by
    obtain ⟨⟨mb, l, kp, L, G, hp⟩, hN⟩ := h
    exact psize_any W hp (by have := hO.2.2.1; omega)
  calls := fun W S q m h hO => by
    obtain ⟨⟨mb, l, kp, L, G, hp⟩, hN⟩ := h
    exact pcalls_any W hp
  opens := fun W S q m next hI h hO hup hnx hs => by
    have hbig := h.big
    have hO2 := hO
    obtain ⟨_, _, _, own, pre, R0, cur, hH⟩ := hO2
    refine (lopen_any W S q m next own pre R0 cur hI.sv h.1 hO hH hup hnx hs).mono ?_
    rintro e W' ⟨p, A, n, c, he, hL, hp, hR, h1, h2, hb⟩
    exact ⟨p, fun k => k = p, A, n, c, he, ⟨by omega, none, 0, hL⟩, fun k hk => by rw [hk]; exact hp, hR, h1, h2, hb⟩
  downs := fun W S q m next hI h hO hd hnx => (lopen_down W S q m next h.1 hd).mono fun e W' ⟨he, hw⟩ => ⟨_, he, by rw [hw]; exact Below.refl _ _⟩
  nones := fun W next hI hnx => (lopen_nil W next).mono fun e W' ⟨he, hw⟩ => ⟨_, he, by rw [hw]; exact Below.refl _ _⟩
  put := fun W T p q j s k X l n b hI h hs hbl ho hX => by
    have hbig := h.big
    obtain ⟨hn, A, c, hL⟩ := h
    refine (lput_any W T p q c j A s k X l n b hL hI.sv.1 hs hbl ho hX).mono ?_
    rintro e W' ⟨T', A', c', he, hL2, hT, ht⟩
    exact ⟨T', he, ⟨hn, A', c', hL2⟩, hT, ht⟩
  commit := fun W S T p q m j hI hD h hd hO hbl hok hH hsz hup how => by
    have hb1 := hD.big
    have hT := h.lt
    have hS := hD.lt
    obtain ⟨hn, A, c, hL⟩ := h
    obtain ⟨pre, R0, cur, hH⟩ := hH
    refine (lcommit_any W S T p q c m j A pre R0 cur hI.sv (fun w hw => hI w (hw.mono fun k hk => by
      rcases hk with h1 | h1
      · exact (hS.2 k h1).1
      · exact (hT.2 k h1).1)) hD.1 hL hd hO hbl hok hH hsz hup how).mono ?_
    rintro e W' ⟨he, S', T', A', c', hP2, hL2, hd2, hS2, hT2, ht⟩
    refine ⟨S', T', he, ⟨hP2, fun k hk => ?_⟩, ⟨hn, A', c', hL2⟩, hd2, hS2, hT2, ht⟩
    rcases hS2 k hk with h1 | h1
    · exact (hS.2 k h1).1
    · omega
  next := fun W T p q j h => by
    obtain ⟨hn, A, c, hL⟩ := h
    exact lnext_any W hL
  sure := fun W T p q j h => by
    obtain ⟨hn, A, c, hL⟩ := h
    exact lsure_any W hL
  waits := fun W T p q j h => by
    obtain ⟨hn, A, c, hL⟩ := h
    exact lwaits_any W hL
  putNil := fun W s k X l n b => lput_nil W s k X l n b
  commitNil := fun W => lcommit_nil W
  nextNil := fun W => lnext_nil W
  sureNil := fun W => lsure_nil W
  waitsNil := fun W => lwaits_nil W
  dropNil := fun W s hs => (ldrop_nil W s).mono fun e W' ⟨he, hw⟩ => ⟨he, by rw [hw]; exact Below.refl _ _⟩

end Go.Proofs.YthjikbhjciphiaaGreatDoor

/-
  The program's journal: drop, of one segment.
-/
namespace Go.Proofs.YthjikbhjciphiaaGreatDoor
open Go.RowKit
set_option linter.unusedVariables false
set_option linter.unusedSimpArgs false

/-- A Remove on a disk that is not armed. -/
theorem do_remove (m : Dk) (h : m.down = false) (ha : m.armed = false) (name : List UInt8) (ht : targetB name = true) (hf : (lookF name m.files).isSome = true) :
    ∃ m1 : Dk, doD m ⟨4, name, [], [], 0, 0⟩ = (0, m1) ∧ m1.files = withoutF name m.files ∧ m1.down = false ∧ m1.armed = false := by
  have e : doD m ⟨4, name, [], [], 0, 0⟩ = if (beginD m).1 then callD (beginD m).2 ⟨4, name, [], [], 0, 0⟩ else (19, (beginD m).2) := by
    unfold doD isCall
    simp
  rw [e]
  rcases begin_cases m h with ⟨hb, harm⟩ | ⟨m1, hb, h1, h2, h3, h4⟩
  · rw [ha] at harm; cases harm
  · rw [hb]
    have e3 : (if (true, m1).1 then callD (true, m1).2 ⟨4, name, [], [], 0, 0⟩ else (19, (true, m1).2)) = callD m1 ⟨4, name, [], [], 0, 0⟩ := rfl
    rw [e3]
    unfold callD
    rw [ht, h1, hf]
    simp only [Bool.not_true, Bool.false_or]
    rw [if_neg (by simp), if_neg (by decide), if_neg (by decide), if_neg (by decide), if_neg (by decide)]
    exact ⟨_, rfl, rfl, h3, h4.trans ha⟩
theorem without_sg (L : List (Nat × List UInt8)) (x : Nat) (h64 : ∀ p ∈ L, p.1 < 18446744073709551616) (hx : x < 18446744073709551616) : withoutF (nameL x) (L.map sgF) = (L.filter fun p => decide (p.1 ≠ x)).map sgF := by
  induction L with
  | nil => rfl
  | cons a t ih =>
    have h1 := ih fun p hp => h64 p (List.mem_cons_of_mem _ hp)
    have ha := h64 a List.mem_cons_self
    unfold withoutF at h1 ⊢
    rw [List.map_cons, List.filter_cons, List.filter_cons, h1]
    by_cases hax : a.1 = x
    · have e : (sgF a).name = nameL x := by show nameL a.1 = _; rw [hax]
      simp [hax, e]
    · have e : ¬ (sgF a).name = nameL x := by
        show ¬ nameL a.1 = nameL x
        intro e
        have h3 := num_name a.1 ha
        rw [e, num_name x hx] at h3
        exact hax (congrArg Prod.fst h3).symm
      simp [hax, e]

def D1Post (W : World) (S : Nat → Prop) (q s : Nat) (m : Dk) (L : List (Nat × List UInt8)) (p : Nat × List UInt8) (W' : World) : Prop :=
  ∃ S' m', PD W' S' q m' ∧ m'.files = (if dropK s p = true then L else L.filter fun x => decide (x.1 ≠ p.1)).map sgF ∧ m'.down = false ∧ m'.armed = false ∧ (∀ k, OkX k m → OkX (k + 1) m') ∧ (∀ k, S' k → S k ∨ W.heap.size ≤ k) ∧ Turn S W W'

set_option maxRecDepth 100000 in
set_option maxHeartbeats 1000000 in
theorem ldrop1_any (W : World) (S : Nat → Prop) (q s : Nat) (m : Dk) (L : List (Nat × List UInt8)) (p : Nat × List UInt8) (T0 : ByteArray) (hT0 : (⟨(nameL p.1).toArray⟩ : ByteArray) = T0) (hS : SV W) (hP : PD W S q m) (hOk : OkD 200 m) (hfs : m.files = L.map sgF) (hr : (L.map Prod.fst).Pairwise (· < ·)) (h64 : ∀ p ∈ L, p.1 < 18446744073709551616) (hp : p ∈ L) (hup : m.down = false) (harm : m.armed = false) (hs : s < 18446744073709551616) (hpl : p.2.length ≤ 40000) :
    Calls Tryz.prog 40 #[.pointer (some ⟨q, 0, none⟩), .string T0, .int .u64 ((s : Nat) : Int)] W fun e W' => e = .returned (.int .i64 0) ∧ D1Post W S q s m L p W' := by
  have hlk : lookF (nameL p.1) m.files = some (sgF p) := by rw [hfs]; exact look_all L p hr h64 hp
  have hrd : readD m (nameL p.1) = (0, p.2) := by
    unfold readD
    rw [hup, hlk]
    rfl
  have hRd := pread_any W S q m (nameL p.1) hP hOk (by rw [nameL_len]; omega)
  rw [hrd, hT0] at hRd
  simp only at hRd
  have hRm := fun W1 S1 (h1 : PD W1 S1 q m) => prem_any W1 S1 q m (nameL p.1) h1 hOk (by rw [nameL_len]; omega)
  obtain ⟨m1, hm1, hf1, hd1, ha1⟩ := do_remove m hup harm (nameL p.1) (target_name p.1) (by rw [hlk]; rfl)
  have hox : ∀ k, OkX k m → OkX (k + 1) m1 := fun k hk => by
    have := hk.does ⟨4, nameL p.1, [], [], 0, 0⟩ rfl
    rw [hm1] at this
    exact this
  rw [hm1, hT0] at hRm
  rw [hfs, without_sg L p.1 h64 (h64 p hp)] at hf1
  obtain ⟨b, hb⟩ : ∃ b, p.2 = b := ⟨_, rfl⟩
  have hdk : dropK s p = match (segsR [] [b]).getLast? with | some r => decide (s < r.seq) | none => false := by
    unfold dropK
    rw [hb]
    rfl
  rw [hb] at hRd hpl
  obtain ⟨RR, hRR⟩ : ∃ RR, segsR [] [b] = RR := ⟨_, rfl⟩
  have hrl : RR.length ≤ 40000 := by
    rw [← hRR]
    have h1 := segsR_len [b] []
    unfold sumL at h1
    simp at h1
    omega
  rw [hRR] at hdk
  have HH := Lib.hid (And.intro hP (And.intro hRR (And.intro hdk (And.intro hf1 (And.intro hd1 (And.intro ha1 (And.intro hox (And.intro hS (And.intro hfs (And.intro hup harm))))))))))
  clear hP hOk hfs hr h64 hp hup harm hlk hrd hm1 hf1 hd1 ha1 hox hRR hdk hT0 hS hb
  go_enter Tryz.func40, Tryz.ntmps40
  go_wp2_with fail
  refine hRd.mono ?_
  rintro e w1 ⟨v1, rfl, ho1, hb1⟩
  obtain ⟨A1, c1, rfl, q1, q2, q3⟩ := own_form ho1
  have hba : Below w1.heap.size w1 (w1.alloc (.cells #[.slice A1 b.length c1] 70)) := (Below.refl _ w1).alloc (Nat.le_refl _) _
  have hL1 : Lst (w1.alloc (.cells #[.slice A1 b.length c1] 70)) (fun k => (w1.alloc (.cells #[.slice A1 b.length c1] 70)).heap.size ≤ k) (some ⟨w1.heap.size, 0, none⟩) 1 [b] := by
    have hBk : Blk (w1.alloc (.cells #[.slice A1 b.length c1] 70)) w1.heap.size 70 [.slice A1 b.length c1] := Blk.new w1 _ _ rfl
    have hy : BytS (w1.alloc (.cells #[.slice A1 b.length c1] 70)) (fun k => (w1.alloc (.cells #[.slice A1 b.length c1] 70)).heap.size ≤ k) A1 b.length b := by
      have h1 := (Byt.of_own ho1)
      refine ⟨rfl, fun hn => ?_⟩
      obtain ⟨g, o, e, hg, hc⟩ := h1.2 hn
      refine ⟨g, o, e, ?_, fun j x hx => ?_⟩
      · show ¬ _ ≤ g
        rw [World.size_alloc]
        omega
      · have h2 := hc j x hx
        exact (hba.cell (p := ⟨g, o + j, none⟩) hg).trans h2
    refine ⟨rfl, bts_one _, fun _ => ⟨w1.heap.size, 0, rfl, ?_, hBk.lt, fun j f hj => ?_⟩⟩
    · show ¬ _ ≤ w1.heap.size
      rw [World.size_alloc]
      omega
    · match j, hj with
      | 0, hj =>
        have hf : f = [.byt b] := (Option.some.inj hj).symm
        subst hf
        refine ⟨[.slice A1 b.length c1], ⟨_, [], rfl, ⟨A1, b.length, c1, rfl, hy, q1, q2, q3⟩, rfl⟩, fun i y hy2 => ?_⟩
        have := hBk.cell i
        simpa using this.trans hy2
      | j + 1, hj => simp [bts] at hj
  have hsr := srecords_any (some ⟨w1.heap.size, 0, none⟩) 1 1 [b] _ (HH.out.2.2.2.2.2.2.2.1.below (hb1.trans (hba.mono hb1.size))) hL1 (by unfold sumL; simp; omega) (by omega)
  rw [HH.out.2.1] at hsr
  have HB1 := Lib.hid (hb1.trans (hba.mono hb1.size))
  clear hRd ho1 hb1 q1 q2 q3 hba hL1
  go_wp2_with fail
  refine hsr.mono ?_
  rintro e w2 ⟨A2, k, c2, rfl, hR2, hb2⟩
  have hk := hR2.len
  have hb02 : Below W.heap.size W w2 := HB1.out.trans (hb2.mono HB1.out.size)
  have hP2 := HH.out.1.below hb02
  have hRm2 := hRm w2 S hP2
  have H2 := Lib.hid (And.intro hP2 (And.intro hb02 hk))
  have hk9 : k ≤ 40000 := by omega
  by_cases h0 : k = 0
  · subst h0
    have hdk : dropK s p = false := by
      rw [HH.out.2.2.1, List.eq_nil_of_length_eq_zero hk]
      rfl
    have HD := Lib.hid hdk
    clear hsr hR2 hb2 hP2 hb02 hk hRm hdk
    go_wp2_with fail
    refine hRm2.mono ?_
    rintro e w3 ⟨S3, rfl, hP3, hS3, ht3⟩
    have H3 := Lib.hid (And.intro hP3 (And.intro hS3 ht3))
    clear hRm2 hP3 hS3 ht3
    go_wp2_with fail
    go_ret
    refine ⟨rfl, S3, m1, H3.out.1, by rw [HD.out, if_neg (by decide)]; exact HH.out.2.2.2.1, HH.out.2.2.2.2.1, HH.out.2.2.2.2.2.1, HH.out.2.2.2.2.2.2.1, fun x hx => ?_, (Turn.of_below H2.out.2.1).trans H3.out.2.2⟩
    rcases H3.out.2.1 x hx with h | h
    · exact .inl h
    · exact .inr (Nat.le_trans H2.out.2.1.size h)
  · obtain ⟨r, hr⟩ : ∃ r, RR[k - 1]? = some r := ⟨_, List.getElem?_eq_getElem (by omega)⟩
    obtain ⟨g, o, rfl, _, _, f0, _⟩ := Rcs.at_ hR2 hr
    have hdk : dropK s p = decide (s < r.seq) := by
      rw [HH.out.2.2.1, List.getLast?_eq_getElem?, hk, hr]
    obtain ⟨z, hz⟩ : ∃ z, k - 1 = z := ⟨_, rfl⟩
    rw [hz] at f0
    have t1 : (k : Int) - 1 = (z : Int) := by omega
    have t2 : (0 : Int) < (k : Int) := by omega
    have t3 : z < k := by omega
    have t4 : (z : Int) < (k : Int) := by omega
    obtain ⟨y, hy⟩ : ∃ y, r.seq = y := ⟨_, rfl⟩
    rw [hy] at f0 hdk
    by_cases hsy : s < y
    · have t5 : (s : Int) < (y : Int) := by omega
      rw [decide_eq_true hsy] at hdk
      have HD := Lib.hid hdk
      clear hsr hR2 hb2 hP2 hb02 hk hRm hdk hr hz hy hsy h0 hRm2
      go_wp2_with fail
      go_ret
      refine ⟨rfl, S, m, H2.out.1, by rw [HD.out, if_pos rfl]; exact HH.out.2.2.2.2.2.2.2.2.1, HH.out.2.2.2.2.2.2.2.2.2.1, HH.out.2.2.2.2.2.2.2.2.2.2, fun k hk => ⟨by have := hk.1; omega, hk.2⟩, fun x hx => .inl hx, Turn.of_below H2.out.2.1⟩
    · have t5 : ¬ (s : Int) < (y : Int) := by omega
      rw [decide_eq_false hsy] at hdk
      have HD := Lib.hid hdk
      clear hsr hR2 hb2 hP2 hb02 hk hRm hdk hr hz hy hsy h0
      go_wp2_with fail
      refine hRm2.mono ?_
      rintro e w3 ⟨S3, rfl, hP3, hS3, ht3⟩
      have H3 := Lib.hid (And.intro hP3 (And.intro hS3 ht3))
      clear hRm2 hP3 hS3 ht3
      go_wp2_with fail
      go_ret
      refine ⟨rfl, S3, m1, H3.out.1, by rw [HD.out, if_neg (by decide)]; exact HH.out.2.2.2.1, HH.out.2.2.2.2.1, HH.out.2.2.2.2.2.1, HH.out.2.2.2.2.2.2.1, fun x hx => ?_, (Turn.of_below H2.out.2.1).trans H3.out.2.2⟩
      rcases H3.out.2.1 x hx with h | h
      · exact .inl h
      · exact .inr (Nat.le_trans H2.out.2.1.size h)

end Go.Proofs.YthjikbhjciphiaaGreatDoor

/-
  The program's journal: Drop.
-/
namespace Go.Proofs.YthjikbhjciphiaaGreatDoor
open Go.RowKit
set_option linter.unusedVariables false
set_option linter.unusedSimpArgs false

/-- A journal's own segment, if it has one. -/
def ownP (own : Nat) (cur : List Rc) : List (Nat × List UInt8) := if cur = [] then [] else [(own, segB cur)]
/-- The segments behind k of them were gone through. -/
def lkP (pre tp : List (Nat × List UInt8)) (s k : Nat) : List (Nat × List UInt8) := (pre.take k).filter (dropK s) ++ (pre.drop k ++ tp)
theorem lk_sub (pre tp : List (Nat × List UInt8)) (s k : Nat) : (lkP pre tp s k).Sublist (pre ++ tp) := by
  have e : pre ++ tp = pre.take k ++ (pre.drop k ++ tp) := by rw [← List.append_assoc, List.take_append_drop]
  rw [e]
  exact List.Sublist.append (List.filter_sublist (p := dropK s) (l := pre.take k)) (List.Sublist.refl (pre.drop k ++ tp))
theorem size_sg (L : List (Nat × List UInt8)) : sizeF (L.map sgF) = (L.map fun p => p.2.length).sum := by
  unfold sizeF
  rw [List.map_map]
  rfl
theorem sub_sum {L M : List (Nat × List UInt8)} (h : L.Sublist M) : (L.map fun p => p.2.length).sum ≤ (M.map fun p => p.2.length).sum := by
  induction h with
  | slnil => exact Nat.le_refl _
  | cons a _ ih => simp; omega
  | cons_cons a _ ih => simp; omega
theorem lk_step (pre tp : List (Nat × List UInt8)) (s k : Nat) (p : Nat × List UInt8) (hp : pre[k]? = some p) (hr : ((pre ++ tp).map Prod.fst).Pairwise (· < ·)) : (if dropK s p = true then lkP pre tp s k else (lkP pre tp s k).filter fun x => decide (x.1 ≠ p.1)) = lkP pre tp s (k + 1) := by
  obtain ⟨hk, hpe⟩ := List.getElem?_eq_some_iff.1 hp
  have hd : pre.drop k = p :: pre.drop (k + 1) := by rw [← hpe]; exact List.drop_eq_getElem_cons hk
  have ht : pre.take (k + 1) = pre.take k ++ [p] := by rw [List.take_add_one, hp]; rfl
  have er : lkP pre tp s (k + 1) = (pre.take k).filter (dropK s) ++ ((if dropK s p = true then [p] else []) ++ (pre.drop (k + 1) ++ tp)) := by
    unfold lkP
    rw [ht, List.filter_append, List.append_assoc, List.filter_cons]
    rfl
  have el : lkP pre tp s k = (pre.take k).filter (dropK s) ++ (p :: (pre.drop (k + 1) ++ tp)) := by
    unfold lkP
    rw [hd, List.cons_append]
  rw [er, el]
  cases hq : dropK s p with
  | true => rfl
  | false =>
    have hall : pre ++ tp = pre.take k ++ (p :: (pre.drop (k + 1) ++ tp)) := by
      rw [← List.cons_append, ← hd, ← List.append_assoc, List.take_append_drop]
    rw [hall, List.map_append, List.map_cons, List.pairwise_append] at hr
    obtain ⟨_, h2, h3⟩ := hr
    have h4 := (List.pairwise_cons.1 h2).1
    have e1 : ((pre.take k).filter (dropK s)).filter (fun x => decide (x.1 ≠ p.1)) = (pre.take k).filter (dropK s) := by
      refine List.filter_eq_self.2 fun x hx => decide_eq_true ?_
      have h5 := h3 x.1 (List.mem_map_of_mem (List.mem_filter.1 hx).1) p.1 List.mem_cons_self
      omega
    have e2 : (pre.drop (k + 1) ++ tp).filter (fun x => decide (x.1 ≠ p.1)) = pre.drop (k + 1) ++ tp := by
      refine List.filter_eq_self.2 fun x hx => decide_eq_true ?_
      have h5 := h4 x.1 (List.mem_map_of_mem hx)
      omega
    rw [if_neg (by decide), if_neg (by decide), List.filter_append, e1, List.filter_cons, e2, List.nil_append, if_neg (by simp)]

/-- What stands while segments are gone through. -/
def DropR (W : World) (S : Nat → Prop) (q s c0 : Nat) (pre tp : List (Nat × List UInt8)) (k : Nat) (w : World) : Prop :=
  ∃ S' m', PD w S' q m' ∧ (∀ x, S' x → S x ∨ W.heap.size ≤ x) ∧ Turn S W w ∧ m'.files = (lkP pre tp s k).map sgF ∧ m'.down = false ∧ m'.armed = false ∧ OkX (c0 + k) m'
def DrPost (W : World) (S : Nat → Prop) (q s c0 : Nat) (pre tp : List (Nat × List UInt8)) (w : World) : Prop :=
  ∃ S' m', PD w S' q m' ∧ m'.files = (pre.filter (dropK s)).map sgF ++ tp.map sgF ∧ m'.down = false ∧ OkX (c0 + pre.length) m' ∧ (∀ x, S' x → S x ∨ W.heap.size ≤ x) ∧ Turn S W w
theorem DropR.done {W w : World} {S : Nat → Prop} {q s c0 k : Nat} {pre tp : List (Nat × List UInt8)} (h : DropR W S q s c0 pre tp k w) (hk : k = pre.length) (hp : k ≤ 65) : DrPost W S q s c0 pre tp w := by
  obtain ⟨S', m', h1, h2, h3, h4, h5, h6, h7⟩ := h
  refine ⟨S', m', h1, ?_, h5, ⟨by have := h7.1; omega, h7.2⟩, h2, h3⟩
  rw [h4, hk]
  unfold lkP
  rw [List.take_length, List.drop_length, List.nil_append, List.map_append]
theorem DrPost.back {W B w : World} {S : Nat → Prop} {q s c0 : Nat} {pre tp : List (Nat × List UInt8)} (h : DrPost B S q s c0 pre tp w) (hB : Below W.heap.size W B) : DrPost W S q s c0 pre tp w := by
  obtain ⟨S', m', h1, h2, h3, h4, h5, h6⟩ := h
  refine ⟨S', m', h1, h2, h3, h4, fun x hx => ?_, (Turn.of_below hB).trans h6⟩
  rcases h5 x hx with h | h
  · exact .inl h
  · exact .inr (Nat.le_trans hB.size h)

set_option maxRecDepth 100000 in
set_option maxHeartbeats 1000000 in
theorem ldrop_any (W : World) (S T : Nat → Prop) (p q c s : Nat) (m : Dk) (j : Jn) (A : Option Addr) (pre : List (Nat × List UInt8)) (R0 cur : List Rc)
    (hSg : ∀ w, Turn S W w → SV w) (hP : PD W S q m) (hL : LDat W T p q j A c) (hd : ∀ k, S k → ¬ T k) (hO : OkJ m) (hc : m.calls ≤ 125) (hfl : m.files.length ≤ 65) (hH : HeldJ m.files j.own pre R0 cur) (hup : m.down = false) (harm : m.armed = false) (hs : s < 18446744073709551616) :
    Calls Tryz.prog 25 #[.pointer (some ⟨p, 0, none⟩), .int .u64 ((s : Nat) : Int)] W fun e W' => e = .returned (.int .i64 0) ∧ DrPost W S q s m.calls pre (ownP j.own cur) W' := by
  have hOk := okj_okd hO
  obtain ⟨hx, _, hfs, _⟩ := hO
  obtain ⟨hr1, hr2⟩ := hH.rises
  obtain ⟨ha1, ha2, _⟩ := hH.all
  have hall : allJ j.own pre cur = pre ++ ownP j.own cur := rfl
  rw [hall] at hr1 hr2 ha1 ha2
  obtain ⟨tp, htp⟩ : ∃ tp, ownP j.own cur = tp := ⟨_, rfl⟩
  rw [htp] at hr1 hr2 ha1 ha2 ⊢
  have hLs := plist_any W S q m hP hOk
  have hnam : ∀ s ∈ m.files.map Fl.name, s.length ≤ 281474976710656 := by
    intro s hs
    rw [ha1, List.map_map] at hs
    obtain ⟨p, _, rfl⟩ := List.mem_map.1 hs
    show (nameL p.1).length ≤ _
    rw [nameL_len]
    omega
  have hNm := fun A n c w h1 h2 h3 => snumbers_new A n c (m.files.map Fl.name) w h1 h2 hnam h3
  have hstart : PD W S q m ∧ m.files = (lkP pre tp s 0).map sgF ∧ m.down = false ∧ m.armed = false ∧ OkX (m.calls + 0) m := ⟨hP, by rw [ha1]; rfl, hup, harm, ⟨Nat.le_refl _, hx.2⟩⟩
  have c0 : W.cell? ⟨p, 0, none⟩ = some (.pointer (some ⟨q, 0, none⟩)) := hL.blk.cell 0
  have c3 : W.cell? ⟨p, 3, none⟩ = some (.int .u64 ((j.own : Nat) : Int)) := hL.blk.cell 3
  have hplt := hL.blk.lt
  have hTp := hL.here.1
  have hpS : ∀ x, S x → x ≠ p := fun x hx e => hd x hx (by rw [e]; exact hTp)
  have hSlt : ∀ x, S x → x < W.heap.size := by obtain ⟨_, _, _, _, _, hp⟩ := hP; exact hp.lt
  have hpl : pre.length + tp.length = m.files.length := by rw [ha1, List.length_map, List.length_append]
  have hszall : ((pre ++ tp).map fun p => p.2.length).sum ≤ 20000 := by rw [← size_sg, ← ha1]; exact hfs
  have htl : tp.length ≤ 1 ∧ ∀ x ∈ tp, x.1 = j.own := by
    rw [← htp]
    unfold ownP
    split
    · exact ⟨by simp, fun x hx => by cases hx⟩
    · exact ⟨by simp, fun x hx => by rw [List.mem_singleton.1 hx]⟩
  have hless : ∀ x ∈ pre, x.1 < j.own := fun x hx => (hH.less x hx).2
  have hD1 : ∀ (B : World) (hB : Below W.heap.size W B) (k : Nat) (x : Nat × List UInt8) (T0 : ByteArray) (w : World), pre[k]? = some x → (⟨(nameL x.1).toArray⟩ : ByteArray) = T0 → DropR B S q s m.calls pre tp k w → k ≤ 65 →
      Calls Tryz.prog 40 #[.pointer (some ⟨q, 0, none⟩), .string T0, .int .u64 ((s : Nat) : Int)] w fun e W' => e = .returned (.int .i64 0) ∧ DropR B S q s m.calls pre tp (k + 1) W' := by
    intro B hB k x T0 w hpx hT0 hDR hk65
    obtain ⟨S', m', h1, h2, h3, h4, h5, h6, h7⟩ := hDR
    have hsub := lk_sub pre tp s k
    obtain ⟨hk, hpe⟩ := List.getElem?_eq_some_iff.1 hpx
    have hmem : x ∈ lkP pre tp s k := by
      unfold lkP
      refine List.mem_append_right _ (List.mem_append_left _ ?_)
      rw [← hpe, List.drop_eq_getElem_cons hk]
      exact List.mem_cons_self
    have hOk' : OkD 200 m' := ⟨by
        rw [h4, List.length_map]
        have := hsub.length_le
        rw [List.length_append] at this
        omega, by
        rw [h4, size_sg]
        have := sub_sum hsub
        omega, fun f hf => by
        rw [h4] at hf
        obtain ⟨p, _, rfl⟩ := List.mem_map.1 hf
        exact Nat.le_refl _, by have := h7.1; omega, h7.2.1, h7.2.2⟩
    have hxl : x.2.length ≤ 40000 := by
      have h8 := sub_sum (List.singleton_sublist.2 (hsub.subset hmem))
      have h9 := sub_sum hsub
      simp only [List.map_cons, List.map_nil, List.sum_cons, List.sum_nil, Nat.add_zero] at h8
      omega
    refine (ldrop1_any w S' q s m' (lkP pre tp s k) x T0 hT0 (hSg w ((Turn.of_below hB).trans h3)) h1 hOk' h4 (hr1.sublist (hsub.map _)) (fun y hy => hr2 y (hsub.subset hy)) hmem h5 h6 hs hxl).mono ?_
    rintro e w2 ⟨he, S2, m2, g1, g2, g3, g4, g5, g6, g7⟩
    rw [lk_step pre tp s k x hpx hr1] at g2
    refine ⟨he, S2, m2, g1, fun y hy => ?_, ⟨g7.os.trans h3.os, g7.tape.trans h3.tape, g7.output.trans h3.output, Nat.le_trans h3.size g7.size, fun y hy hn => (g7.block y (Nat.lt_of_lt_of_le hy h3.size) fun h => ?_).trans (h3.block y hy hn)⟩, g2, g3, g4, g5 _ h7⟩
    · rcases g6 y hy with h | h
      · exact h2 y h
      · exact .inr (Nat.le_trans h3.size h)
    · rcases h2 y h with h8 | h8
      · exact hn h8
      · omega
  have HH := Lib.hid (And.intro hSg (And.intro hH (And.intro hup (And.intro hstart (And.intro hpS (And.intro hD1 (And.intro hpl (And.intro htl (And.intro hless (And.intro ha2 hr2))))))))))
  have hown := hL.small.2.1
  have HSL := Lib.hid hSlt
  have hfl2 : m.files.length ≤ 65 := hfl
  clear hSg hH hup hstart hpS hD1 hpl htl hless ha2 hr2 hr1 ha1 hall hP hL hd hOk hx hfs harm hTp hSlt hszall hnam htp hc
  go_enter Tryz.func25, Tryz.ntmps25
  go_wp2_with fail
  refine hLs.mono ?_
  rintro e w2 ⟨v2, rfl, ho2, hb2⟩
  obtain ⟨A2, c2, rfl, q1, q2, q3⟩ := own_form ho2
  have hNm2 := hNm A2 m.files.length c2 w2 (HH.out.1 w2 (Turn.of_below hb2)) (txs_own ho2) (by omega)
  have HB2 := Lib.hid hb2
  clear hLs ho2 hb2 hNm q1 q2 q3
  go_wp2_with fail
  refine hNm2.mono ?_
  rintro e w3 ⟨A3, n3, cc3, R, rfl, hN3, hb3, hQ, hnew⟩
  obtain ⟨hR, _⟩ := HH.out.2.1.nums hQ
  rw [HH.out.2.2.2.2.2.2.2.2.2.1, List.map_append] at hR
  have hbb := bthen HB2.out hb3
  have hl3 := hN3.len
  have hDR0 : DropR w3 S q s m.calls pre tp 0 w3 := by
    obtain ⟨h1, h4⟩ := HH.out.2.2.2.1
    exact ⟨S, m, h1.below hbb, fun x hx => .inl hx, Turn.refl _ _, h4⟩
  have c03 : w3.cell? ⟨p, 0, none⟩ = some (.pointer (some ⟨q, 0, none⟩)) := (hbb.cell (p := ⟨p, 0, none⟩) hplt).trans c0
  have c33 : w3.cell? ⟨p, 3, none⟩ = some (.int .u64 ((j.own : Nat) : Int)) := (hbb.cell (p := ⟨p, 3, none⟩) hplt).trans c3
  have hn3 : n3 = pre.length + tp.length := by rw [← hl3, hR, List.length_append, List.length_map, List.length_map]
  have HN := Lib.hid (And.intro hN3 (And.intro hR (And.intro hn3 (And.intro hDR0 (And.intro hbb (show ∀ a, A3 = some a → ¬ S a.block from fun a ha h => by have := hnew a ha; have := HB2.out.size; have := HSL.out _ h; omega))))))
  have hn65 : n3 ≤ 65 := by have := HH.out.2.2.2.2.2.2.1; omega
  clear hNm2 hQ hb3 hbb hN3 hR hn3 hDR0 hl3 hnew
  go_wp2_with fail
  go_loopw [17] (fun v17 wr => ∃ k : Nat, k ≤ n3 ∧ k ≤ pre.length ∧ v17 = .int .i64 (k : Nat) ∧ DropR w3 S q s m.calls pre tp k wr) (fun v17 _ => n3 - (intOf v17).toNat)
  case atStart => exact ⟨0, Nat.zero_le _, Nat.zero_le _, rfl, HN.out.2.2.2.1⟩
  case round =>
    obtain ⟨k, hk, hkp, rfl, hDR⟩ := hrel
    have htw : Turn S w3 wr := by obtain ⟨_, _, _, _, h, _⟩ := hDR; exact h
    have hk65 : k ≤ 65 := by omega
    have k0 : wr.cell? ⟨p, 0, none⟩ = some (.pointer (some ⟨q, 0, none⟩)) := by
      exact htw.at_ c03 (fun h => HH.out.2.2.2.2.1 p h rfl)
    have k3 : wr.cell? ⟨p, 3, none⟩ = some (.int .u64 ((j.own : Nat) : Int)) := by
      exact htw.at_ c33 (fun h => HH.out.2.2.2.2.1 p h rfl)
    by_cases hlt : k < n3
    · have t1 : (k : Int) < (n3 : Int) := by omega
      obtain ⟨x, hx⟩ : ∃ x, R[k]? = some x := ⟨_, List.getElem?_eq_getElem (by have := HN.out.1.len; omega)⟩
      obtain ⟨g, o, rfl, hgS, hgl, f0⟩ := HN.out.1.at_ hx
      have e0 : wr.cell? ⟨g, o + k, none⟩ = some (.int .u64 ((x : Nat) : Int)) := htw.at_ f0 (by exact HN.out.2.2.2.2.2 ⟨g, o, none⟩ rfl)
      by_cases hkl : k < pre.length
      · obtain ⟨y, hy⟩ : ∃ y, pre[k]? = some y := ⟨_, List.getElem?_eq_getElem hkl⟩
        have hxy : x = y.1 := by
          have h1 := HN.out.2.1
          rw [h1, List.getElem?_append_left (by rw [List.length_map]; exact hkl), List.getElem?_map, hy] at hx
          exact (Option.some.inj hx).symm
        have hyo := HH.out.2.2.2.2.2.2.2.2.1 y (List.mem_of_getElem? hy)
        rw [← hxy] at hyo
        have t2 : ¬ ((x : Nat) : Int) ≥ (j.own : Int) := by omega
        have t3 : ¬ (j.own : Int) ≤ (x : Int) := by omega
        have hTW : Turn S W (wr.drewN 1) := ((Turn.of_below HN.out.2.2.2.2.1).trans htw).drewN 1
        have hx64 : x < 18446744073709551616 := by omega
        obtain ⟨T0, hT0⟩ : ∃ T0 : ByteArray, ⟨(nameL y.1).toArray⟩ = T0 := ⟨_, rfl⟩
        have hNa := sname_any x (wr.drewN 1) hx64 (HH.out.1 _ hTW).1
        rw [hxy, hT0, ← hxy] at hNa
        have hDa : ∀ w, Below (wr.drewN 1).heap.size (wr.drewN 1) w → Calls Tryz.prog 40 #[.pointer (some ⟨q, 0, none⟩), .string T0, .int .u64 ((s : Nat) : Int)] w fun e W' => e = .returned (.int .i64 0) ∧ DropR w3 S q s m.calls pre tp (k + 1) W' ∧ W'.cell? ⟨p, 0, none⟩ = some (.pointer (some ⟨q, 0, none⟩)) := by
          intro w hw
          have hDw : DropR w3 S q s m.calls pre tp k w := by
            obtain ⟨S', m', h1, h2, h3, h4⟩ := hDR
            exact ⟨S', m', (h1.turn ((Turn.refl (fun _ => False) wr).drewN 1) (fun _ h => h.elim)).below hw, h2, (h3.drewN 1).trans (Turn.of_below hw), h4⟩
          refine (HH.out.2.2.2.2.2.1 w3 HN.out.2.2.2.2.1 k y T0 w hy hT0 hDw hk65).mono ?_
          rintro e w2 ⟨he, hD2⟩
          have ht2 : Turn S w3 w2 := by obtain ⟨_, _, _, _, h, _⟩ := hD2; exact h
          exact ⟨he, hD2, ht2.at_ c03 (fun h => HH.out.2.2.2.2.1 p h rfl)⟩
        have hplt2 : p < wr.heap.size := by have := htw.size; have := HN.out.2.2.2.2.1.size; omega
        have HK := Lib.hid (And.intro hkl hlt)
        clear hDR htw hlt hk hkp hx hgS hgl f0 hy hyo hxy hTW hT0 hkl
        go_wp2_with fail
        go_cut [7] from 300 to 300 (fun v7 wx => v7 = .int .i64 0 ∧ DropR w3 S q s m.calls pre tp (k + 1) wx)
        case first =>
          go_region_held3 (fun w' => w'.cell? ⟨p, 0, none⟩ = some (.pointer (some ⟨q, 0, none⟩)))
            (first | exact k8 | exact k7 | exact k0 | go_keep)
            ((first
              | (go_at_call 41; refine hNa.mono ?_; rintro e w7 ⟨rfl, hb7⟩; have k7 : w7.cell? ⟨p, 0, none⟩ = some (.pointer (some ⟨q, 0, none⟩)) := (hb7.cell (p := ⟨p, 0, none⟩) hplt2).trans k0)
              | (go_at_call 40; refine (hDa _ hb7).mono ?_; rintro e w8 ⟨rfl, hd8, k8⟩)))
          all_goals
            go_wp2_with fail
            go_meet
            exact ⟨rfl, hd8⟩
        case rest =>
        obtain ⟨rfl, hD9⟩ := hcut
        have H9 := Lib.hid hD9
        clear hD9
        go_wp2_with fail
        go_roundw
        case rel => exact ⟨k + 1, HK.out.2, HK.out.1, by go_num, H9.out⟩
        case measure => have := HK.out.2; simp [intOf]; omega
      · have hkk : k = pre.length := by omega
        have hxo : x = j.own := by
          have h1 := HN.out.2.1
          rw [h1, List.getElem?_append_right (by rw [List.length_map]; omega), List.getElem?_map] at hx
          obtain ⟨y, hy, e⟩ := Option.map_eq_some_iff.1 hx
          rw [← e]
          exact HH.out.2.2.2.2.2.2.2.1.2 y (List.mem_of_getElem? hy)
        have t2 : ((x : Nat) : Int) ≥ (j.own : Int) := by omega
        have t3 : (j.own : Int) ≤ (x : Int) := by omega
        have HE := Lib.hid ((hDR.done hkk hk65).back HN.out.2.2.2.2.1)
        clear hDR htw hlt hk hkp hkk hx hgS hgl f0 hkl
        go_wp2_with fail
        go_ret
        exact ⟨rfl, HE.out⟩
    · have t1 : ¬ (k : Int) < (n3 : Int) := by omega
      have hkk : k = pre.length := by have := HN.out.2.2.1; omega
      have HE := Lib.hid ((hDR.done hkk hk65).back HN.out.2.2.2.2.1)
      clear hDR htw hlt hk hkp hkk k0 k3
      go_wp2_with fail
      go_ret
      exact ⟨rfl, HE.out⟩

end Go.Proofs.YthjikbhjciphiaaGreatDoor

/-
  The row of WalDrops.
-/
namespace Go.Proofs.YthjikbhjciphiaaGreatDoor
open Go.RowKit
set_option linter.unusedVariables false
set_option linter.unusedSimpArgs false

theorem walDp_all (N : Nat) : WalDp N (SVn N) (PDn N) (LAn N) where
  drop := fun W S T p q m j s pre R0 cur hI hD h hd hO hc hfl hH hup harm hs => by
    have hb1 := hD.big
    have hS := hD.lt
    obtain ⟨hn, A, c, hL⟩ := h
    refine (ldrop_any W S T p q c s m j A pre R0 cur (fun w hw => hI w (hw.mono fun k hk => (hS.2 k hk).1)) hD.1 hL hd hO hc hfl hH hup harm hs).mono ?_
    rintro e W' ⟨he, S', m', h1, h2, h3, h4, h5, h6⟩
    refine ⟨S', m', he, ⟨h1, fun k hk => ?_⟩, ?_, h3, h4, h5, h6⟩
    · rcases h5 k hk with h | h
      · exact (hS.2 k h).1
      · omega
    · rw [h2]
      unfold ownP
      split <;> rfl
theorem SV.to_n2 {W : World} (h : SV W) : SVn W.heap.size W := fun w' ht => h.below (ht.below (Nat.le_refl _) fun k hk => hk)

theorem walDrops_row (A : Option Addr) (n c : Nat) (l : List Rc) (a : Int) (W : World) (hR : Rcs W (fun k => W.heap.size ≤ k) A n l) (hf : Fine l) (hnil : A = none → c = 0) (hnc : n ≤ c) (hcm : c ≤ maxLen) (lo : 0 ≤ a) (hi : a ≤ 18446744073709551615) (hS : SV W) :
    Calls Tryz.prog 5 #[.slice A n c, .int .u64 a] W fun e W' => e = .returned (.bool true) ∧ Below W.heap.size W W' := by
  obtain ⟨u, rfl⟩ := Int.eq_ofNat_of_zero_le lo
  exact walDrops_law (walC_all W.heap.size) (walDp_all W.heap.size) A n c l u W hS.to_n2 (Nat.le_refl _) hR hf hnc hcm (by omega)

end Go.Proofs.YthjikbhjciphiaaGreatDoor

/-
  What the conditions on the library's five listed variables give the walks of segments.
-/
namespace Go.Proofs.YthjikbhjciphiaaGreatDoor
open Go.ChangeShapes Go.WideShapes Go.ChangeAt Go.WideMaps Go.WideElems Go.RowKit
set_option linter.unusedVariables false
set_option linter.unusedSimpArgs false

theorem gSyn : Tryz.prog.globalNamed "strconv.ErrSyntax" = some 1 := by kernel_rfl
theorem tSyn : (Tryz.prog.globals[1]?).map (·.type) = some 107 := by kernel_rfl
theorem gRng13 : Tryz.prog.globalNamed "strconv.ErrRange" = some 2 := by kernel_rfl
theorem tRng13 : (Tryz.prog.globals[2]?).map (·.type) = some 107 := by kernel_rfl
theorem gBru : Tryz.prog.globalNamed "math/bits.deBruijn64tab" = some 4 := by kernel_rfl
theorem tBru : (Tryz.prog.globals[4]?).map (·.type) = some 233 := by kernel_rfl
theorem starE13 : "*" ++ "errors.errorString" = "*errors.errorString" := by decide
theorem rowE13 (u : TypeId) (h : Tryz.prog.typeName? 3 u = some "*errors.errorString") : u = 235 :=
  typeName_ptr_named (nm := "errors.errorString") (by rw [starE13]; kernel_rfl) (by kernel_rfl) (by decide) u (by rw [starE13]; exact h)
abbrev laidK : List (String × DataW Unit) := [("math/bits.deBruijn32tab", Rows.laid_math_bits_deBruijn32tab), ("math/bits.deBruijn64tab", Rows.laid_math_bits_deBruijn64tab), ("internal/strconv.uint64pow10", Rows.laid_internal_strconv_uint64pow10), ("strconv.ErrRange", Rows.laid_strconv_ErrRange), ("strconv.ErrSyntax", Rows.laid_strconv_ErrSyntax)]

/-- The door's own heap meets the condition. -/
theorem door_met (os : Os) (args : Array Value) : laidMetH Tryz.prog laidK ((World.doorLaid Tryz.prog 400 os).forCall (fun _ _ => 0) ⟨#[], args, []⟩).memory :=
  laidMetH_of_parts3 (fuel := 8) (laidMet_of_run' 8 (by kernel_rfl) (by kernel_rfl)) (by kernel_rfl) (by kernel_rfl)

/-- What the walks ask of the library's variables. -/
theorem of_laid {W : World} (h : laidMetH Tryz.prog laidK W) : SV W := by
  rw [MakeChecks.laidMetH_plain _ _ _ (by kernel_rfl)] at h
  have h3 := h.tail.tail.tail
  obtain ⟨a, s, hv, _⟩ := laid_sentinel h3 gRng13 tRng13 Tryz.underlying107 rowE13 Tryz.underlying235 Tryz.underlying237 rfl rfl Tryz.underlying9 (by kernel_rfl) (by kernel_rfl)
  obtain ⟨a2, s2, hv2, _⟩ := laid_sentinel h3.tail gSyn tSyn Tryz.underlying107 rowE13 Tryz.underlying235 Tryz.underlying237 rfl rfl Tryz.underlying9 (by kernel_rfl) (by kernel_rfl)
  have hT := Lib.tabIs_of_head (P := Tryz.prog) (k := .u8) (zs := Lib.deBruijn64tab.map fun (n : Nat) => (n : Int)) (n := 64) gBru tBru Tryz.underlying233 Tryz.underlying5 (by kernel_rfl) (by kernel_rfl) h.tail
  refine ⟨?_, ⟨_, by simpa using World.var?_cell gSyn hv2 0, .inr ⟨_, _, rfl⟩⟩, ⟨_, by simpa using World.var?_cell gRng13 hv 0, .inr ⟨_, _, rfl⟩⟩⟩
  intro k hk
  have hkl : k < (Lib.deBruijn64tab.map fun (n : Nat) => (n : Int)).length := by rw [List.length_map]; exact hk
  rw [hT.cell gBru k hkl, List.getD_eq_getElem?_getD, List.getD_eq_getElem?_getD, List.getElem?_map]
  rw [List.length_map] at hkl
  rw [List.getElem?_eq_getElem hkl]
  rfl

end Go.Proofs.YthjikbhjciphiaaGreatDoor
