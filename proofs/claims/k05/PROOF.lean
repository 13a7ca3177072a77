import PyProof.Rows.All
import Wide.All
import OpenK.AllK
import Wide.FinOn
import KE.KStateDown
import Lean
import HandS.ForMost
import HandS.Codes
import HandS.Wide
import HandS.IsInst
import HandS.Style
import HandS.Steps
import HandS.Defaults
import HandS.EndBits
import HandS.Head0
import HandS.Head1
import HandS.Head2
import HandS.HeadEnd
import HandS.HeadHook1
import HandS.HeadHook2
import HandS.HeadHook3
import HandS.HeadHook4
import HandS.CallLocal
import KE.KBits
import HandS.SortKw
import PyProof.EnumMake
import PyProof.StrBlock2
import HandS.Walk
import HandS.StrMore
import HandS.Text
import PyProof.Rows.RegReprOcc
import PySem.Challenge.RW_warycard_k05_tokens
set_option Elab.async false
set_option linter.all false
set_option maxRecDepth 100000
set_option maxHeartbeats 4000000
/-! What the proofs of several laws share: defs by their facts, wide products, the drawing bag. -/
namespace Wc
open PySem PySem.Spec PyProof.Rows L2
open C8 (Cal pe_c pe_gc)

/-- a def of the row's top, where it stands -/
abbrev FnP (K : PySem.W.Frag) (x : Str) (st : Stmt) (f : Addr) (fd : FuncData) : Prop :=
  FunD K x x (defArgs st) (defBody st) (defScope st) [] [] f fd
/-- a def's promise, by its body's term and the reading of it -/
theorem fnD {P : Program} {w : World} {K : PySem.W.Frag} {mg : Str → Option Value} {base : Heap} {x : Str} {st : Stmt} {ps N : List Str} {k : Nat} {sp : Sp} {fd : FuncData}
    (F : FnP K x st (He.ga K x) fd) (S : FnScope N ps (defScope st)) (len : ∀ vs H Q E, sp vs H Q E → vs.length = ps.length)
    (body : ∀ (cdv : Value) (A : Around) (outer : List Env) (s : Shared) (H : Hp) (vs : List V) (Q : VK) (E : XK),
      Room k (A.deeper (envOfC x (defScope st) s.heap.objs.size (He.ga K x) cdv)) → sp vs H Q E →
      ∃ t, PSs (cxOf CX0 P w K mg base N x (defScope st) (He.ga K x) cdv A outer s H E).nox (defBody st) t ∧
        t { nx := fun _ H' => Q .non H', rt := Q } (start N vs) H) : FnOk P w K mg base CX0 (k + 1) (He.ga K x) fd ps sp := by
  refine F.ok S len fun cdv A outer s H vs Q E hr hs => ?_
  obtain ⟨t, h, q⟩ := body cdv A outer s H vs Q E hr hs
  exact ⟨t, PSs.nox h, q⟩
theorem calD {P : Program} {w : World} {K : PySem.W.Frag} {mg : Str → Option Value} {base : Heap} {x : Str} {st : Stmt} {ps N : List Str} {k : Nat} {sp : Sp}
    (F : ∃ fd, FnP K x st (He.ga K x) fd) (g : mg x = some (.ref (He.ga K x)))
    (b : ∀ (kV doc pm : Value) (an : Option Addr) (cdv ct : Value) (us : List Value), us.length = ps.length →
      bindArgs (PySem.W.fnOf x x (defArgs st) (defBody st) (defScope st) .none kV doc pm an cdv ct) ⟨us, []⟩ = pure (ps.zip us))
    (S : FnScope N ps (defScope st)) (len : ∀ vs H Q E, sp vs H Q E → vs.length = ps.length)
    (body : ∀ (cdv : Value) (A : Around) (outer : List Env) (s : Shared) (H : Hp) (vs : List V) (Q : VK) (E : XK),
      Room k (A.deeper (envOfC x (defScope st) s.heap.objs.size (He.ga K x) cdv)) → sp vs H Q E →
      ∃ t, PSs (cxOf CX0 P w K mg base N x (defScope st) (He.ga K x) cdv A outer s H E).nox (defBody st) t ∧
        t { nx := fun _ H' => Q .non H', rt := Q } (start N vs) H) : Cal P w K mg base (k + 1) x sp [] := by
  obtain ⟨fd, F⟩ := F
  exact ⟨He.ga K x, fd, ps, [], fnD F S len body, g, F.kp, F.bindsN b, .nil⟩
theorem ifB {c : Bool} {A B : Prop} (h : c = true → A) (g : c = false → B) : if c = true then A else B := by
  cases c with
  | true => exact iteT (h rfl)
  | false => exact iteF (g rfl)
theorem ifNo {c : Bool} {A B : Prop} (h : c = false) (b : B) : if c = true then A else B := by
  rw [h]
  exact iteF b
theorem ifYes {c : Bool} {A B : Prop} (h : c = true) (a : A) : if c = true then A else B := by
  rw [h]
  exact iteT a
/-- two values that are the same do not differ -/
theorem neqF {x y : V} {A B : Prop} (h : x = y) (b : B) : if (!decide (x = y)) = true then A else B := by
  rw [decide_eq_true h]
  exact iteF b
/-- a built-in class as a value -/
theorem pe_ty {X : Cx} {x : Str} {pos : Pos} (n : String) (hg : Gl X x) (hm : X.mg x = none) (hv : bootBuiltins x = some (.type n)) (hn : x ≠ "__name__" := by decide) (hd : (x == ("__debug__" : Str)) = false := by decide) :
    PE X (.Name x pos) (tC (.ty n)) := pe_bltn hg hm hv (show RelV (.ty n) (.type n) from rfl) hn hd
/-- from a law's promise to what the row's end asks -/
theorem lawD {P : Program} {w : World} {K : PySem.W.Frag} {mg : Str → Option Value} {st : Stmt} {k : Nat} {sp : Sp} {fa : Addr}
    (F : ∃ fd, FnP K "law" st (He.ga K "law") fd) (g : mg "law" = some (.ref (He.ga K "law"))) (h : mg "law" = some (.ref fa))
    (c : ∀ (base : Heap) (fd : FuncData), FnP K "law" st (He.ga K "law") fd → FnOk P w K mg base CX0 k (He.ga K "law") fd ["script"] sp)
    (b : ∀ (kV doc pm : Value) (an : Option Addr) (cdv ct : Value) (us : List Value), us.length = (["script"] : List Str).length →
      bindArgs (PySem.W.fnOf "law" "law" (defArgs st) (defBody st) (defScope st) .none kV doc pm an cdv ct) ⟨us, []⟩ = pure ((["script"] : List Str).zip us))
    (hsp : ∀ (H : Hp) (a : Addr) (ns : List Int), ns.length ≤ 63 → (∀ z ∈ ns, Builtin.Int.intBits z ≤ 1048576) → SqL K H a (ns.map V.int) → sp [.ref a] H (fun v _ => v = .bl true) fun _ _ _ => False) :
    ∃ (fd : FuncData) (sp : Sp), (∀ (s : Shared) (u : Value), BindsTo s fd ⟨[u], []⟩ [("script", u)]) ∧
      (∀ (H : Hp) (a : Addr) (ns : List Int), ns.length ≤ 63 → (∀ z ∈ ns, Builtin.Int.intBits z ≤ 1048576) → SqL K H a (ns.map V.int) → sp [.ref a] H (fun v _ => v = .bl true) fun _ _ _ => False) ∧
      ∀ base : Heap, K.In base → base.Ns mainGlobals mg → FnOk P w K mg base CX0 k fa fd ["script"] sp := by
  obtain ⟨fd, F⟩ := F
  have e : He.ga K "law" = fa := by
    have z := g.symm.trans h
    injection z with z
    injection z with z
  subst e
  exact ⟨fd, sp, fun s u => F.bindsA (ps := ["script"]) b s [u] rfl, hsp, fun base _ _ => c base fd F⟩
/-- an object of the module's as a value -/
theorem pe_gref {X : Cx} {x : Str} {pos : Pos} {a : Addr} (hg : Gl X x) (hm : X.mg x = some (.ref a)) (hd : (x == ("__debug__" : Str)) = false := by decide) : PE X (.Name x pos) (tC (.ref a)) :=
  pe_glob hg hm (show RelV (.ref a) (.ref a) from rfl) hd
theorem int_rel {i : Int} {o : Option Value} (h : ∃ t, o = some (.int i t)) : ∃ u, o = some u ∧ RelV (.int i) u := by
  obtain ⟨t, e⟩ := h
  exact ⟨_, e, t, rfl⟩
theorem str_rel {z : Str} {o : Option Value} (h : ∃ t, o = some (.str z t)) : ∃ u, o = some u ∧ RelV (.str z) u := by
  obtain ⟨t, e⟩ := h
  exact ⟨_, e, t, rfl⟩
theorem kdct_of {K : PySem.W.Frag} {w : World} {a : Addr} {kvs : List (Str × He.Dv)} (h : ∃ es n, KDict K w a es n) (v : He.valsB K a kvs = true) : ∀ q ∈ kvs, KDct K w a q.1 (q.2.v K) := fun q hq => by
  obtain ⟨es, n, D⟩ := h
  obtain ⟨u, e, r⟩ := He.valsB_ok v hq
  exact ⟨es, n, u, D.at_, D.lit, e, r⟩
/-- a call of a local name that holds the def called y -/
theorem pe_loc {X : Cx} {k j i : Nat} {y x : Str} {f : Addr} {sp : Sp} {p pos : Pos} {e : Expr} {es : List Expr} {t : TA} (g : X.mg y = some (.ref f)) (c : Cal X.prog X.w X.K X.mg X.base k y sp []) (hr : Room j X.A) (hk : k ≤ j)
    (hN : X.N[i]? = some x) (hv : Vis X.env.scope x) (ha : PA X (e :: es) t)
    (hdb : (x == ("__debug__" : Str)) = false := by decide) (hcd : (x == ("__classdict__" : Str)) = false := by decide)
    (he : starEach (e :: es) X.env = (false, eval e X.env) :: starEach es X.env := by rfl) (hpl : (backTo pos (starEach es X.env)).any (·.1) = false := by rfl) :
    PE X (.Call (.Name x p) (e :: es) [] pos) (tCallL i f sp [] E0 t) := by
  obtain ⟨f', fd, ps, ds, F, hm, kp, b, d⟩ := c.ex
  have e2 : f' = f := by
    have z := hm.symm.trans g
    injection z with z
    injection z
  subst e2
  exact pe_callL F (hr.mono hk) hN hv kp b d pass0 ha hdb hcd he hpl
/-! ### within a comprehension: the written part by name -/
theorem ixK {X : Cx} {K : PySem.W.Frag} (e : X.K = K) : IxR X (rIxL K) := by
  subst e
  exact ix_list
theorem ixTK {X : Cx} {K : PySem.W.Frag} (e : X.K = K) : IxR X (rIxT K) := by
  subst e
  exact ix_tup
theorem lenK {X : Cx} {K : PySem.W.Frag} (e : X.K = K) : CallR X (.builtin "len") (fun xs H Q => ∃ p ys, xs = [.ref p] ∧ (SqL K H p ys ∨ SqT K H p ys) ∧ Q (.int ys.length) H) := by
  subst e
  exact call_len_seq
theorem isiK {X : Cx} {K : PySem.W.Frag} (e : X.K = K) : CallR X (.builtin "isinstance") (rIsi K) := by
  subst e
  exact call_isi
theorem inK {X : Cx} {K : PySem.W.Frag} (e : X.K = K) : OpR X (compareOp .In) (rIn K false) := by
  subst e
  exact op_in_seq
/-! ### great ints -/
def CMulX (i j : Int) : Prop := i.natAbs.log2 + j.natAbs.log2 < 100000000
theorem CMulX.ok {i j : Int} (h : CMulX i j) : IntMulOk i j := by
  have b : ∀ x : Int, Builtin.Int.intBits x ≤ x.natAbs.log2 + 1 := fun x => by
    unfold Builtin.Int.intBits
    split <;> omega
  have h1 := b i
  have h2 := b j
  have h3 : i.natAbs.log2 + j.natAbs.log2 < 100000000 := h
  have e : bitsLine = 134217728 := by decide
  unfold IntMulOk
  intro z
  have z2 := (Bool.and_eq_true_iff.mp z).2
  unfold Builtin.Int.intTooBig at z2
  have z3 := of_decide_eq_true z2
  omega
theorem op_mulX {X : Cx} : OpR X (binaryOp .Mult) (rI CMulX fun i j => .int (i * j)) :=
  opI fun _ _ _ _ _ _ _ hc q => mul_int q hc.ok
theorem log2_le {i : Int} {n : Nat} (h : i.natAbs < 2 ^ (n + 1)) : i.natAbs.log2 ≤ n := by
  have := PySem.Flt.log2_lt_of (Nat.succ_pos n) h
  omega
theorem mulX {i j : Int} (hi : i.natAbs.log2 ≤ 2000000) (hj : j.natAbs.log2 ≤ 2000000) : CMulX i j := by
  unfold CMulX
  omega
/-- an int of at most 200 bits -/
theorem sm {i : Int} (h : i.natAbs < 2 ^ 200) : i.natAbs.log2 ≤ 2000000 := by
  have := PySem.Flt.log2_lt_of (by decide) h
  omega
theorem bits_log {i : Int} (h : Builtin.Int.intBits i ≤ 1048576) : i.natAbs.log2 ≤ 1048576 := by
  unfold Builtin.Int.intBits at h
  split at h
  · rename_i e
    have e2 : i = 0 := by simpa using e
    subst e2
    decide
  · omega

/-! ### the drawing bag -/
structure Bag where
  r : Int
  s : Int
  k : Int
namespace Bag
def seed (b : Bag) : Int := (b.s * 48271 + b.k * 69621 + 11) % 2147483647
def fill (b : Bag) : Bag := if b.r = 0 then ⟨b.seed * 2147483629 + (b.seed * b.seed + b.k * 16807) % 2147483629, b.seed, b.k⟩ else b
def val (b : Bag) (m : Int) : Int := b.fill.r % m
def next (b : Bag) (m : Int) : Bag := ⟨b.fill.r / m, b.fill.s, b.fill.k⟩
def vals (b : Bag) : List V := [.int b.r, .int b.s, .int b.k]
structure Ok (b : Bag) : Prop where
  s : b.s.natAbs.log2 ≤ 1048576
  k : b.k.natAbs < 2 ^ 60
theorem seed_lo (b : Bag) : 0 ≤ b.seed := Int.emod_nonneg _ (by decide)
theorem seed_hi (b : Bag) : b.seed < 2147483647 := Int.emod_lt_of_pos _ (by decide)
theorem Ok.fill {b : Bag} (h : b.Ok) : b.fill.Ok := by
  unfold Bag.fill
  split
  · exact ⟨Nat.le_trans (log2_le (n := 1048576) (Nat.lt_of_lt_of_le (show b.seed.natAbs < 2 ^ 31 by have := b.seed_lo; have := b.seed_hi; omega) (Nat.pow_le_pow_right (by decide) (by decide)))) (Nat.le_refl _), h.k⟩
  · exact h
theorem Ok.next {b : Bag} (h : b.Ok) (m : Int) : (b.next m).Ok := ⟨h.fill.s, h.fill.k⟩
theorem val_lo (b : Bag) {m : Int} (h : 0 < m) : 0 ≤ b.val m := Int.emod_nonneg _ (by omega)
theorem val_hi (b : Bag) {m : Int} (h : 0 < m) : b.val m < m := Int.emod_lt_of_pos _ h
end Bag
/-- the bag b stands at p -/
def BagAt (H : Hp) (p : Addr) (b : Bag) : Prop := H p = some (.lst b.vals)
/-- some bag stands at p -/
def Bg (H : Hp) (p : Addr) : Prop := ∃ b : Bag, b.Ok ∧ BagAt H p b
/-- all but what stands at p is kept -/
def Keep (p : Addr) (H H' : Hp) : Prop := ∀ c o, H c = some o → c ≠ p → H' c = some o
/-- a draw: some number below m, the bag turned -/
def spDraw : Sp := fun vs H Q _ => ∃ (p : Addr) (m : Int), vs = [.ref p, .int m] ∧ Bg H p ∧ 0 < m ∧ m.natAbs.log2 < 9000 ∧
  ∀ (z : Int) (H' : Hp), 0 ≤ z → z < m → Bg H' p → Keep p H H' → Q (.int z) H'
/-- a new bag from the script's k-th cell -/
def spBag (K : PySem.W.Frag) : Sp := fun vs H Q _ => ∃ (a : Addr) (ns : List Int) (k : Int), vs = [.ref a, .int k] ∧ SqL K H a (ns.map V.int) ∧ (∀ n ∈ ns, Builtin.Int.intBits n ≤ 1048576) ∧
  0 ≤ k ∧ k < 2 ^ 60 ∧ ∀ (p : Addr) (H' : Hp), H p = none → Bg H' p → Same H H' → Q (.ref p) H'
theorem Keep.refl (p : Addr) (H : Hp) : Keep p H H := fun _ _ h _ => h
theorem Keep.trans {p : Addr} {H H1 H2 : Hp} (a : Keep p H H1) (b : Keep p H1 H2) : Keep p H H2 := fun c o e n => b c o (a c o e n) n
theorem Keep.own {p : Addr} {H H1 : Hp} {o : HO} (a : Keep p H H1) : Keep p H (upd H1 p o) := fun c u e n => by rw [upd_ne n]; exact a c u e n
theorem Keep.new {p q : Addr} {H H1 : Hp} {o : HO} (a : Keep p H H1) (h : H1 q = none) : Keep p H (upd H1 q o) := fun c u e n => by
  have z := a c u e n
  rw [upd_ne (ne_of_none z h)]
  exact z
theorem Keep.same {p : Addr} {H H1 H2 : Hp} (a : Same H H1) (n : H p = none) (b : Keep p H1 H2) : Same H H2 := fun c o e => b c o (a c o e) (ne_of_none e n)
theorem _root_.L2.Same.neww {q : Addr} {H H1 : Hp} {o : HO} (a : Same H H1) (h : H1 q = none) : Same H (upd H1 q o) := fun c u e => by
  have z := a c u e
  rw [upd_ne (ne_of_none z h)]
  exact z
theorem Same_upd {q : Addr} {H : Hp} {o : HO} (h : H q = none) : Same H (L2.upd H q o) := (Same.refl H).neww h
/-- a new object, its heap a letter -/
theorem newO {H : Hp} {o : HO} {Q : VK} (h : ∀ p H', H p = none → H' p = some o → Same H H' → Q (.ref p) H') : ∀ p, H p = none → Q (.ref p) (L2.upd H p o) :=
  fun p n => h p _ n upd_same (Same_upd n)
/-- a change at p, its heap a letter -/
theorem setO {H : Hp} {p : Addr} {o : HO} {Q : Hp → Prop} (h : ∀ H', H' p = some o → Keep p H H' → Q H') : Q (L2.upd H p o) :=
  h _ upd_same (Keep.refl p H).own
theorem _root_.L2.Same.keepw {p : Addr} {H H' : Hp} (s : Same H H') : Keep p H H' := fun c o e _ => s c o e
theorem _root_.L2.Same.bgw {H H' : Hp} {p : Addr} (s : Same H H') (b : Bg H p) : Bg H' p := by
  obtain ⟨x, ok, h⟩ := b
  exact ⟨x, ok, s _ _ h⟩
theorem Bg.ne {H : Hp} {p q : Addr} (b : Bg H p) (h : H q = none) : p ≠ q := by
  obtain ⟨x, _, e⟩ := b
  exact ne_of_none e h
/-- an item of a written list of ints -/
theorem menu (xs : List Int) {i : Int} (h0 : 0 ≤ i) (h1 : i < xs.length) : atI (xs.map V.int) i = some (.int (xs.getD i.toNat 0)) := by
  obtain ⟨j, rfl⟩ := Int.eq_ofNat_of_zero_le h0
  have hl : j < xs.length := by omega
  refine atI_nat ?_
  rw [List.getElem?_map, List.getElem?_eq_getElem hl]
  simp [List.getD, List.getElem?_eq_getElem hl]
theorem menu_all {q : Int → Prop} (xs : List Int) (h : ∀ x ∈ xs, q x) (z : q 0) (n : Nat) : q (xs.getD n 0) := by
  by_cases hl : n < xs.length
  · have e : xs.getD n 0 = xs[n] := by simp [List.getD, List.getElem?_eq_getElem hl]
    rw [e]
    exact h _ (List.getElem_mem hl)
  · have e : xs.getD n 0 = 0 := by simp [List.getD, List.getElem?_eq_none (by omega : xs.length ≤ n)]
    rw [e]
    exact z
/-- an item of a written list of any values -/
theorem menuV (xs : List V) {i : Int} (h0 : 0 ≤ i) (h1 : i < xs.length) : ∃ v ∈ xs, atI xs i = some v := by
  obtain ⟨j, rfl⟩ := Int.eq_ofNat_of_zero_le h0
  have hl : j < xs.length := by omega
  exact ⟨xs[j], List.getElem_mem hl, atI_nat (List.getElem?_eq_getElem hl)⟩
/-- the end of a law's row, with the bits of the script's numbers -/
theorem walk_bits {l : PySem.W.OpenLaw} {n k : Nat} {q : Program} {loose : List Str} {XP : (Str → Option Value) → Heap → Prop} {YP : World → Heap → Prop} {d : DefRec} {x : Str}
    (hn : l.most = some n) (hn2 : n ≤ sizeLine) (hdf : d.params.defaults = []) (hr : Room k callerA)
    (F : ∀ (w : World) (mg : Str → Option Value) (fa : Addr) (h : Heap), YP w h → h.Ns mainGlobals mg → mg d.name = some (.ref fa) →
      ∃ K : PySem.W.Frag, K.In h ∧ ∃ (fd : FuncData) (sp : Sp), (∀ (s : Shared) (u : Value), BindsTo s fd ⟨[u], []⟩ [(x, u)]) ∧
        (∀ (H : Hp) (a : Addr) (ns : List Int), ns.length ≤ n → (∀ z ∈ ns, Builtin.Int.intBits z ≤ 1048576) → SqL K H a (ns.map V.int) → sp [.ref a] H (fun v _ => v = .bl true) fun _ _ _ => False) ∧
        ∀ base : Heap, K.In base → base.Ns mainGlobals mg → FnOk l.prog w K mg base CX0 k fa fd [x] sp) :
    PySem.W.WalkO q loose XP YP l.row.toRowW d [] (fun f vs => PySem.call f vs) := by
  refine Att.attach_callB hn hdf fun w s₀ s₁ mg mb fa o pm cd doc a vs ns G Y ho hd hcd hmg hobj hints hlen hbits hg => ?_
  obtain ⟨K, KX, fd, sp, hb, hsp, hF⟩ := F w mg fa _ Y G.T.g hmg
  exact law_call (CX := CX0) KX G.T.g G.T.b G.T.builtins G.T.nolimit hg hobj hints (Nat.le_trans hlen hn2) hr hF hb (fun H _ hS => hsp H a ns hlen hbits hS) fun _ _ _ z => z
end Wc
set_option Elab.async false
set_option linter.all false
set_option maxRecDepth 100000
set_option maxHeartbeats 4000000
/-! The operations on words, as mathematics. -/
namespace Wc
open PySem PySem.Spec PyProof.Rows L2 PySem.W

/-- the word of an int -/
def wr (n : Int) : Int := (n + 32768) % 65536 - 32768
theorem wr_lo (n : Int) : -32768 ≤ wr n := by
  unfold wr
  omega
theorem wr_hi (n : Int) : wr n ≤ 32767 := by
  unfold wr
  omega
theorem wr_wr (n : Int) : wr (wr n) = wr n := by
  unfold wr
  omega
theorem wr_mod (n : Int) : (n - wr n) % 65536 = 0 := by
  unfold wr
  omega
def Wd (n : Int) : Prop := -32768 ≤ n ∧ n ≤ 32767
theorem wr_wd (n : Int) : Wd (wr n) := ⟨wr_lo n, wr_hi n⟩
theorem wr_of {n : Int} (h : Wd n) : wr n = n := by
  unfold wr
  obtain ⟨h1, h2⟩ := h
  omega
/-- an int and its word differ by a multiple -/
theorem wr_at (n : Int) : ∃ q : Int, wr n = n + 65536 * q := ⟨-((n + 32768) / 65536), by
  unfold wr
  omega⟩
theorem wr_add_mul (n q : Int) : wr (n + 65536 * q) = wr n := by
  unfold wr
  omega
theorem wr_eq {a b : Int} (q : Int) (h : a = b + 65536 * q) : wr a = wr b := by
  rw [h, wr_add_mul]
theorem wr_mul_l (a b : Int) : wr (wr a * b) = wr (a * b) := by
  obtain ⟨q, h⟩ := wr_at a
  rw [h, Int.add_mul, Int.mul_assoc]
  exact wr_add_mul _ _
theorem wr_mul_r (a b : Int) : wr (a * wr b) = wr (a * b) := by
  rw [Int.mul_comm, wr_mul_l, Int.mul_comm]
theorem wr_add_l (a b : Int) : wr (wr a + b) = wr (a + b) := by
  unfold wr
  omega
theorem wr_add_r (a b : Int) : wr (a + wr b) = wr (a + b) := by
  unfold wr
  omega
theorem wr_sub_l (a b : Int) : wr (wr a - b) = wr (a - b) := by
  unfold wr
  omega
theorem wr_sub_r (a b : Int) : wr (a - wr b) = wr (a - b) := by
  unfold wr
  omega

/-! ### bits -/
def bit (x : Int) (k : Nat) : Int := x / 2 ^ k % 2
theorem div_pow_succ (x : Int) (k : Nat) : x / 2 ^ (k + 1) = x / 2 ^ k / 2 := by
  rw [Int.pow_succ, Int.ediv_ediv_of_nonneg (Int.le_of_lt (Int.pow_pos (by decide)))]
theorem div_pow_add (x : Int) (j k : Nat) : x / 2 ^ (j + k) = x / 2 ^ j / 2 ^ k := by
  rw [Int.pow_add, Int.ediv_ediv_of_nonneg (Int.le_of_lt (Int.pow_pos (by decide)))]
theorem bit_zero (x : Int) : bit x 0 = x % 2 := by
  unfold bit
  rw [Int.pow_zero, Int.ediv_one]
theorem bit_succ (x : Int) (k : Nat) : bit x (k + 1) = bit (x / 2) k := by
  unfold bit
  rw [Nat.add_comm k 1, div_pow_add, Int.pow_one]
theorem bit_01 (x : Int) (k : Nat) : bit x k = 0 ∨ bit x k = 1 := by
  unfold bit
  omega
theorem bit_div (x : Int) (j k : Nat) : bit (x / 2 ^ j) k = bit x (j + k) := by
  unfold bit
  rw [div_pow_add]
/-- the lowest n bits -/
theorem mod_pow_succ (x : Int) (n : Nat) : x % 2 ^ (n + 1) = x % 2 ^ n + 2 ^ n * bit x n := by
  unfold bit
  have h0 : (0 : Int) < 2 ^ n := Int.pow_pos (by decide)
  have h1 := Int.emod_add_mul_ediv x (2 ^ n)
  have h2 := Int.emod_add_mul_ediv x (2 ^ (n + 1))
  rw [div_pow_succ, Int.pow_succ] at h2
  have h3 : x / 2 ^ n = 2 * (x / 2 ^ n / 2) + x / 2 ^ n % 2 := by omega
  generalize x / 2 ^ n = y at *
  generalize y / 2 = z at *
  generalize y % 2 = b at *
  rw [Int.pow_succ]
  have h4 : (2 : Int) ^ n * 2 * z = 2 * (2 ^ n * z) := by rw [Int.mul_comm (2 ^ n) 2, Int.mul_assoc]
  have h5 : (2 : Int) ^ n * y = 2 * (2 ^ n * z) + 2 ^ n * b := by
    rw [h3, Int.mul_add, ← Int.mul_assoc, Int.mul_comm (2 ^ n) 2, Int.mul_assoc]
  omega
theorem mod_ext {x y : Int} : ∀ {n : Nat}, (∀ k, k < n → bit x k = bit y k) → x % 2 ^ n = y % 2 ^ n
  | 0, _ => by simp [Int.emod_one]
  | n + 1, h => by
    rw [mod_pow_succ, mod_pow_succ, mod_ext (n := n) fun k hk => h k (by omega), h n (by omega)]
theorem wd_ext {x y : Int} (hx : Wd x) (hy : Wd y) (h : ∀ k, k < 16 → bit x k = bit y k) : x = y := by
  have e := mod_ext h
  have e16 : (2 : Int) ^ 16 = 65536 := by decide
  rw [e16] at e
  obtain ⟨h1, h2⟩ := hx
  obtain ⟨h3, h4⟩ := hy
  omega
theorem bit_wr (x : Int) {k : Nat} (hk : k < 16) : bit (wr x) k = bit x k := by
  obtain ⟨q, e⟩ := wr_at x
  rw [e]
  unfold bit
  have e1 : (65536 : Int) = 2 ^ k * (2 * 2 ^ (15 - k)) := by
    have : (2 : Int) ^ 16 = 2 ^ (k + (1 + (15 - k))) := by
      congr 1
      omega
    rw [show (65536 : Int) = 2 ^ 16 by decide, this, Int.pow_add, Int.pow_add, Int.pow_one]
  rw [e1, Int.mul_assoc, Int.add_mul_ediv_left _ _ (by exact Int.ne_of_gt (Int.pow_pos (by decide)))]
  rw [Int.mul_assoc, Int.add_mul_emod_self_left]

/-! ### and, or, exclusive or -/
theorem and_half (x y : Int) : Builtin.bitAnd x y / 2 = Builtin.bitAnd (x / 2) (y / 2) := by
  have := kbt_halves x y
  split at this <;> omega
theorem and_low (x y : Int) : Builtin.bitAnd x y % 2 = (x % 2) * (y % 2) := by
  have := kbt_halves x y
  rcases Int.emod_two_eq x with a | a <;> rcases Int.emod_two_eq y with b | b <;> rw [a, b] <;> split at this <;> omega
theorem bit_and : ∀ (k : Nat) (x y : Int), bit (Builtin.bitAnd x y) k = bit x k * bit y k
  | 0, x, y => by rw [bit_zero, bit_zero, bit_zero, and_low]
  | k + 1, x, y => by rw [bit_succ, bit_succ, bit_succ, and_half, bit_and k]
theorem or_half (x y : Int) : Builtin.bitOr x y / 2 = Builtin.bitOr (x / 2) (y / 2) := by
  have := kbt_halves x y
  rw [bitOr_and, bitOr_and]
  split at this <;> omega
theorem or_low (x y : Int) : Builtin.bitOr x y % 2 = if x % 2 = 1 ∨ y % 2 = 1 then 1 else 0 := by
  have := kbt_halves x y
  rw [bitOr_and]
  split <;> split at this <;> omega
theorem bit_or : ∀ (k : Nat) (x y : Int), bit (Builtin.bitOr x y) k = if bit x k = 1 ∨ bit y k = 1 then 1 else 0
  | 0, x, y => by rw [bit_zero, bit_zero, bit_zero, or_low]
  | k + 1, x, y => by rw [bit_succ, bit_succ, bit_succ, or_half, bit_or k]
theorem xor_half (x y : Int) : Builtin.bitXor x y / 2 = Builtin.bitXor (x / 2) (y / 2) := by
  have := kbt_halves x y
  rw [bitXor_and, bitXor_and]
  split at this <;> omega
theorem xor_low (x y : Int) : Builtin.bitXor x y % 2 = if x % 2 = y % 2 then 0 else 1 := by
  have := kbt_halves x y
  rw [bitXor_and]
  split <;> split at this <;> omega
theorem bit_xor : ∀ (k : Nat) (x y : Int), bit (Builtin.bitXor x y) k = if bit x k = bit y k then 0 else 1
  | 0, x, y => by rw [bit_zero, bit_zero, bit_zero, xor_low]
  | k + 1, x, y => by rw [bit_succ, bit_succ, bit_succ, xor_half, bit_xor k]
/-- a word is what is 0 or -1 behind 15 bits -/
theorem wd_iff (x : Int) : Wd x ↔ x / 32768 = 0 ∨ x / 32768 = -1 := by
  unfold Wd
  omega
theorem half_n (f : Int → Int → Int) (h : ∀ x y, f x y / 2 = f (x / 2) (y / 2)) : ∀ (n : Nat) (x y : Int), f x y / 2 ^ n = f (x / 2 ^ n) (y / 2 ^ n)
  | 0, x, y => by rw [Int.pow_zero, Int.ediv_one, Int.ediv_one, Int.ediv_one]
  | n + 1, x, y => by rw [div_pow_succ, div_pow_succ, div_pow_succ, half_n f h n, h]
theorem wd_bits (f : Int → Int → Int) (h : ∀ x y, f x y / 2 = f (x / 2) (y / 2)) (h00 : f 0 0 = 0 ∨ f 0 0 = -1) (h01 : f 0 (-1) = 0 ∨ f 0 (-1) = -1) (h10 : f (-1) 0 = 0 ∨ f (-1) 0 = -1) (h11 : f (-1) (-1) = 0 ∨ f (-1) (-1) = -1)
    {x y : Int} (hx : Wd x) (hy : Wd y) : Wd (f x y) := by
  rw [wd_iff] at *
  have e := half_n f h 15 x y
  rw [show (2 : Int) ^ 15 = 32768 by decide] at e
  rw [e]
  rcases hx with a | a <;> rcases hy with b | b <;> rw [a, b] <;> assumption
theorem wd_and {x y : Int} (hx : Wd x) (hy : Wd y) : Wd (Builtin.bitAnd x y) := wd_bits Builtin.bitAnd and_half (by decide) (by decide) (by decide) (by decide) hx hy
theorem wd_or {x y : Int} (hx : Wd x) (hy : Wd y) : Wd (Builtin.bitOr x y) := wd_bits Builtin.bitOr or_half (by decide) (by decide) (by decide) (by decide) hx hy
theorem wd_xor {x y : Int} (hx : Wd x) (hy : Wd y) : Wd (Builtin.bitXor x y) := wd_bits Builtin.bitXor xor_half (by decide) (by decide) (by decide) (by decide) hx hy

/-! ### the sixteen operations -/
inductive Sg where
  | add | sub | mul | div | rem | and | or | xor | shl | shr | eq | ne | lt | le | gt | ge
  deriving DecidableEq
def Sg.z : Sg → Str
  | .add => "+" | .sub => "-" | .mul => "*" | .div => "/" | .rem => "mod" | .and => "&" | .or => "|" | .xor => "^" | .shl => "<<" | .shr => ">>"
  | .eq => "==" | .ne => "!=" | .lt => "<" | .le => "<=" | .gt => ">" | .ge => ">="
def Sg.f : Sg → Str
  | .add => "_plus" | .sub => "_minus" | .mul => "_times" | .div => "_divide" | .rem => "_rest" | .and => "_both_bits" | .or => "_any_bits" | .xor => "_other_bits" | .shl => "_up" | .shr => "_down"
  | .eq => "_equal" | .ne => "_unequal" | .lt => "_less" | .le => "_at_most" | .gt => "_more" | .ge => "_at_least"
/-- a quotient without its fraction -/
def ab (l : Int) : Int := if l < 0 then -l else l
def quo (l r : Int) : Int := if (decide (l < 0)) = (decide (r < 0)) then ab l / ab r else -(ab l / ab r)
def b01 (b : Bool) : Int := if b then 1 else 0
def opV : Sg → Int → Int → V
  | .add, l, r => .int (wr (l + r))
  | .sub, l, r => .int (wr (l - r))
  | .mul, l, r => .int (wr (l * r))
  | .div, l, r => if r = 0 then .non else .int (wr (quo l r))
  | .rem, l, r => if r = 0 then .non else .int (l - r * quo l r)
  | .and, l, r => .int (Builtin.bitAnd l r)
  | .or, l, r => .int (Builtin.bitOr l r)
  | .xor, l, r => .int (Builtin.bitXor l r)
  | .shl, l, r => .int (wr (l * 2 ^ (r % 16).toNat))
  | .shr, l, r => .int (l / 2 ^ (r % 16).toNat)
  | .eq, l, r => .int (b01 (decide (l = r)))
  | .ne, l, r => .int (b01 (!decide (l = r)))
  | .lt, l, r => .int (b01 (decide (l < r)))
  | .le, l, r => .int (b01 (decide (l ≤ r)))
  | .gt, l, r => .int (b01 (decide (r < l)))
  | .ge, l, r => .int (b01 (decide (r ≤ l)))
/-- what an action, and what op gives -/
def spAct (s : Sg) : Sp := fun vs H Q _ => ∃ l r : Int, vs = [.int l, .int r] ∧ Wd l ∧ Wd r ∧ Q (opV s l r) H
def spOp : Sp := fun vs H Q _ => ∃ (s : Sg) (l r : Int), vs = [.str s.z, .int l, .int r] ∧ Wd l ∧ Wd r ∧ Q (opV s l r) H
theorem Wd.sm {n : Int} (h : Wd n) : n.natAbs < 2 ^ 16 := by
  obtain ⟨h1, h2⟩ := h
  omega
theorem Wd.lg {n : Int} (h : Wd n) : n.natAbs.log2 ≤ 2000000 := Wc.sm (Nat.lt_of_lt_of_le h.sm (by decide))
def spWrap : Sp := fun vs H Q _ => ∃ n : Int, vs = [.int n] ∧ Q (.int (wr n)) H
/-- the product of a number with its quotient, and the rest -/
theorem quo_at (l : Int) {r : Int} (h : r ≠ 0) : ∃ m : Int, r * quo l r = l - m ∧ ab m < ab r ∧ (m = 0 ∨ (m < 0 ↔ l < 0)) ∧ -ab l ≤ quo l r ∧ quo l r ≤ ab l := by
  have hr : 0 < ab r := by
    unfold ab
    split <;> omega
  have h1 := Int.emod_add_mul_ediv (ab l) (ab r)
  have h2 := Int.emod_lt_of_pos (ab l) hr
  have h3 := Int.emod_nonneg (ab l) (show ab r ≠ 0 by omega)
  have hl : 0 ≤ ab l := by
    unfold ab
    split <;> omega
  have h4 : 0 ≤ ab l / ab r := Int.ediv_nonneg hl (by omega)
  have h5 : ab l / ab r ≤ ab l := Int.ediv_le_self _ hl
  unfold quo
  generalize ab l / ab r = q at *
  generalize ab l % ab r = m at *
  by_cases a : l < 0 <;> by_cases b : r < 0
  · have e1 : ab l = -l := if_pos a
    have e2 : ab r = -r := if_pos b
    rw [if_pos (by rw [decide_eq_true a, decide_eq_true b])]
    rw [e2, Int.neg_mul] at h1
    exact ⟨-m, by omega, by unfold ab; split <;> omega, by omega, by omega, by omega⟩
  · have e1 : ab l = -l := if_pos a
    have e2 : ab r = r := if_neg b
    rw [if_neg (by rw [decide_eq_true a, decide_eq_false b]; decide)]
    rw [e2] at h1
    rw [Int.mul_neg]
    exact ⟨-m, by omega, by unfold ab; split <;> omega, by omega, by omega, by omega⟩
  · have e1 : ab l = l := if_neg a
    have e2 : ab r = -r := if_pos b
    rw [if_neg (by rw [decide_eq_false a, decide_eq_true b]; decide)]
    rw [e2, Int.neg_mul] at h1
    rw [Int.mul_neg]
    exact ⟨m, by omega, by unfold ab; split <;> omega, by omega, by omega, by omega⟩
  · have e1 : ab l = l := if_neg a
    have e2 : ab r = r := if_neg b
    rw [if_pos (by rw [decide_eq_false a, decide_eq_false b])]
    rw [e2] at h1
    exact ⟨m, by omega, by unfold ab; split <;> omega, by omega, by omega, by omega⟩
end Wc
set_option Elab.async false
set_option linter.all false
set_option maxRecDepth 100000
set_option maxHeartbeats 4000000
/-! enumerate(list, start=1), and a str times an int. -/
namespace WcE
open PySem
open Sem (wp)
open AutoSeq1 (wpAny_loadPart')
section
variable {prog : Program} {w : World} {A : Around} {E : Value → Shared → Prop} {s : Shared}
theorem init_kw {T mk : String} {me : Value} {more : List Value} {named : List (Str × Value)} (look : typeLookup (.type T) "__init__" = pure (some (.builtin "object.__init__")))
    (by_ : Bind.madeBy (.type T) = pure (some mk)) (own : (some mk != some "object.__new__") = true) :
    Meets (Builtin.«object.__init__» ⟨me :: more, named⟩) (fun _ R z => z.TypeIs me T ∧ R (.ok (.ret .none)) z) := by
  refine Meets.of_wp fun p v B R z hz => ?_
  obtain ⟨ty, fin⟩ := hz
  cases more with
  | nil =>
    cases named with
    | nil => exact wpAny_pure ⟨_, rfl, fin⟩
    | cons k ks =>
      repeat (any_goals (first | assumption | wp_step))
      exact ⟨_, rfl, fin⟩
  | cons x xs =>
    cases named with
    | nil =>
      repeat (any_goals (first | assumption | wp_step))
      exact ⟨_, rfl, fin⟩
    | cons k ks =>
      repeat (any_goals (first | assumption | wp_step))
      exact ⟨_, rfl, fin⟩
theorem type_kw {T mk : String} {Bn : Builtin} {args : List Value} {named : List (Str × Value)} {S : Spec} {Q : Value → Shared → Prop} (tc : TypeCalled T mk "object.__init__")
    (own : (some mk != some "object.__new__") = true) (chk : checkTypeCall T ⟨args, named⟩ = pure ()) (chn : checkBuiltinCall mk ⟨.type T :: args, named⟩ = pure ())
    (ok : ∀ obj, argsOk "object.__init__" ⟨obj :: args, named⟩) (en : entryFor table mk = some Bn) (g : Meets (Bn ⟨.type T :: args, named⟩) S)
    (h : S A.in1 (wants (fun obj z => z.TypeIs obj T ∧ Q obj z) E) s) : wpAny (model prog w) A (call (.type T) args named) Q E s := by
  obtain ⟨c, tl, order⟩ := tc.mro
  have made := tc.made
  have subT := tc.sub
  refine wpAny_call (codeAny_of_tree ?_)
  show wpAny _ _ (callAny (.type T) _) _ _ _
  refine wpAny_pure ⟨Code.quiet_builtin _ (by decide +kernel), codeAny_builtin F.entry_type_call ?_⟩
  rw [Around.under_plain (weight_type_call_type T args named) (units_type_call_type T args named)]
  have n1 := tc.notType
  have n2 := tc.canCreate
  repeat (any_goals (first | assumption | wp_step))
  refine codeAny_mono (codeAny_call_builtin tc.plain en (wpAny_of_eq chn (g prog w A.in1 _ s h))) fun r z rz => ?_
  cases r with
  | error e => exact rz
  | ok fl =>
    cases fl with
    | ret obj =>
      obtain ⟨ty, q⟩ := rz
      have look := tc.init.lookup
      have bound := tc.init.bind obj
      repeat (any_goals (first | assumption | wp_step))
      have inits := init_kw (more := args) (named := named) look made own prog w A.in1 (wants (fun r z' => r = .none ∧ Q obj z') E) z ⟨ty, rfl, q⟩
      refine codeAny_mono (codeAny_call_builtin tc.init.plain F.entry_object_init (tc.init.check _ _ _ _ _ _ _ _ ty (ok obj) inits)) fun r2 z2 rz2 => ?_
      cases r2 with
      | error e => exact rz2
      | ok fl2 =>
        cases fl2 with
        | ret r =>
          obtain ⟨rfl, q2⟩ := rz2
          repeat (any_goals (first | assumption | wp_step))
        | _ => exact rz2.elim
    | _ => exact rz.elim
/-- what list and which item: the row number stands apart from the place -/
theorem step_item {e it l : Addr} {j : Int} {i : Nat} {items : Array Value} {x was : Value} {Q : Value → Shared → Prop} (ee : IsEnum s.heap e it j was) (ei : s.heap.IsListIter it l i) (el : s.heap.IsList l items) (ex : items[i]? = some x) (ne : e ≠ it)
    (fin : ∀ h', IsEnumOut h' e it (j + 1) x s.heap.objs.size → h'.IsListIter it l (i + 1) → h'.get? s.heap.objs.size = some { cls := .type "tuple", data := .seq #[.int j s.toks, x] } → h'.objs.size = s.heap.objs.size + 1 →
      (∀ b o, b ≠ e → b ≠ it → s.heap.get? b = some o → h'.get? b = some o) → Q (.ref s.heap.objs.size) { s with heap := h', toks := s.toks + 1 }) :
    wpAny (model prog w) A (Builtin.«enumerate.__next__» ⟨[.ref e], []⟩) (fun f z => ∃ v, f = .done (.ret v) ∧ Q v z) E s := by
  obtain ⟨hp, g, d, tk, os⟩ := s
  show wpAny _ _ (field (.ref e) 2 >>= _) _ _ _
  refine wpAny_bind (wpAny_field ee rfl (x := .ref it) rfl (wpAny_bind (wpAny_nextOf_list_item ei el ex fun k1 ei1 sb1 => ?_)))
  replace sb1 : Heap.SameBut it hp k1 := sb1
  have ee1 : IsEnum k1 e it j was := (sb1.2 e ne).trans ee
  show wpAny _ _ (field (.ref e) 3 >>= _) _ _ ⟨k1, g, d, tk, os⟩
  refine wpAny_bind (wpAny_field ee1 rfl (x := rawInt j) rfl ?_)
  show wpAny _ _ (field (.ref e) 4 >>= _) _ _ ⟨k1, g, d, tk, os⟩
  refine wpAny_bind (wpAny_field ee1 rfl (x := .none) rfl ?_)
  show wpAny _ _ (mkInt j >>= _) _ _ ⟨k1, g, d, tk, os⟩
  refine wpAny_bind (wpAny_mkInt ?_)
  show wpAny _ _ (setField (.ref e) 3 (rawInt (j + 1)) >>= _) _ _ ⟨k1, g, d, tk + 1, os⟩
  refine wpAny_bind (wpAny_setField_rec ee1 (by simp) fun k2 ee2 sb2 => ?_)
  replace sb2 : Heap.SameBut e k1 k2 := sb2
  replace ee2 : IsEnum k2 e it (j + 1) was := ee2
  show wpAny _ _ (setField (.ref e) 4 .none >>= _) _ _ ⟨k2, g, d, tk + 1, os⟩
  refine wpAny_bind (wpAny_setField_rec ee2 (by simp) fun k3 ee3 sb3 => ?_)
  replace sb3 : Heap.SameBut e k2 k3 := sb3
  replace ee3 : IsEnum k3 e it (j + 1) was := ee3
  show wpAny _ _ (newTuple [.int j tk, x] >>= _) _ _ ⟨k3, g, d, tk + 1, os⟩
  refine wpAny_bind (wpAny_newTuple ?_)
  have ee4 : IsEnum (k3.push { cls := .type "tuple", data := .seq #[.int j tk, x] }) e it (j + 1) was := Heap.get?_push_of_some _ ee3
  generalize pair : k3.push { cls := .type "tuple", data := .seq #[.int j tk, x] } = k4 at ee4
  have sz : k3.objs.size = hp.objs.size := by rw [sb3.1, sb2.1, sb1.1]
  have below : e < hp.objs.size := Heap.lt_size ee
  have at4 : k4.get? hp.objs.size = some { cls := .type "tuple", data := .seq #[.int j tk, x] } := by
    rw [← pair, ← sz]
    exact Heap.get?_push_size _ rfl
  have sz4 : k4.objs.size = hp.objs.size + 1 := by rw [← pair, Heap.size_push, sz]
  have old4 : ∀ b o, b ≠ e → b ≠ it → hp.get? b = some o → k4.get? b = some o := fun b o be bi hb => by
    rw [← pair]
    exact Heap.get?_push_of_some _ (sb3.extBut b o be (sb2.extBut b o be (sb1.extBut b o bi hb)))
  have ei4 : k4.IsListIter it l (i + 1) := by
    obtain ⟨o, ho, r⟩ := (ei1.extBut sb2.extBut (Ne.symm ne)).extBut sb3.extBut (Ne.symm ne)
    rw [← pair]
    exact ⟨o, Heap.get?_push_of_some _ ho, r⟩
  show wpAny _ _ (Builtin.SmallTypes.ownedTupleIsFree (.ref e) >>= _) _ _ ⟨k4, g, d, tk + 1, os⟩
  rw [sz]
  clear pair ee3 sb3 ee2 sb2 ee1 sb1 ei1 sz k3 k2 k1
  refine wpAny_bind ?_
  unfold Builtin.SmallTypes.ownedTupleIsFree
  refine wpAny_bind (wpAny_field ee4 rfl (x := .none) rfl (wpAny_pure ?_))
  simp only [if_true]
  refine wpAny_bind (wpAny_rule ?_)
  refine wpAny_bind (wpAny_field ee4 rfl (x := was) rfl ?_)
  refine wpAny_bind (wpAny_setField_rec ee4 (by simp) fun k5 ee5 sb5 => ?_)
  replace sb5 : Heap.SameBut e k4 k5 := sb5
  replace ee5 : IsEnum k5 e it (j + 1) x := ee5
  show wpAny _ _ (Builtin.SmallTypes.ownedTupleHandOut (.ref e) (.ref hp.objs.size) >>= _) _ _ ⟨k5, g, d, tk + 1, os⟩
  refine wpAny_bind ?_
  unfold Builtin.SmallTypes.ownedTupleHandOut
  refine wpAny_bind (wpAny_setField_rec ee5 (by simp) fun k6 ee6 sb6 => ?_)
  replace sb6 : Heap.SameBut e k5 k6 := sb6
  replace ee6 : IsEnumOut k6 e it (j + 1) x hp.objs.size := ee6
  refine wpAny_setField_rec ee6 (by simp) fun k7 ee7 sb7 => ?_
  replace sb7 : Heap.SameBut e k6 k7 := sb7
  replace ee7 : IsEnumOut k7 e it (j + 1) x hp.objs.size := ee7
  have apart := Nat.ne_of_gt below
  refine wpAny_bind (wpAny_letGo (wpAny_pure ⟨_, rfl, fin k7 ee7 ?_ ?_ ?_ ?_⟩))
  · exact ((ei4.extBut sb5.extBut (Ne.symm ne)).extBut sb6.extBut (Ne.symm ne)).extBut sb7.extBut (Ne.symm ne)
  · exact sb7.extBut _ _ apart (sb6.extBut _ _ apart (sb5.extBut _ _ apart at4))
  · rw [sb7.1, sb6.1, sb5.1, sz4]
  · exact fun b o be bi hb => sb7.extBut b o be (sb6.extBut b o be (sb5.extBut b o be (old4 b o be bi hb)))
theorem next_item {e it l : Addr} {j : Int} {i : Nat} {items : Array Value} {x was : Value} {Q : Option Value → Shared → Prop} (ee : IsEnum s.heap e it j was) (ei : s.heap.IsListIter it l i) (el : s.heap.IsList l items) (ex : items[i]? = some x) (ne : e ≠ it)
    (fin : ∀ h', IsEnumOut h' e it (j + 1) x s.heap.objs.size → h'.IsListIter it l (i + 1) → h'.get? s.heap.objs.size = some { cls := .type "tuple", data := .seq #[.int j s.toks, x] } → h'.objs.size = s.heap.objs.size + 1 →
      (∀ b o, b ≠ e → b ≠ it → s.heap.get? b = some o → h'.get? b = some o) → Q (some (.ref s.heap.objs.size)) { s with heap := h', toks := s.toks + 1 }) : wpAny (model prog w) A (pyNext (.ref e)) Q E s := by
  have ty : s.TypeIs (.ref e) "enumerate" := ⟨_, ee, rfl⟩
  unfold pyNext
  refine wpAny_bind (wpAny_attempt (wpAny_callSpecial?_slot (name := Str.ofString "__next__") ty F.slot_enumerate_next ?_))
  exact wpAny_call_entry F.slot_enumerate_next ty F.entry_enumerate_next (step_item ee ei el ex ne fun h' a b c d k => wpAny_pure (fin h' a b c d k)) (F.args_enumerate_next_1 _)
theorem next_end {e it l : Addr} {j : Int} {i : Nat} {items : Array Value} {was : Value} {Q : Option Value → Shared → Prop} (nh : A.handled = none) (ee : IsEnum s.heap e it j was) (ei : s.heap.IsListIter it l i) (el : s.heap.IsList l items) (ex : items[i]? = none)
    (fin : ∀ h', Heap.ExtBut it s.heap h' → Q none { s with heap := h' }) : wpAny (model prog w) A (pyNext (.ref e)) Q E s := by
  have ty : s.TypeIs (.ref e) "enumerate" := ⟨_, ee, rfl⟩
  unfold pyNext
  refine wpAny_bind (wpAny_attempt (wpAny_callSpecial?_slot (name := Str.ofString "__next__") ty F.slot_enumerate_next ?_))
  refine wpAny_call_entry F.slot_enumerate_next ty F.entry_enumerate_next ?_ (F.args_enumerate_next_1 _)
  show wpAny _ _ (field (.ref e) 2 >>= _) _ _ _
  refine wpAny_bind (wpAny_field ee rfl (x := .ref it) rfl (wpAny_bind (wpAny_nextOf_list_end nh ei el ex fun k x ek ex' => ?_)))
  obtain ⟨o, ho, hc⟩ := ex'
  exact wpAny_bind (wpAny_isInstance (T := "StopIteration") (b := true) ⟨o, ho, hc⟩ isSubtype_stop (wpAny_pure (fin _ ek)))
theorem new_kw (l : Addr) (items : Array Value) (n : Nat) (dct : Option Addr) (sl : Array (Option Value)) (t : Tok) :
    Meets (Builtin.«enumerate.__new__» ⟨[.type "enumerate", .ref l], [("start", .int 1 t)]⟩) (fun _ R z => z.heap.get? l = some { cls := .type "list", dict := dct, data := .seq items n, slots := sl } ∧
      R (.ok (.ret (.ref (z.heap.push { cls := .type "list_iterator", data := .fields #[.ref l, .int 0 0] }).objs.size)))
        { z with heap := (z.heap.push { cls := .type "list_iterator", data := .fields #[.ref l, .int 0 0] }).push { cls := .type "enumerate", data := .fields #[.none, .bool false, .ref z.heap.objs.size, rawInt 1, .none, .none] } }) := by
  refine Meets.of_wp fun p v B R z hz => ?_
  obtain ⟨hp, g, d, tk, os⟩ := z
  obtain ⟨el, fin⟩ := hz
  have subE := sub_enumerate
  have isL : Heap.IsList (Shared.heap ⟨hp, g, d, tk, os⟩) l items := ⟨_, el, rfl, n, rfl⟩
  wp_walk using wpAny_loadPart' el
  refine wpAny_stack_any fun st => wpAny_pure ?_
  split
  · rename_i c _ _ _ _ _
    cases (c == Value.type "enumerate")
    · wp_walk using wpAny_loadPart' el, wpAny_pyIter_list isL
      exact ⟨_, rfl, fin⟩
    · wp_walk using wpAny_loadPart' el, wpAny_pyIter_list isL
      exact ⟨_, rfl, fin⟩
  · wp_walk using wpAny_loadPart' el, wpAny_pyIter_list isL
    exact ⟨_, rfl, fin⟩
theorem chk_t (a b : Value) : checkTypeCall "enumerate" ⟨[a], [("start", b)]⟩ = pure () := by kernel_rfl
theorem chk_n (a b : Value) : checkBuiltinCall "enumerate.__new__" ⟨[.type "enumerate", a], [("start", b)]⟩ = pure () := by kernel_rfl
theorem ok_init (a b c : Value) : argsOk "object.__init__" ⟨[a, b], [("start", c)]⟩ := by
  unfold argsOk
  rw [signature?_of (id := "object.__init__") (n := ['_', '_', 't', 'i', 'n', 'i', '_', '_']) (o := ['t', 'c', 'e', 'j', 'b', 'o']) (by kernel_rfl) F.owner_object]
  kernel_rfl
theorem call_enum1 {l : Addr} {items : Array Value} {t : Tok} {Q : Value → Shared → Prop} (isL : s.heap.IsList l items)
    (fin : ∀ h', IsEnum h' (s.heap.objs.size + 1) s.heap.objs.size 1 .none → h'.IsListIter s.heap.objs.size l 0 → h'.objs.size = s.heap.objs.size + 2 → (∀ b o, s.heap.get? b = some o → h'.get? b = some o) → Q (.ref (s.heap.objs.size + 1)) { s with heap := h' }) :
    wpAny (model prog w) A (call (.type "enumerate") [.ref l] [("start", .int 1 t)]) Q E s := by
  obtain ⟨⟨c, dct, dt, sl⟩, el, ec, n, ed⟩ := isL
  replace ec : c = .type "list" := ec
  replace ed : dt = .seq items n := ed
  subst ec ed
  refine type_kw F.called_enumerate (by decide) (chk_t _ _) (chk_n _ _) (fun obj => ok_init obj _ _) F.entry_enumerate_new (new_kw l items n dct sl t) ⟨el, ?_⟩
  have sz : (s.heap.push { cls := .type "list_iterator", data := .fields #[.ref l, .int 0 0] }).objs.size = s.heap.objs.size + 1 := Heap.size_push ..
  show _ ∧ _
  rw [sz]
  have ee : IsEnum ((s.heap.push { cls := .type "list_iterator", data := .fields #[.ref l, .int 0 0] }).push { cls := .type "enumerate", data := .fields #[.none, .bool false, .ref s.heap.objs.size, rawInt 1, .none, .none] }) (s.heap.objs.size + 1) s.heap.objs.size 1 .none := by
    have z := Heap.get?_push_size (s.heap.push { cls := .type "list_iterator", data := .fields #[.ref l, .int 0 0] }) (o := { cls := .type "enumerate", data := .fields #[.none, .bool false, .ref s.heap.objs.size, rawInt 1, .none, .none] }) rfl
    rw [sz] at z
    exact z
  exact ⟨⟨_, ee, rfl⟩, fin _ ee ⟨_, Heap.get?_push_of_some _ (Heap.get?_push_size _ rfl), rfl, rfl⟩ (by rw [Heap.size_push, sz]) fun b o x => Heap.get?_push_of_some _ (Heap.get?_push_of_some _ x)⟩
theorem with_kw {M : Model} {T : String} {pos : Pos} {e : Expr} {rest : List Expr} {kws : List Keyword} {env : Env} {Q : Value → Shared → Prop}
    (h : wpAny M A (spliced (backTo pos (starEach (e :: rest) env))) (fun vs z => wpAny M A (evalAll ((backToKw pos (keywordEach kws env)).map (·.2))) (fun ws z2 => wpAny M A (call (.type T) vs (((backToKw pos (keywordEach kws env)).filterMap (·.1)).zip ws)) Q E z2) E z) E s)
    (first : backTo pos (starEach (e :: rest) env) = (false, eval e env) :: backTo pos (starEach rest env) := by rfl) (plain : (backTo pos (starEach (e :: rest) env)).any (·.1) = false := by rfl)
    (named : (backToKw pos (keywordEach kws env)).all (·.1.isSome) = true := by rfl) (known : (backToKw pos (keywordEach kws env)).any (·.1.isNone) = false := by rfl) :
    wpAny M A (callWith pos (.type T) [] (backTo pos (starEach (e :: rest) env)) (backToKw pos (keywordEach kws env))) Q E s := by
  rw [first] at h
  have inner := PyProof.Rows.evalArgs_kwB (f := .type T) (Q := fun a z => wpAny M A (call (.type T) ([] ++ a.pos) a.kw) Q E z) named h
  unfold callWith
  rw [first]
  refine wpAny_bind (wpAny_holding (wpAny_mono inner (fun a z hz => wpAny_bind (wpAny_standAt ?_)) fun _ _ x => x))
  rw [first] at plain
  simp only [plain, known, Bool.or_false]
  refine wpAny_bind (wpAny_pure ?_)
  exact wpAny_bind (wpAny_mono hz (fun r z2 hr => wpAny_bind (wpAny_holding (wpAny_point (wpAny_pure hr)))) fun _ _ x => x)
end
end WcE
namespace Wc
open PySem PySem.Spec PyProof.Rows L2
/-- the list at a, its items in new pairs with numbers from 1 -/
def Ite1 (K : PySem.W.Frag) (a : Addr) : It :=
  ⟨fun i H => ∃ (xs : List V) (x : V), SqL K H a xs ∧ xs[i]? = some x, fun i H v H' => ∃ T x, v = .ref T ∧ H T = none ∧ H' = upd H T (.tup [.int ((i : Nat) + 1 : Int), x]) ∧ ∀ xs, SqL K H a xs → xs[i]? = some x, fun i H => ∃ xs : List V, SqL K H a xs ∧ xs.length ≤ i⟩
theorem turn_enum1 {P : Program} {w : World} {K : PySem.W.Frag} {elts : List Expr} {kk : Nat} {tpos : Pos} (a e it : Addr) :
    Turn P w K (.Tuple elts kk tpos) (Ite1 K a) [e, it] e (fun i h => (∃ was, IsEnum h e it ((i : Nat) + 1 : Int) was) ∧ h.IsListIter it a i ∧ e ≠ it) where
  mem := by simp
  obj := fun i h st b hb => by
    obtain ⟨⟨was, ee⟩, ⟨o, ho, hc, hd⟩, _⟩ := st
    rcases (show b = e ∨ b = it by simpa using hb) with z | z
    · rw [z]
      exact ⟨_, ee, fun v q => nomatch q⟩
    · rw [z]
      exact ⟨o, ho, fun v q => by rw [hd] at q; cases q⟩
  keep := fun i h h' st k => let ⟨⟨was, ee⟩, ei, ne⟩ := st; ⟨⟨was, k e (by simp) _ ee⟩, ei.at fun o q => k it (by simp) o q, ne⟩
  item := by
    intro X eP ew eK calm i pins s σ H E I own st go
    subst eP ew eK
    obtain ⟨⟨was, ee⟩, ei, ne⟩ := st
    obtain ⟨xs, x, hq, hx⟩ := go
    obtain ⟨its, rv, p, _⟩ := I.list hq
    obtain ⟨u, hu, ru⟩ := rv.get hx
    have be : e < s.heap.objs.size := Heap.lt_size ee
    have bi : it < s.heap.objs.size := by obtain ⟨_, q, _⟩ := ei; exact Heap.lt_size q
    refine WcE.next_item ee ei p.isList (x := u) (by simpa using hu) ne fun k out ei2 pair _ old => ⟨_, rfl, ?_⟩
    refine wpAny_letOwnedTupleGo_enum (s := { s with heap := k, toks := s.toks + 1 }) out fun k2 ee2 sb => ?_
    have pair2 : k2.get? s.heap.objs.size = some { cls := .type "tuple", data := .seq #[.int ((i : Int) + 1) s.toks, u] } := (sb.2 _ (Nat.ne_of_gt be)).trans pair
    have new : ObjOk X.prog X.w (upd H s.heap.objs.size (.tup [.int ((i : Nat) + 1 : Int), x])) k2 s.heap.objs.size (.tup [.int ((i : Nat) + 1 : Int), x]) :=
      ⟨by show 2 ≤ sizeLine; decide, [.int ((i : Int) + 1) s.toks, u], .cons ⟨_, rfl⟩ (.cons ru .nil), ⟨_, pair2, rfl, _, rfl⟩⟩
    have keepOld : ∀ b ob, b ∉ [e, it] → s.heap.get? b = some ob → k2.get? b = some ob := fun b ob hb q => (sb.2 b (fun z => hb (by simp [z]))).trans (old b ob (fun z => hb (by simp [z])) (fun z => hb (by simp [z])) q)
    have I1 : Inv X pins σ (upd H s.heap.objs.size (.tup [.int ((i : Nat) + 1 : Int), x])) { s with heap := k2, toks := s.toks + 1 } := I.turnedNew (ch := [e, it]) keepOld own (Nat.le_refl _) new
    refine ⟨.ref s.heap.objs.size, _, I1, rfl, ⟨_, x, rfl, I.hok.fresh (Nat.le_refl _), rfl, fun ys hy => by rw [I.list_inj hy hq]; exact hx⟩, ⟨⟨u, ?_⟩, ei2.at fun o q => (sb.2 it (Ne.symm ne)).trans q, ne⟩, fun b hb => ?_⟩
    · have e1 : ((i + 1 : Nat) : Int) = (i : Int) + 1 := by omega
      rw [e1]
      exact ee2
    · have lt : b < s.heap.objs.size := by
        rcases (show b = e ∨ b = it by simpa using hb) with z | z
        · exact z ▸ be
        · exact z ▸ bi
      rw [upd_ne (Nat.ne_of_lt lt)]
      exact (own b hb).1
  done := by
    intro X eP ew eK calm i pins s σ H E I own st go
    subst eP ew eK
    obtain ⟨⟨was, ee⟩, ei, ne⟩ := st
    obtain ⟨xs, hq, hx⟩ := go
    obtain ⟨its, rv, p, _⟩ := I.list hq
    obtain ⟨f0, f1, f2, f3, f4, f5⟩ := own it (by simp)
    have len := rv.length
    exact WcE.next_end (I.ok.hd calm) ee ei p.isList (by simp; omega) fun k eb => ⟨rfl, I.turned (t' := s.toks) (fun b o hb q => eb b o hb q) f0 f1 f3 f4 f5⟩
  self := fun A i s Q E st h => let ⟨⟨_, ee⟩, _⟩ := st; wpAny_pyIter_enum ee h
def iEnum1 (K : PySem.W.Frag) (ta : TA) : TI := fun σ H R => ta σ H fun vs H1 => ∃ a xs, vs = [.ref a] ∧ SqL K H1 a xs ∧ R (Ite1 K a) H1
theorem pi_enum1 {X : Cx} {e one : Expr} {ta : TA} {p pos tpos kp : Pos} {elts : List Expr} {kk : Nat} (hg : Gl X "enumerate") (hm : X.mg "enumerate" = none) (ha : PA X [e] ta) (ho : PE X one (tC (.int 1)))
    (h1 : backTo pos (starEach [e] X.env) = (false, eval e X.env) :: backTo pos (starEach [] X.env) := by rfl) (h2 : (backTo pos (starEach [e] X.env)).any (·.1) = false := by rfl)
    (h3 : (backToKw pos (keywordEach [⟨some "start", one, kp⟩] X.env)).all (·.1.isSome) = true := by rfl) (h4 : (backToKw pos (keywordEach [⟨some "start", one, kp⟩] X.env)).any (·.1.isNone) = false := by rfl)
    (h5 : (backToKw pos (keywordEach [⟨some "start", one, kp⟩] X.env)).filterMap (·.1) = [Str.ofString "start"] := by rfl) :
    PI X (.Tuple elts kk tpos) (.Call (.Name "enumerate" p) [e] [⟨some "start", one, kp⟩] pos) (iEnum1 X.K ta) := by
  refine ⟨fun pins s σ H R I h => ?_⟩
  refine wpAny_Call_Name_kw (ld_blt I hg hm boot_enumerate ?_)
  refine WcE.with_kw (thn (ha.run pos pins s σ H _ I h) fun us z ⟨vs, H1, I1, r1, q1⟩ => thn ((pk_cons ho pk_nil).run pos pins z σ H1 _ I1 (show tCons (tC (.int 1)) tNil σ H1 (fun ws H2 => ws = [.int 1] ∧ H2 = H1) from ⟨rfl, rfl⟩)) fun ws z2 ⟨zs, H2, I2, r2, q2⟩ => ?_) h1 h2 h3 h4
  obtain ⟨a, xs, ex, hq, q⟩ := q1
  obtain ⟨e1, e2⟩ := q2
  subst ex e1 e2
  obtain rfl := Vals.ref1 r1
  obtain ⟨w1, rfl, t, rfl⟩ := vals1 r2
  rw [h5]
  obtain ⟨its, rv, p', _⟩ := I2.list hq
  refine WcE.call_enum1 p'.isList fun k ee ei sz old => wpAny_pyIter_enum ee ?_
  have I3 : Inv X pins σ H2 { z2 with heap := k } := I2.kept (t' := z2.toks) old
  refine ⟨z2.heap.objs.size + 1, [z2.heap.objs.size + 1, z2.heap.objs.size], _, _, H2, rfl, I3, turn_enum1 a (z2.heap.objs.size + 1) z2.heap.objs.size, ⟨⟨.none, ee⟩, ei, Nat.succ_ne_self _⟩, fun b hb => ?_, q⟩
  have le : z2.heap.objs.size ≤ b := by
    rcases (show b = z2.heap.objs.size + 1 ∨ b = z2.heap.objs.size by simpa using hb) with y | y
    · rw [y]
      exact Nat.le_add_right _ _
    · rw [y]
      exact Nat.le_refl _
  exact I2.fpOk le (I2.hok.fresh le)
/-- str * int -/
theorem op_mulS {X : Cx} : OpR X (binaryOp .Mult) (fun x y H Q => ∃ (a : Str) (n : Int), x = .str a ∧ y = .int n ∧ MulOk a n ∧ Q (.str (Txt.mul a n)) H) := by
  intro pins s σ H x y v u Q I rx ry h
  obtain ⟨a, n, rfl, rfl, ok, q⟩ := h
  obtain ⟨t1, rfl⟩ := rx
  obtain ⟨t2, rfl⟩ := ry
  exact SB.mul ok fun t' k => ⟨.str (Txt.mul a n), H, I.tok _, ⟨_, rfl⟩, q⟩
end Wc
set_option Elab.async false
set_option linter.all false
set_option maxRecDepth 100000
set_option maxHeartbeats 4000000
/-! New objects; comprehensions over a range, over a list; cuts of lists. -/
namespace Wc
open PySem PySem.Spec PyProof.Rows L2 PySem.W
open C8 (Cal pe_c pe_gc)

/-- a new object that is o, all else kept -/
def New (H : Hp) (o : HO) (Q : VK) : Prop := ∀ (r : Addr) (H' : Hp), H r = none → H' r = some o → Same H H' → Q (.ref r) H'
theorem New.go {H : Hp} {o : HO} {Q : VK} (h : New H o Q) : ∀ p, H p = none → Q (.ref p) (upd H p o) := fun p n => h p _ n upd_same (Same_upd n)
theorem New.mono {H H1 : Hp} {o : HO} {Q : VK} (h : New H o Q) (s : Same H H1) : New H1 o Q := fun r H' n e s' => h r H' (s.free n) e (s.trans s')
/-- a comprehension over a range whose elements leave the heap as it is -/
theorem lcR {lo : Int} {n s : Nat} {te : TE} {σ : L2.St} {H1 : Hp} {D : Addr} {Qd : Hp → Prop} (f : Nat → V) (hn : n ≤ 1000) (hD : H1 D = none)
    (hw : ∀ v, wipe ((wipe σ [s]).set s v) [s] = wipe σ [s])
    (hs : ∀ (i : Nat) (H : Hp) (Q : VK), i < n → Same H1 H → Q (f i) H → te ((wipe σ [s]).set s (some (.int (lo + i)))) H Q)
    (hd : ∀ H, H D = some (.lst ((List.range n).map f)) → Same H1 H → Qd H) :
    ∃ W : Nat → Nat → Hp → Prop, (∃ m, W 0 m (upd H1 D (.lst []))) ∧ ∀ i m H, W i m H →
      ((Itr lo n).stop i H ∧ Qd H) ∨ ((Itr lo n).go i H ∧ ∃ Nx : Hp → Prop, (∀ H', Nx H' → ∃ m', m' < m ∧ W (i + 1) m' H') ∧ ∀ x H', (Itr lo n).yld i H x H' → gName s x (wipe σ [s]) H' fun σ2 H2 => wipe σ2 [s] = wipe σ [s] ∧ tYes σ2 H2 fun b H3 =>
        if b = true then te σ2 H3 fun y H4 => ∃ acc, H4 D = some (.lst acc) ∧ acc.length < sizeLine ∧ Nx (upd H4 D (.lst (acc ++ [y]))) else Nx H3) := by
  refine lc_range (fun i H => H D = some (.lst ((List.range i).map f)) ∧ Same H1 H) ⟨upd_same, Same_upd hD⟩ ?_ (fun H h => hd H h.1 h.2)
  rintro i H hi ⟨e, sm⟩
  refine ⟨hw _, ?_⟩
  unfold tYes
  simp only [if_true]
  refine hs i H _ hi sm ⟨_, e, ?_, ?_, ?_⟩
  · rw [List.length_map, List.length_range]
    exact small1000 (by omega)
  · rw [List.range_succ, List.map_append]
    exact upd_same
  · intro b o hb
    rw [upd_ne (ne_of_none hb hD)]
    exact sm b o hb

theorem cut_take {xs : List V} {n : Nat} {i : Int} (e : i = (n : Int)) (h : n ≤ xs.length) : cutV xs none (some i) = xs.take n := by
  subst e
  unfold cutV
  rw [HT.sIx_none, HT.sIx_nat]
  simp [Nat.min_eq_left h]
theorem cut_drop {xs : List V} {n : Nat} {i : Int} (e : i = (n : Int)) (h : n ≤ xs.length) : cutV xs (some i) none = xs.drop n := by
  subst e
  unfold cutV
  rw [HT.sIx_none, HT.sIx_nat, Nat.min_eq_left h]
  exact List.take_of_length_le (by rw [List.length_drop]; omega)
/-- a comprehension over a list whose elements leave the heap as it is -/
theorem lcL {K : PySem.W.Frag} {a : Addr} {xs : List V} {s : Nat} {te : TE} {σ : L2.St} {H1 : Hp} {D : Addr} {Qd : Hp → Prop} (f : V → V) (hn : xs.length ≤ 1000) (hD : H1 D = none) (hS : SqL K H1 a xs)
    (hw : ∀ v, wipe ((wipe σ [s]).set s v) [s] = wipe σ [s])
    (hs : ∀ (x : V) (H : Hp) (Q : VK), x ∈ xs → Same H1 H → Q (f x) H → te ((wipe σ [s]).set s (some x)) H Q)
    (hd : ∀ H, H D = some (.lst (xs.map f)) → Same H1 H → Qd H) :
    ∃ W : Nat → Nat → Hp → Prop, (∃ m, W 0 m (upd H1 D (.lst []))) ∧ ∀ i m H, W i m H →
      ((Itl K a).stop i H ∧ Qd H) ∨ ((Itl K a).go i H ∧ ∃ Nx : Hp → Prop, (∀ H', Nx H' → ∃ m', m' < m ∧ W (i + 1) m' H') ∧ ∀ x H', (Itl K a).yld i H x H' → gName s x (wipe σ [s]) H' fun σ2 H2 => wipe σ2 [s] = wipe σ [s] ∧ tYes σ2 H2 fun b H3 =>
        if b = true then te σ2 H3 fun y H4 => ∃ acc, H4 D = some (.lst acc) ∧ acc.length < sizeLine ∧ Nx (upd H4 D (.lst (acc ++ [y]))) else Nx H3) := by
  refine lc_list (xs := xs) (fun i H => H D = some (.lst ((xs.take i).map f)) ∧ Same H1 H) ⟨by rw [List.take_zero]; exact upd_same, Same_upd hD⟩ (fun i H _ h => h.2.seq hS) ?_ (fun H h => hd H (by rw [h.1, List.take_length]) h.2)
  rintro i x H hi ⟨e, sm⟩
  refine ⟨hw _, ?_⟩
  unfold tYes
  simp only [if_true]
  refine hs x H _ (List.mem_of_getElem? hi) sm ⟨_, e, ?_, ?_, ?_⟩
  · rw [List.length_map]
    exact small1000 (Nat.le_trans (List.length_take_le _ _) (by have := (List.getElem?_eq_some_iff.mp hi).1; omega))
  · rw [List.take_add_one, hi, List.map_append]
    exact upd_same
  · intro b o hb
    rw [upd_ne (ne_of_none hb hD)]
    exact sm b o hb
end Wc
set_option Elab.async false
set_option linter.all false
set_option maxRecDepth 100000
set_option maxHeartbeats 4000000
/-! Texts by their signs. -/
namespace Wc
open PySem PySem.Spec PyProof.Rows L2
/-- a comprehension over a text whose elements leave the heap as it is -/
theorem lcS {t : List Nat} {s : Nat} {te : TE} {σ : L2.St} {H1 : Hp} {D : Addr} {Qd : Hp → Prop} (f : Nat → V) (hn : t.length ≤ 100000) (hD : H1 D = none)
    (hw : ∀ v, wipe ((wipe σ [s]).set s v) [s] = wipe σ [s])
    (hs : ∀ (c : Nat) (H : Hp) (Q : VK), c ∈ t → Same H1 H → (∀ H', Same H H' → Q (f c) H') → te ((wipe σ [s]).set s (some (.str (SX.S [c])))) H Q)
    (hd : ∀ H, H D = some (.lst (t.map f)) → Same H1 H → Qd H) :
    ∃ W : Nat → Nat → Hp → Prop, (∃ m, W 0 m (upd H1 D (.lst []))) ∧ ∀ i m H, W i m H →
      ((Its (SX.S t)).stop i H ∧ Qd H) ∨ ((Its (SX.S t)).go i H ∧ ∃ Nx : Hp → Prop, (∀ H', Nx H' → ∃ m', m' < m ∧ W (i + 1) m' H') ∧ ∀ x H', (Its (SX.S t)).yld i H x H' → gName s x (wipe σ [s]) H' fun σ2 H2 => wipe σ2 [s] = wipe σ [s] ∧ tYes σ2 H2 fun b H3 =>
        if b = true then te σ2 H3 fun y H4 => ∃ acc, H4 D = some (.lst acc) ∧ acc.length < sizeLine ∧ Nx (upd H4 D (.lst (acc ++ [y]))) else Nx H3) := by
  have hsz : (SX.S t).cps.size = t.length := by simp [SX.S]
  refine lc_it walk_str (fun i H => H D = some (.lst ((t.take i).map f)) ∧ Same H1 H) ⟨upd_same, Same_upd hD⟩ (fun _ _ _ _ => trivial) ?_ (fun H h => hd H (by rw [h.1, hsz, List.take_length]) h.2)
  rintro i x H H' hi ⟨e, sm⟩ ⟨rfl, c, hc, rfl⟩
  have hc2 : t[i]? = some c := by
    have e2 : (SX.S t).cps[i]? = t[i]? := by simp [SX.S]
    rw [← e2]
    exact hc
  refine ⟨hw _, ?_⟩
  unfold tYes
  simp only [if_true]
  refine hs c _ _ (List.mem_of_getElem? hc2) sm fun H2 s2 => ⟨_, s2 _ _ e, ?_, ?_, ?_⟩
  · rw [List.length_map, sizeLine_eq]
    exact Nat.lt_of_le_of_lt (Nat.le_trans (List.length_take_le _ _) (by have := (List.getElem?_eq_some_iff.mp hc2).1; omega)) (show 100000 < _ by decide)
  · rw [List.take_add_one, hc2, List.map_append]
    exact upd_same
  · intro b o hb
    rw [upd_ne (ne_of_none hb hD)]
    exact s2 _ _ (sm b o hb)
/-- the sign at a place -/
theorem at_nat {t : List Nat} {i : Int} {n c : Nat} (e : i = (n : Int)) (h : t[n]? = some c) : atI (SX.S t).cps.toList i = some c := by
  subst e
  exact atI_nat h
/-- a part between two others -/
theorem slice_mid {a b c : List Nat} {i j : Int} (ei : i = (a.length : Int)) (ej : j = ((a.length + b.length : Nat) : Int)) : Txt.slice (SX.S (a ++ (b ++ c))) (some i) (some j) = SX.S b := by
  subst ei ej
  rw [← C8.cutS_slice]
  unfold cutS
  have hl : (SX.S (a ++ (b ++ c))).length = a.length + (b.length + c.length) := by rw [SX.S_len, List.length_append, List.length_append]
  rw [hl, HT.sIx_nat, HT.sIx_nat, Nat.min_eq_left (by omega), Nat.min_eq_left (by omega)]
  have e : (SX.S (a ++ (b ++ c))).cps.toList = a ++ (b ++ c) := rfl
  rw [e, List.drop_left, show a.length + b.length - a.length = b.length by omega, List.take_left]
/-- a part that would end behind the text -/
theorem slice_over {a b : List Nat} {i j : Int} (ei : i = (a.length : Int)) (ej : j ≥ ((a.length + b.length : Nat) : Int)) : Txt.slice (SX.S (a ++ b)) (some i) (some j) = SX.S b := by
  obtain ⟨k, rfl⟩ := Int.eq_ofNat_of_zero_le (show 0 ≤ j by omega)
  subst ei
  rw [← C8.cutS_slice]
  unfold cutS
  have hl : (SX.S (a ++ b)).length = a.length + b.length := by rw [SX.S_len, List.length_append]
  rw [hl, HT.sIx_nat, HT.sIx_nat, Nat.min_eq_left (a := a.length) (by omega), Nat.min_eq_right (a := k) (by omega)]
  have e : (SX.S (a ++ b)).cps.toList = a ++ b := rfl
  rw [e, List.drop_left, show a.length + b.length - a.length = b.length by omega, List.take_of_length_le (Nat.le_refl _)]
/-- some signs from a place on -/
theorem slice_take {a l : List Nat} {k : Nat} {i j : Int} (ei : i = (a.length : Int)) (ej : j = (a.length : Int) + (k : Int)) : Txt.slice (SX.S (a ++ l)) (some i) (some j) = SX.S (l.take k) := by
  by_cases h : k ≤ l.length
  · have e := slice_mid (a := a) (b := l.take k) (c := l.drop k) (i := i) (j := j) ei (by rw [ej, List.length_take, Nat.min_eq_left h]; omega)
    rw [List.take_append_drop] at e
    exact e
  · rw [List.take_of_length_le (by omega)]
    exact slice_over ei (by omega)
theorem get_at {a l : List Nat} {x : Nat} : (a ++ x :: l)[a.length]? = some x := by
  rw [List.getElem?_append_right (Nat.le_refl _), Nat.sub_self]
  rfl
/-- the next place of a sign -/
theorem find_mid {a b c : List Nat} {s : Nat} {i : Int} (ei : i = (a.length : Int)) (nb : s ∉ b) : Txt.find3 (SX.S (a ++ (b ++ s :: c))) ⟨#[s]⟩ i = ((a.length + b.length : Nat) : Int) := by
  subst ei
  have hl : (SX.S (a ++ (b ++ s :: c))).length = a.length + (b.length + (c.length + 1)) := by rw [SX.S_len, List.length_append, List.length_append, List.length_cons]
  have hf : PySem.fromIndex (SX.S (a ++ (b ++ s :: c))).length (a.length : Int) = a.length := by
    rw [hl]
    unfold PySem.fromIndex
    omega
  have hg : ∀ v, (SX.S (a ++ (b ++ s :: c))).cps.getD v 0 = (a ++ (b ++ s :: c)).getD v 0 := fun v => by simp [SX.S, List.getD]
  have at_ : (a ++ (b ++ s :: c)).getD (a.length + b.length) 0 = s := by simp [List.getD]
  rcases PySem.StrLaws.find3_spec (SX.S (a ++ (b ++ s :: c))) s (a.length : Int) with ⟨_, h⟩ | ⟨k, e, h1, h2, h3, h4⟩
  · exact absurd ((hg _).trans at_) (h (a.length + b.length) (by rw [hf]; omega) (by rw [hl]; omega))
  · rw [e]
    rw [hf] at h1
    have : k = a.length + b.length := by
      rcases Nat.lt_trichotomy k (a.length + b.length) with lt | eq | gt
      · exfalso
        rw [hg] at h3
        apply nb
        obtain ⟨d, rfl⟩ : ∃ d, k = a.length + d := ⟨k - a.length, by omega⟩
        have hd : d < b.length := by omega
        rw [List.getD_eq_getElem?_getD, List.getElem?_append_right (by omega), show a.length + d - a.length = d by omega, List.getElem?_append_left hd, List.getElem?_eq_getElem hd] at h3
        have h3' : b[d] = s := h3
        rw [← h3']
        exact List.getElem_mem hd
      · exact eq
      · exact absurd ((hg _).trans at_) (h4 (a.length + b.length) (by rw [hf]; omega) gt)
    rw [this]
/-- a text in a row of texts -/
theorem in_strs {m : List Nat} {l : List (List Nat)} : inV (.str (SX.S m)) (l.map fun z => V.str (SX.S z)) = decide (m ∈ l) := by
  unfold inV
  rw [Bool.eq_iff_iff]
  simp only [List.any_eq_true, List.mem_map, decide_eq_true_eq]
  constructor
  · rintro ⟨x, ⟨z, hz, rfl⟩, e⟩
    have e2 : (SX.S z == SX.S m) = true := e
    rw [SX.S_beq_eq] at e2
    rw [← of_decide_eq_true e2]
    exact hz
  · intro h
    refine ⟨_, ⟨m, h, rfl⟩, ?_⟩
    show (SX.S m == SX.S m) = true
    rw [SX.S_beq_eq]
    exact decide_eq_true rfl
theorem flat_strs {l : List (List Nat)} : (l.map fun z => V.str (SX.S z)).all flatV = true := by
  rw [List.all_eq_true]
  intro x hx
  obtain ⟨z, _, rfl⟩ := List.mem_map.mp hx
  rfl
end Wc
set_option Elab.async false
set_option linter.all false
set_option maxRecDepth 100000
set_option maxHeartbeats 4000000
/-! Texts drawn from a bag. -/
namespace Wc
open PySem PySem.Spec PyProof.Rows L2
/-- a comprehension over a range whose elements are texts drawn from the bag at p -/
theorem lcBag {lo : Int} {n s : Nat} {te : TE} {σ : L2.St} {H1 : Hp} {D p : Addr} {Qd : Hp → Prop} (ok : List Nat → Prop) (hn : n ≤ 1000) (hD : H1 D = none) (bg : Bg H1 p)
    (hw : ∀ v, wipe ((wipe σ [s]).set s v) [s] = wipe σ [s])
    (hs : ∀ (i : Nat) (H : Hp) (Q : VK), i < n → Bg H p → Keep p H1 H → (∀ z H', ok z → Bg H' p → Keep p H H' → Q (.str (SX.S z)) H') → te ((wipe σ [s]).set s (some (.int (lo + i)))) H Q)
    (hd : ∀ H (ws : List (List Nat)), ws.length = n → (∀ z ∈ ws, ok z) → H D = some (.lst (ws.map fun z => V.str (SX.S z))) → Bg H p → Keep p H1 H → Qd H) :
    ∃ W : Nat → Nat → Hp → Prop, (∃ m, W 0 m (upd H1 D (.lst []))) ∧ ∀ i m H, W i m H →
      ((Itr lo n).stop i H ∧ Qd H) ∨ ((Itr lo n).go i H ∧ ∃ Nx : Hp → Prop, (∀ H', Nx H' → ∃ m', m' < m ∧ W (i + 1) m' H') ∧ ∀ x H', (Itr lo n).yld i H x H' → gName s x (wipe σ [s]) H' fun σ2 H2 => wipe σ2 [s] = wipe σ [s] ∧ tYes σ2 H2 fun b H3 =>
        if b = true then te σ2 H3 fun y H4 => ∃ acc, H4 D = some (.lst acc) ∧ acc.length < sizeLine ∧ Nx (upd H4 D (.lst (acc ++ [y]))) else Nx H3) := by
  have npD : p ≠ D := bg.ne hD
  refine lc_range (fun i H => ∃ ws : List (List Nat), ws.length = i ∧ (∀ z ∈ ws, ok z) ∧ H D = some (.lst (ws.map fun z => V.str (SX.S z))) ∧ Bg H p ∧ Keep p H1 H)
    ⟨[], rfl, fun z h => (nomatch h), upd_same, (Same_upd hD).bgw bg, (Same_upd hD).keepw⟩ ?_ (fun H ⟨ws, h1, h2, h3, h4, h5⟩ => hd H ws h1 h2 h3 h4 h5)
  rintro i H hi ⟨ws, h1, h2, h3, h4, h5⟩
  refine ⟨hw _, ?_⟩
  unfold tYes
  simp only [if_true]
  refine hs i H _ hi h4 h5 fun z H' hz b' k' => ⟨_, k' _ _ h3 (Ne.symm npD), ?_, ws ++ [z], ?_, ?_, ?_, ?_, ?_⟩
  · rw [List.length_map]
    exact small1000 (by omega)
  · rw [List.length_append, h1]
    rfl
  · intro y hy
    rcases List.mem_append.mp hy with hy | hy
    · exact h2 y hy
    · rw [List.mem_singleton.mp hy]
      exact hz
  · rw [List.map_append]
    exact upd_same
  · obtain ⟨x, okx, e⟩ := b'
    exact ⟨x, okx, (upd_ne npD).trans e⟩
  · intro c o e n
    rw [upd_ne (ne_of_none e hD)]
    exact k' _ _ (h5 _ _ e n) n
theorem joinL_nil : ∀ ws : List (List Nat), TL.joinL [] ws = ws.flatten
  | [] => rfl
  | [p] => by simp [TL.joinL]
  | p :: q :: r => by
    show p ++ ([] ++ TL.joinL [] (q :: r)) = _
    rw [joinL_nil (q :: r)]
    rfl
theorem ones_sum {b : Nat} : ∀ {ws : List (List Nat)}, (∀ z ∈ ws, z.length = b) → (ws.map fun x => x.length).sum = ws.length * b
  | [], _ => by simp
  | z :: ws, h => by
    rw [List.map_cons, List.sum_cons, ones_sum (fun z hz => h z (List.mem_cons_of_mem _ hz)), h z List.mem_cons_self, List.length_cons, Nat.add_mul, Nat.one_mul, Nat.add_comm]
theorem le_sum {b : Nat} : ∀ {ws : List (List Nat)}, (∀ z ∈ ws, z.length ≤ b) → (ws.map fun x => x.length).sum ≤ ws.length * b
  | [], _ => by simp
  | z :: ws, h => by
    have := le_sum (fun z hz => h z (List.mem_cons_of_mem _ hz))
    have := h z List.mem_cons_self
    rw [List.map_cons, List.sum_cons, List.length_cons, Nat.add_mul, Nat.one_mul]
    omega
theorem flat_len (ws : List (List Nat)) : ws.flatten.length = (ws.map fun x => x.length).sum := List.length_flatten
theorem fold_app : ∀ (l : List (Array Nat)) (acc : Array Nat), (l.foldl (· ++ ·) acc).toList = acc.toList ++ (l.map Array.toList).flatten
  | [], acc => by simp
  | x :: l, acc => by
    rw [List.foldl_cons, fold_app l (acc ++ x)]
    simp
/-- a text some times -/
theorem mul_S (a : List Nat) (n : Nat) : Txt.mul (SX.S a) (n : Int) = SX.S (List.replicate n a).flatten := by
  unfold Txt.mul
  by_cases h1 : (n : Int) < 1
  · rw [if_pos h1]
    have : n = 0 := by omega
    subst this
    rfl
  · rw [if_neg h1]
    by_cases h2 : ((n : Int) == 1 || (SX.S a).length == 0) = true
    · rw [if_pos h2]
      rw [Bool.or_eq_true] at h2
      rcases h2 with h | h
      · have : n = 1 := by
          have := beq_iff_eq.mp h
          omega
        subst this
        simp
      · have hl : a.length = 0 := by
          have := beq_iff_eq.mp h
          rw [SX.S_len] at this
          exact this
        obtain rfl := List.length_eq_zero_iff.mp hl
        congr 1
        simp
    · rw [if_neg h2]
      refine TL.ext_tl ?_
      show ((List.replicate ((n : Int)).toNat (SX.S a).cps).foldl (· ++ ·) #[]).toList = (List.replicate n a).flatten
      rw [fold_app, Int.toNat_natCast, List.map_replicate]
      rfl
theorem mulOk {a : List Nat} {n : Nat} (h : a.length * n ≤ 1000000) (hn : n ≤ 1000000) : MulOk (SX.S a) (n : Int) := by
  refine ⟨?_, fun h1 h2 => ?_, fun h1 h2 => ?_⟩
  · rw [Bool.or_eq_false_iff]
    exact ⟨decide_eq_false (by omega), decide_eq_false (by omega)⟩
  · rw [SX.S_len]
    have hpos : 0 < (n : Int) := by omega
    rw [Int.not_lt]
    refine (Int.le_ediv_iff_mul_le hpos).mpr ?_
    have : ((a.length * n : Nat) : Int) ≤ 1000000 := by omega
    rw [Int.natCast_mul] at this
    omega
  · rw [SX.S_len, Int.toNat_natCast]
    unfold Builtin.Str.tooLong
    refine decide_eq_false (Nat.not_lt.mpr (Nat.le_trans h ?_))
    rw [sizeLine_eq]
    decide
/-- an item of a written list of texts -/
theorem menuS (ws : List (List Nat)) {i : Int} (h0 : 0 ≤ i) (h1 : i < ws.length) : ∃ z ∈ ws, atI (ws.map fun z => V.str (SX.S z)) i = some (.str (SX.S z)) := by
  obtain ⟨j, rfl⟩ := Int.eq_ofNat_of_zero_le h0
  have hl : j < ws.length := by omega
  refine ⟨ws[j], List.getElem_mem hl, atI_nat ?_⟩
  rw [List.getElem?_map, List.getElem?_eq_getElem hl]
  rfl
/-- a function of the module's called without arguments -/
theorem pe_c0 {X : Cx} {k j : Nat} {x : Str} {sp : Sp} {dvs : List V} {p pos : Pos} (c : C8.Cal X.prog X.w X.K X.mg X.base k x sp dvs) (hr : Room j X.A) (hk : k ≤ j) (hg : Gl X x) (_ : PA X [] tNil)
    (hdb : (x == ("__debug__" : Str)) = false := by decide) : PE X (.Call (.Name x p) [] [] pos) (tCall sp dvs C8.E0 tNil) := by
  obtain ⟨f, fd, ps, ds, F, hm, kp, b, d⟩ := c.ex
  exact pe_call0 F (hr.mono hk) hg hm kp b d C8.pass0 hdb
end Wc
set_option Elab.async false
set_option linter.all false
set_option maxRecDepth 100000
set_option maxHeartbeats 4000000
namespace Pt
open PySem PySem.Spec PyProof.Rows L2 Wc
open C8 (Cal pe_c pe_gc)
def top (i : Nat) : Stmt := PySem.Challenge.pw_warycard_k05_tokens.main.body.getD i (.Pass ⟨0, 0, 0, 0⟩)
abbrev s__is_shown : Stmt := top 8
abbrev N__is_shown : List Str := ["letter"]
theorem sc__is_shown : FnScope N__is_shown ["letter"] (defScope s__is_shown) := ⟨rfl, rfl, rfl, by decide +kernel, rfl, by decide +kernel, by decide +kernel⟩
abbrev s_is_printable : Stmt := top 9
abbrev N_is_printable : List Str := ["value", "letter"]
theorem sc_is_printable : FnScope N_is_printable ["value"] (defScope s_is_printable) := ⟨rfl, rfl, rfl, by decide +kernel, rfl, by decide +kernel, by decide +kernel⟩
abbrev s_is_name : Stmt := top 10
abbrev N_is_name : List Str := ["value"]
theorem sc_is_name : FnScope N_is_name ["value"] (defScope s_is_name) := ⟨rfl, rfl, rfl, by decide +kernel, rfl, by decide +kernel, by decide +kernel⟩
abbrev s_is_text : Stmt := top 11
abbrev N_is_text : List Str := ["value"]
theorem sc_is_text : FnScope N_is_text ["value"] (defScope s_is_text) := ⟨rfl, rfl, rfl, by decide +kernel, rfl, by decide +kernel, by decide +kernel⟩
abbrev s_tokens : Stmt := top 15
abbrev N_tokens : List Str := ["text", "found", "line", "row"]
theorem sc_tokens : FnScope N_tokens ["text"] (defScope s_tokens) := ⟨rfl, rfl, rfl, by decide +kernel, rfl, by decide +kernel, by decide +kernel⟩
abbrev s__row_tokens : Stmt := top 16
abbrev N__row_tokens : List Str := ["row", "line", "found", "place", "kind", "value"]
theorem sc__row_tokens : FnScope N__row_tokens ["row", "line"] (defScope s__row_tokens) := ⟨rfl, rfl, rfl, by decide +kernel, rfl, by decide +kernel, by decide +kernel⟩
abbrev s__token : Stmt := top 17
abbrev N__token : List Str := ["row", "place", "line", "length", "mark"]
theorem sc__token : FnScope N__token ["row", "place", "line"] (defScope s__token) := ⟨rfl, rfl, rfl, by decide +kernel, rfl, by decide +kernel, by decide +kernel⟩
abbrev s__word : Stmt := top 18
abbrev N__word : List Str := ["row", "place", "line", "behind", "word"]
theorem sc__word : FnScope N__word ["row", "place", "line"] (defScope s__word) := ⟨rfl, rfl, rfl, by decide +kernel, rfl, by decide +kernel, by decide +kernel⟩
abbrev s__number : Stmt := top 19
abbrev N__number : List Str := ["word", "line"]
theorem sc__number : FnScope N__number ["word", "line"] (defScope s__number) := ⟨rfl, rfl, rfl, by decide +kernel, rfl, by decide +kernel, by decide +kernel⟩
abbrev s__text : Stmt := top 20
abbrev N__text : List Str := ["row", "place", "line", "end"]
theorem sc__text : FnScope N__text ["row", "place", "line"] (defScope s__text) := ⟨rfl, rfl, rfl, by decide +kernel, rfl, by decide +kernel, by decide +kernel⟩
abbrev s__law_bag : Stmt := top 22
abbrev N__law_bag : List Str := ["script", "k", "cell"]
theorem sc__law_bag : FnScope N__law_bag ["script", "k"] (defScope s__law_bag) := ⟨rfl, rfl, rfl, by decide +kernel, rfl, by decide +kernel, by decide +kernel⟩
abbrev s__law_draw : Stmt := top 23
abbrev N__law_draw : List Str := ["bag", "many", "seed", "rest"]
theorem sc__law_draw : FnScope N__law_draw ["bag", "many"] (defScope s__law_draw) := ⟨rfl, rfl, rfl, by decide +kernel, rfl, by decide +kernel, by decide +kernel⟩
abbrev s__law_letters : Stmt := top 24
abbrev N__law_letters : List Str := ["bag", "many", "letters", "k"]
theorem sc__law_letters : FnScope N__law_letters ["bag", "many"] (defScope s__law_letters) := ⟨rfl, rfl, rfl, by decide +kernel, rfl, by decide +kernel, by decide +kernel⟩
abbrev s__law_text : Stmt := top 25
abbrev N__law_text : List Str := ["bag", "signs", "k"]
theorem sc__law_text : FnScope N__law_text ["bag"] (defScope s__law_text) := ⟨rfl, rfl, rfl, by decide +kernel, rfl, by decide +kernel, by decide +kernel⟩
abbrev s__law_keys : Stmt := top 26
abbrev N__law_keys : List Str := ["words"]
theorem sc__law_keys : FnScope N__law_keys [] (defScope s__law_keys) := ⟨rfl, rfl, rfl, by decide +kernel, rfl, by decide +kernel, by decide +kernel⟩
abbrev s__law_name : Stmt := top 27
abbrev N__law_name : List Str := ["bag", "pick", "word"]
theorem sc__law_name : FnScope N__law_name ["bag"] (defScope s__law_name) := ⟨rfl, rfl, rfl, by decide +kernel, rfl, by decide +kernel, by decide +kernel⟩
abbrev s__law_token : Stmt := top 28
abbrev N__law_token : List Str := ["bag", "pick", "keys", "word", "number", "text", "signs", "sign"]
theorem sc__law_token : FnScope N__law_token ["bag"] (defScope s__law_token) := ⟨rfl, rfl, rfl, by decide +kernel, rfl, by decide +kernel, by decide +kernel⟩
abbrev s__law_is_word : Stmt := top 29
abbrev N__law_is_word : List Str := ["sign"]
theorem sc__law_is_word : FnScope N__law_is_word ["sign"] (defScope s__law_is_word) := ⟨rfl, rfl, rfl, by decide +kernel, rfl, by decide +kernel, by decide +kernel⟩
abbrev s__law_gap : Stmt := top 30
abbrev N__law_gap : List Str := ["bag", "left", "right", "needed", "pick"]
theorem sc__law_gap : FnScope N__law_gap ["bag", "left", "right"] (defScope s__law_gap) := ⟨rfl, rfl, rfl, by decide +kernel, rfl, by decide +kernel, by decide +kernel⟩
abbrev s__law_right : Stmt := top 31
abbrev N__law_right : List Str := ["actual", "due", "k", "row"]
theorem sc__law_right : FnScope N__law_right ["actual", "due"] (defScope s__law_right) := ⟨rfl, rfl, rfl, by decide +kernel, rfl, by decide +kernel, by decide +kernel⟩
abbrev s__law_signs : Stmt := top 32
abbrev N__law_signs : List Str := ["bag", "text", "due", "at", "size", "k"]
theorem sc__law_signs : FnScope N__law_signs ["bag"] (defScope s__law_signs) := ⟨rfl, rfl, rfl, by decide +kernel, rfl, by decide +kernel, by decide +kernel⟩
abbrev s_law : Stmt := top 33
abbrev N_law : List Str := ["script", "k", "bag", "text", "due", "last", "j", "token", "wide"]
theorem sc_law : FnScope N_law ["script"] (defScope s_law) := ⟨rfl, rfl, rfl, by decide +kernel, rfl, by decide +kernel, by decide +kernel⟩
def v_KEYWORDS : List He.Dv := [.str "abort", .str "and", .str "applet", .str "as", .str "begin", .str "buffer", .str "bytes", .str "catch", .str "class", .str "commit", .str "else", .str "face", .str "field", .str "has", .str "if", .str "int", .str "is", .str "mod", .str "new", .str "not", .str "nothing", .str "null", .str "of", .str "or", .str "package", .str "return", .str "seek", .str "size", .str "temp", .str "this", .str "throw", .str "try", .str "use", .str "while"]
def v_MARKS : List He.Dv := [.str "{", .str "}", .str "(", .str ")", .str "[", .str "]", .str ";", .str ",", .str ".", .str "=", .str "+", .str "-", .str "*", .str "/", .str "&", .str "|", .str "^", .str "<", .str ">", .str "<<", .str ">>", .str "==", .str "!=", .str "<=", .str ">="]
/-- where all stands behind the top -/
structure Txt (w : World) (K : PySem.W.Frag) (mg : Str → Option Value) : Prop where
  d__is_shown : ∃ fd, FnP K "_is_shown" s__is_shown (He.ga K "_is_shown") fd
  g__is_shown : mg "_is_shown" = some (.ref (He.ga K "_is_shown"))
  d_is_printable : ∃ fd, FnP K "is_printable" s_is_printable (He.ga K "is_printable") fd
  g_is_printable : mg "is_printable" = some (.ref (He.ga K "is_printable"))
  d_is_name : ∃ fd, FnP K "is_name" s_is_name (He.ga K "is_name") fd
  g_is_name : mg "is_name" = some (.ref (He.ga K "is_name"))
  d_is_text : ∃ fd, FnP K "is_text" s_is_text (He.ga K "is_text") fd
  g_is_text : mg "is_text" = some (.ref (He.ga K "is_text"))
  d_tokens : ∃ fd, FnP K "tokens" s_tokens (He.ga K "tokens") fd
  g_tokens : mg "tokens" = some (.ref (He.ga K "tokens"))
  d__row_tokens : ∃ fd, FnP K "_row_tokens" s__row_tokens (He.ga K "_row_tokens") fd
  g__row_tokens : mg "_row_tokens" = some (.ref (He.ga K "_row_tokens"))
  d__token : ∃ fd, FnP K "_token" s__token (He.ga K "_token") fd
  g__token : mg "_token" = some (.ref (He.ga K "_token"))
  d__word : ∃ fd, FnP K "_word" s__word (He.ga K "_word") fd
  g__word : mg "_word" = some (.ref (He.ga K "_word"))
  d__number : ∃ fd, FnP K "_number" s__number (He.ga K "_number") fd
  g__number : mg "_number" = some (.ref (He.ga K "_number"))
  d__text : ∃ fd, FnP K "_text" s__text (He.ga K "_text") fd
  g__text : mg "_text" = some (.ref (He.ga K "_text"))
  d__law_bag : ∃ fd, FnP K "_law_bag" s__law_bag (He.ga K "_law_bag") fd
  g__law_bag : mg "_law_bag" = some (.ref (He.ga K "_law_bag"))
  d__law_draw : ∃ fd, FnP K "_law_draw" s__law_draw (He.ga K "_law_draw") fd
  g__law_draw : mg "_law_draw" = some (.ref (He.ga K "_law_draw"))
  d__law_letters : ∃ fd, FnP K "_law_letters" s__law_letters (He.ga K "_law_letters") fd
  g__law_letters : mg "_law_letters" = some (.ref (He.ga K "_law_letters"))
  d__law_text : ∃ fd, FnP K "_law_text" s__law_text (He.ga K "_law_text") fd
  g__law_text : mg "_law_text" = some (.ref (He.ga K "_law_text"))
  d__law_keys : ∃ fd, FnP K "_law_keys" s__law_keys (He.ga K "_law_keys") fd
  g__law_keys : mg "_law_keys" = some (.ref (He.ga K "_law_keys"))
  d__law_name : ∃ fd, FnP K "_law_name" s__law_name (He.ga K "_law_name") fd
  g__law_name : mg "_law_name" = some (.ref (He.ga K "_law_name"))
  d__law_token : ∃ fd, FnP K "_law_token" s__law_token (He.ga K "_law_token") fd
  g__law_token : mg "_law_token" = some (.ref (He.ga K "_law_token"))
  d__law_is_word : ∃ fd, FnP K "_law_is_word" s__law_is_word (He.ga K "_law_is_word") fd
  g__law_is_word : mg "_law_is_word" = some (.ref (He.ga K "_law_is_word"))
  d__law_gap : ∃ fd, FnP K "_law_gap" s__law_gap (He.ga K "_law_gap") fd
  g__law_gap : mg "_law_gap" = some (.ref (He.ga K "_law_gap"))
  d__law_right : ∃ fd, FnP K "_law_right" s__law_right (He.ga K "_law_right") fd
  g__law_right : mg "_law_right" = some (.ref (He.ga K "_law_right"))
  d__law_signs : ∃ fd, FnP K "_law_signs" s__law_signs (He.ga K "_law_signs") fd
  g__law_signs : mg "_law_signs" = some (.ref (He.ga K "_law_signs"))
  d_law : ∃ fd, FnP K "law" s_law (He.ga K "law") fd
  g_law : mg "law" = some (.ref (He.ga K "law"))
  n_all : mg "all" = none
  n_bool : mg "bool" = none
  n_enumerate : mg "enumerate" = none
  n_int : mg "int" = none
  n_isinstance : mg "isinstance" = none
  n_len : mg "len" = none
  n_max : mg "max" = none
  n_min : mg "min" = none
  n_ord : mg "ord" = none
  n_range : mg "range" = none
  n_str : mg "str" = none
  n_tuple : mg "tuple" = none
  c_MOST_SOURCE : ∃ u, mg "MOST_SOURCE" = some u ∧ RelV (.int (20000)) u
  c_MOST_NAME : ∃ u, mg "MOST_NAME" = some u ∧ RelV (.int (20)) u
  c_MOST_TEXT : ∃ u, mg "MOST_TEXT" = some u ∧ RelV (.int (16)) u
  c_MOST_INT : ∃ u, mg "MOST_INT" = some u ∧ RelV (.int (32767)) u
  g_KEYWORDS : mg "KEYWORDS" = some (.ref (He.ga K "KEYWORDS"))
  t_KEYWORDS : ∀ H, SqT K H (He.ga K "KEYWORDS") (v_KEYWORDS.map (He.Dv.v K))
  g_MARKS : mg "MARKS" = some (.ref (He.ga K "MARKS"))
  t_MARKS : ∀ H, SqT K H (He.ga K "MARKS") (v_MARKS.map (He.Dv.v K))
  g_CardError : mg "CardError" = some (.ref (He.ga K "CardError"))
  g_BadSource : mg "BadSource" = some (.ref (He.ga K "BadSource"))
end Pt
set_option Elab.async false
set_option linter.all false
set_option maxRecDepth 100000
set_option maxHeartbeats 4000000
namespace Pt
open PySem PySem.Spec PyProof.Rows L2 Wc
open C8 (Cal pe_c pe_gc)
/-! ### signs by their numbers -/
def diB (c : Nat) : Bool := decide (48 ≤ c) && decide (c ≤ 57)
def leB (c : Nat) : Bool := (decide (65 ≤ c) && decide (c ≤ 90)) || (decide (97 ≤ c) && decide (c ≤ 122))
def alB (c : Nat) : Bool := diB c || leB c
def prB (c : Nat) : Bool := decide (32 ≤ c) && (decide (c ≤ 126) && !decide (c = 37))
theorem u_al : ∀ c, c < 128 → Unicode.isAlnum c = alB c := by decide +kernel
theorem u_le : ∀ c, c < 128 → Unicode.isAlpha c = leB c := by decide +kernel
theorem u_di : ∀ c, c < 128 → Unicode.isDigit c = diB c := by decide +kernel
theorem al_lt {c : Nat} (h : alB c = true) : c < 128 := by
  unfold alB diB leB at h
  simp only [Bool.or_eq_true, Bool.and_eq_true, decide_eq_true_eq] at h
  omega
theorem al_pr : ∀ c, c < 128 → alB c = true → prB c = true := by decide +kernel
theorem lex1 (c d : Nat) : ([c] < [d]) ↔ c < d := by
  constructor
  · intro h
    cases h with
    | rel h => exact h
    | cons h => cases h
  · exact fun h => List.Lex.rel h
section
variable {P : Program} {w : World} {K : PySem.W.Frag} {mg : Str → Option Value} {base : Heap}
def spShown : Sp := fun vs H Q _ => ∃ c : Nat, vs = [.str (SX.S [c])] ∧ Q (.bl (prB c)) H
theorem c_shown (T : Txt w K mg) : Cal P w K mg base 1 "_is_shown" spShown [] := by
  refine calD T.d__is_shown T.g__is_shown (fun _ _ _ _ _ _ us hl => match us, hl with | [_], _ => rfl) sc__is_shown (fun vs H Q E h => ?_) (fun cdv A outer s H vs Q E hr h => ?_)
  · obtain ⟨c, rfl, _⟩ := h
    rfl
  · obtain ⟨c, rfl, q⟩ := h
    refine ⟨_, (pss_one (ps_ret (pe_and (pe_chain op_le_str op_le_str pe_str (pv 0) pe_str) (pe_one (pe_cmpR op_ne (pe_callB call_ord rfl T.n_ord (by rfl) (pa_cons (pv 0) pa_nil)) pe_int (nomark _)))))), ?_⟩
    have s1 : (Str.ofString " ").cps.toList = [32] := by decide +kernel
    have s2 : (Str.ofString "~").cps.toList = [126] := by decide +kernel
    have s3 : (SX.S [c]).cps.toList = [c] := rfl
    refine ⟨_, rfl, _, _, rfl, rfl, _, rfl, ifB (fun h1 => ?_) (fun h1 => ?_)⟩
    · have g1 : 32 ≤ c := by
        have e := (Bool.not_eq_true' _).mp h1
        rw [s1, s3] at e
        have e2 := of_decide_eq_false e
        rw [lex1] at e2
        omega
      refine ⟨_, _, rfl, rfl, _, rfl, ifB (fun h2 => ?_) (fun h2 => ?_)⟩
      · have g2 : c ≤ 126 := by
          have e := (Bool.not_eq_true' _).mp h2
          rw [s2, s3] at e
          have e2 := of_decide_eq_false e
          rw [lex1] at e2
          omega
        refine ⟨_, rfl, _, rfl, rfl, rfl, ?_⟩
        have e : (!decide (V.int (((SX.S [c]).cps.getD 0 0 : Nat) : Int) = V.int 37)) = prB c := by
          have : (SX.S [c]).cps.getD 0 0 = c := rfl
          rw [this]
          unfold prB
          rw [decide_eq_true g1, decide_eq_true g2]
          have : decide (V.int ((c : Nat) : Int) = V.int 37) = decide (c = 37) := decide_eq_decide.mpr ⟨fun z => by have := V.int.inj z; omega, fun z => by rw [z]; rfl⟩
          rw [this]
          rfl
        show Q (.bl (!decide (V.int (((SX.S [c]).cps.getD 0 0 : Nat) : Int) = V.int 37))) H
        rw [e]
        exact q
      · have g2 : ¬ c ≤ 126 := by
          have e := (Bool.not_eq_false' _).mp h2
          rw [s2, s3] at e
          have e2 := of_decide_eq_true e
          rw [lex1] at e2
          omega
        have e : prB c = false := by
          unfold prB
          rw [decide_eq_false g2, Bool.false_and, Bool.and_false]
        rw [e] at q
        exact q
    · have g1 : ¬ 32 ≤ c := by
        have e := (Bool.not_eq_false' _).mp h1
        rw [s1, s3] at e
        have e2 := of_decide_eq_true e
        rw [lex1] at e2
        omega
      have e : prB c = false := by
        unfold prB
        rw [decide_eq_false g1, Bool.false_and]
      rw [e] at q
      exact ⟨_, rfl, iteF q⟩
def spPrint : Sp := fun vs H Q _ => ∃ t : List Nat, vs = [.str (SX.S t)] ∧ t.length ≤ 100000 ∧ ∀ H', Same H H' → Q (.bl (t.all prB)) H'
theorem c_print (T : Txt w K mg) : Cal P w K mg base 2 "is_printable" spPrint [] := by
  have C__is_shown := c_shown (P := P) (w := w) (base := base) T
  refine calD T.d_is_printable T.g_is_printable (fun _ _ _ _ _ _ us hl => match us, hl with | [_], _ => rfl) sc_is_printable (fun vs H Q E h => ?_) (fun cdv A outer s H vs Q E hr h => ?_)
  · obtain ⟨c, rfl, _⟩ := h
    rfl
  · obtain ⟨t, rfl, ht, q⟩ := h
    refine ⟨_, (pss_one (ps_ret (pe_and (pe_callB call_isi rfl T.n_isinstance (by rfl) (pa_cons (pv 0) (pa_cons (pe_ty "str" rfl T.n_str (by rfl)) pa_nil))) (pe_one (pe_callB (cr_all rfl) rfl T.n_all (by rfl) (pa_cons (pe_lc (own := [("letter", 1)]) (g := gName 1) (tt := tYes) rfl sc_is_printable.nd (pi_str (pv 0)) (blkOk_by (N := N_is_printable) (sc := defScope s_is_printable) (by decide +kernel)) (fun _ _ _ _ _ => pg_name (i := 1) sc_is_printable.nd rfl (Or.inl rfl)) (fun _ _ _ _ _ => pts_nil) (fun _ _ _ _ _ => (pe_c C__is_shown hr (by decide) rfl (pa_cons (pv 1) pa_nil)))) pa_nil)))))), ?_⟩
    refine ⟨_, rfl, _, _, _, _, _, rfl, ClsV.ty "str", TyX.base (TyOf.str _), kit_ty (r := true) (by decide +kernel), _, rfl, iteT ?_⟩
    refine ⟨_, rfl, _, rfl, fun D nD => lcS (fun c => .bl (prB c)) ht nD (fun _ => rfl) (fun c H2 Q2 _ s2 z => ?_) (fun H2 h2 s2 => ?_)⟩
    · exact ⟨_, rfl, c, rfl, z _ (Same.refl _)⟩
    · have e : t.map (fun c => V.bl (prB c)) = (t.map prB).map V.bl := by
        rw [List.map_map]
        rfl
      rw [e] at h2
      refine ⟨D, _, rfl, SqL.of h2, ?_⟩
      have e2 : (t.map prB).all id = t.all prB := by
        rw [List.all_map]
        rfl
      rw [e2]
      exact q _ s2
theorem ascii_al {t : List Nat} : ((t.all fun c => decide (c < 128)) && (decide (0 < t.length) && t.all Unicode.isAlnum)) = (decide (0 < t.length) && t.all alB) := by
  rw [Bool.eq_iff_iff]
  simp only [Bool.and_eq_true, List.all_eq_true, decide_eq_true_eq]
  constructor
  · rintro ⟨h1, h2, h3⟩
    exact ⟨h2, fun c hc => (u_al c (h1 c hc)).symm.trans (h3 c hc)⟩
  · rintro ⟨h2, h3⟩
    exact ⟨fun c hc => al_lt (h3 c hc), h2, fun c hc => (u_al c (al_lt (h3 c hc))).trans (h3 c hc)⟩
def nameB (t : List Nat) : Bool := decide (t.length ≤ 20) && (decide (0 < t.length) && (t.all alB && (t.head?.any leB)))
def spName : Sp := fun vs H Q _ => ∃ t : List Nat, vs = [.str (SX.S t)] ∧ t.length ≤ 100000 ∧ Q (.bl (nameB t)) H
theorem c_name (T : Txt w K mg) : Cal P w K mg base 1 "is_name" spName [] := by
  refine calD T.d_is_name T.g_is_name (fun _ _ _ _ _ _ us hl => match us, hl with | [_], _ => rfl) sc_is_name (fun vs H Q E h => ?_) (fun cdv A outer s H vs Q E hr h => ?_)
  · obtain ⟨c, rfl, _⟩ := h
    rfl
  · obtain ⟨t, rfl, ht, q⟩ := h
    refine ⟨_, (pss_cons (ps_if (PW.pt (pw_or (pt_not (pt_val (pe_callB call_isi rfl T.n_isinstance (by rfl) (pa_cons (pv 0) (pa_cons (pe_ty "str" rfl T.n_str (by rfl)) pa_nil))))) (pw_or1 (pt_cmpR op_gt (pe_callB call_len_str rfl T.n_len (by rfl) (pa_cons (pv 0) pa_nil)) (pe_gc rfl T.c_MOST_NAME) (nomark _))))) (pss_one (ps_ret pe_bl)) pss_nil)
      (pss_one (ps_ret (pe_and (pe_bm0 PySem.F.plainAttrs_str PySem.F.slot_str_isascii PySem.F.type_str_isascii mt_isascii (pv 0)) (pe_and (pe_bm0 PySem.F.plainAttrs_str PySem.F.slot_str_isalnum PySem.F.type_str_isalnum mt_isalnum (pv 0)) (pe_one (pe_bm0 PySem.F.plainAttrs_str PySem.F.slot_str_isalpha PySem.F.type_str_isalpha mt_isalpha (pe_ix ix_str (pv 0) pe_int (fun _ _ => rfl))))))))), ?_⟩
    have hl : (SX.S t).length = t.length := SX.S_len t
    refine ⟨_, rfl, _, _, _, _, _, rfl, ClsV.ty "str", TyX.base (TyOf.str _), kit_ty (r := true) (by decide +kernel), _, rfl, iteF ?_⟩
    refine ⟨_, rfl, _, rfl, by rw [hl, sizeLine_eq]; exact Nat.le_trans ht (by decide), _, _, rfl, rfl, _, rfl, ifB (fun e => ?_) (fun e => ?_)⟩
    · have g : ¬ t.length ≤ 20 := by
        have := of_decide_eq_true e
        rw [hl] at this
        omega
      have e2 : nameB t = false := by
        unfold nameB
        rw [decide_eq_false g, Bool.false_and]
      rw [e2] at q
      exact q
    · have g : t.length ≤ 20 := by
        have := of_decide_eq_false e
        rw [hl] at this
        omega
      have qa : Txt.isascii (SX.S t) = t.all fun c => decide (c < 128) := by
        unfold Txt.isascii
        simp [SX.S]
      have qn : Txt.isalnum (SX.S t) = (decide (0 < t.length) && t.all Unicode.isAlnum) := by
        unfold Txt.isalnum
        rw [hl]
        simp [SX.S]
      have ak := ascii_al (t := t)
      rw [← qa, ← qn] at ak
      refine ⟨_, rfl, rfl, _, rfl, rfl, trivial, _, rfl, ifB (fun ea => ?_) (fun ea => ?_)⟩
      · refine ⟨_, rfl, rfl, _, rfl, rfl, trivial, _, rfl, ifB (fun en => ?_) (fun en => ?_)⟩
        · rw [ea, en] at ak
          have ak2 := ak.symm
          obtain ⟨k1, k2⟩ := Bool.and_eq_true_iff.mp ak2
          cases t with
          | nil => cases k1
          | cons c r =>
            refine ⟨_, rfl, _, _, c, rfl, rfl, by rw [hl, sizeLine_eq]; exact Nat.le_trans ht (by decide), atI_nat (j := 0) rfl, rfl, _, rfl, rfl, trivial, ?_⟩
            have hc := List.all_eq_true.mp k2 c List.mem_cons_self
            have e3 : Txt.isalpha (⟨#[c]⟩ : Str) = leB c := by
              unfold Txt.isalpha
              have : ((⟨#[c]⟩ : Str).cps.all Unicode.isAlpha) = Unicode.isAlpha c := by simp
              rw [this, u_le c (al_lt hc)]
              rfl
            have e4 : nameB (c :: r) = leB c := by
              unfold nameB
              rw [decide_eq_true g, k1, k2]
              rfl
            show Q (.bl (Txt.isalpha (⟨#[c]⟩ : Str))) H
            rw [e3, ← e4]
            exact q
        · have e2 : nameB t = false := by
            rw [ea, en] at ak
            unfold nameB
            rw [← Bool.and_assoc (decide (0 < t.length)), ← ak]
            exact Bool.and_false _
          rw [e2] at q
          exact q
      · have e2 : nameB t = false := by
          rw [ea] at ak
          unfold nameB
          rw [← Bool.and_assoc (decide (0 < t.length)), ← ak, Bool.false_and, Bool.false_and, Bool.and_false]
        rw [e2] at q
        exact q
def textB (t : List Nat) : Bool := t.all prB && (decide (1 ≤ t.length) && (decide (t.length ≤ 16) && !decide (34 ∈ t)))
def spText : Sp := fun vs H Q _ => ∃ t : List Nat, vs = [.str (SX.S t)] ∧ t.length ≤ 100000 ∧ ∀ H', Same H H' → Q (.bl (textB t)) H'
theorem c_text (T : Txt w K mg) : Cal P w K mg base 3 "is_text" spText [] := by
  have C_is_printable := c_print (P := P) (w := w) (base := base) T
  refine calD T.d_is_text T.g_is_text (fun _ _ _ _ _ _ us hl => match us, hl with | [_], _ => rfl) sc_is_text (fun vs H Q E h => ?_) (fun cdv A outer s H vs Q E hr h => ?_)
  · obtain ⟨c, rfl, _⟩ := h
    rfl
  · obtain ⟨t, rfl, ht, q⟩ := h
    refine ⟨_, (pss_one (ps_ret (pe_and (pe_c C_is_printable hr (by decide) rfl (pa_cons (pv 0) pa_nil)) (pe_and (pe_chain op_le op_le pe_int (pe_callB call_len_str rfl T.n_len (by rfl) (pa_cons (pv 0) pa_nil)) (pe_gc rfl T.c_MOST_TEXT)) (pe_one (pe_cmpR op_notIn_sign pe_str (pv 0) rfl)))))), ?_⟩
    have hl : (SX.S t).length = t.length := SX.S_len t
    refine ⟨_, rfl, t, rfl, ht, fun H1 s1 => ⟨_, rfl, ifB (fun e1 => ?_) (fun e1 => ?_)⟩⟩
    · refine ⟨_, rfl, _, rfl, by rw [hl, sizeLine_eq]; exact Nat.le_trans ht (by decide), _, _, rfl, rfl, _, rfl, ifB (fun e2 => ?_) (fun e2 => ?_)⟩
      · refine ⟨_, _, rfl, rfl, _, rfl, ifB (fun e3 => ?_) (fun e3 => ?_)⟩
        · refine ⟨_, rfl, 34, _, rfl, rfl, ?_⟩
          have e4 : textB t = (!decide (34 ∈ t)) := by
            unfold textB
            have k2 := of_decide_eq_true e2
            have k3 := of_decide_eq_true e3
            rw [hl] at k2 k3
            rw [e1, decide_eq_true (show 1 ≤ t.length by omega), decide_eq_true (show t.length ≤ 16 by omega)]
            rfl
          have qq := q H1 s1
          rw [e4] at qq
          exact qq
        · have k3 := of_decide_eq_false e3
          rw [hl] at k3
          have e4 : textB t = false := by
            unfold textB
            rw [decide_eq_false (show ¬ t.length ≤ 16 by omega), Bool.false_and, Bool.and_false, Bool.and_false]
          have qq := q H1 s1
          rw [e4] at qq
          exact qq
      · have k2 := of_decide_eq_false e2
        rw [hl] at k2
        have e4 : textB t = false := by
          unfold textB
          rw [decide_eq_false (show ¬ 1 ≤ t.length by omega), Bool.false_and, Bool.and_false]
        have qq := q H1 s1
        rw [e4] at qq
        exact ⟨_, rfl, iteF qq⟩
    · have e4 : textB t = false := by
        unfold textB
        rw [e1, Bool.false_and]
      have qq := q H1 s1
      rw [e4] at qq
      exact qq
end
end Pt
set_option Elab.async false
set_option linter.all false
set_option maxRecDepth 100000
set_option maxHeartbeats 4000000
namespace Pt
open PySem PySem.Spec PyProof.Rows L2 Wc
open C8 (Cal pe_c pe_gc)
/-! ### the tokens of a row -/
def marksL : List (List Nat) := v_MARKS.map fun d => match d with | .str z => z.cps.toList | _ => []
def keysL : List (List Nat) := v_KEYWORDS.map fun d => match d with | .str z => z.cps.toList | _ => []
theorem marks_v (K : PySem.W.Frag) : v_MARKS.map (He.Dv.v K) = marksL.map fun z => V.str (SX.S z) := rfl
theorem keys_v (K : PySem.W.Frag) : v_KEYWORDS.map (He.Dv.v K) = keysL.map fun z => V.str (SX.S z) := rfl
theorem marks_len : ∀ m ∈ marksL, m.length = 1 ∨ m.length = 2 := by decide +kernel
theorem marks_head : ∀ m ∈ marksL, ∀ c, m.head? = some c → alB c = false ∧ c ≠ 34 ∧ c ≠ 32 ∧ c ≠ 35 ∧ c < 128 := by
  have h : ∀ m ∈ marksL, (m.head?.all fun c => !alB c && (!decide (c = 34) && (!decide (c = 32) && (!decide (c = 35) && decide (c < 128))))) = true := by decide +kernel
  intro m hm c hc
  have z := h m hm
  rw [hc] at z
  simp only [Option.all_some, Bool.and_eq_true, Bool.not_eq_true', decide_eq_false_iff_not, decide_eq_true_eq] at z
  exact ⟨z.1, z.2.1, z.2.2.1, z.2.2.2.1, z.2.2.2.2⟩
/-- no letter and no digit stands ahead -/
def cutA (c : List Nat) : Prop := ∀ x, c.head? = some x → alB x = false ∧ x < 128
def numB (w : List Nat) : Bool := w.all diB && (decide (w ≠ []) && (decide (w.length ≤ 5) && (decide (NumText.digitsVal w ≤ 32767) && (!decide (w.head? = some 48) || decide (w = [48])))))
def kindW (w : List Nat) : Str := if keysL.contains w = true then Str.ofString "keyword" else Str.ofString "name"
/-- the first token of w ++ c is w, of kind k and value v -/
inductive Hd : List Nat → List Nat → Str → V → Prop
  | num {w c : List Nat} (h : numB w = true) (a : cutA c) : Hd w c "number" (.int (NumText.digitsVal w : Nat))
  | word {w c : List Nat} (h : nameB w = true) (a : cutA c) : Hd w c (kindW w) (.str (SX.S w))
  | text {t c : List Nat} (h : textB t = true) : Hd (34 :: (t ++ [34])) c "text" (.str (SX.S t))
  | sign {m c : List Nat} (h : m ∈ marksL) (a : m.length = 2 ∨ c = [] ∨ (m ++ c).take 2 ∉ marksL) : Hd m c "sign" (.str (SX.S m))
section
variable {P : Program} {w : World} {K : PySem.W.Frag} {mg : Str → Option Value} {base : Heap}
theorem len_big {t : List Nat} (h : t.length ≤ 100000) : (SX.S t).length ≤ sizeLine := by
  rw [SX.S_len, sizeLine_eq]
  exact Nat.le_trans h (by decide)
theorem numB_ok {t : List Nat} (h : numB t = true) : t.all diB = true ∧ t ≠ [] ∧ t.length ≤ 5 ∧ NumText.digitsVal t ≤ 32767 ∧ (t.head? = some 48 → t = [48]) := by
  unfold numB at h
  simp only [Bool.and_eq_true, Bool.or_eq_true, Bool.not_eq_true', decide_eq_true_eq, decide_eq_false_iff_not] at h
  obtain ⟨h1, h2, h3, h4, h5⟩ := h
  exact ⟨h1, h2, h3, h4, fun e => h5.resolve_left (fun z => z e)⟩
theorem di_lt {c : Nat} (h : diB c = true) : c < 128 := al_lt (by unfold alB; rw [h]; rfl)
theorem isdigit_S {t : List Nat} (h : t.all diB = true) (ne : t ≠ []) : Txt.isdigit (SX.S t) = true := by
  unfold Txt.isdigit
  rw [SX.S_len]
  have l : 0 < t.length := List.length_pos_iff.mpr ne
  have e : (SX.S t).cps.all Unicode.isDigit = t.all Unicode.isDigit := by simp [SX.S]
  rw [e, Bool.and_eq_true]
  refine ⟨decide_eq_true l, List.all_eq_true.mpr fun c hc => ?_⟩
  have z := List.all_eq_true.mp h c hc
  rw [u_di c (di_lt z)]
  exact z
def spNumber : Sp := fun vs H Q _ => ∃ (t : List Nat) (n : Int), vs = [.str (SX.S t), .int n] ∧ numB t = true ∧ Q (.int (NumText.digitsVal t : Nat)) H
theorem c_number (T : Txt w K mg) : Cal P w K mg base 1 "_number" spNumber [] := by
  refine calD T.d__number T.g__number (fun _ _ _ _ _ _ us hl => match us, hl with | [_, _], _ => rfl) sc__number (fun vs H Q E h => ?_) (fun cdv A outer s H vs Q E hr h => ?_)
  · obtain ⟨c, n, rfl, _⟩ := h
    rfl
  · obtain ⟨t, n, rfl, ht, q⟩ := h
    refine ⟨_, (pss_cons (ps_if (PW.pt (pw_or (pt_cmpR op_gt (pe_callB call_len_str rfl T.n_len (by rfl) (pa_cons (pv 0) pa_nil)) (pe_callB call_len_str rfl T.n_len (by rfl) (pa_cons (pe_callTy call_str_int rfl T.n_str (by rfl) (pa_cons (pe_gc rfl T.c_MOST_INT) pa_nil)) pa_nil)) (nomark _)) (pw_or (pt_not (pt_val (pe_bm0 PySem.F.plainAttrs_str PySem.F.slot_str_isdigit PySem.F.type_str_isdigit mt_isdigit (pv 0)))) (pw_or1 (pt_cmpR op_gt (pe_callTy call_int_str rfl T.n_int (by rfl) (pa_cons (pv 0) pa_nil)) (pe_gc rfl T.c_MOST_INT) (nomark _)))))) (pss_one ps_never) pss_nil)
      (pss_cons (ps_if (PW.pt (pw_and (pt_cmpR op_eq (pe_ix ix_str (pv 0) pe_int (fun _ _ => rfl)) pe_str (nomark _)) (pw_and1 (pt_cmpR op_ne (pv 0) pe_str (nomark _))))) (pss_one ps_never) pss_nil)
      (pss_one (ps_ret (pe_callTy call_int_str rfl T.n_int (by rfl) (pa_cons (pv 0) pa_nil)))))), ?_⟩
    obtain ⟨n1, n2, n3, n4, n5⟩ := numB_ok ht
    have hl : (SX.S t).length = t.length := SX.S_len t
    have hi : intText? (SX.S t) = some ((NumText.digitsVal t : Nat) : Int) := SX.int_S n1 n2 (by omega)
    have h5 : (Str.ofString (toString (32767 : Int))).length = 5 := by decide +kernel
    have hlt : (SX.S t).length ≤ sizeLine := len_big (by omega)
    refine ⟨_, rfl, _, rfl, hlt, _, rfl, by decide +kernel, _, rfl, by rw [h5]; decide, _, _, rfl, rfl, _, rfl, ifNo ?_ ?_⟩
    · rw [h5, hl]
      exact decide_eq_false (by omega)
    refine ⟨_, rfl, rfl, _, rfl, rfl, trivial, _, rfl, ifNo ?_ ?_⟩
    · rw [isdigit_S n1 n2]
      rfl
    refine ⟨_, rfl, _, _, rfl, hi, by omega, _, _, rfl, rfl, _, rfl, ifNo (decide_eq_false (by omega)) ?_⟩
    obtain ⟨c, r, rfl⟩ : ∃ c r, t = c :: r := by
      cases t with
      | nil => exact absurd rfl n2
      | cons c r => exact ⟨c, r, rfl⟩
    have fin : tCB (fun xs H Q => ∃ a n, xs = [V.str a] ∧ intText? a = some n ∧ a.length ≤ 640 ∧ Q (V.int n) H) (tCons (tVar 0) tNil) (L2.start N__number [V.str (SX.S (c :: r)), V.int n]) H Q := ⟨_, rfl, _, _, rfl, hi, by omega, q⟩
    refine ⟨_, rfl, _, _, c, rfl, rfl, hlt, atI_nat (j := 0) rfl, rfl, _, rfl, ifB (fun e => ?_) (fun _ => fin)⟩
    have e1 : c = 48 := by
      have z := V.str.inj (of_decide_eq_true e)
      have z2 : SX.S [c] = SX.S [48] := z
      have z3 := SX.S_inj z2
      exact (List.cons.inj z3).1
    have e2 : (c :: r) = [48] := n5 (by rw [e1]; rfl)
    rw [e2]
    refine ⟨_, rfl, rfl, _, rfl, ifNo ?_ (e2 ▸ fin)⟩
    have : (V.str (SX.S [48])) = V.str (Str.ofString "0") := rfl
    rw [this, decide_eq_true rfl]
    rfl
/-- a new tuple, all else kept -/
def NewT (H : Hp) (vs : List V) (Q : VK) : Prop := New H (.tup vs) Q
def WordV (t : List Nat) (k : Str) (v : V) : Prop := (numB t = true ∧ k = "number" ∧ v = .int (NumText.digitsVal t : Nat)) ∨ (nameB t = true ∧ k = kindW t ∧ v = .str (SX.S t))
theorem nameB_ok {t : List Nat} (h : nameB t = true) : t.length ≤ 20 ∧ 0 < t.length ∧ t.all alB = true ∧ ∃ c r, t = c :: r ∧ leB c = true := by
  unfold nameB at h
  simp only [Bool.and_eq_true, decide_eq_true_eq] at h
  obtain ⟨h1, h2, h3, h4⟩ := h
  refine ⟨h1, h2, h3, ?_⟩
  cases t with
  | nil => cases h4
  | cons c r => exact ⟨c, r, rfl, h4⟩
theorem di_al {t : List Nat} (h : t.all diB = true) : t.all alB = true := List.all_eq_true.mpr fun c hc => by
  have := List.all_eq_true.mp h c hc
  unfold alB
  rw [this]
  rfl
theorem WordV.al {t : List Nat} {k : Str} {v : V} (h : WordV t k v) : t.all alB = true := by
  rcases h with h | h
  · exact di_al (numB_ok h.1).1
  · exact (nameB_ok h.1).2.2.1
theorem isalnum1 {x : Nat} (h : x < 128) : Txt.isalnum (⟨#[x]⟩ : Str) = alB x := by
  unfold Txt.isalnum
  have : ((⟨#[x]⟩ : Str).cps.all Unicode.isAlnum) = Unicode.isAlnum x := by simp
  rw [this, u_al x h]
  rfl
theorem isdigit1 {x : Nat} (h : x < 128) : Txt.isdigit (⟨#[x]⟩ : Str) = diB x := by
  unfold Txt.isdigit
  have : ((⟨#[x]⟩ : Str).cps.all Unicode.isDigit) = Unicode.isDigit x := by simp
  rw [this, u_di x h]
  rfl
theorem while_then {c : TT} {tb : TS} {D : Ends} {σ : L2.St} {H : Hp} (σe : L2.St) (he : ∀ D : Ends, D.nx σe H → tWhile c tb D σ H) (hd : D.nx σe H) : tWhile c tb D σ H := he D hd
theorem get_mid {p t c : List Nat} {j : Nat} (h : j < t.length) : (p ++ (t ++ c))[p.length + j]? = t[j]? := by
  rw [List.getElem?_append_right (by omega), show p.length + j - p.length = j by omega, List.getElem?_append_left h]
theorem get_end {p t c : List Nat} : (p ++ (t ++ c))[p.length + t.length]? = c.head? := by
  rw [List.getElem?_append_right (by omega), show p.length + t.length - p.length = t.length by omega, List.getElem?_append_right (by omega), Nat.sub_self, List.head?_eq_getElem?]
theorem le_di {c : Nat} (h : leB c = true) : diB c = false := by
  unfold leB at h
  unfold diB
  simp only [Bool.or_eq_true, Bool.and_eq_true, decide_eq_true_eq] at h
  rcases h with h | h
  · rw [decide_eq_false (show ¬ c ≤ 57 by omega), Bool.and_false]
  · rw [decide_eq_false (show ¬ c ≤ 57 by omega), Bool.and_false]
def spWord : Sp := fun vs H Q _ => ∃ (p t c : List Nat) (i n : Int) (k : Str) (v : V), vs = [.str (SX.S (p ++ (t ++ c))), .int i, .int n] ∧ i = (p.length : Int) ∧ (p ++ (t ++ c)).length ≤ 100000 ∧ WordV t k v ∧ cutA c ∧
  New H (.tup [.str k, v, .int ((p.length + t.length : Nat) : Int)]) Q
theorem c_word (T : Txt w K mg) : Cal P w K mg base 2 "_word" spWord [] := by
  have C__number := c_number (P := P) (w := w) (base := base) T
  have C_is_name := c_name (P := P) (w := w) (base := base) T
  refine calD T.d__word T.g__word (fun _ _ _ _ _ _ us hl => match us, hl with | [_, _, _], _ => rfl) sc__word (fun vs H Q E h => ?_) (fun cdv A outer s H vs Q E hr h => ?_)
  · obtain ⟨p, t, c, i, n, k, v, rfl, _⟩ := h
    rfl
  · obtain ⟨p, t, c, i, n, k, v, rfl, rfl, hl, ht, hc, q⟩ := h
    have hal := ht.al
    have hlt := len_big hl
    have hlen : (SX.S (p ++ (t ++ c))).length = p.length + (t.length + c.length) := by rw [SX.S_len, List.length_append, List.length_append]
    refine ⟨_, (pss_cons (ps_set (i := 3) sc__word.nd rfl (Or.inl rfl) (pv 1))
      (pss_cons (ps_while PassesOwn.never (PW.pt (pw_and (pt_cmpR op_lt (pv 3) (pe_callB call_len_str rfl T.n_len (by rfl) (pa_cons (pv 0) pa_nil)) (nomark _)) (pw_and1 (pt_val (pe_bm0 PySem.F.plainAttrs_str PySem.F.slot_str_isalnum PySem.F.type_str_isalnum mt_isalnum (pe_ix ix_str (pv 0) (pv 3) (fun _ _ => rfl)))))))
      (pss_one (ps_aug (i := 3) sc__word.nd rfl (Or.inl rfl) pe_int ip_add)))
      (pss_cons (ps_set (i := 4) sc__word.nd rfl (Or.inl rfl) (pe_slice C8.sl_txt (pv 0) (po_some (pv 1)) (po_some (pv 3))))
      (pss_cons (ps_if (pt_val (pe_bm0 PySem.F.plainAttrs_str PySem.F.slot_str_isdigit PySem.F.type_str_isdigit mt_isdigit (pe_ix ix_str (pv 4) pe_int (fun _ _ => rfl)))) (pss_one (ps_ret (pe_tup (pa_cons pe_str (pa_cons (pe_c C__number hr (by decide) rfl (pa_cons (pv 4) (pa_cons (pv 2) pa_nil))) (pa_cons (pv 3) pa_nil)))))) pss_nil)
      (pss_cons (ps_if (pt_not (pt_val (pe_c C_is_name hr (by decide) rfl (pa_cons (pv 4) pa_nil)))) (pss_one ps_never) pss_nil)
      (pss_one (ps_ret (pe_tup (pa_cons (pe_ifExp (pt_cmpR op_in_seq (pv 4) (pe_gref rfl T.g_KEYWORDS) rfl) pe_str pe_str) (pa_cons (pv 4) (pa_cons (pv 3) pa_nil))))))))))), ?_⟩
    refine ⟨_, rfl, while_then [some (V.str (SX.S (p ++ (t ++ c)))), some (V.int p.length), some (V.int n), some (V.int ((p.length + t.length : Nat) : Int)), none] (fun D hd => ?_) ?_⟩
    · refine ⟨fun m σ H1 => ∃ j, j ≤ t.length ∧ m = t.length - j ∧ H1 = H ∧ σ = [some (V.str (SX.S (p ++ (t ++ c)))), some (V.int p.length), some (V.int n), some (V.int ((p.length + j : Nat) : Int)), none], ⟨_, 0, Nat.zero_le _, rfl, rfl, rfl⟩, ?_⟩
      rintro m σ H1 ⟨j, hj, rfl, rfl, rfl⟩
      by_cases hjt : j < t.length
      · have hx : t[j]? = some t[j] := List.getElem?_eq_getElem hjt
        have hb := List.all_eq_true.mp hal t[j] (List.getElem_mem hjt)
        refine ⟨_, rfl, _, rfl, _, rfl, hlt, _, _, rfl, rfl, _, rfl, ifYes ?_ ?_⟩
        · rw [hlen]
          exact decide_eq_true (by omega)
        refine ⟨_, rfl, _, rfl, _, _, t[j], rfl, rfl, hlt, atI_nat ((get_mid hjt).trans hx), rfl, _, rfl, rfl, trivial, _, rfl, ?_⟩
        rw [isalnum1 (al_lt hb), hb]
        refine iteT ⟨_, fun σ' H' h => h, ?_⟩
        refine ⟨_, rfl, _, _, rfl, rfl, t.length - (j + 1), by omega, j + 1, hjt, rfl, rfl, ?_⟩
        show [some (V.str (SX.S (p ++ (t ++ c)))), some (V.int p.length), some (V.int n), some (V.int (((p.length + j : Nat) : Int) + 1)), none] = _
        rw [show ((p.length + j : Nat) : Int) + 1 = ((p.length + (j + 1) : Nat) : Int) by omega]
      · obtain rfl : j = t.length := by omega
        refine ⟨_, rfl, _, rfl, _, rfl, hlt, _, _, rfl, rfl, _, rfl, ifB (fun e => ?_) (fun e => ?_)⟩
        · rw [hlen] at e
          have e2 := of_decide_eq_true e
          have hc0 : 0 < c.length := by omega
          obtain ⟨x, r, rfl⟩ : ∃ x r, c = x :: r := by
            cases c with
            | nil => cases hc0
            | cons x r => exact ⟨x, r, rfl⟩
          obtain ⟨hx1, hx2⟩ := hc x rfl
          refine ⟨_, rfl, _, rfl, _, _, x, rfl, rfl, hlt, atI_nat get_end, rfl, _, rfl, rfl, trivial, _, rfl, ?_⟩
          rw [isalnum1 hx2, hx1]
          exact iteF hd
        · exact hd
    refine ⟨_, rfl, _, rfl, _, rfl, _, rfl, _, rfl, _, rfl, hlt, ?_⟩
    rw [slice_mid rfl rfl]
    have hlw : t.length ≤ 100000 := by
      rw [List.length_append, List.length_append] at hl
      omega
    rcases ht with ⟨hn, rfl, rfl⟩ | ⟨hn, rfl, rfl⟩
    · obtain ⟨n1, n2, _⟩ := numB_ok hn
      obtain ⟨x, r, rfl⟩ : ∃ x r, t = x :: r := by
        cases t with
        | nil => exact absurd rfl n2
        | cons x r => exact ⟨x, r, rfl⟩
      have hx := List.all_eq_true.mp n1 x List.mem_cons_self
      refine ⟨_, rfl, _, _, x, rfl, rfl, len_big hlw, atI_nat (j := 0) rfl, rfl, _, rfl, rfl, trivial, _, rfl, ?_⟩
      rw [isdigit1 (di_lt hx), hx]
      refine iteT ?_
      refine ⟨_, rfl, _, rfl, _, _, rfl, hn, _, rfl, by show 3 ≤ sizeLine; decide, ?_⟩
      exact q.go
    · obtain ⟨_, _, _, x, r, rfl, hx⟩ := nameB_ok hn
      have hx128 : x < 128 := al_lt (by unfold alB; rw [hx, Bool.or_true])
      refine ⟨_, rfl, _, _, x, rfl, rfl, len_big hlw, atI_nat (j := 0) rfl, rfl, _, rfl, rfl, trivial, _, rfl, ?_⟩
      rw [isdigit1 hx128, le_di hx]
      refine iteF ?_
      refine ⟨_, rfl, _, rfl, hlw, _, rfl, ifNo (by rw [hn]; rfl) ?_⟩
      refine ⟨_, rfl, _, keysL.map (fun z => V.str (SX.S z)), rfl, .inr (T.t_KEYWORDS _), rfl, flat_strs, _, rfl, ?_⟩
      have hin : (if false = true then !inV (V.str (SX.S (x :: r))) (keysL.map fun z => V.str (SX.S z)) else inV (V.str (SX.S (x :: r))) (keysL.map fun z => V.str (SX.S z))) = decide (x :: r ∈ keysL) := in_strs
      have hk : keysL.contains (x :: r) = decide (x :: r ∈ keysL) := by
        rw [Bool.eq_iff_iff]
        simp
      unfold kindW at q
      rw [hk] at q
      rw [hin]
      by_cases hm : x :: r ∈ keysL
      · rw [decide_eq_true hm] at q ⊢
        exact iteT ⟨_, rfl, _, rfl, by show 3 ≤ sizeLine; decide, q.go⟩
      · rw [decide_eq_false hm] at q ⊢
        exact iteF ⟨_, rfl, _, rfl, by show 3 ≤ sizeLine; decide, q.go⟩
def spTextT : Sp := fun vs H Q _ => ∃ (p t c : List Nat) (i n : Int), vs = [.str (SX.S (p ++ (34 :: (t ++ [34]) ++ c))), .int i, .int n] ∧ i = (p.length : Int) ∧ (p ++ (34 :: (t ++ [34]) ++ c)).length ≤ 100000 ∧ textB t = true ∧
  New H (.tup [.str "text", .str (SX.S t), .int ((p.length + (t.length + 2) : Nat) : Int)]) Q
theorem c_textT (T : Txt w K mg) : Cal P w K mg base 4 "_text" spTextT [] := by
  have C_is_text := c_text (P := P) (w := w) (base := base) T
  refine calD T.d__text T.g__text (fun _ _ _ _ _ _ us hl => match us, hl with | [_, _, _], _ => rfl) sc__text (fun vs H Q E h => ?_) (fun cdv A outer s H vs Q E hr h => ?_)
  · obtain ⟨p, t, c, i, n, rfl, _⟩ := h
    rfl
  · obtain ⟨p, t, c, i, n, rfl, rfl, hl, ht, q⟩ := h
    have hlt := len_big hl
    have hrow : p ++ (34 :: (t ++ [34]) ++ c) = (p ++ [34]) ++ (t ++ 34 :: c) := by simp
    have hp : (p.length : Int) + 1 = ((p ++ [34]).length : Int) := by simp
    have htl : t.length ≤ 100000 := by
      simp only [List.length_append, List.length_cons] at hl
      omega
    have hq34 : 34 ∉ t := by
      unfold textB at ht
      simp only [Bool.and_eq_true, Bool.not_eq_true', decide_eq_false_iff_not] at ht
      exact ht.2.2.2
    have hfind : Txt.find3 (SX.S (p ++ (34 :: (t ++ [34]) ++ c))) (Str.ofString "\"") ((p.length : Int) + 1) = (((p ++ [34]).length + t.length : Nat) : Int) := by
      rw [hrow]
      exact find_mid hp hq34
    have hsl : Txt.slice (SX.S (p ++ (34 :: (t ++ [34]) ++ c))) (some ((p.length : Int) + 1)) (some (((p ++ [34]).length + t.length : Nat) : Int)) = SX.S t := by
      rw [hrow]
      exact slice_mid hp rfl
    refine ⟨_, (pss_cons (ps_set (i := 3) sc__text.nd rfl (Or.inl rfl) (pe_bm PySem.F.plainAttrs_str PySem.F.slot_str_find PySem.F.type_str_find mt_find3 (pv 0) (pa_cons pe_str (pa_cons (pe_op op_add (pv 1) pe_int) pa_nil))))
      (pss_cons (ps_if (PW.pt (pw_or (pt_cmpR op_lt (pv 3) pe_int (nomark _)) (pw_or1 (pt_not (pt_val (pe_c C_is_text hr (by decide) rfl (pa_cons (pe_slice C8.sl_txt (pv 0) (po_some (pe_op op_add (pv 1) pe_int)) (po_some (pv 3))) pa_nil))))))) (pss_one ps_never) pss_nil)
      (pss_one (ps_ret (pe_tup (pa_cons pe_str (pa_cons (pe_slice C8.sl_txt (pv 0) (po_some (pe_op op_add (pv 1) pe_int)) (po_some (pv 3))) (pa_cons (pe_op op_add (pv 3) pe_int) pa_nil)))))))), ?_⟩
    refine ⟨_, rfl, rfl, _, rfl, _, _, rfl, rfl, _, _, _, rfl, rfl, ?_⟩
    show gName 3 (V.int (Txt.find3 (SX.S (p ++ (34 :: (t ++ [34]) ++ c))) (Str.ofString "\"") ((p.length : Int) + 1))) _ _ _
    rw [hfind]
    refine ⟨_, rfl, _, _, rfl, rfl, _, rfl, ifNo (decide_eq_false (by omega)) ?_⟩
    refine ⟨_, rfl, _, rfl, _, _, rfl, rfl, _, rfl, _, rfl, _, rfl, _, rfl, hlt, t, by show [V.str (Txt.slice _ (some ((p.length : Int) + 1)) _)] = _; rw [hsl], htl, fun H1 s1 => ⟨_, rfl, ifNo (by rw [ht]; rfl) ?_⟩⟩
    refine ⟨_, rfl, _, rfl, _, _, rfl, rfl, _, rfl, _, rfl, _, rfl, _, rfl, hlt, _, rfl, _, _, rfl, rfl, by show 3 ≤ sizeLine; decide, ?_⟩
    have e9 : (((p ++ [34]).length + t.length : Nat) : Int) + 1 = ((p.length + (t.length + 2) : Nat) : Int) := by
      simp only [List.length_append, List.length_cons, List.length_nil]
      omega
    have z := (q.mono s1).go
    rw [← e9, ← hsl] at z
    exact z
/-- the first token that stands at a place -/
def spToken : Sp := fun vs H Q _ => ∃ (p t c : List Nat) (i n : Int) (k : Str) (v : V), vs = [.str (SX.S (p ++ (t ++ c))), .int i, .int n] ∧ i = (p.length : Int) ∧ (p ++ (t ++ c)).length ≤ 100000 ∧ Hd t c k v ∧
  New H (.tup [.str k, v, .int ((p.length + t.length : Nat) : Int)]) Q
theorem Hd.go {t c : List Nat} {k : Str} {v : V} (h : Hd t c k v) : (WordV t k v ∧ cutA c ∧ (∃ x r, t = x :: r ∧ alB x = true)) ∨ (∃ z, t = 34 :: (z ++ [34]) ∧ textB z = true ∧ k = "text" ∧ v = .str (SX.S z)) ∨
    (t ∈ marksL ∧ (t.length = 2 ∨ c = [] ∨ (t ++ c).take 2 ∉ marksL) ∧ k = "sign" ∧ v = .str (SX.S t)) := by
  cases h with
  | num h a =>
    refine .inl ⟨.inl ⟨h, rfl, rfl⟩, a, ?_⟩
    obtain ⟨n1, n2, _⟩ := numB_ok h
    cases t with
    | nil => exact absurd rfl n2
    | cons x r =>
      refine ⟨x, r, rfl, ?_⟩
      have := List.all_eq_true.mp n1 x List.mem_cons_self
      unfold alB
      rw [this]
      rfl
  | word h a =>
    refine .inl ⟨.inr ⟨h, rfl, rfl⟩, a, ?_⟩
    obtain ⟨_, _, ha, x, r, rfl, _⟩ := nameB_ok h
    exact ⟨x, r, rfl, List.all_eq_true.mp ha x List.mem_cons_self⟩
  | text h => exact .inr (.inl ⟨_, rfl, h, rfl, rfl⟩)
  | sign h a => exact .inr (.inr ⟨h, a, rfl, rfl⟩)
theorem c_token (T : Txt w K mg) : Cal P w K mg base 5 "_token" spToken [] := by
  have C__text := c_textT (P := P) (w := w) (base := base) T
  have C__word := c_word (P := P) (w := w) (base := base) T
  refine calD T.d__token T.g__token (fun _ _ _ _ _ _ us hl => match us, hl with | [_, _, _], _ => rfl) sc__token (fun vs H Q E h => ?_) (fun cdv A outer s H vs Q E hr h => ?_)
  · obtain ⟨p, t, c, i, n, k, v, rfl, _⟩ := h
    rfl
  · obtain ⟨p, t, c, i, n, k, v, rfl, rfl, hl, ht, q⟩ := h
    have hlt := len_big hl
    refine ⟨_, (pss_cons (ps_if (pt_val (pe_bm0 PySem.F.plainAttrs_str PySem.F.slot_str_isalnum PySem.F.type_str_isalnum mt_isalnum (pe_ix ix_str (pv 0) (pv 1) (fun _ _ => rfl)))) (pss_one (ps_ret (pe_c C__word hr (by decide) rfl (pa_cons (pv 0) (pa_cons (pv 1) (pa_cons (pv 2) pa_nil)))))) pss_nil)
      (pss_cons (ps_if (pt_cmpR op_eq (pe_ix ix_str (pv 0) (pv 1) (fun _ _ => rfl)) pe_str (nomark _)) (pss_one (ps_ret (pe_c C__text hr (by decide) rfl (pa_cons (pv 0) (pa_cons (pv 1) (pa_cons (pv 2) pa_nil)))))) pss_nil)
      (pss_cons (ps_for PassesOwn.never rfl (pi_tup (pe_tup (pa_cons pe_int (pa_cons pe_int pa_nil)))) (pg_name (i := 3) sc__token.nd rfl (Or.inl rfl))
      (pss_cons (ps_set (i := 4) sc__token.nd rfl (Or.inl rfl) (pe_slice C8.sl_txt (pv 0) (po_some (pv 1)) (po_some (pe_op op_add (pv 1) (pv 3)))))
      (pss_one (ps_if (pt_cmpR op_in_seq (pv 4) (pe_gref rfl T.g_MARKS) rfl) (pss_one (ps_ret (pe_tup (pa_cons pe_str (pa_cons (pv 4) (pa_cons (pe_op op_add (pv 1) (pe_callB call_len_str rfl T.n_len (by rfl) (pa_cons (pv 4) pa_nil))) pa_nil)))))) pss_nil))))
      (pss_one ps_never)))), ?_⟩
    rcases ht.go with ⟨hw, hc, x, r, rfl, hx⟩ | ⟨z, rfl, hz, rfl, rfl⟩ | ⟨hm, h2, rfl, rfl⟩
    · refine ⟨_, rfl, _, rfl, _, _, x, rfl, rfl, hlt, atI_nat get_at, rfl, _, rfl, rfl, trivial, _, rfl, ?_⟩
      rw [isalnum1 (al_lt hx), hx]
      exact iteT ⟨_, rfl, _, rfl, _, rfl, p, x :: r, c, _, n, k, v, rfl, rfl, hl, hw, hc, q⟩
    · refine ⟨_, rfl, _, rfl, _, _, 34, rfl, rfl, hlt, atI_nat get_at, rfl, _, rfl, rfl, trivial, _, rfl, ?_⟩
      rw [isalnum1 (show 34 < 128 by decide), show alB 34 = false by decide]
      refine iteF ?_
      refine ⟨_, rfl, _, rfl, _, _, 34, rfl, rfl, hlt, atI_nat get_at, rfl, _, rfl, ifYes (decide_eq_true rfl) ?_⟩
      have e : (34 :: (z ++ [34])).length = z.length + 2 := by simp
      rw [e] at q
      exact ⟨_, rfl, _, rfl, _, rfl, p, z, c, _, n, rfl, rfl, hl, hz, q⟩
    · obtain ⟨x, r, rfl⟩ : ∃ x r, t = x :: r := by
        cases t with
        | nil => exact absurd (marks_len [] hm) (by decide)
        | cons x r => exact ⟨x, r, rfl⟩
      obtain ⟨hx, hx34, _, _, hx128⟩ := marks_head _ hm x rfl
      refine ⟨_, rfl, _, rfl, _, _, x, rfl, rfl, hlt, atI_nat get_at, rfl, _, rfl, rfl, trivial, _, rfl, ?_⟩
      rw [isalnum1 hx128, hx]
      refine iteF ?_
      refine ⟨_, rfl, _, rfl, _, _, x, rfl, rfl, hlt, atI_nat get_at, rfl, _, rfl, ifNo (decide_eq_false fun e => hx34 ?_) ?_⟩
      · have z2 : SX.S [x] = SX.S [34] := V.str.inj e
        exact (List.cons.inj (SX.S_inj z2)).1
      refine ⟨by show 2 ≤ sizeLine; decide, fun T1 nT => ⟨T1, rfl, ⟨_, SqT.of upd_same⟩, ?_⟩⟩
      have sT := Same_upd (o := .tup [V.int 2, V.int 1]) nT
      have hT : SqT K (upd H T1 (.tup [V.int 2, V.int 1])) T1 [V.int 2, V.int 1] := SqT.of upd_same
      generalize upd H T1 (HO.tup [V.int 2, V.int 1]) = H1 at sT hT
      refine for_tup (xs := [V.int 2, V.int 1]) (fun i σ H2 => H2 = H1 ∧ ∃ y z, σ = [some (V.str (SX.S (p ++ (x :: r ++ c)))), some (V.int p.length), some (V.int n), y, z] ∧ (i = 1 → r = []) ∧ i < 2) ⟨rfl, _, _, rfl, fun e => absurd e (by decide), Nat.zero_lt_two⟩ (fun i σ H2 _ h => h.1 ▸ hT) ?_ ?_
      · rintro i y σ H2 hi ⟨rfl, y0, z0, rfl, hone, hlt2⟩
        have hml := marks_len _ hm
        have ret : ∀ (m : List Nat) (y1 : Option V), m = x :: r → tRet (tTup (tCons (tC (V.str (Str.ofString "sign"))) (tCons (tVar 4) (tCons (tOp (rI0 fun i j => V.int (i + j)) (tVar 1) (tCB (fun xs H Q => ∃ z, xs = [V.str z] ∧ z.length ≤ sizeLine ∧ Q (V.int z.length) H) (tCons (tVar 4) tNil))) tNil))))
            { nx := fun _ _ => False, rt := Q } [some (V.str (SX.S (p ++ (x :: r ++ c)))), some (V.int p.length), some (V.int n), y1, some (V.str (SX.S m))] H2 := by
          intro m y1 em
          subst em
          refine ⟨_, rfl, _, rfl, _, rfl, _, rfl, len_big (by rcases hml with h | h <;> omega), _, _, rfl, rfl, by show 3 ≤ sizeLine; decide, ?_⟩
          have z := (q.mono sT).go
          have e9 : (p.length : Int) + ((SX.S (x :: r)).length : Int) = ((p.length + (x :: r).length : Nat) : Int) := by
            rw [SX.S_len]
            omega
          rw [← e9] at z
          exact z
        have test : ∀ m : List Nat, (if false = true then !inV (V.str (SX.S m)) (marksL.map fun z => V.str (SX.S z)) else inV (V.str (SX.S m)) (marksL.map fun z => V.str (SX.S z))) = decide (m ∈ marksL) := fun m => in_strs
        have i01 : i = 0 ∨ i = 1 := by omega
        rcases i01 with rfl | rfl
        · obtain rfl : y = V.int 2 := (Option.some.inj hi).symm
          refine ⟨_, rfl, _, rfl, _, rfl, _, rfl, _, rfl, _, _, rfl, rfl, _, rfl, _, rfl, hlt, ?_⟩
          show gName 4 (V.str (Txt.slice (SX.S (p ++ (x :: r ++ c))) (some (p.length : Int)) (some ((p.length : Int) + 2)))) _ _ _
          rw [slice_take (k := 2) (i := (p.length : Int)) (j := (p.length : Int) + 2) rfl rfl]
          refine ⟨_, rfl, _, marksL.map (fun z => V.str (SX.S z)), rfl, .inr (T.t_MARKS _), rfl, flat_strs, _, rfl, ?_⟩
          rw [test]
          by_cases h : (x :: r ++ c).take 2 ∈ marksL
          · rw [decide_eq_true h]
            refine iteT (ret _ _ ?_)
            rcases h2 with h2 | h2 | h2
            · rw [← h2, List.take_left]
            · rw [h2, List.append_nil]
              exact List.take_of_length_le (by rcases hml with h | h <;> omega)
            · exact absurd h h2
          · rw [decide_eq_false h]
            refine iteF ⟨rfl, _, _, rfl, fun _ => ?_, Nat.one_lt_two⟩
            rcases hml with h1 | h1
            · exact List.length_eq_zero_iff.mp (by simpa using h1)
            · exact absurd hm (by rw [← h1, List.take_left] at h; exact h)
        · obtain rfl : y = V.int 1 := (Option.some.inj hi).symm
          obtain rfl := hone rfl
          refine ⟨_, rfl, _, rfl, _, rfl, _, rfl, _, rfl, _, _, rfl, rfl, _, rfl, _, rfl, hlt, ?_⟩
          show gName 4 (V.str (Txt.slice (SX.S (p ++ ([x] ++ c))) (some (p.length : Int)) (some ((p.length : Int) + 1)))) _ _ _
          rw [slice_take (k := 1) (i := (p.length : Int)) (j := (p.length : Int) + 1) rfl rfl]
          refine ⟨_, rfl, _, marksL.map (fun z => V.str (SX.S z)), rfl, .inr (T.t_MARKS _), rfl, flat_strs, _, rfl, ?_⟩
          rw [test, show ([x] ++ c).take 1 = [x] from rfl, decide_eq_true hm]
          exact iteT (ret _ _ rfl)
      · rintro σ H2 ⟨_, _, _, _, _, h⟩
        exact absurd h (by decide)
end
end Pt
set_option Elab.async false
set_option linter.all false
set_option maxRecDepth 100000
set_option maxHeartbeats 4000000
namespace Pt
open PySem PySem.Spec PyProof.Rows L2 Wc
open C8 (Cal pe_c pe_gc)
/-! ### a row and a text -/
inductive Row : List Nat → List (Str × V) → Prop
  | nil : Row [] []
  | cm {c : List Nat} (h : c.all prB = true) : Row (35 :: c) []
  | sp {c : List Nat} {ts : List (Str × V)} (h : Row c ts) : Row (32 :: c) ts
  | tok {w c : List Nat} {k : Str} {v : V} {ts : List (Str × V)} (a : Hd w c k v) (h : Row c ts) : Row (w ++ c) ((k, v) :: ts)
theorem marks_pr : ∀ m ∈ marksL, m.all prB = true := by decide +kernel
theorem all_al_pr {w : List Nat} (h : w.all alB = true) : w.all prB = true := List.all_eq_true.mpr fun c hc => by
  have := List.all_eq_true.mp h c hc
  exact al_pr c (al_lt this) this
theorem Hd.pr {w c : List Nat} {k : Str} {v : V} (h : Hd w c k v) : w.all prB = true := by
  cases h with
  | num h a => exact all_al_pr (di_al (numB_ok h).1)
  | word h a => exact all_al_pr (nameB_ok h).2.2.1
  | text h =>
    unfold textB at h
    simp only [Bool.and_eq_true] at h
    rw [List.all_cons, List.all_append, h.1]
    decide
  | sign h a => exact marks_pr _ h
theorem Row.pr {r : List Nat} {ts : List (Str × V)} (h : Row r ts) : r.all prB = true := by
  induction h with
  | nil => rfl
  | cm h => rw [List.all_cons, h]; decide
  | sp h ih => rw [List.all_cons, ih]; decide
  | tok a h ih => rw [List.all_append, a.pr, ih]; rfl
theorem al_no : ∀ c, c < 128 → alB c = true → c ≠ 32 ∧ c ≠ 35 := by decide +kernel
theorem Hd.ne {w c : List Nat} {k : Str} {v : V} (h : Hd w c k v) : ∃ x r, w = x :: r ∧ x ≠ 32 ∧ x ≠ 35 := by
  rcases h.go with ⟨_, _, x, r, e, hx⟩ | ⟨z, e, _⟩ | ⟨hm, _⟩
  · exact ⟨x, r, e, al_no x (al_lt hx) hx⟩
  · exact ⟨34, _, e, by decide⟩
  · cases w with
    | nil => exact absurd (marks_len [] hm) (by decide)
    | cons x r =>
      obtain ⟨_, _, h1, h2, _⟩ := marks_head _ hm x rfl
      exact ⟨x, r, rfl, h1, h2⟩
/-- objects that are these tokens -/
inductive Toks (H : Hp) : List V → List (Str × V × Int) → Prop
  | nil : Toks H [] []
  | cons {a : Addr} {as : List V} {d : Str × V × Int} {ds : List (Str × V × Int)} (h : H a = some (.tup [.str d.1, d.2.1, .int d.2.2])) (r : Toks H as ds) : Toks H (.ref a :: as) (d :: ds)
theorem Toks.app {H : Hp} {as bs : List V} {ds es : List (Str × V × Int)} (h : Toks H as ds) (g : Toks H bs es) : Toks H (as ++ bs) (ds ++ es) := by
  induction h with
  | nil => exact g
  | cons h r ih => exact .cons h ih
theorem Toks.same {H H' : Hp} {as : List V} {ds : List (Str × V × Int)} (s : Same H H') (h : Toks H as ds) : Toks H' as ds := by
  induction h with
  | nil => exact .nil
  | cons h r ih => exact .cons (s _ _ h) ih
theorem Toks.upd {H : Hp} {as xs : List V} {ds : List (Str × V × Int)} {l : Addr} {o : HO} (e : H l = some (.lst xs)) (h : Toks H as ds) : Toks (upd H l o) as ds := by
  induction h with
  | nil => exact .nil
  | cons h r ih =>
    refine .cons ?_ ih
    rw [upd_ne]
    · exact h
    · intro z
      rw [z, e] at h
      cases h
theorem Toks.len {H : Hp} {as : List V} {ds : List (Str × V × Int)} (h : Toks H as ds) : as.length = ds.length := by
  induction h with
  | nil => rfl
  | cons h r ih => rw [List.length_cons, List.length_cons, ih]
theorem _root_.L2.Same.put {H H' : Hp} {l : Addr} {o : HO} (s : Same H H') (n : H l = none) : Same H (upd H' l o) := fun c o' e => by
  rw [upd_ne (ne_of_none e n)]
  exact s _ _ e
def onLine (n : Int) (ts : List (Str × V)) : List (Str × V × Int) := ts.map fun t => (t.1, t.2, n)
theorem Row.len {r : List Nat} {ts : List (Str × V)} (h : Row r ts) : ts.length ≤ r.length := by
  induction h with
  | nil => exact Nat.le_refl _
  | cm h => exact Nat.zero_le _
  | sp h ih => exact Nat.le_trans ih (Nat.le_succ _)
  | tok a h ih =>
    obtain ⟨x, r, rfl, _⟩ := a.ne
    rw [List.length_append, List.length_cons, List.length_cons]
    omega
section
variable {P : Program} {w : World} {K : PySem.W.Frag} {mg : Str → Option Value} {base : Heap}
def spRow : Sp := fun vs H Q _ => ∃ (r : List Nat) (ts : List (Str × V)) (n : Int), vs = [.str (SX.S r), .int n] ∧ r.length ≤ 100000 ∧ Row r ts ∧
  ∀ (l : Addr) (H' : Hp) (as : List V), H l = none → H' l = some (.lst as) → Toks H' as (onLine n ts) → Same H H' → Q (.ref l) H'
theorem c_row (T : Txt w K mg) : Cal P w K mg base 6 "_row_tokens" spRow [] := by
  have C__token := c_token (P := P) (w := w) (base := base) T
  have C_is_printable := c_print (P := P) (w := w) (base := base) T
  refine calD T.d__row_tokens T.g__row_tokens (fun _ _ _ _ _ _ us hl => match us, hl with | [_, _], _ => rfl) sc__row_tokens (fun vs H Q E h => ?_) (fun cdv A outer s H vs Q E hr h => ?_)
  · obtain ⟨r, ts, n, rfl, _⟩ := h
    rfl
  · obtain ⟨r, ts, n, rfl, hl, hrow, q⟩ := h
    have hlt := len_big hl
    refine ⟨_, (pss_cons (ps_if (pt_not (pt_val (pe_c C_is_printable hr (by decide) rfl (pa_cons (pv 0) pa_nil)))) (pss_one ps_never) pss_nil)
      (pss_cons (ps_set (i := 2) sc__row_tokens.nd rfl (Or.inl rfl) (pe_lst pa_nil))
      (pss_cons (ps_set (i := 3) sc__row_tokens.nd rfl (Or.inl rfl) pe_int)
      (pss_cons (ps_while PassesOwn.never (PW.pt (pw_and (pt_cmpR op_lt (pv 3) (pe_callB call_len_str rfl T.n_len (by rfl) (pa_cons (pv 0) pa_nil)) (nomark _)) (pw_and1 (pt_cmpR op_ne (pe_ix ix_str (pv 0) (pv 3) (fun _ _ => rfl)) pe_str (nomark _)))))
      (pss_one (ps_if (pt_cmpR op_eq (pe_ix ix_str (pv 0) (pv 3) (fun _ _ => rfl)) pe_str (nomark _)) (pss_one (ps_aug (i := 3) sc__row_tokens.nd rfl (Or.inl rfl) pe_int ip_add)) (pss_cons (ps_asg (pe_c C__token hr (by decide) rfl (pa_cons (pv 0) (pa_cons (pv 3) (pa_cons (pv 1) pa_nil)))) (pg_tup rfl (pgs_cons (pg_name (i := 4) sc__row_tokens.nd rfl (Or.inl rfl)) (pgs_cons (pg_name (i := 5) sc__row_tokens.nd rfl (Or.inl rfl)) (pgs_cons (pg_name (i := 3) sc__row_tokens.nd rfl (Or.inl rfl)) pgs_nil)))))
      (pss_one (ps_expr (pe_bm PySem.F.plainAttrs_list PySem.F.slot_list_append PySem.F.type_list_append mt_append (pv 2) (pa_cons (pe_tup (pa_cons (pv 4) (pa_cons (pv 5) (pa_cons (pv 1) pa_nil)))) pa_nil))))))))
      (pss_one (ps_ret (pv 2))))))), ?_⟩
    refine ⟨_, rfl, r, rfl, hl, fun H0 s0 => ⟨_, rfl, ifNo (by rw [hrow.pr]; rfl) ?_⟩⟩
    refine ⟨Nat.zero_le _, fun l nl => ?_⟩
    have nlH : H l = none := s0.free nl
    have s1 := s0.trans (Same_upd (o := .lst []) nl)
    refine ⟨fun m σ H1 => ∃ (p c : List Nat) (ts1 ts2 : List (Str × V)) (as : List V) (y z : Option V), r = p ++ c ∧ ts = ts1 ++ ts2 ∧ Row c ts2 ∧ m = c.length ∧
      σ = [some (V.str (SX.S r)), some (V.int n), some (V.ref l), some (V.int p.length), y, z] ∧ H1 l = some (.lst as) ∧ Toks H1 as (onLine n ts1) ∧ Same H H1, ⟨_, [], r, [], ts, [], none, none, rfl, rfl, hrow, rfl, rfl, upd_same, .nil, s1⟩, ?_⟩
    rintro m σ H1 ⟨p, c, ts1, ts2, as, y, z, er, et, hc, rfl, rfl, hl1, hk, sm⟩
    subst er et
    have hlen : (SX.S (p ++ c)).length = p.length + c.length := by rw [SX.S_len, List.length_append]
    refine ⟨_, rfl, _, rfl, _, rfl, hlt, _, _, rfl, rfl, _, rfl, ?_⟩
    rw [hlen]
    cases hc with
    | nil =>
      rw [decide_eq_false (by simp)]
      rw [List.append_nil] at q
      exact iteF ⟨_, rfl, q l H1 as nlH hl1 hk sm⟩
    | cm h =>
      rw [decide_eq_true (by simp only [List.length_cons]; omega)]
      refine iteT ⟨_, rfl, _, rfl, _, _, 35, rfl, rfl, hlt, atI_nat get_at, rfl, _, rfl, ifNo ?_ ?_⟩
      · have : (V.str (⟨#[35]⟩ : Str)) = V.str (Str.ofString "#") := rfl
        rw [this, decide_eq_true rfl]
        rfl
      rw [List.append_nil] at q
      exact ⟨_, rfl, q l H1 as nlH hl1 hk sm⟩
    | sp h =>
      rename_i c
      rw [decide_eq_true (by simp only [List.length_cons]; omega)]
      refine iteT ⟨_, rfl, _, rfl, _, _, 32, rfl, rfl, hlt, atI_nat get_at, rfl, _, rfl, ifYes (by decide +kernel) ⟨_, fun σ' H' h => h, ?_⟩⟩
      refine ⟨_, rfl, _, rfl, _, _, 32, rfl, rfl, hlt, atI_nat get_at, rfl, _, rfl, ifYes (decide_eq_true rfl) ?_⟩
      refine ⟨_, rfl, _, _, rfl, rfl, c.length, by rw [List.length_cons]; exact Nat.lt_succ_self _, p ++ [32], c, ts1, ts2, as, y, z, by simp, rfl, h, rfl, ?_, hl1, hk, sm⟩
      show [some (V.str (SX.S (p ++ 32 :: c))), some (V.int n), some (V.ref l), some (V.int ((p.length : Int) + 1)), y, z] = _
      rw [show ((p.length : Int) + 1) = ((p ++ [32]).length : Int) by simp]
    | tok a h =>
      rename_i w c k v ts2
      obtain ⟨x, wr, rfl, n32, n35⟩ := a.ne
      rw [decide_eq_true (by simp only [List.length_append, List.length_cons]; omega)]
      refine iteT ⟨_, rfl, _, rfl, _, _, x, rfl, rfl, hlt, atI_nat get_at, rfl, _, rfl, ifYes ?_ ⟨_, fun σ' H' h => h, ?_⟩⟩
      · rw [decide_eq_false (fun e => n35 ?_)]
        · rfl
        · have z2 : SX.S [x] = SX.S [35] := V.str.inj e
          exact (List.cons.inj (SX.S_inj z2)).1
      refine ⟨_, rfl, _, rfl, _, _, x, rfl, rfl, hlt, atI_nat get_at, rfl, _, rfl, ifNo (decide_eq_false fun e => n32 ?_) ?_⟩
      · have z2 : SX.S [x] = SX.S [32] := V.str.inj e
        exact (List.cons.inj (SX.S_inj z2)).1
      refine ⟨_, rfl, _, rfl, _, rfl, p, x :: wr, c, _, n, k, v, rfl, rfl, hl, a, fun T1 H2 nT hT s2 => ?_⟩
      refine ⟨T1, _, rfl, SqT.of hT, rfl, _, _, rfl, _, _, rfl, _, _, rfl, rfl, ?_⟩
      have hl2 : H2 l = some (.lst as) := s2 _ _ hl1
      have hts : ts1.length ≤ 100000 := by
        have := hrow.len
        rw [List.length_append] at this
        omega
      have hal : as.length < sizeLine := by
        rw [hk.len, onLine, List.length_map, sizeLine_eq]
        exact Nat.lt_of_le_of_lt hts (by decide)
      refine ⟨_, rfl, .inl ⟨rfl, as, SqL.of hl2⟩, _, rfl, _, rfl, _, rfl, by show 3 ≤ sizeLine; decide, fun T2 nT2 => ⟨l, as, V.ref T2, rfl, rfl, (Same_upd nT2) _ _ hl2, hal, ?_⟩⟩
      refine ⟨c.length, by rw [List.length_append, List.length_cons]; omega, p ++ x :: wr, c, ts1 ++ [(k, v)], ts2, as ++ [V.ref T2], some (.str k), some v, by simp, by simp, h, rfl, ?_, upd_same, ?_, ?_⟩
      · show [some (V.str (SX.S (p ++ (x :: wr ++ c)))), some (V.int n), some (V.ref l), some (V.int ((p.length + (x :: wr).length : Nat) : Int)), some (.str k), some v] = _
        rw [List.length_append]
      · have e : onLine n (ts1 ++ [(k, v)]) = onLine n ts1 ++ [(k, v, n)] := by
          unfold onLine
          rw [List.map_append]
          rfl
        rw [e]
        exact ((hk.same (s2.trans (Same_upd nT2))).app (.cons (d := (k, v, n)) upd_same .nil)).upd ((Same_upd nT2) _ _ hl2)
      · exact (sm.trans (s2.trans (Same_upd nT2))).put nlH
/-- the tokens of rows, the first of them the n-th -/
inductive Lex : Int → List (List Nat) → List (Str × V × Int) → Prop
  | nil {n : Int} : Lex n [] []
  | cons {n : Int} {r : List Nat} {rs : List (List Nat)} {ts : List (Str × V)} {ds : List (Str × V × Int)} (h : Row r ts) (g : Lex (n + 1) rs ds) : Lex n (r :: rs) (onLine n ts ++ ds)
theorem pr10 : prB 10 = false := by decide
theorem Row.no10 {r : List Nat} {ts : List (Str × V)} (h : Row r ts) : 10 ∉ r := fun z => by
  have := List.all_eq_true.mp h.pr 10 z
  rw [pr10] at this
  cases this
theorem Lex.no10 {n : Int} {rs : List (List Nat)} {ds : List (Str × V × Int)} (h : Lex n rs ds) : ∀ r ∈ rs, 10 ∉ r := by
  induction h with
  | nil => exact fun r z => nomatch z
  | cons h g ih =>
    intro r z
    rcases List.mem_cons.mp z with rfl | z
    · exact h.no10
    · exact ih r z
theorem joinL_len {s : Nat} : ∀ (r : List Nat) (rs : List (List Nat)), r.length + (TL.joinL [s] rs).length ≤ (TL.joinL [s] (r :: rs)).length
  | r, [] => by show r.length + 0 ≤ r.length; omega
  | r, q :: rs => by
    show r.length + (TL.joinL [s] (q :: rs)).length ≤ (r ++ ([s] ++ TL.joinL [s] (q :: rs))).length
    simp only [List.length_append, List.length_cons]
    omega
theorem joinL_mem {s : Nat} {r : List Nat} : ∀ (rs : List (List Nat)), r ∈ rs → r.length ≤ (TL.joinL [s] rs).length
  | q :: rs, h => by
    have e := joinL_len (s := s) q rs
    rcases List.mem_cons.mp h with rfl | h
    · omega
    · have := joinL_mem (s := s) rs h
      omega
theorem onLine_len {n : Int} {ts : List (Str × V)} : (onLine n ts).length = ts.length := List.length_map _
theorem Lex.len {n : Int} {rs : List (List Nat)} {ds : List (Str × V × Int)} (h : Lex n rs ds) : ds.length ≤ (TL.joinL [10] rs).length := by
  induction h with
  | nil => exact Nat.zero_le _
  | @cons n r rs ts ds h g ih =>
    have e := joinL_len (s := 10) r rs
    have := h.len
    rw [List.length_append, onLine_len]
    omega
def spTokens : Sp := fun vs H Q _ => ∃ (t : List Nat) (rs : List (List Nat)) (ds : List (Str × V × Int)), vs = [.str (SX.S t)] ∧ t.length ≤ 20000 ∧ t = TL.joinL [10] rs ∧ rs ≠ [] ∧ Lex 1 rs ds ∧
  ∀ (l : Addr) (H' : Hp) (as : List V), H l = none → H' l = some (.tup as) → Toks H' as ds → Same H H' → Q (.ref l) H'
theorem walk_enum1 {a : Addr} {xs : List V} : Walk (Ite1 K a) xs.length (fun H => SqL K H a xs) (YPair (fun i => some (.int ((i : Nat) + 1 : Int))) (fun i => xs[i]?)) := by
  refine ⟨fun i _ hi q => ⟨xs, xs[i], q, by simp [hi]⟩, fun _ q => ⟨xs, q, Nat.le_refl _⟩, fun i H v H' _ q y => ?_⟩
  obtain ⟨T, x, h1, h2, h3, h4⟩ := y
  exact ⟨T, _, x, h1, h2, h3, rfl, h4 xs q⟩
theorem c_tokens (T : Txt w K mg) : Cal P w K mg base 7 "tokens" spTokens [] := by
  have C__row_tokens := c_row (P := P) (w := w) (base := base) T
  refine calD T.d_tokens T.g_tokens (fun _ _ _ _ _ _ us hl => match us, hl with | [_], _ => rfl) sc_tokens (fun vs H Q E h => ?_) (fun cdv A outer s H vs Q E hr h => ?_)
  · obtain ⟨t, rs, ds, rfl, _⟩ := h
    rfl
  · obtain ⟨t, rs, ds, rfl, hl, ht, hne, hlex, q⟩ := h
    have hlt : (SX.S t).length ≤ sizeLine := len_big (by omega)
    have hl20 : (SX.S t).length = t.length := SX.S_len t
    refine ⟨_, (pss_cons (ps_if (PW.pt (pw_or (pt_not (pt_val (pe_callB call_isi rfl T.n_isinstance (by rfl) (pa_cons (pv 0) (pa_cons (pe_ty "str" rfl T.n_str (by rfl)) pa_nil))))) (pw_or1 (pt_cmpR op_gt (pe_callB call_len_str rfl T.n_len (by rfl) (pa_cons (pv 0) pa_nil)) (pe_gc rfl T.c_MOST_SOURCE) (nomark _))))) (pss_one ps_never) pss_nil)
      (pss_cons (ps_set (i := 1) sc_tokens.nd rfl (Or.inl rfl) (pe_lst pa_nil))
      (pss_cons (ps_for PassesOwn.never rfl (pi_enum1 rfl T.n_enumerate (pa_cons (pe_bm PySem.F.plainAttrs_str PySem.F.slot_str_split PySem.F.type_str_split mt_split (pv 0) (pa_cons pe_str pa_nil)) pa_nil) pe_int) (pg_tup rfl (pgs_cons (pg_name (i := 2) sc_tokens.nd rfl (Or.inl rfl)) (pgs_cons (pg_name (i := 3) sc_tokens.nd rfl (Or.inl rfl)) pgs_nil)))
      (pss_one (ps_expr (pe_bm PySem.F.plainAttrs_list PySem.F.slot_list_extend PySem.F.type_list_extend mt_extend (pv 1) (pa_cons (pe_c C__row_tokens hr (by decide) rfl (pa_cons (pv 3) (pa_cons (pv 2) pa_nil))) pa_nil)))))
      (pss_one (ps_ret (pe_callTy call_tuple_of rfl T.n_tuple (by rfl) (pa_cons (pv 1) pa_nil))))))), ?_⟩
    refine ⟨_, rfl, _, _, _, _, _, rfl, ClsV.ty "str", TyX.base (TyOf.str _), kit_ty (r := true) (by decide +kernel), _, rfl, iteF ?_⟩
    refine ⟨_, rfl, _, rfl, hlt, _, _, rfl, rfl, _, rfl, ifNo (decide_eq_false (by rw [hl20]; omega)) ?_⟩
    refine ⟨Nat.zero_le _, fun l nl => ?_⟩
    have s1 := Same_upd (o := .lst []) nl
    have hl1 : upd H l (.lst []) l = some (.lst []) := upd_same
    generalize upd H l (HO.lst []) = H1 at s1 hl1
    refine ⟨_, rfl, rfl, _, _, rfl, rfl, by decide +kernel, by rw [hl20, sizeLine_eq]; exact Nat.le_trans (Nat.add_le_add_right hl 2) (by decide), fun L nL => ?_⟩
    have hsplit : Txt.split (SX.S t) (Str.ofString "\n") = rs.map SX.S := by
      have e : Txt.split (SX.S t) (SX.S [10]) = _ := SX.split_S (by decide) (by decide)
      have e2 : TL.spl [10] 0 [] t = rs := by rw [ht]; exact TL.spl_join hne hlex.no10
      rw [e2] at e
      exact e
    have hL : upd H1 L (.lst ((Txt.split (SX.S t) (Str.ofString "\n")).map V.str)) L = some (.lst (rs.map fun r => V.str (SX.S r))) := by
      rw [hsplit, List.map_map]
      exact upd_same
    have s2 := s1.trans (Same_upd (o := .lst ((Txt.split (SX.S t) (Str.ofString "\n")).map V.str)) nL)
    have hl2 := (Same_upd (o := .lst ((Txt.split (SX.S t) (Str.ofString "\n")).map V.str)) nL) _ _ hl1
    have nlL : l ≠ L := ne_of_none hl1 nL
    generalize upd H1 L (HO.lst ((Txt.split (SX.S t) (Str.ofString "\n")).map V.str)) = H2 at hL s2 hl2
    refine ⟨L, rs.map fun r => V.str (SX.S r), rfl, SqL.of hL, ?_⟩
    refine for_it walk_enum1 (fun i σ H3 => ∃ (d1 dr : List (Str × V × Int)) (as : List V) (y z : Option V), ds = d1 ++ dr ∧ Lex (1 + i) (rs.drop i) dr ∧
      σ = [some (V.str (SX.S t)), some (V.ref l), y, z] ∧ H3 l = some (.lst as) ∧ H3 L = some (.lst (rs.map fun r => V.str (SX.S r))) ∧ Toks H3 as d1 ∧ Same H H3)
      ⟨[], ds, [], none, none, rfl, by simpa using hlex, rfl, hl2, hL, .nil, s2⟩ (fun i σ H3 _ ⟨_, _, _, _, _, _, _, _, _, h, _⟩ => SqL.of h) ?_ ?_
    · rintro i x σ H3 H4 hi ⟨d1, dr, as, y, z, ed, hd, rfl, h1, h2, hk, sm⟩ ⟨P1, x1, r1, rfl, nP, rfl, e1, e2⟩
      obtain rfl := Option.some.inj e1
      rw [List.length_map] at hi
      have hd0 : rs.drop i = rs[i] :: rs.drop (i + 1) := List.drop_eq_getElem_cons hi
      rw [hd0] at hd
      have hmem : rs[i] ∈ rs := List.getElem_mem hi
      have hrl : rs[i].length ≤ 100000 := by
        have := joinL_mem (s := 10) rs hmem
        rw [← ht] at this
        omega
      obtain rfl : r1 = V.str (SX.S rs[i]) := by
        have e3 : (rs.map fun r => V.str (SX.S r))[i]? = some r1 := e2
        rw [List.getElem?_map, List.getElem?_eq_getElem hi] at e3
        exact (Option.some.inj e3).symm
      cases hd with
      | @cons _ _ _ ts ds2 hr hg =>
        refine ⟨P1, _, rfl, SqT.of upd_same, rfl, _, _, rfl, _, _, rfl, rfl, ?_⟩
        have sP := Same_upd (o := .tup [V.int ((i : Nat) + 1 : Int), V.str (SX.S rs[i])]) nP
        refine ⟨_, rfl, .inl ⟨rfl, as, SqL.of (sP _ _ h1)⟩, _, rfl, _, rfl, rs[i], ts, _, rfl, hrl, hr, fun l2 H5 bs nl2 hb hkb s5 => ?_⟩
        have s6 := sP.trans s5
        have hlen : as.length + bs.length ≤ sizeLine := by
          have e := hlex.len
          rw [← ht, ed, List.length_append, List.length_append] at e
          rw [hk.len, hkb.len, onLine_len]
          rw [onLine_len] at e
          rw [sizeLine_eq]
          exact Nat.le_trans (show d1.length + ts.length ≤ 20000 by omega) (by decide)
        refine ⟨l, l2, as, bs, rfl, rfl, s6 _ _ h1, hb, hlen, ?_⟩
        have en : ((i : Nat) + 1 : Int) = 1 + (i : Int) := by omega
        rw [en] at hkb
        have eg : (1 + ((i + 1 : Nat) : Int)) = 1 + (i : Int) + 1 := by omega
        refine ⟨d1 ++ onLine (1 + (i : Int)) ts, ds2, as ++ bs, _, _, ?_, ?_, rfl, upd_same, ?_, ?_, ?_⟩
        · rw [ed, List.append_assoc]
        · rw [eg]
          exact hg
        · rw [upd_ne (Ne.symm nlL)]
          exact s6 _ _ h2
        · exact ((hk.same s6).app hkb).upd (s6 _ _ h1)
        · exact (sm.trans s6).put nl
    · rintro σ H3 ⟨d1, dr, as, y, z, ed, hd, rfl, h1, h2, hk, sm⟩
      rw [List.length_map, List.drop_length] at hd
      cases hd
      rw [List.append_nil] at ed
      subst ed
      refine ⟨_, rfl, l, as, rfl, .inl ⟨SqL.of h1, fun p np => q p _ as (sm.free np) upd_same (hk.same (Same_upd np)) (sm.trans (Same_upd np))⟩⟩
end
end Pt
set_option Elab.async false
set_option linter.all false
set_option maxRecDepth 100000
set_option maxHeartbeats 4000000
namespace Pt
open PySem PySem.Spec PyProof.Rows L2 Wc
open C8 (Cal pe_c pe_gc)
section
variable {P : Program} {w : World} {K : PySem.W.Frag} {mg : Str → Option Value} {base : Heap}
theorem c_draw (T : Txt w K mg) : Cal P w K mg base 1 "_law_draw" spDraw [] := by
  refine calD T.d__law_draw T.g__law_draw (fun _ _ _ _ _ _ us hl => match us, hl with | [_, _], _ => rfl) sc__law_draw (fun vs H Q E h => ?_) (fun cdv A outer s H vs Q E hr h => ?_)
  · obtain ⟨p, m, rfl, _⟩ := h
    rfl
  · obtain ⟨p, m, rfl, ⟨b, ok, hp⟩, hm, hm2, q0⟩ := h
    have q : Q (.int (b.val m)) (upd H p (.lst (b.next m).vals)) := q0 _ _ (b.val_lo hm) (b.val_hi hm) ⟨_, ok.next m, upd_same⟩ (Keep.refl p H).own
    refine ⟨_, (pss_cons (ps_if (pt_cmpR op_eq (pe_ix ix_list (pv 0) pe_int (fun _ _ => rfl)) pe_int (nomark _)) (pss_cons (ps_set (i := 2) sc__law_draw.nd rfl (Or.inl rfl) (pe_op op_mod (pe_callTy call_int1 rfl T.n_int (by rfl) (pa_cons (pe_op op_add (pe_op op_add (pe_op op_mulX (pe_ix ix_list (pv 0) pe_int (fun _ _ => rfl)) pe_int) (pe_op op_mulX (pe_ix ix_list (pv 0) pe_int (fun _ _ => rfl)) pe_int)) pe_int) pa_nil)) pe_int))
      (pss_cons (ps_asg (pe_op op_add (pe_op op_mulX (pv 2) pe_int) (pe_op op_mod (pe_callTy call_int1 rfl T.n_int (by rfl) (pa_cons (pe_op op_add (pe_op op_mulX (pv 2) (pv 2)) (pe_op op_mulX (pe_ix ix_list (pv 0) pe_int (fun _ _ => rfl)) pe_int)) pa_nil)) pe_int)) (pg_sub (pv 0) pe_int set_list))
      (pss_one (ps_asg (pv 2) (pg_sub (pv 0) pe_int set_list))))) pss_nil)
      (pss_cons (ps_set (i := 3) sc__law_draw.nd rfl (Or.inl rfl) (pe_ix ix_list (pv 0) pe_int (fun _ _ => rfl)))
      (pss_cons (ps_asg (pe_op op_fdivW (pv 3) (pv 1)) (pg_sub (pv 0) pe_int set_list))
      (pss_one (ps_ret (pe_op op_mod (pe_callTy call_int1 rfl T.n_int (by rfl) (pa_cons (pv 3) pa_nil)) (pv 1))))))), ?_⟩
    -- the first item: is it 0
    refine ⟨_, rfl, p, b.vals, 0, .int b.r, rfl, rfl, SqL.of hp, rfl, rfl, _, rfl, ?_⟩
    refine ifB (fun e => ?_) (fun e => ?_)
    · have e0 : b.r = 0 := V.int.inj (of_decide_eq_true e)
      have ef : b.fill = ⟨b.seed * 2147483629 + (b.seed * b.seed + b.k * 16807) % 2147483629, b.seed, b.k⟩ := if_pos e0
      have hs : b.s.natAbs.log2 ≤ 2000000 := Nat.le_trans ok.s (by decide)
      have hk : b.k.natAbs.log2 ≤ 2000000 := sm (Nat.lt_of_lt_of_le ok.k (by decide))
      have hz : b.seed.natAbs.log2 ≤ 2000000 := sm (by have := b.seed_lo; have := b.seed_hi; omega)
      refine ⟨_, rfl, p, b.vals, 1, .int b.s, rfl, rfl, SqL.of hp, rfl, _, _, rfl, rfl, mulX hs (sm (by decide)), ?_⟩
      refine ⟨_, rfl, p, b.vals, 2, .int b.k, rfl, rfl, SqL.of hp, rfl, _, _, rfl, rfl, mulX hk (sm (by decide)), _, _, rfl, rfl, _, _, rfl, rfl, .inl ⟨_, rfl, _, _, rfl, rfl, (by show (0 : Int) < 2147483647; decide), ?_⟩⟩
      refine ⟨_, rfl, b.seed, _, rfl, rfl, mulX hz (sm (by decide)), _, rfl, _, rfl, b.seed, b.seed, rfl, rfl, mulX hz hz, ?_⟩
      refine ⟨_, rfl, p, b.vals, 2, .int b.k, rfl, rfl, SqL.of hp, rfl, _, _, rfl, rfl, mulX hk (sm (by decide)), _, _, rfl, rfl, .inl ⟨_, rfl, _, _, rfl, rfl, (by show (0 : Int) < 2147483629; decide), ?_⟩⟩
      refine ⟨_, _, rfl, rfl, _, rfl, p, b.vals, 0, 0, rfl, rfl, hp, rfl, ?_⟩
      refine ⟨_, rfl, _, rfl, p, _, 1, 1, rfl, rfl, upd_same, rfl, ?_⟩
      refine ⟨_, rfl, p, _, 0, _, rfl, rfl, SqL.of upd_same, rfl, ?_⟩
      refine ⟨_, rfl, _, rfl, _, _, rfl, rfl, ⟨hm, hm2⟩, _, rfl, p, _, 0, 0, rfl, rfl, upd_same, rfl, ?_⟩
      refine ⟨_, rfl, .inl ⟨_, rfl, _, rfl, _, _, rfl, rfl, hm, ?_⟩⟩
      rw [upd_upd, upd_upd]
      unfold Bag.val Bag.next at q
      rw [ef] at q
      exact q
    · have e0 : ¬ b.r = 0 := fun z => of_decide_eq_false e (congrArg V.int z)
      have ef : b.fill = b := if_neg e0
      refine ⟨_, rfl, p, b.vals, 0, .int b.r, rfl, rfl, SqL.of hp, rfl, ?_⟩
      refine ⟨_, rfl, _, rfl, _, _, rfl, rfl, ⟨hm, hm2⟩, _, rfl, p, b.vals, 0, 0, rfl, rfl, hp, rfl, ?_⟩
      refine ⟨_, rfl, .inl ⟨_, rfl, _, rfl, _, _, rfl, rfl, hm, ?_⟩⟩
      unfold Bag.val Bag.next at q
      rw [ef] at q
      exact q
theorem c_bag (T : Txt w K mg) : Cal P w K mg base 1 "_law_bag" (spBag K) [] := by
  refine calD T.d__law_bag T.g__law_bag (fun _ _ _ _ _ _ us hl => match us, hl with | [_, _], _ => rfl) sc__law_bag (fun vs H Q E h => ?_) (fun cdv A outer s H vs Q E hr h => ?_)
  · obtain ⟨a, ns, k, rfl, _⟩ := h
    rfl
  · obtain ⟨a, ns, k, rfl, hS, hb, k0, k1, q⟩ := h
    have kk : k.natAbs < 2 ^ 60 := by omega
    have fin : ∀ c : Int, c.natAbs.log2 ≤ 1048576 → (∀ p, H p = none → Q (.ref p) (upd H p (.lst [.int c, .int c, .int k]))) ∧ ∀ p, H p = none → Q (.ref p) (upd H p (.lst [.int 0, .int c, .int k])) :=
      fun c hc => ⟨fun p hp => q p _ hp ⟨⟨c, c, k⟩, ⟨hc, kk⟩, upd_same⟩ (Same_upd hp), fun p hp => q p _ hp ⟨⟨0, c, k⟩, ⟨hc, kk⟩, upd_same⟩ (Same_upd hp)⟩
    refine ⟨_, (pss_cons (ps_set (i := 2) sc__law_bag.nd rfl (Or.inl rfl) pe_int)
      (pss_cons (ps_if (pt_cmpR op_lt (pv 1) (pe_callB call_len_seq rfl T.n_len (by rfl) (pa_cons (pv 0) pa_nil)) (nomark _)) (pss_one (ps_set (i := 2) sc__law_bag.nd rfl (Or.inl rfl) (pe_callTy call_int1 rfl T.n_int (by rfl) (pa_cons (pe_ix ix_list (pv 0) (pv 1) (fun _ _ => rfl)) pa_nil)))) pss_nil)
      (pss_cons (ps_if (pt_cmpR op_ge (pv 2) (pe_op op_pow pe_int pe_int) (nomark _)) (pss_one (ps_ret (pe_lst (pa_cons (pv 2) (pa_cons (pv 2) (pa_cons (pv 1) pa_nil)))))) pss_nil)
      (pss_one (ps_ret (pe_lst (pa_cons pe_int (pa_cons (pv 2) (pa_cons (pv 1) pa_nil))))))))), ?_⟩
    refine ⟨_, rfl, _, rfl, a, _, rfl, .inl hS, _, _, rfl, rfl, _, rfl, ?_⟩
    refine ifB (fun e => ?_) (fun e => ?_)
    · have hk : k < ns.length := by simpa using of_decide_eq_true e
      obtain ⟨j, rfl⟩ := Int.eq_ofNat_of_zero_le k0
      have hj : j < ns.length := by omega
      have hi : (ns.map V.int)[j]? = some (.int ns[j]) := by rw [List.getElem?_map, List.getElem?_eq_getElem hj] <;> rfl
      have fj := fin ns[j] (bits_log (hb _ (List.getElem_mem hj)))
      refine ⟨_, rfl, _, rfl, a, _, _, _, rfl, rfl, hS, atI_nat hi, .inl ⟨_, rfl, ?_⟩⟩
      refine ⟨_, rfl, _, _, rfl, rfl, ⟨by decide, by decide, by decide⟩, _, _, rfl, rfl, _, rfl, ?_⟩
      refine ifB (fun _ => ?_) (fun _ => ?_)
      · exact ⟨_, rfl, _, rfl, _, rfl, (by show 3 ≤ sizeLine; decide), fj.1⟩
      · exact ⟨_, rfl, _, rfl, (by show 3 ≤ sizeLine; decide), fj.2⟩
    · have f0 := fin 0 (by decide)
      refine ⟨_, rfl, _, _, rfl, rfl, ⟨by decide, by decide, by decide⟩, _, _, rfl, rfl, _, rfl, ?_⟩
      refine ifB (fun _ => ?_) (fun _ => ?_)
      · exact ⟨_, rfl, _, rfl, _, rfl, (by show 3 ≤ sizeLine; decide), f0.1⟩
      · exact ⟨_, rfl, _, rfl, (by show 3 ≤ sizeLine; decide), f0.2⟩
end
end Pt
set_option Elab.async false
set_option linter.all false
set_option maxRecDepth 100000
set_option maxHeartbeats 4000000
namespace Pt
open PySem PySem.Spec PyProof.Rows L2 Wc
open C8 (Cal pe_c pe_gc)
/-! ### the drawn texts -/
section
variable {P : Program} {w : World} {K : PySem.W.Frag} {mg : Str → Option Value} {base : Heap}
def lettersL : List Nat := [97, 98, 99, 100, 101, 102, 103, 104, 105, 106, 107, 108, 109, 110, 111, 112, 113, 114, 115, 116, 117, 118, 119, 120, 121, 122, 65, 66, 67, 68, 69, 70, 71, 72, 73, 74, 75, 76, 77, 78, 79, 80, 81, 82, 83, 84, 85, 86, 87, 88, 89, 90]
theorem letters_ok : ∀ c ∈ lettersL, leB c = true := by decide +kernel
def spLetters : Sp := fun vs H Q _ => ∃ (p : Addr) (m : Nat), vs = [.ref p, .int (m : Int)] ∧ Bg H p ∧ m ≤ 20 ∧
  ∀ (t : List Nat) (H' : Hp), t.length = m → t.all leB = true → Bg H' p → Keep p H H' → Q (.str (SX.S t)) H'
theorem c_letters (T : Txt w K mg) : Cal P w K mg base 2 "_law_letters" spLetters [] := by
  have C__law_draw := c_draw (P := P) (w := w) (base := base) T
  refine calD T.d__law_letters T.g__law_letters (fun _ _ _ _ _ _ us hl => match us, hl with | [_, _], _ => rfl) sc__law_letters (fun vs H Q E h => ?_) (fun cdv A outer s H vs Q E hr h => ?_)
  · obtain ⟨p, m, rfl, _⟩ := h
    rfl
  · obtain ⟨p, m, rfl, bg, hm, q⟩ := h
    refine ⟨_, (pss_cons (ps_set (i := 2) sc__law_letters.nd rfl (Or.inr rfl) pe_str)
      (pss_one (ps_ret (pe_bm PySem.F.plainAttrs_str PySem.F.slot_str_join PySem.F.type_str_join mt_join pe_str (pa_cons (pe_lc (own := [("k", 3)]) (g := gName 3) (tt := tYes) rfl sc__law_letters.nd (pi_range1 rfl T.n_range (pa_cons (pv 1) pa_nil)) (blkOk_by (N := N__law_letters) (sc := defScope s__law_letters) (by decide +kernel)) (fun _ _ _ _ _ => pg_name (i := 3) sc__law_letters.nd rfl (Or.inl rfl)) (fun _ _ _ _ _ => pts_nil) (fun _ _ _ _ _ => (pe_ix ix_str (pv 2) (pe_c C__law_draw hr (by decide) rfl (pa_cons (pv 0) (pa_cons pe_int pa_nil))) (fun _ _ => rfl)))) pa_nil))))), ?_⟩
    have hlen : (SX.S lettersL).length = 52 := SX.S_len lettersL
    refine ⟨rfl, _, rfl, _, rfl, by omega, by omega, fun D nD => ?_⟩
    refine lcBag (p := p) (fun z => ∃ c, z = [c] ∧ leB c = true) (by omega) nD bg (fun _ => rfl) (fun i H1 Q1 hi b1 k1 z => ?_) (fun H1 ws h1 h2 h3 b1 k1 => ?_)
    · refine ⟨_, rfl, _, rfl, p, 52, rfl, b1, by decide, by decide +kernel, fun d H2 d0 d1 b2 k2 => ?_⟩
      obtain ⟨j, rfl⟩ := Int.eq_ofNat_of_zero_le d0
      have hj : j < lettersL.length := by
        show j < 52
        omega
      have hx : lettersL[j]? = some lettersL[j] := List.getElem?_eq_getElem hj
      exact ⟨SX.S lettersL, _, lettersL[j], rfl, rfl, by rw [hlen, sizeLine_eq]; decide, atI_nat hx, z [lettersL[j]] H2 ⟨_, rfl, letters_ok _ (List.getElem_mem hj)⟩ b2 k2⟩
    · have hm2 : (ws.map fun z => V.str (SX.S z)) = (ws.map SX.S).map V.str := by
        rw [List.map_map]
        rfl
      rw [hm2] at h3
      have hone : ∀ z ∈ ws, z.length = 1 := fun z hz => by
        obtain ⟨c, e, _⟩ := h2 z hz
        rw [e]
        rfl
      refine ⟨_, _, ws.map SX.S, rfl, rfl, .inl (SqL.of h3), ?_, ?_⟩
      · rw [SX.lens, ones_sum hone, h1, List.length_map, h1]
        show ((m : Int).toNat) * 1 + ((m : Int).toNat) * 0 ≤ 16777216
        omega
      · show Q (.str (Txt.join (SX.S []) (ws.map SX.S))) H1
        rw [SX.join_S, joinL_nil]
        refine q _ H1 ?_ ?_ b1 k1
        · rw [flat_len, ones_sum hone, h1]
          omega
        · rw [List.all_eq_true]
          intro c hc
          obtain ⟨z, hz, hcz⟩ := List.mem_flatten.mp hc
          obtain ⟨c', rfl, h'⟩ := h2 z hz
          rw [List.mem_singleton.mp hcz]
          exact h'
def textL : List Nat := [32, 33, 35, 36, 38, 39, 40, 41, 42, 43, 44, 45, 46, 47, 48, 49, 50, 51, 52, 53, 54, 55, 56, 57, 58, 59, 60, 61, 62, 63, 64, 65, 66, 67, 68, 69, 70, 71, 72, 73, 74, 75, 76, 77, 78, 79, 80, 81, 82, 83, 84, 85, 86, 87, 88, 89, 90, 91, 93, 94, 95, 97, 98, 99, 100, 101, 102, 103, 104, 105, 106, 107, 108, 109, 110, 111, 112, 113, 114, 115, 116, 117, 118, 119, 120, 121, 122, 123, 124, 125, 126, 92]
theorem textL_ok : ∀ c ∈ textL, prB c = true ∧ c ≠ 34 := by decide +kernel
def spText2 : Sp := fun vs H Q _ => ∃ (p : Addr), vs = [.ref p] ∧ Bg H p ∧ ∀ (t : List Nat) (H' : Hp), textB t = true → Bg H' p → Keep p H H' → Q (.str (SX.S t)) H'
theorem c_ltext (T : Txt w K mg) : Cal P w K mg base 2 "_law_text" spText2 [] := by
  have C__law_draw := c_draw (P := P) (w := w) (base := base) T
  refine calD T.d__law_text T.g__law_text (fun _ _ _ _ _ _ us hl => match us, hl with | [_], _ => rfl) sc__law_text (fun vs H Q E h => ?_) (fun cdv A outer s H vs Q E hr h => ?_)
  · obtain ⟨p, rfl, _⟩ := h
    rfl
  · obtain ⟨p, rfl, bg, q⟩ := h
    refine ⟨_, (pss_cons (ps_set (i := 1) sc__law_text.nd rfl (Or.inr rfl) pe_str)
      (pss_one (ps_ret (pe_bm PySem.F.plainAttrs_str PySem.F.slot_str_join PySem.F.type_str_join mt_join pe_str (pa_cons (pe_lc (own := [("k", 2)]) (g := gName 2) (tt := tYes) rfl sc__law_text.nd (pi_range1 rfl T.n_range (pa_cons (pe_op op_add pe_int (pe_c C__law_draw hr (by decide) rfl (pa_cons (pv 0) (pa_cons pe_int pa_nil)))) pa_nil)) (blkOk_by (N := N__law_text) (sc := defScope s__law_text) (by decide +kernel)) (fun _ _ _ _ _ => pg_name (i := 2) sc__law_text.nd rfl (Or.inl rfl)) (fun _ _ _ _ _ => pts_nil) (fun _ _ _ _ _ => (pe_ix ix_str (pv 1) (pe_c C__law_draw hr (by decide) rfl (pa_cons (pv 0) (pa_cons (pe_callB call_len_str rfl T.n_len (by rfl) (pa_cons (pv 1) pa_nil)) pa_nil))) (fun _ _ => rfl)))) pa_nil))))), ?_⟩
    have hlen : (SX.S textL).length = 92 := SX.S_len textL
    refine ⟨rfl, _, rfl, p, 16, rfl, bg, by decide, by decide +kernel, fun m0 H0 m1 m2 bg k0 => ?_⟩
    obtain ⟨m, rfl⟩ := Int.eq_ofNat_of_zero_le m1
    refine ⟨_, _, rfl, rfl, _, rfl, by omega, by omega, fun D nD => ?_⟩
    have hm : (1 + (m : Int)).toNat = m + 1 := by omega
    refine lcBag (p := p) (fun z => ∃ c, z = [c] ∧ prB c = true ∧ c ≠ 34) (by show (1 + (m : Int)).toNat ≤ 1000; omega) nD bg (fun _ => rfl) (fun i H1 Q1 hi b1 k1 z => ?_) (fun H1 ws h1 h2 h3 b1 k1 => ?_)
    · refine ⟨_, rfl, _, rfl, _, rfl, _, rfl, by rw [sizeLine_eq]; decide +kernel, p, _, rfl, b1, ?_, ?_, fun d H2 d0 d1 b2 k2 => ?_⟩
      · decide +kernel
      · decide +kernel
      obtain ⟨j, rfl⟩ := Int.eq_ofNat_of_zero_le d0
      have hj : j < textL.length := by
        have : (j : Int) < ((SX.S textL).length : Int) := d1
        rw [hlen] at this
        show j < 92
        omega
      have hx : textL[j]? = some textL[j] := List.getElem?_eq_getElem hj
      have hk := textL_ok _ (List.getElem_mem hj)
      exact ⟨SX.S textL, _, textL[j], rfl, rfl, by rw [hlen, sizeLine_eq]; decide, atI_nat hx, z [textL[j]] H2 ⟨_, rfl, hk.1, hk.2⟩ b2 k2⟩
    · have hm2 : (ws.map fun z => V.str (SX.S z)) = (ws.map SX.S).map V.str := by
        rw [List.map_map]
        rfl
      rw [hm2] at h3
      have h1' : ws.length = m + 1 := h1.trans hm
      have hone : ∀ z ∈ ws, z.length = 1 := fun z hz => by
        obtain ⟨c, e, _⟩ := h2 z hz
        rw [e]
        rfl
      refine ⟨_, _, ws.map SX.S, rfl, rfl, .inl (SqL.of h3), ?_, ?_⟩
      · rw [SX.lens, ones_sum hone, h1', List.length_map, h1']
        show (m + 1) * 1 + (m + 1) * 0 ≤ 16777216
        omega
      · show Q (.str (Txt.join (SX.S []) (ws.map SX.S))) H1
        rw [SX.join_S, joinL_nil]
        refine q _ H1 ?_ b1 (k0.trans k1)
        have hfl : ws.flatten.length = m + 1 := by
          rw [flat_len, ones_sum hone, h1']
          omega
        unfold textB
        rw [hfl, decide_eq_true (show 1 ≤ m + 1 by omega), decide_eq_true (show m + 1 ≤ 16 by omega)]
        have ha : ∀ c ∈ ws.flatten, prB c = true ∧ c ≠ 34 := fun c hc => by
          obtain ⟨z, hz, hcz⟩ := List.mem_flatten.mp hc
          obtain ⟨c', rfl, h', h''⟩ := h2 z hz
          rw [List.mem_singleton.mp hcz]
          exact ⟨h', h''⟩
        rw [List.all_eq_true.mpr fun c hc => (ha c hc).1, decide_eq_false fun h => (ha 34 h).2 rfl]
        rfl
def spKeys : Sp := fun vs H Q _ => vs = [] ∧ New H (.lst (keysL.map fun z => V.str (SX.S z))) Q
def wordsL : List Nat := TL.joinL [32] keysL
theorem c_keys (T : Txt w K mg) : Cal P w K mg base 1 "_law_keys" spKeys [] := by
  refine calD T.d__law_keys T.g__law_keys (fun _ _ _ _ _ _ us hl => match us, hl with | [], _ => rfl) sc__law_keys (fun vs H Q E h => ?_) (fun cdv A outer s H vs Q E hr h => ?_)
  · obtain ⟨rfl, _⟩ := h
    rfl
  · obtain ⟨rfl, q⟩ := h
    refine ⟨_, (pss_cons (ps_set (i := 0) sc__law_keys.nd rfl (Or.inl rfl) pe_str)
      (pss_one (ps_ret (pe_bm PySem.F.plainAttrs_str PySem.F.slot_str_split PySem.F.type_str_split mt_split (pe_op op_add_str (pv 0) pe_str) (pa_cons pe_str pa_nil))))), ?_⟩
    have e : Txt.split (SX.S wordsL) (SX.S [32]) = keysL.map SX.S := by
      rw [SX.split_S (by decide) (by decide)]
      exact congrArg (List.map SX.S) (TL.spl_join (s := 32) (S := []) (by decide +kernel) (by decide +kernel))
    have e2 : (Str.ofString "abort and applet as begin buffer bytes catch class commit else face field has if int is mod new not nothing" ++ Str.ofString " null of or package return seek size temp this throw try use while") = SX.S wordsL := by decide +kernel
    refine ⟨_, rfl, _, _, rfl, rfl, by rw [sizeLine_eq]; decide +kernel, rfl, _, _, rfl, rfl, rfl, by rw [sizeLine_eq]; decide +kernel, ?_⟩
    rw [e2]
    show rNewStrs (Txt.split (SX.S wordsL) (SX.S [32])) H Q
    rw [e]
    unfold rNewStrs
    rw [List.map_map]
    exact q.go
def nameK (t : List Nat) : Prop := nameB t = true ∧ keysL.contains t = false
def loB (c : Nat) : Bool := decide (97 ≤ c) && decide (c ≤ 122)
theorem keys_lo : ∀ k ∈ keysL, k.all loB = true := by decide +kernel
theorem nameK_of {t : List Nat} {c : Nat} (h : nameB t = true) (hc : c ∈ t) (hl : loB c = false) : nameK t := by
  refine ⟨h, ?_⟩
  rw [Bool.eq_false_iff]
  intro z
  have m : t ∈ keysL := by simpa using z
  have := List.all_eq_true.mp (keys_lo t m) c hc
  rw [hl] at this
  cases this
theorem nameB_of {c : Nat} {r : List Nat} (hc : leB c = true) (hr : r.all alB = true) (hl : r.length ≤ 19) : nameB (c :: r) = true := by
  unfold nameB
  rw [List.length_cons, decide_eq_true (show r.length + 1 ≤ 20 by omega), decide_eq_true (show 0 < r.length + 1 by omega), List.all_cons, hr]
  have : alB c = true := by
    unfold alB
    rw [hc, Bool.or_true]
  rw [this]
  show (true && (true && (true && true && leB c))) = true
  rw [hc]
  rfl
def namesL : List (List Nat) := [[105, 102, 115], [120], [101, 108, 115, 101, 119, 104, 101, 114, 101], [110, 101, 119, 116], [115, 105, 122, 101, 115], [73, 102], [78, 111, 116], [83, 105, 122, 101], [109, 97, 100, 101], [112, 114, 111, 99, 101, 115, 115]]
theorem names_ok : ∀ z ∈ namesL, nameB z = true ∧ keysL.contains z = false := by decide +kernel
def upperL : List Nat := [65, 66, 67, 68, 69, 70, 71, 72, 73, 74, 75, 76, 77, 78, 79, 80, 81, 82, 83, 84, 85, 86, 87, 88, 89, 90]
theorem upper_ok : ∀ c ∈ upperL, leB c = true ∧ loB c = false := by decide +kernel
theorem le_al {t : List Nat} (h : t.all leB = true) : t.all alB = true := List.all_eq_true.mpr fun c hc => by
  have := List.all_eq_true.mp h c hc
  unfold alB
  rw [this, Bool.or_true]
theorem num_al (n : Nat) : (TL.numL n).all diB = true := List.all_eq_true.mpr fun c hc => by
  have := TL.numL_digits n c hc
  unfold diB
  rw [decide_eq_true this.1, decide_eq_true this.2]
  rfl
theorem di_lo {c : Nat} (h : diB c = true) : loB c = false := by
  unfold diB at h
  unfold loB
  simp only [Bool.and_eq_true, decide_eq_true_eq] at h
  rw [decide_eq_false (show ¬ 97 ≤ c by omega), Bool.false_and]
theorem rep_len (k : Nat) : (List.replicate k [122, 57]).flatten.length = k * 2 := by
  rw [flat_len, ones_sum (b := 2) (fun z hz => by rw [List.eq_of_mem_replicate hz]; rfl), List.length_replicate]
theorem rep_al (k : Nat) : (List.replicate k [122, 57]).flatten.all alB = true := List.all_eq_true.mpr fun c hc => by
  obtain ⟨z, hz, hcz⟩ := List.mem_flatten.mp hc
  rw [List.eq_of_mem_replicate hz] at hcz
  have : ∀ c ∈ ([122, 57] : List Nat), alB c = true := by decide
  exact this c hcz
def spNm : Sp := fun vs H Q _ => ∃ (p : Addr), vs = [.ref p] ∧ Bg H p ∧ ∀ (t : List Nat) (H' : Hp), nameK t → Bg H' p → Keep p H H' → Q (.str (SX.S t)) H'
theorem c_nm (T : Txt w K mg) : Cal P w K mg base 3 "_law_name" spNm [] := by
  have C__law_draw := c_draw (P := P) (w := w) (base := base) T
  have C__law_letters := c_letters (P := P) (w := w) (base := base) T
  refine calD T.d__law_name T.g__law_name (fun _ _ _ _ _ _ us hl => match us, hl with | [_], _ => rfl) sc__law_name (fun vs H Q E h => ?_) (fun cdv A outer s H vs Q E hr h => ?_)
  · obtain ⟨p, rfl, _⟩ := h
    rfl
  · obtain ⟨p, rfl, bg, q⟩ := h
    refine ⟨_, (pss_cons (ps_set (i := 1) sc__law_name.nd rfl (Or.inl rfl) (pe_c C__law_draw hr (by decide) rfl (pa_cons (pv 0) (pa_cons pe_int pa_nil))))
      (pss_cons (ps_if (pt_cmpR op_eq (pv 1) pe_int (nomark _)) (pss_one (ps_ret (pe_ix ix_list (pe_lst (pa_cons pe_str (pa_cons pe_str (pa_cons pe_str (pa_cons pe_str (pa_cons pe_str (pa_cons pe_str (pa_cons pe_str (pa_cons pe_str (pa_cons pe_str (pa_cons pe_str pa_nil))))))))))) (pe_c C__law_draw hr (by decide) rfl (pa_cons (pv 0) (pa_cons pe_int pa_nil))) (fun _ _ => rfl)))) pss_nil)
      (pss_cons (ps_if (pt_cmpR op_eq (pv 1) pe_int (nomark _)) (pss_one (ps_ret (pe_op op_add_str (pe_op op_add_str (pe_c C__law_letters hr (by decide) rfl (pa_cons (pv 0) (pa_cons pe_int pa_nil))) (pe_callTy call_str_int rfl T.n_str (by rfl) (pa_cons (pe_c C__law_draw hr (by decide) rfl (pa_cons (pv 0) (pa_cons pe_int pa_nil))) pa_nil))) (pe_c C__law_letters hr (by decide) rfl (pa_cons (pv 0) (pa_cons (pe_c C__law_draw hr (by decide) rfl (pa_cons (pv 0) (pa_cons pe_int pa_nil))) pa_nil)))))) pss_nil)
      (pss_cons (ps_set (i := 2) sc__law_name.nd rfl (Or.inl rfl) (pe_op op_add_str (pe_ix ix_str pe_str (pe_c C__law_draw hr (by decide) rfl (pa_cons (pv 0) (pa_cons pe_int pa_nil))) (fun _ _ => rfl)) (pe_c C__law_letters hr (by decide) rfl (pa_cons (pv 0) (pa_cons (pe_c C__law_draw hr (by decide) rfl (pa_cons (pv 0) (pa_cons pe_int pa_nil))) pa_nil)))))
      (pss_cons (ps_if (pt_cmpR op_eq (pv 1) pe_int (nomark _)) (pss_one (ps_ret (pe_op op_add_str (pv 2) (pe_op op_mulS pe_str (pe_op op_fdivW (pe_op op_sub pe_int (pe_callB call_len_str rfl T.n_len (by rfl) (pa_cons (pv 2) pa_nil))) pe_int))))) pss_nil)
      (pss_one (ps_ret (pv 2)))))))), ?_⟩
    refine ⟨_, rfl, p, 5, rfl, bg, by decide, by decide +kernel, fun pick H0 p0 p1 bg k0 => ?_⟩
    refine ⟨_, rfl, rfl, _, rfl, ifB (fun _ => ?_) (fun _ => ?_)⟩
    · refine ⟨by show 10 ≤ sizeLine; decide, fun l nl => ?_⟩
      have npl := bg.ne nl
      refine ⟨_, rfl, p, 10, rfl, (Same_upd nl).bgw bg, by decide, by decide +kernel, fun d H1 d0 d1 b1 k1 => ?_⟩
      obtain ⟨z, hz, ha⟩ := menuS namesL d0 d1
      have hl : H1 l = some (.lst (namesL.map fun z => V.str (SX.S z))) := k1 _ _ upd_same (Ne.symm npl)
      exact ⟨l, _, _, _, rfl, rfl, SqL.of hl, ha, q z H1 (names_ok z hz) b1 (k0.trans ((Same_upd nl).keepw.trans k1))⟩
    refine ⟨_, rfl, rfl, _, rfl, ifB (fun _ => ?_) (fun _ => ?_)⟩
    · refine ⟨_, rfl, p, 2, rfl, bg, by decide, fun t1 H1 l1 a1 b1 k1 => ?_⟩
      refine ⟨_, rfl, p, 100, rfl, b1, by decide, by decide +kernel, fun d H2 d0 d1 b2 k2 => ?_⟩
      obtain ⟨m, rfl⟩ := Int.eq_ofNat_of_zero_le d0
      refine ⟨_, rfl, ?_, ?_⟩
      · exact Nat.lt_of_le_of_lt (Nat.log2_le_self _) (by omega)
      rw [SX.num_S m]
      have hnl : (TL.numL m).length ≤ 2 := TL.numL_len (by decide) (by omega)
      refine ⟨_, _, rfl, rfl, ?_, _, rfl, _, rfl, p, 3, rfl, b2, by decide, by decide +kernel, fun d2 H3 e0 e1 b3 k3 => ?_⟩
      · rw [SX.S_len, SX.S_len, sizeLine_eq]
        exact Nat.le_trans (show t1.length + (TL.numL m).length ≤ 4 by omega) (by decide)
      obtain ⟨m3, rfl⟩ := Int.eq_ofNat_of_zero_le e0
      refine ⟨p, m3, rfl, b3, by omega, fun t3 H4 l3 a3 b4 k4 => ⟨_, _, rfl, rfl, ?_, ?_⟩⟩
      · rw [SX.S_cat, SX.S_len, SX.S_len, List.length_append, sizeLine_eq]
        exact Nat.le_trans (show t1.length + (TL.numL m).length + t3.length ≤ 10 by omega) (by decide)
      · show Q (.str (SX.S t1 ++ SX.S (TL.numL m) ++ SX.S t3)) H4
        rw [SX.S_cat, SX.S_cat]
        refine q _ H4 ?_ b4 ((((k0.trans k1).trans k2).trans k3).trans k4)
        obtain ⟨x, hx⟩ := List.exists_mem_of_ne_nil _ (TL.numL_ne m)
        have hxd := List.all_eq_true.mp (num_al m) x hx
        obtain ⟨c, r, rfl⟩ : ∃ c r, t1 = c :: r := by
          cases t1 with
          | nil => cases l1
          | cons c r => exact ⟨c, r, rfl⟩
        have hc := List.all_eq_true.mp a1 c List.mem_cons_self
        refine nameK_of (c := x) ?_ (by simp [hx]) (di_lo hxd)
        rw [List.append_assoc, List.cons_append]
        rw [List.length_cons] at l1
        refine nameB_of hc ?_ (by rw [List.length_append, List.length_append]; omega)
        rw [List.all_append, List.all_append, di_al (num_al m), le_al a3]
        have := le_al a1
        rw [List.all_cons, Bool.and_eq_true] at this
        rw [this.2]
        rfl
    · refine ⟨_, rfl, p, 26, rfl, bg, by decide, by decide +kernel, fun d H1 d0 d1 b1 k1 => ?_⟩
      obtain ⟨j, rfl⟩ := Int.eq_ofNat_of_zero_le d0
      have hj : j < upperL.length := by
        show j < 26
        omega
      have hx : upperL[j]? = some upperL[j] := List.getElem?_eq_getElem hj
      obtain ⟨hu, hlo⟩ := upper_ok _ (List.getElem_mem hj)
      generalize upperL[j] = c at hx hu hlo
      refine ⟨SX.S upperL, _, c, rfl, rfl, by rw [SX.S_len, sizeLine_eq]; decide, atI_nat hx, _, rfl, _, rfl, p, 4, rfl, b1, by decide, by decide +kernel, fun d2 H2 e0 e1 b2 k2 => ?_⟩
      obtain ⟨m4, rfl⟩ := Int.eq_ofNat_of_zero_le e0
      refine ⟨p, m4, rfl, b2, by omega, fun t4 H3 l4 a4 b3 k3 => ⟨_, _, rfl, rfl, ?_, ?_⟩⟩
      · rw [SX.S_len, sizeLine_eq]
        exact Nat.le_trans (show 1 + t4.length ≤ 10 by omega) (by decide)
      show gName 2 (V.str (SX.S [c] ++ SX.S t4)) _ _ _
      rw [SX.S_cat]
      have hb : nameB (c :: t4) = true := nameB_of hu (le_al a4) (by omega)
      have kk := ((k0.trans k1).trans k2).trans k3
      refine ⟨_, rfl, rfl, _, rfl, ifB (fun _ => ?_) (fun _ => ?_)⟩
      · have hlen : (SX.S ([c] ++ t4)).length = t4.length + 1 := by
          rw [SX.S_len, List.length_append, List.length_cons, List.length_nil]
          omega
        have hk : (20 - (((SX.S ([c] ++ t4)).length : Nat) : Int)) / 2 = (((20 - (t4.length + 1)) / 2 : Nat) : Int) := by
          rw [hlen]
          omega
        refine ⟨_, rfl, _, rfl, _, rfl, by rw [hlen, sizeLine_eq]; exact Nat.le_trans (show t4.length + 1 ≤ 10 by omega) (by decide), _, _, rfl, rfl, _, _, rfl, rfl, ⟨by decide, by decide +kernel⟩, ?_⟩
        show ∃ a n, V.str (Str.ofString "z9") = V.str a ∧ V.int ((20 - (((SX.S ([c] ++ t4)).length : Nat) : Int)) / 2) = V.int n ∧ MulOk a n ∧ _
        rw [hk]
        have hk9 : (20 - (t4.length + 1)) / 2 ≤ 10 := by omega
        refine ⟨SX.S [122, 57], _, rfl, rfl, mulOk (by show 2 * ((20 - (t4.length + 1)) / 2) ≤ 1000000; omega) (by omega), _, _, rfl, rfl, ?_, ?_⟩
        · rw [mul_S, SX.S_len, SX.S_len, rep_len, List.length_append, sizeLine_eq]
          exact Nat.le_trans (show 1 + t4.length + (20 - (t4.length + 1)) / 2 * 2 ≤ 100 by omega) (by decide)
        · show Q (.str (SX.S ([c] ++ t4) ++ Txt.mul (SX.S [122, 57]) (((20 - (t4.length + 1)) / 2 : Nat) : Int))) H3
          rw [mul_S, SX.S_cat]
          refine q (c :: (t4 ++ _)) H3 (nameK_of (nameB_of hu ?_ ?_) List.mem_cons_self hlo) b3 kk
          · rw [List.all_append, le_al a4, rep_al]
            rfl
          · rw [List.length_append, rep_len]
            omega
      · exact ⟨_, rfl, q (c :: t4) H3 (nameK_of hb List.mem_cons_self hlo) b3 kk⟩
end
end Pt
set_option Elab.async false
set_option linter.all false
set_option maxRecDepth 100000
set_option maxHeartbeats 4000000
namespace Pt
open PySem PySem.Spec PyProof.Rows L2 Wc
open C8 (Cal pe_c pe_gc)
/-! ### the drawn tokens -/
/-- z may stand ahead of c -/
def sep (z c : List Nat) : Prop := (∀ y, z.getLast? = some y → alB y = true → cutA c) ∧ ((z = [60] ∨ z = [61] ∨ z = [62]) → ∀ x, c.head? = some x → x ≠ 60 ∧ x ≠ 61 ∧ x ≠ 62)
structure TokOK (z : List Nat) (k : Str) (v : V) : Prop where
  ne : z ≠ []
  le : z.length ≤ 20
  no : z.all prB = true
  hd : ∀ c, sep z c → Hd z c k v
theorem last_al {z c : List Nat} (h : z.all alB = true) (ne : z ≠ []) (s : sep z c) : cutA c := by
  obtain ⟨y, hy⟩ : ∃ y, z.getLast? = some y := ⟨z.getLast ne, List.getLast?_eq_some_getLast ne⟩
  exact s.1 y hy (List.all_eq_true.mp h y (List.mem_of_getLast? hy))
theorem tok_name {t : List Nat} (h : nameB t = true) : TokOK t (kindW t) (.str (SX.S t)) := by
  obtain ⟨h1, h2, h3, _⟩ := nameB_ok h
  have ne : t ≠ [] := List.length_pos_iff.mp h2
  exact ⟨ne, h1, all_al_pr h3, fun c s => .word h (last_al h3 ne s)⟩
theorem num_head : ∀ n : Nat, (TL.numL n).head? = some 48 → TL.numL n = [48] := by
  intro n
  induction n using Nat.strongRecOn with
  | _ n ih =>
    by_cases h : n < 10
    · rw [TL.numL_lt h]
      intro e
      have : 48 + n = 48 := by simpa using e
      rw [this]
    · rw [TL.numL_step (by omega)]
      intro e
      have ne := TL.numL_ne (n / 10)
      have e2 : (TL.numL (n / 10)).head? = some 48 := by
        cases hA : TL.numL (n / 10) with
        | nil => exact absurd hA ne
        | cons a r =>
          rw [hA] at e
          exact e
      have e3 := ih (n / 10) (by omega) e2
      have e4 : TL.numL (n / 10) = TL.numL 0 := e3
      have e5 := TL.numL_inj e4
      omega
theorem num_ok {n : Nat} (h : n ≤ 32767) : numB (TL.numL n) = true := by
  unfold numB
  rw [num_al, TL.numL_val, decide_eq_true (TL.numL_ne n), decide_eq_true (show (TL.numL n).length ≤ 5 from TL.numL_len (by decide) (by omega)), decide_eq_true h]
  by_cases e : (TL.numL n).head? = some 48
  · rw [decide_eq_true (num_head n e)]
    simp
  · rw [decide_eq_false e]
    rfl
theorem tok_num {n : Nat} (h : n ≤ 32767) : TokOK (TL.numL n) "number" (.int (n : Int)) := by
  have ok := num_ok h
  obtain ⟨h1, h2, h3, _⟩ := numB_ok ok
  refine ⟨h2, by omega, all_al_pr (di_al h1), fun c s => ?_⟩
  have := Hd.num ok (last_al (di_al h1) h2 s)
  rw [TL.numL_val] at this
  exact this
theorem tok_text {t : List Nat} (h : textB t = true) : TokOK (34 :: (t ++ [34])) "text" (.str (SX.S t)) := by
  refine ⟨List.cons_ne_nil _ _, ?_, (Hd.text (c := []) h).pr, fun c s => .text h⟩
  unfold textB at h
  simp only [Bool.and_eq_true, decide_eq_true_eq] at h
  rw [List.length_cons, List.length_append, List.length_cons, List.length_nil]
  omega
theorem marks_two : ∀ m ∈ marksL, m.length = 2 → (m.getD 1 0 = 60 ∨ m.getD 1 0 = 61 ∨ m.getD 1 0 = 62) ∧ (m.getD 0 0 = 60 ∨ m.getD 0 0 = 61 ∨ m.getD 0 0 = 62 ∨ m.getD 0 0 = 33) := by decide +kernel
theorem tok_sign {m : List Nat} (h : m ∈ marksL) : TokOK m "sign" (.str (SX.S m)) := by
  have hl := marks_len m h
  refine ⟨fun e => ?_, by rcases hl with h | h <;> omega, marks_pr m h, fun c s => .sign h ?_⟩
  · rw [e] at hl
    rcases hl with h | h <;> cases h
  rcases hl with hl | hl
  · cases c with
    | nil => exact .inr (.inl rfl)
    | cons y c =>
      refine .inr (.inr fun h2 => ?_)
      match m, hl with
      | [x], _ =>
        have h3 : [x, y] ∈ marksL := h2
        obtain ⟨a, b⟩ := marks_two _ h3 rfl
        have a' : y = 60 ∨ y = 61 ∨ y = 62 := a
        have b' : x = 60 ∨ x = 61 ∨ x = 62 ∨ x = 33 := b
        have n33 : x ≠ 33 := fun e => by
          subst e
          have : [33] ∉ marksL := by decide +kernel
          exact this h
        have sx := s.2 (by rcases b' with e | e | e | e <;> first | exact absurd e n33 | (subst e; simp)) y rfl
        omega
  · exact .inl hl
section
variable {P : Program} {w : World} {K : PySem.W.Frag} {mg : Str → Option Value} {base : Heap}
def signsL : List (List Nat) := [[123], [125], [40], [41], [91], [93], [59], [44], [46], [61], [43], [45], [42], [47], [38], [124], [94], [60], [62], [60, 60], [62, 62], [61, 61], [33, 61], [60, 61], [62, 61], [60], [62], [61], [60], [62], [61]]
theorem signs_ok : ∀ m ∈ signsL, m ∈ marksL := by decide +kernel
theorem keys_ok : ∀ m ∈ keysL, nameB m = true ∧ keysL.contains m = true := by decide +kernel
theorem log_small {n : Nat} (h : n ≤ 32767) : n.log2 < 1920 := by
  by_cases e : n = 0
  · subst e
    decide
  · exact (Nat.log2_lt e).mpr (Nat.lt_of_le_of_lt h (Nat.lt_of_lt_of_le (show 32767 < 2 ^ 15 by decide) (Nat.pow_le_pow_right (by decide) (by decide))))
theorem kfree {p a : Addr} {H H1 : Hp} (k : Keep p H H1) (b : Bg H1 p) (n : H1 a = none) : H a = none := by
  cases e : H a with
  | none => rfl
  | some o =>
    have := k a o e (Ne.symm (b.ne n))
    rw [n] at this
    cases this
def spTok : Sp := fun vs H Q _ => ∃ (p : Addr), vs = [.ref p] ∧ Bg H p ∧ ∀ (T : Addr) (z : List Nat) (k : Str) (v : V) (H' : Hp), H T = none → H' T = some (.tup [.str k, v, .str (SX.S z)]) → TokOK z k v → Bg H' p → Keep p H H' → Q (.ref T) H'
theorem c_tok (T : Txt w K mg) : Cal P w K mg base 4 "_law_token" spTok [] := by
  have C__law_draw := c_draw (P := P) (w := w) (base := base) T
  have C__law_keys := c_keys (P := P) (w := w) (base := base) T
  have C__law_name := c_nm (P := P) (w := w) (base := base) T
  have C__law_text := c_ltext (P := P) (w := w) (base := base) T
  refine calD T.d__law_token T.g__law_token (fun _ _ _ _ _ _ us hl => match us, hl with | [_], _ => rfl) sc__law_token (fun vs H Q E h => ?_) (fun cdv A outer s H vs Q E hr h => ?_)
  · obtain ⟨p, rfl, _⟩ := h
    rfl
  · obtain ⟨p, rfl, bg, q⟩ := h
    refine ⟨_, (pss_cons (ps_set (i := 1) sc__law_token.nd rfl (Or.inl rfl) (pe_c C__law_draw hr (by decide) rfl (pa_cons (pv 0) (pa_cons pe_int pa_nil))))
      (pss_cons (ps_if (pt_cmpR op_lt (pv 1) pe_int (nomark _)) (pss_cons (ps_set (i := 2) sc__law_token.nd rfl (Or.inl rfl) (pe_c0 C__law_keys hr (by decide) rfl pa_nil))
      (pss_cons (ps_set (i := 3) sc__law_token.nd rfl (Or.inl rfl) (pe_ix ix_list (pv 2) (pe_c C__law_draw hr (by decide) rfl (pa_cons (pv 0) (pa_cons (pe_callB call_len_seq rfl T.n_len (by rfl) (pa_cons (pv 2) pa_nil)) pa_nil))) (fun _ _ => rfl)))
      (pss_one (ps_ret (pe_tup (pa_cons pe_str (pa_cons (pv 3) (pa_cons (pv 3) pa_nil)))))))) pss_nil)
      (pss_cons (ps_if (pt_cmpR op_lt (pv 1) pe_int (nomark _)) (pss_cons (ps_set (i := 3) sc__law_token.nd rfl (Or.inl rfl) (pe_c C__law_name hr (by decide) rfl (pa_cons (pv 0) pa_nil)))
      (pss_one (ps_ret (pe_tup (pa_cons pe_str (pa_cons (pv 3) (pa_cons (pv 3) pa_nil))))))) pss_nil)
      (pss_cons (ps_if (pt_cmpR op_eq (pv 1) pe_int (nomark _)) (pss_cons (ps_set (i := 4) sc__law_token.nd rfl (Or.inl rfl) (pe_ix ix_list (pe_lst (pa_cons pe_int (pa_cons pe_int (pa_cons pe_int (pa_cons pe_int (pa_cons (pe_c C__law_draw hr (by decide) rfl (pa_cons (pv 0) (pa_cons pe_int pa_nil))) pa_nil)))))) (pe_c C__law_draw hr (by decide) rfl (pa_cons (pv 0) (pa_cons pe_int pa_nil))) (fun _ _ => rfl)))
      (pss_one (ps_ret (pe_tup (pa_cons pe_str (pa_cons (pv 4) (pa_cons (pe_callTy call_str_int rfl T.n_str (by rfl) (pa_cons (pv 4) pa_nil)) pa_nil))))))) pss_nil)
      (pss_cons (ps_if (pt_cmpR op_eq (pv 1) pe_int (nomark _)) (pss_cons (ps_set (i := 5) sc__law_token.nd rfl (Or.inl rfl) (pe_c C__law_text hr (by decide) rfl (pa_cons (pv 0) pa_nil)))
      (pss_one (ps_ret (pe_tup (pa_cons pe_str (pa_cons (pv 5) (pa_cons (pe_op op_add_str (pe_op op_add_str pe_str (pv 5)) pe_str) pa_nil))))))) pss_nil)
      (pss_cons (ps_set (i := 6) sc__law_token.nd rfl (Or.inl rfl) (pe_bm PySem.F.plainAttrs_str PySem.F.slot_str_split PySem.F.type_str_split mt_split pe_str (pa_cons pe_str pa_nil)))
      (pss_cons (ps_set (i := 7) sc__law_token.nd rfl (Or.inl rfl) (pe_ix ix_list (pv 6) (pe_c C__law_draw hr (by decide) rfl (pa_cons (pv 0) (pa_cons (pe_callB call_len_seq rfl T.n_len (by rfl) (pa_cons (pv 6) pa_nil)) pa_nil))) (fun _ _ => rfl)))
      (pss_one (ps_ret (pe_tup (pa_cons pe_str (pa_cons (pv 7) (pa_cons (pv 7) pa_nil))))))))))))), ?_⟩
    refine ⟨_, rfl, p, 10, rfl, bg, by decide, by decide +kernel, fun pick H0 p0 p1 bg k0 => ?_⟩
    have fin : ∀ (T1 : Addr) (z : List Nat) (k : Str) (v : V) (H1 : Hp), Bg H1 p → Keep p H H1 → H1 T1 = none → TokOK z k v → Q (.ref T1) (upd H1 T1 (.tup [.str k, v, .str (SX.S z)])) := fun T1 z k v H1 b kk n ok =>
      q T1 z k v _ (kfree kk b n) upd_same ok ((Same_upd n).bgw b) (kk.trans (Same_upd n).keepw)
    refine ⟨_, rfl, _, _, rfl, rfl, _, rfl, ifB (fun _ => ?_) (fun _ => ?_)⟩
    · refine ⟨rfl, fun l H1 nl hl s1 => ?_⟩
      have b1 := s1.bgw bg
      have npl := bg.ne nl
      refine ⟨_, rfl, _, rfl, _, rfl, l, _, rfl, .inl (SqL.of hl), p, _, rfl, b1, ?_, ?_, fun d H2 d0 d1 b2 k2 => ?_⟩
      · rw [List.length_map]
        decide +kernel
      · rw [List.length_map]
        decide +kernel
      rw [List.length_map] at d1
      obtain ⟨z, hz, ha⟩ := menuS keysL d0 d1
      obtain ⟨hn, hk⟩ := keys_ok z hz
      have hl2 := k2 _ _ hl (Ne.symm npl)
      refine ⟨l, _, _, _, rfl, rfl, SqL.of hl2, ha, _, rfl, _, rfl, by show 3 ≤ sizeLine; decide, fun T1 nT => ?_⟩
      have ok := tok_name hn
      unfold kindW at ok
      rw [if_pos hk] at ok
      exact fin T1 z _ _ H2 b2 (k0.trans (s1.keepw.trans k2)) nT ok
    refine ⟨_, rfl, _, _, rfl, rfl, _, rfl, ifB (fun _ => ?_) (fun _ => ?_)⟩
    · refine ⟨_, rfl, p, rfl, bg, fun z H1 hz b1 k1 => ?_⟩
      refine ⟨_, rfl, _, rfl, by show 3 ≤ sizeLine; decide, fun T1 nT => ?_⟩
      have ok := tok_name hz.1
      unfold kindW at ok
      rw [if_neg (by rw [hz.2]; decide)] at ok
      exact fin T1 z _ _ H1 b1 (k0.trans k1) nT ok
    refine ⟨_, rfl, rfl, _, rfl, ifB (fun _ => ?_) (fun _ => ?_)⟩
    · refine ⟨_, rfl, p, 32768, rfl, bg, by decide, by decide +kernel, fun d H1 d0 d1 b1 k1 => ?_⟩
      refine ⟨by show 5 ≤ sizeLine; decide, fun l nl => ?_⟩
      have npl := b1.ne nl
      refine ⟨_, rfl, p, 5, rfl, (Same_upd nl).bgw b1, by decide, by decide +kernel, fun i H2 i0 i1 b2 k2 => ?_⟩
      have ha := menu [0, 9, 10, 32767, d] i0 i1
      have hr : 0 ≤ ([0, 9, 10, 32767, d] : List Int).getD i.toNat 0 ∧ ([0, 9, 10, 32767, d] : List Int).getD i.toNat 0 ≤ 32767 := by
        refine menu_all (q := fun x => 0 ≤ x ∧ x ≤ 32767) [0, 9, 10, 32767, d] ?_ (by decide) i.toNat
        intro x hx
        simp only [List.mem_cons, List.not_mem_nil, or_false] at hx
        omega
      generalize ([0, 9, 10, 32767, d] : List Int).getD i.toNat 0 = g at ha hr
      obtain ⟨n, rfl⟩ := Int.eq_ofNat_of_zero_le hr.1
      have hl : H2 l = some (.lst (([0, 9, 10, 32767, d] : List Int).map V.int)) := k2 _ _ upd_same (Ne.symm npl)
      refine ⟨l, _, _, _, rfl, rfl, SqL.of hl, ha, _, rfl, _, rfl, _, rfl, log_small (by omega), ?_⟩
      rw [SX.num_S n]
      refine ⟨by show 3 ≤ sizeLine; decide, fun T1 nT => ?_⟩
      exact fin T1 _ _ _ H2 b2 (k0.trans (k1.trans ((Same_upd nl).keepw.trans k2))) nT (tok_num (by omega))
    refine ⟨_, rfl, rfl, _, rfl, ifB (fun _ => ?_) (fun _ => ?_)⟩
    · refine ⟨_, rfl, p, rfl, bg, fun z H1 hz b1 k1 => ?_⟩
      have ok := tok_text hz
      have hz2 : z.length ≤ 16 := by
        unfold textB at hz
        simp only [Bool.and_eq_true, decide_eq_true_eq] at hz
        exact hz.2.2.1
      refine ⟨_, rfl, _, rfl, _, _, rfl, rfl, ?_, _, _, rfl, rfl, ?_, by show 3 ≤ sizeLine; decide, fun T1 nT => ?_⟩
      · rw [SX.S_len, sizeLine_eq]
        exact Nat.le_trans (show 1 + z.length ≤ 20 by omega) (by decide)
      · show (Str.ofString "\"" ++ SX.S z).length + 1 ≤ sizeLine
        rw [show Str.ofString "\"" ++ SX.S z = SX.S ([34] ++ z) from SX.S_cat [34] z, SX.S_len, List.length_append, sizeLine_eq]
        exact Nat.le_trans (show 1 + z.length + 1 ≤ 20 by omega) (by decide)
      · have e34 : Str.ofString "\"" ++ SX.S z ++ Str.ofString "\"" = SX.S (34 :: (z ++ [34])) := by
          have h1 : Str.ofString "\"" ++ SX.S z = SX.S ([34] ++ z) := SX.S_cat [34] z
          rw [h1]
          exact SX.S_cat ([34] ++ z) [34]
        have f := fin T1 (34 :: (z ++ [34])) "text" (.str (SX.S z)) H1 b1 (k0.trans k1) nT ok
        rw [← e34] at f
        exact f
    have e : Txt.split (SX.S (TL.joinL [32] signsL)) (SX.S [32]) = signsL.map SX.S := by
      rw [SX.split_S (by decide) (by decide)]
      exact congrArg (List.map SX.S) (TL.spl_join (s := 32) (S := []) (by decide +kernel) (by decide +kernel))
    have e2 : Str.ofString "{ } ( ) [ ] ; , . = + - * / & | ^ < > << >> == != <= >= < > = < > =" = SX.S (TL.joinL [32] signsL) := by decide +kernel
    refine ⟨rfl, _, _, rfl, rfl, rfl, by rw [sizeLine_eq]; decide +kernel, ?_⟩
    rw [e2]
    show rNewStrs (Txt.split (SX.S (TL.joinL [32] signsL)) (SX.S [32])) _ _
    rw [e]
    unfold rNewStrs
    rw [List.map_map]
    intro l nl
    have b1 := (Same_upd (o := .lst (signsL.map (V.str ∘ SX.S))) nl).bgw bg
    have npl := bg.ne nl
    refine ⟨_, rfl, _, rfl, _, rfl, l, _, rfl, .inl (SqL.of upd_same), p, _, rfl, b1, ?_, ?_, fun d H2 d0 d1 b2 k2 => ?_⟩
    · rw [List.length_map]
      decide +kernel
    · rw [List.length_map]
      decide +kernel
    rw [List.length_map] at d1
    obtain ⟨z, hz, ha⟩ := menuS signsL d0 d1
    have hl2 := k2 _ _ upd_same (Ne.symm npl)
    refine ⟨l, _, _, _, rfl, rfl, SqL.of hl2, ha, _, rfl, _, rfl, by show 3 ≤ sizeLine; decide, fun T1 nT => ?_⟩
    exact fin T1 z _ _ H2 b2 (k0.trans ((Same_upd nl).keepw.trans k2)) nT (tok_sign (signs_ok z hz))
end
end Pt
set_option Elab.async false
set_option linter.all false
set_option maxRecDepth 100000
set_option maxHeartbeats 4000000
namespace Pt
open PySem PySem.Spec PyProof.Rows L2 Wc
open C8 (Cal pe_c pe_gc)
/-! ### what stands between two tokens -/
/-- the tokens of a text whose first row is the n-th -/
def LexT (n : Int) (t : List Nat) (ds : List (Str × V × Int)) : Prop := ∃ r rs, t = TL.joinL [10] (r :: rs) ∧ Lex n (r :: rs) ds
theorem joinL_head {a : List Nat} (r : List Nat) : ∀ rs : List (List Nat), TL.joinL [10] ((a ++ r) :: rs) = a ++ TL.joinL [10] (r :: rs)
  | [] => rfl
  | q :: rs => by
    show (a ++ r) ++ ([10] ++ TL.joinL [10] (q :: rs)) = a ++ (r ++ ([10] ++ TL.joinL [10] (q :: rs)))
    rw [List.append_assoc]
theorem LexT.sp {n : Int} {t : List Nat} {ds : List (Str × V × Int)} (h : LexT n t ds) : LexT n (32 :: t) ds := by
  obtain ⟨r, rs, rfl, hl⟩ := h
  cases hl with
  | cons h g => exact ⟨32 :: r, rs, (joinL_head (a := [32]) r rs).symm, .cons (.sp h) g⟩
theorem LexT.nl {n : Int} {t : List Nat} {ds : List (Str × V × Int)} (h : LexT (n + 1) t ds) : LexT n (10 :: t) ds := by
  obtain ⟨r, rs, rfl, hl⟩ := h
  refine ⟨[], r :: rs, rfl, ?_⟩
  exact Lex.cons (ts := []) .nil hl
theorem LexT.cm {n : Int} {c t : List Nat} {ds : List (Str × V × Int)} (hc : c.all prB = true) (h : LexT (n + 1) t ds) : LexT n (35 :: (c ++ 10 :: t)) ds := by
  obtain ⟨r, rs, rfl, hl⟩ := h
  refine ⟨35 :: c, r :: rs, rfl, ?_⟩
  exact Lex.cons (ts := []) (.cm hc) hl
theorem LexT.cmEnd {n : Int} {c : List Nat} (hc : c.all prB = true) : LexT n (35 :: c) [] := ⟨35 :: c, [], rfl, Lex.cons (ts := []) (.cm hc) .nil⟩
theorem LexT.nil {n : Int} : LexT n [] [] := ⟨[], [], rfl, Lex.cons (ts := []) .nil .nil⟩
theorem joinL_row (r : List Nat) : ∀ rs : List (List Nat), ∀ x, r.head? = some x → (TL.joinL [10] (r :: rs)).head? = some x
  | [], x, h => h
  | q :: rs, x, h => by
    cases r with
    | nil => cases h
    | cons y r => exact h
theorem LexT.tok {n : Int} {z t : List Nat} {k : Str} {v : V} {ds : List (Str × V × Int)} (ok : TokOK z k v) (s : sep z t) (h : LexT n t ds) : LexT n (z ++ t) ((k, v, n) :: ds) := by
  obtain ⟨r, rs, rfl, hl⟩ := h
  cases hl with
  | cons h g =>
    have s2 : sep z r := ⟨fun y e a x hx => s.1 y e a x (joinL_row r rs x hx), fun e x hx => s.2 e x (joinL_row r rs x hx)⟩
    exact ⟨z ++ r, rs, (joinL_head (a := z) r rs).symm, Lex.cons (Row.tok (ok.hd r s2) h) g⟩
/-- a gap -/
structure Gap (g : List Nat) : Prop where
  lx : ∀ (n : Int) (t : List Nat) (ds : List (Str × V × Int)), LexT (n + (g.count 10 : Nat)) t ds → LexT n (g ++ t) ds
  hd : ∀ x, g.head? = some x → x = 32 ∨ x = 10 ∨ x = 35
  le : g.length ≤ 40
theorem Gap.nil : Gap [] where
  lx := fun n t ds h => by simpa using h
  hd := fun x h => by cases h
  le := Nat.zero_le _
theorem sps (n : Int) : ∀ (k : Nat) (t : List Nat) (ds : List (Str × V × Int)), LexT n t ds → LexT n (List.replicate k 32 ++ t) ds
  | 0, t, ds, h => h
  | k + 1, t, ds, h => (sps n k t ds h).sp
theorem nls : ∀ (k : Nat) (n : Int) (t : List Nat) (ds : List (Str × V × Int)), LexT (n + (k : Nat)) t ds → LexT n (List.replicate k 10 ++ t) ds
  | 0, n, t, ds, h => by simpa using h
  | k + 1, n, t, ds, h => by
    refine (nls k (n + 1) t ds ?_).nl
    rw [show n + 1 + ((k : Nat) : Int) = n + ((k + 1 : Nat) : Int) by omega]
    exact h
theorem gap_sp {k : Nat} (h : k ≤ 30) : Gap (List.replicate k 32) := by
  refine ⟨fun n t ds z => ?_, fun x e => ?_, by rw [List.length_replicate]; omega⟩
  · rw [List.count_replicate] at z
    exact sps n k t ds (by simpa using z)
  · cases k with
    | zero => cases e
    | succ k => cases e; exact .inl rfl
theorem gap_nl {k : Nat} (h : k ≤ 30) : Gap (List.replicate k 10) := by
  refine ⟨fun n t ds z => ?_, fun x e => ?_, by rw [List.length_replicate]; omega⟩
  · rw [List.count_replicate] at z
    exact nls k n t ds (by simpa using z)
  · cases k with
    | zero => cases e
    | succ k => cases e; exact .inr (.inl rfl)
theorem pr_count {c : List Nat} (h : c.all prB = true) : c.count 10 = 0 := List.count_eq_zero.mpr fun z => by
  have := List.all_eq_true.mp h 10 z
  rw [pr10] at this
  cases this
theorem gap_cm {k : Nat} {c : List Nat} (hk : k ≤ 3) (hc : c.all prB = true) (hl : c.length ≤ 20) : Gap (List.replicate k 32 ++ (35 :: (c ++ [10]))) := by
  refine ⟨fun n t ds z => ?_, fun x e => ?_, ?_⟩
  · rw [List.append_assoc]
    refine sps n k _ ds ?_
    have e1 : (List.replicate k 32 ++ (35 :: (c ++ [10]))).count 10 = 1 := by
      rw [List.count_append, List.count_replicate, List.count_cons, List.count_append, pr_count hc]
      rfl
    rw [e1] at z
    have := LexT.cm hc z
    simpa using this
  · cases k with
    | zero => cases e; exact .inr (.inr rfl)
    | succ k => cases e; exact .inl rfl
  · rw [List.length_append, List.length_replicate, List.length_cons, List.length_append, List.length_cons, List.length_nil]
    omega
section
variable {P : Program} {w : World} {K : PySem.W.Frag} {mg : Str → Option Value} {base : Heap}
theorem ifs_then {tc : TT} {ta : TS} {D : Ends} {σ : L2.St} {H : Hp} (c : Bool) (H' : Hp) (h1 : ∀ Q : Bool → Hp → Prop, Q c H' → tc σ H Q) (h2 : if c = true then ta D σ H' else D.nx σ H') : tIfS tc ta tNext D σ H := h1 _ h2
theorem rep1 (k c : Nat) : (List.replicate k [c]).flatten = List.replicate k c := by
  induction k with
  | zero => rfl
  | succ k ih =>
    rw [List.replicate_succ, List.flatten_cons, ih]
    rfl
theorem asg_then {te : TE} {g : TG} {D : Ends} {σ : L2.St} {H : Hp} (Pv : V → Hp → Prop) (h1 : ∀ Q : VK, (∀ v H', Pv v H' → Q v H') → te σ H Q) (h2 : ∀ v H', Pv v H' → g v σ H' D.nx) : tAsg te g D σ H := h1 _ h2
theorem sep_of {l r : List Nat} {b y : Nat} (hy : y < 128) (h1 : alB b = true → alB y = false) (h2 : (l ++ [b] = [60] ∨ l ++ [b] = [61] ∨ l ++ [b] = [62]) → y ≠ 60 ∧ y ≠ 61 ∧ y ≠ 62) : sep (l ++ [b]) (y :: r) := by
  refine ⟨fun x e a z hz => ?_, fun e z hz => ?_⟩
  · rw [List.getLast?_concat] at e
    cases e
    cases hz
    exact ⟨h1 a, hy⟩
  · cases hz
    exact h2 e
def cmpL : List (List Nat) := [[60], [62], [61]]
def spIsW : Sp := fun vs H Q _ => ∃ (c : Nat), vs = [.str (SX.S [c])] ∧ c < 128 ∧ Q (.bl (alB c)) H
theorem c_isw (T : Txt w K mg) : Cal P w K mg base 1 "_law_is_word" spIsW [] := by
  refine calD T.d__law_is_word T.g__law_is_word (fun _ _ _ _ _ _ us hl => match us, hl with | [_], _ => rfl) sc__law_is_word (fun vs H Q E h => ?_) (fun cdv A outer s H vs Q E hr h => ?_)
  · obtain ⟨c, rfl, _⟩ := h
    rfl
  · obtain ⟨c, rfl, hc, q⟩ := h
    refine ⟨_, (pss_one (ps_ret (pe_bm0 PySem.F.plainAttrs_str PySem.F.slot_str_isalnum PySem.F.type_str_isalnum mt_isalnum (pv 0)))), ?_⟩
    refine ⟨_, rfl, rfl, _, rfl, rfl, trivial, ?_⟩
    have e : Txt.isalnum (SX.S [c]) = alB c := isalnum1 hc
    rw [e]
    exact q
def spGap : Sp := fun vs H Q _ => ∃ (p : Addr) (l r : List Nat) (y : Nat) (b : Nat), vs = [.ref p, .str (SX.S (l ++ [b])), .str (SX.S (y :: r))] ∧ Bg H p ∧ l.length ≤ 100 ∧ r.length ≤ 100 ∧ b < 128 ∧ y < 128 ∧
  ∀ (g : List Nat) (H' : Hp), Gap g → (g = [] → sep (l ++ [b]) (y :: r)) → Bg H' p → Keep p H H' → Q (.str (SX.S g)) H'
theorem c_gap (T : Txt w K mg) : Cal P w K mg base 3 "_law_gap" spGap [] := by
  have C__law_draw := c_draw (P := P) (w := w) (base := base) T
  have C__law_is_word := c_isw (P := P) (w := w) (base := base) T
  have C__law_text := c_ltext (P := P) (w := w) (base := base) T
  refine calD T.d__law_gap T.g__law_gap (fun _ _ _ _ _ _ us hl => match us, hl with | [_, _, _], _ => rfl) sc__law_gap (fun vs H Q E h => ?_) (fun cdv A outer s H vs Q E hr h => ?_)
  · obtain ⟨p, l, r, y, b, rfl, _⟩ := h
    rfl
  · obtain ⟨p, l, r, y, b, rfl, bg, hl, hr2, hb, hy, q⟩ := h
    refine ⟨_, (pss_cons (ps_set (i := 3) sc__law_gap.nd rfl (Or.inl rfl) (pe_or (pe_and (pe_c C__law_is_word hr (by decide) rfl (pa_cons (pe_ix ix_str (pv 1) (pe_un un_neg pe_int) (fun _ _ => rfl)) pa_nil)) (pe_one (pe_c C__law_is_word hr (by decide) rfl (pa_cons (pe_ix ix_str (pv 2) pe_int (fun _ _ => rfl)) pa_nil)))) (pe_one (pe_and (pe_cmpR op_in_seq (pv 1) (pe_lst (pa_cons pe_str (pa_cons pe_str (pa_cons pe_str pa_nil)))) rfl) (pe_one (pe_cmpR op_in_sign (pe_ix ix_str (pv 2) pe_int (fun _ _ => rfl)) pe_str rfl))))))
      (pss_cons (ps_set (i := 4) sc__law_gap.nd rfl (Or.inl rfl) (pe_c C__law_draw hr (by decide) rfl (pa_cons (pv 0) (pa_cons pe_int pa_nil))))
      (pss_cons (ps_if (PW.pt (pw_and (pt_cmpR op_lt (pv 4) pe_int (nomark _)) (pw_and1 (pt_not (pt_val (pv 3)))))) (pss_one (ps_ret pe_str)) pss_nil)
      (pss_cons (ps_if (pt_cmpR op_lt (pv 4) pe_int (nomark _)) (pss_one (ps_ret (pe_op op_mulS pe_str (pe_op op_add pe_int (pe_c C__law_draw hr (by decide) rfl (pa_cons (pv 0) (pa_cons pe_int pa_nil))))))) pss_nil)
      (pss_cons (ps_if (pt_cmpR op_eq (pv 4) pe_int (nomark _)) (pss_one (ps_ret (pe_op op_mulS pe_str (pe_op op_add pe_int (pe_c C__law_draw hr (by decide) rfl (pa_cons (pv 0) (pa_cons pe_int pa_nil))))))) pss_nil)
      (pss_one (ps_ret (pe_op op_add_str (pe_op op_add_str (pe_op op_add_str (pe_op op_add_str (pe_op op_mulS pe_str (pe_c C__law_draw hr (by decide) rfl (pa_cons (pv 0) (pa_cons pe_int pa_nil)))) pe_str) (pe_c C__law_text hr (by decide) rfl (pa_cons (pv 0) pa_nil))) (pe_op op_mulS pe_str (pe_c C__law_draw hr (by decide) rfl (pa_cons (pv 0) (pa_cons pe_int pa_nil))))) pe_str)))))))), ?_⟩
    have hl1 : (SX.S (l ++ [b])).length ≤ sizeLine := len_big (by rw [List.length_append, List.length_cons, List.length_nil]; omega)
    have hl2 : (SX.S (y :: r)).length ≤ sizeLine := len_big (by rw [List.length_cons]; omega)
    refine asg_then (fun v H1 => ∃ c, v = .bl c ∧ Same H H1 ∧ (c = false → sep (l ++ [b]) (y :: r))) (fun Q1 hq => ?_) ?_
    · have part : ∀ (H1 : Hp), Same H H1 → (alB b = true → alB y = false) → tAndV (tOp (rIn K false) (tVar 1) (tLst (tCons (tC (V.str (Str.ofString "<"))) (tCons (tC (V.str (Str.ofString ">"))) (tCons (tC (V.str (Str.ofString "="))) tNil)))))
          (tOp (fun x y H Q => ∃ c z, x = V.str ⟨#[c]⟩ ∧ y = V.str z ∧ Q (V.bl (decide (c ∈ z.cps.toList))) H) (tOp rIxS (tVar 2) (tC (V.int 0))) (tC (V.str (Str.ofString "<>="))))
          (L2.start N__law_gap [V.ref p, V.str (SX.S (l ++ [b])), V.str (SX.S (y :: r))]) H1 Q1 := by
        intro H1 s1 ha
        refine ⟨_, rfl, by show 3 ≤ sizeLine; decide, fun m nm => ⟨m, cmpL.map (fun z => V.str (SX.S z)), rfl, .inl (SqL.of upd_same), rfl, flat_strs, _, rfl, ?_⟩⟩
        have hin : (if false = true then !inV (V.str (SX.S (l ++ [b]))) (cmpL.map fun z => V.str (SX.S z)) else inV (V.str (SX.S (l ++ [b]))) (cmpL.map fun z => V.str (SX.S z))) = decide (l ++ [b] ∈ cmpL) := in_strs
        rw [hin]
        refine ifB (fun e => ?_) (fun e => ?_)
        · refine ⟨_, rfl, _, _, y, rfl, rfl, hl2, atI_nat (j := 0) rfl, y, _, rfl, rfl, ?_⟩
          refine hq _ _ ⟨_, rfl, s1.trans (Same_upd nm), fun hc => sep_of hy ha fun _ => ?_⟩
          have h1 := of_decide_eq_false hc
          have h2 : (Str.ofString "<>=").cps.toList = [60, 62, 61] := by decide +kernel
          rw [h2] at h1
          simp only [List.mem_cons, List.not_mem_nil, or_false, not_or] at h1
          exact ⟨h1.1, h1.2.2, h1.2.1⟩
        · refine hq _ _ ⟨_, rfl, s1.trans (Same_upd nm), fun _ => sep_of hy ha fun h => ?_⟩
          have h1 := of_decide_eq_false e
          exfalso
          apply h1
          rcases h with h | h | h <;> rw [h] <;> decide
      refine ⟨_, rfl, _, rfl, _, _, b, rfl, rfl, hl1, atI_last _ _, b, rfl, hb, _, rfl, ifB (fun e1 => ?_) (fun e1 => ?_)⟩
      · refine ⟨_, rfl, _, _, y, rfl, rfl, hl2, atI_nat (j := 0) rfl, y, rfl, hy, _, rfl, ifB (fun e2 => ?_) (fun e2 => ?_)⟩
        · exact hq _ _ ⟨true, rfl, Same.refl _, fun h => nomatch h⟩
        · exact part H (Same.refl _) fun _ => e2
      · exact ⟨_, rfl, iteF (part H (Same.refl _) fun h => by rw [e1] at h; cases h)⟩
    rintro v H1 ⟨c, rfl, s1, hsep⟩
    have bg1 := s1.bgw bg
    refine ⟨_, rfl, p, 8, rfl, bg1, by decide, by decide +kernel, fun pick H2 p0 p1 b2 k2 => ?_⟩
    have kk := s1.keepw.trans k2
    dsimp only [gName]
    refine ifs_then (decide (pick < 4) && !c) H2 (fun Q1 hq => ?_) (ifB (fun e => ?_) (fun _ => ?_))
    · refine ⟨_, rfl, _, _, rfl, rfl, _, rfl, ifB (fun e => ?_) (fun e => ?_)⟩
      · refine ⟨_, rfl, _, rfl, ?_⟩
        rw [e] at hq
        exact hq
      · rw [e] at hq
        exact hq
    · have hc : c = false := by
        have := (Bool.and_eq_true_iff.mp e).2
        cases c with
        | true => cases this
        | false => rfl
      exact q [] H2 Gap.nil (fun _ => hsep hc) b2 kk
    refine ⟨_, rfl, _, _, rfl, rfl, _, rfl, ifB (fun _ => ?_) (fun _ => ?_)⟩
    · refine ⟨_, rfl, p, 3, rfl, b2, by decide, by decide +kernel, fun d H3 d0 d1 b3 k3 => ?_⟩
      obtain ⟨m, rfl⟩ := Int.eq_ofNat_of_zero_le d0
      have e1 : (1 + (m : Int)) = ((m + 1 : Nat) : Int) := by omega
      refine ⟨_, _, rfl, rfl, ?_⟩
      show ∃ a n, V.str (Str.ofString " ") = V.str a ∧ V.int (1 + (m : Int)) = V.int n ∧ MulOk a n ∧ Q (V.str (Txt.mul a n)) H3
      rw [e1]
      refine ⟨SX.S [32], _, rfl, rfl, mulOk (by show 1 * (m + 1) ≤ 1000000; omega) (by omega), ?_⟩
      rw [mul_S, rep1]
      exact q _ H3 (gap_sp (by omega)) (fun h => by cases h) b3 (kk.trans k3)
    refine ⟨_, rfl, rfl, _, rfl, ifB (fun _ => ?_) (fun _ => ?_)⟩
    · refine ⟨_, rfl, p, 3, rfl, b2, by decide, by decide +kernel, fun d H3 d0 d1 b3 k3 => ?_⟩
      obtain ⟨m, rfl⟩ := Int.eq_ofNat_of_zero_le d0
      have e1 : (1 + (m : Int)) = ((m + 1 : Nat) : Int) := by omega
      refine ⟨_, _, rfl, rfl, ?_⟩
      show ∃ a n, V.str (Str.ofString "\n") = V.str a ∧ V.int (1 + (m : Int)) = V.int n ∧ MulOk a n ∧ Q (V.str (Txt.mul a n)) H3
      rw [e1]
      refine ⟨SX.S [10], _, rfl, rfl, mulOk (by show 1 * (m + 1) ≤ 1000000; omega) (by omega), ?_⟩
      rw [mul_S, rep1]
      exact q _ H3 (gap_nl (by omega)) (fun h => by cases h) b3 (kk.trans k3)
    refine ⟨_, rfl, p, 2, rfl, b2, by decide, by decide +kernel, fun d H3 d0 d1 b3 k3 => ?_⟩
    obtain ⟨m, rfl⟩ := Int.eq_ofNat_of_zero_le d0
    refine ⟨SX.S [32], _, rfl, rfl, mulOk (by show 1 * m ≤ 1000000; omega) (by omega), ?_⟩
    rw [mul_S, rep1]
    refine ⟨_, _, rfl, rfl, ?_, _, rfl, p, rfl, b3, fun t H4 ht b4 k4 => ?_⟩
    · show (SX.S (List.replicate m 32)).length + 1 ≤ sizeLine
      rw [SX.S_len, List.length_replicate, sizeLine_eq]
      exact Nat.le_trans (show m + 1 ≤ 20 by omega) (by decide)
    have ht2 : t.all prB = true ∧ t.length ≤ 16 := by
      unfold textB at ht
      simp only [Bool.and_eq_true, decide_eq_true_eq] at ht
      exact ⟨ht.1, ht.2.2.1⟩
    rw [show SX.S (List.replicate m 32) ++ Str.ofString "#" = SX.S (List.replicate m 32 ++ [35]) from SX.S_cat _ [35]]
    refine ⟨_, _, rfl, rfl, ?_, _, rfl, p, 2, rfl, b4, by decide, by decide +kernel, fun d2 H5 e0 e1 b5 k5 => ?_⟩
    · rw [SX.S_len, SX.S_len, List.length_append, List.length_replicate, sizeLine_eq]
      exact Nat.le_trans (show m + 1 + t.length ≤ 50 by omega) (by decide)
    obtain ⟨m2, rfl⟩ := Int.eq_ofNat_of_zero_le e0
    rw [SX.S_cat]
    refine ⟨SX.S [34], _, rfl, rfl, mulOk (by show 1 * m2 ≤ 1000000; omega) (by omega), ?_⟩
    rw [mul_S, rep1]
    refine ⟨_, _, rfl, rfl, ?_, _, _, rfl, rfl, ?_, ?_⟩
    · rw [SX.S_len, SX.S_len, List.length_append, List.length_append, List.length_replicate, List.length_replicate, sizeLine_eq]
      exact Nat.le_trans (show m + 1 + t.length + m2 ≤ 50 by omega) (by decide)
    · show (SX.S (List.replicate m 32 ++ [35] ++ t) ++ SX.S (List.replicate m2 34)).length + 1 ≤ sizeLine
      rw [SX.S_cat, SX.S_len, List.length_append, List.length_append, List.length_append, List.length_replicate, List.length_replicate, sizeLine_eq]
      exact Nat.le_trans (show m + 1 + t.length + m2 + 1 ≤ 50 by omega) (by decide)
    have ge : SX.S (List.replicate m 32 ++ [35] ++ t) ++ SX.S (List.replicate m2 34) ++ Str.ofString "\n" = SX.S (List.replicate m 32 ++ (35 :: ((t ++ List.replicate m2 34) ++ [10]))) := by
      rw [SX.S_cat (List.replicate m 32 ++ [35] ++ t) (List.replicate m2 34)]
      have z := SX.S_cat (List.replicate m 32 ++ [35] ++ t ++ List.replicate m2 34) [10]
      refine z.trans ?_
      congr 1
      simp
    have hc : (t ++ List.replicate m2 34).all prB = true := by
      rw [List.all_append, ht2.1]
      exact List.all_eq_true.mpr fun c hc => by rw [List.eq_of_mem_replicate hc]; decide
    have f := q _ H5 (gap_cm (k := m) (by omega) hc (by rw [List.length_append, List.length_replicate]; omega)) (fun h => by simp at h) b5 (((kk.trans k3).trans k4).trans k5)
    rw [← ge] at f
    exact f
end
end Pt
set_option Elab.async false
set_option linter.all false
set_option maxRecDepth 100000
set_option maxHeartbeats 4000000
namespace Pt
open PySem PySem.Spec PyProof.Rows L2 Wc
open C8 (Cal pe_c pe_gc)
/-! ### the comparison -/
/-- a number has an int, all else a text -/
def okS (x : Str) : Prop := x.cps.all (fun c => decide (c < 0x110000)) = true
def KV (d : Str × V × Int) : Prop := (d.1 = "number" ∧ ∃ n : Int, d.2.1 = .int n) ∨ (d.1 ≠ "number" ∧ okS d.1 ∧ ∃ s : Str, d.2.1 = .str s ∧ okS s)
theorem Toks.get {H : Hp} {as : List V} {ds : List (Str × V × Int)} (h : Toks H as ds) : ∀ (i : Nat) (d : Str × V × Int), ds[i]? = some d → ∃ a, as[i]? = some (V.ref a) ∧ H a = some (.tup [.str d.1, d.2.1, .int d.2.2]) := by
  induction h with
  | nil => exact fun i d e => nomatch e
  | cons h r ih =>
    intro i d e
    cases i with
    | zero => cases e; exact ⟨_, rfl, h⟩
    | succ i => exact ih i d e
def dpOf (d : Str × V × Int) : PyData := .tuple [.str d.1, (match d.2.1 with | .int n => .int n | .str s => .str s | _ => .none), .int d.2.2]
section
variable {P : Program} {w : World} {K : PySem.W.Frag} {mg : Str → Option Value} {base : Heap}
theorem dp_of {H : Hp} {a : Addr} {d : Str × V × Int} (h : H a = some (.tup [.str d.1, d.2.1, .int d.2.2])) (kv : KV d) : Dp K H (.ref a) (dpOf d) := by
  obtain ⟨k, v, n⟩ := d
  rcases kv with ⟨en, m, e⟩ | ⟨_, ok1, m, e, ok2⟩
  · have e' : v = .int m := e
    subst e'
    exact Dp.tup (SqT.of h) (.cons (.str k) (.cons (.int m) (.cons (.int n) .nil)))
  · have e' : v = .str m := e
    subst e'
    exact Dp.tup (SqT.of h) (.cons (.str k) (.cons (.str m) (.cons (.int n) .nil)))
theorem eqv_of {d : Str × V × Int} (kv : KV d) : PyData.eqv (dpOf d) (dpOf d) = true := by
  obtain ⟨k, v, n⟩ := d
  rcases kv with ⟨en, m, e⟩ | ⟨_, ok1, m, e, ok2⟩
  · have e' : v = .int m := e
    subst e'
    simp [dpOf, PyData.eqv, PyData.eqvAll]
  · have e' : v = .str m := e
    subst e'
    simp [dpOf, PyData.eqv, PyData.eqvAll]
theorem shp_of {d : Str × V × Int} (kv : KV d) : SeqAt.shaped (dpOf d) = true := by
  obtain ⟨k, v, n⟩ := d
  rcases kv with ⟨en, m, e⟩ | ⟨_, ok1, m, e, ok2⟩
  · have e' : v = .int m := e
    have en' : k = "number" := en
    subst e' en'
    have h : PyData.strOk (Str.ofString "number") = true := by decide +kernel
    simp [dpOf, SeqAt.shaped, PyData.canLay0, PyData.canLayAll0, PyData.depth, PyData.depthAll, h]
  · have e' : v = .str m := e
    subst e'
    have h1 : PyData.strOk k = true := ok1
    have h2 : PyData.strOk m = true := ok2
    simp [dpOf, SeqAt.shaped, PyData.canLay0, PyData.canLayAll0, PyData.depth, PyData.depthAll, h1, h2]
theorem tyTup {H : Hp} {a : Addr} {xs : List V} (h : H a = some (.tup xs)) : TyX K H (.ref a) (.type "tuple") := TyX.base (TyOf.tup h)
def spRightT : Sp := fun vs H Q _ => ∃ (a d : Addr) (as bs : List V) (ds : List (Str × V × Int)), vs = [.ref a, .ref d] ∧ H a = some (.tup as) ∧ H d = some (.lst bs) ∧ Toks H as ds ∧ Toks H bs ds ∧ (∀ x ∈ ds, KV x) ∧ ds.length ≤ 100000 ∧ Q (.bl true) H
theorem c_rightT (T : Txt w K mg) : Cal P w K mg base 1 "_law_right" spRightT [] := by
  refine calD T.d__law_right T.g__law_right (fun _ _ _ _ _ _ us hl => match us, hl with | [_, _], _ => rfl) sc__law_right (fun vs H Q E h => ?_) (fun cdv A outer s H vs Q E hr h => ?_)
  · obtain ⟨a, d, as, bs, ds, rfl, _⟩ := h
    rfl
  · obtain ⟨a, d, as, bs, ds, rfl, ha, hd, ka, kb, kv, hl, q⟩ := h
    refine ⟨_, (pss_cons (ps_if (PW.pt (pw_or (pt_not (pt_val (pe_callB call_isi rfl T.n_isinstance (by rfl) (pa_cons (pv 0) (pa_cons (pe_ty "tuple" rfl T.n_tuple (by rfl)) pa_nil))))) (pw_or1 (pt_cmpR op_ne (pe_callB call_len_seq rfl T.n_len (by rfl) (pa_cons (pv 0) pa_nil)) (pe_callB call_len_seq rfl T.n_len (by rfl) (pa_cons (pv 1) pa_nil)) (nomark _))))) (pss_one (ps_ret pe_bl)) pss_nil)
      (pss_cons (ps_for PassesOwn.never rfl (pi_range1 rfl T.n_range (pa_cons (pe_callB call_len_seq rfl T.n_len (by rfl) (pa_cons (pv 1) pa_nil)) pa_nil)) (pg_name (i := 2) sc__law_right.nd rfl (Or.inl rfl))
      (pss_cons (ps_set (i := 3) sc__law_right.nd rfl (Or.inl rfl) (pe_ix ix_tup (pv 0) (pv 2) (fun _ _ => rfl)))
      (pss_cons (ps_if (PW.pt (pw_or (pt_not (pt_val (pe_callB call_isi rfl T.n_isinstance (by rfl) (pa_cons (pv 3) (pa_cons (pe_ty "tuple" rfl T.n_tuple (by rfl)) pa_nil))))) (pw_or (pt_cmpR op_ne (pe_callB call_len_seq rfl T.n_len (by rfl) (pa_cons (pv 3) pa_nil)) pe_int (nomark _)) (pw_or (pt_not (pt_val (pe_callB call_isi rfl T.n_isinstance (by rfl) (pa_cons (pe_ix ix_tup (pv 3) pe_int (fun _ _ => rfl)) (pa_cons (pe_ty "str" rfl T.n_str (by rfl)) pa_nil))))) (pw_or1 (pt_cmpR (op_neD hr.units) (pv 3) (pe_ix ix_list (pv 1) (pv 2) (fun _ _ => rfl)) (nomark _))))))) (pss_one (ps_ret pe_bl)) pss_nil)
      (pss_cons (ps_if (PW.pt (pw_or (pt_cmpR op_eq (pe_callB call_isi rfl T.n_isinstance (by rfl) (pa_cons (pe_ix ix_tup (pv 3) pe_int (fun _ _ => rfl)) (pa_cons (pe_ty "str" rfl T.n_str (by rfl)) pa_nil))) (pe_cmpR op_eq (pe_ix ix_tup (pv 3) pe_int (fun _ _ => rfl)) pe_str (nomark _)) (nomark _)) (pw_or1 (pt_val (pe_callB call_isi rfl T.n_isinstance (by rfl) (pa_cons (pe_ix ix_tup (pv 3) pe_int (fun _ _ => rfl)) (pa_cons (pe_ty "bool" rfl T.n_bool (by rfl)) pa_nil))))))) (pss_one (ps_ret pe_bl)) pss_nil)
      (pss_one (ps_if (PW.pt (pw_or (pt_not (pt_val (pe_callB call_isi rfl T.n_isinstance (by rfl) (pa_cons (pe_ix ix_tup (pv 3) pe_int (fun _ _ => rfl)) (pa_cons (pe_ty "int" rfl T.n_int (by rfl)) pa_nil))))) (pw_or1 (pt_val (pe_callB call_isi rfl T.n_isinstance (by rfl) (pa_cons (pe_ix ix_tup (pv 3) pe_int (fun _ _ => rfl)) (pa_cons (pe_ty "bool" rfl T.n_bool (by rfl)) pa_nil))))))) (pss_one (ps_ret pe_bl)) pss_nil))))))
      (pss_one (ps_ret pe_bl)))), ?_⟩
    refine ⟨_, rfl, _, _, _, _, _, rfl, ClsV.ty "tuple", tyTup ha, kit_ty (r := true) (by decide +kernel), _, rfl, iteF ?_⟩
    refine ⟨_, rfl, a, _, rfl, .inr (SqT.of ha), _, rfl, d, _, rfl, .inl (SqL.of hd), rfl, _, rfl, ifNo ?_ ?_⟩
    · rw [ka.len, kb.len, decide_eq_true rfl]
      rfl
    refine ⟨_, rfl, d, _, rfl, .inl (SqL.of hd), _, rfl, by omega, by rw [kb.len]; omega, ?_⟩
    refine for_range (fun i σ H1 => H1 = H ∧ ∃ y z, σ = [some (V.ref a), some (V.ref d), y, z]) ⟨rfl, _, _, rfl⟩ ?_ ?_
    · rintro i σ H1 hi ⟨rfl, y, z, rfl⟩
      have hi2 : i < ds.length := by
        rw [← kb.len]
        simpa using hi
      have hds : ds[i]? = some ds[i] := List.getElem?_eq_getElem hi2
      have kvd := kv ds[i] (List.getElem_mem hi2)
      obtain ⟨a1, ea, h1⟩ := ka.get i _ hds
      obtain ⟨a2, eb, h2⟩ := kb.get i _ hds
      generalize ds[i] = x at kvd h1 h2
      have hai : atI as (0 + (i : Int)) = some (.ref a1) := by rw [Int.zero_add]; exact atI_nat ea
      have hbi : atI bs (0 + (i : Int)) = some (.ref a2) := by rw [Int.zero_add]; exact atI_nat eb
      refine ⟨_, rfl, _, rfl, a, as, _, _, rfl, rfl, SqT.of ha, hai, ?_⟩
      refine ⟨_, rfl, _, _, _, _, _, rfl, ClsV.ty "tuple", tyTup h1, kit_ty (r := true) (by decide +kernel), _, rfl, iteF ?_⟩
      refine ⟨_, rfl, a1, _, rfl, .inr (SqT.of h1), rfl, _, rfl, ifNo (show (!decide (V.int 3 = V.int 3)) = false by decide +kernel) ?_⟩
      refine ⟨_, rfl, a1, _, _, _, rfl, rfl, SqT.of h1, atI_nat (j := 0) rfl, _, _, _, _, _, rfl, ClsV.ty "str", TyX.base (TyOf.str _), kit_ty (r := true) (by decide +kernel), _, rfl, iteF ?_⟩
      refine ⟨_, rfl, _, rfl, _, rfl, d, bs, _, _, rfl, rfl, SqL.of hd, hbi, dpOf x, dpOf x, dp_of h1 kvd, dp_of h2 kvd, shp_of kvd, shp_of kvd, _, rfl, ifNo (by rw [eqv_of kvd]; rfl) ?_⟩
      obtain ⟨kd, vl, ln⟩ := x
      have tail : ∀ D : Ends, D.nx [some (V.ref a), some (V.ref d), some (V.int (0 + (i : Int))), some (V.ref a1)] H1 →
          tIfS (tOr (tNot (tB (tCB (rIsi K) (tCons (tOp (rIxT K) (tVar 3) (tC (V.int 2))) (tCons (tC (V.ty "int")) tNil))))) (tB (tCB (rIsi K) (tCons (tOp (rIxT K) (tVar 3) (tC (V.int 2))) (tCons (tC (V.ty "bool")) tNil))))) (tRet (tC (V.bl false))) tNext D
            [some (V.ref a), some (V.ref d), some (V.int (0 + (i : Int))), some (V.ref a1)] H1 := by
        intro D hD
        refine ⟨_, rfl, a1, _, _, _, rfl, rfl, SqT.of h1, atI_nat (j := 2) rfl, _, _, _, _, _, rfl, ClsV.ty "int", TyX.base (TyOf.int _), kit_ty (r := true) (by decide +kernel), _, rfl, iteF ?_⟩
        exact ⟨_, rfl, a1, _, _, _, rfl, rfl, SqT.of h1, atI_nat (j := 2) rfl, _, _, _, _, _, rfl, ClsV.ty "bool", TyX.base (TyOf.int _), kit_ty (r := false) (by decide +kernel), _, rfl, iteF hD⟩
      rcases kvd with ⟨e1, m, e2⟩ | ⟨e1, _, m, e2, _⟩
      · have e1' : kd = "number" := e1
        have e2' : vl = .int m := e2
        subst e1' e2'
        refine ⟨_, rfl, a1, _, _, _, rfl, rfl, SqT.of h1, atI_nat (j := 1) rfl, _, _, _, _, _, rfl, ClsV.ty "str", TyX.base (TyOf.int _), kit_ty (r := false) (by decide +kernel), ?_⟩
        refine ⟨_, rfl, a1, _, _, _, rfl, rfl, SqT.of h1, atI_nat (j := 0) rfl, rfl, rfl, _, rfl, ifNo ?_ ?_⟩
        · rw [decide_eq_true (show V.str (Str.ofString "number") = V.str (Str.ofString "number") from rfl)]
          decide +kernel
        refine ⟨_, rfl, a1, _, _, _, rfl, rfl, SqT.of h1, atI_nat (j := 1) rfl, _, _, _, _, _, rfl, ClsV.ty "bool", TyX.base (TyOf.int _), kit_ty (r := false) (by decide +kernel), _, rfl, iteF ?_⟩
        exact tail _ ⟨rfl, _, _, rfl⟩
      · have e1' : kd ≠ "number" := e1
        have e2' : vl = .str m := e2
        subst e2'
        refine ⟨_, rfl, a1, _, _, _, rfl, rfl, SqT.of h1, atI_nat (j := 1) rfl, _, _, _, _, _, rfl, ClsV.ty "str", TyX.base (TyOf.str _), kit_ty (r := true) (by decide +kernel), ?_⟩
        refine ⟨_, rfl, a1, _, _, _, rfl, rfl, SqT.of h1, atI_nat (j := 0) rfl, rfl, rfl, _, rfl, ifNo ?_ ?_⟩
        · rw [decide_eq_false (fun z => e1' (V.str.inj z))]
          decide +kernel
        refine ⟨_, rfl, a1, _, _, _, rfl, rfl, SqT.of h1, atI_nat (j := 1) rfl, _, _, _, _, _, rfl, ClsV.ty "bool", TyX.base (TyOf.str _), kit_ty (r := false) (by decide +kernel), _, rfl, iteF ?_⟩
        exact tail _ ⟨rfl, _, _, rfl⟩
    · rintro σ H1 ⟨rfl, y, z, rfl⟩
      exact q
end
end Pt
set_option Elab.async false
set_option linter.all false
set_option maxRecDepth 100000
set_option maxHeartbeats 4000000
namespace Pt
open PySem PySem.Spec PyProof.Rows L2 Wc
open C8 (Cal pe_c pe_gc)
/-! ### signs without gaps -/
inductive Good : List Nat → Prop
  | nil : Good []
  | one {c : Nat} {r : List Nat} (h : c = 60 ∨ c = 61 ∨ c = 62) (g : Good r) : Good (c :: r)
  | two {r : List Nat} (g : Good r) : Good (33 :: 61 :: r)
def twosL : List (List Nat) := [[60, 60], [62, 62], [61, 61], [33, 61], [60, 61], [62, 61]]
def opsL : List (List Nat) := [[60], [62], [61], [33, 61]]
theorem Good.app {a b : List Nat} (h : Good a) (g : Good b) : Good (a ++ b) := by
  induction h with
  | nil => exact g
  | one h _ ih => exact .one h ih
  | two _ ih => exact .two ih
theorem good_ops : ∀ ws : List (List Nat), (∀ z ∈ ws, z ∈ opsL) → Good ws.flatten
  | [], _ => .nil
  | z :: ws, h => by
    rw [List.flatten_cons]
    refine Good.app ?_ (good_ops ws fun y hy => h y (List.mem_cons_of_mem _ hy))
    have hz := h z List.mem_cons_self
    simp only [opsL, List.mem_cons, List.not_mem_nil, or_false] at hz
    rcases hz with rfl | rfl | rfl | rfl
    · exact .one (.inl rfl) .nil
    · exact .one (.inr (.inr rfl)) .nil
    · exact .one (.inr (.inl rfl)) .nil
    · exact .two .nil
theorem twos_marks : ∀ m ∈ twosL, m ∈ marksL ∧ m.length = 2 := by decide +kernel
theorem marks_twos : ∀ m ∈ marksL, m.length = 2 → m ∈ twosL := by decide +kernel
/-- the first sign of a row without gaps -/
theorem good_cut {r : List Nat} (g : Good r) (ne : r ≠ []) : (r.take 2 ∈ twosL ∧ Hd (r.take 2) (r.drop 2) "sign" (.str (SX.S (r.take 2))) ∧ Good (r.drop 2) ∧ 2 ≤ r.length) ∨
    (r.take 2 ∉ twosL ∧ Hd (r.take 1) (r.drop 1) "sign" (.str (SX.S (r.take 1))) ∧ Good (r.drop 1)) := by
  by_cases h : r.take 2 ∈ twosL
  · obtain ⟨m1, m2⟩ := twos_marks _ h
    have hl : 2 ≤ r.length := by
      rw [List.length_take] at m2
      omega
    refine .inl ⟨h, .sign m1 (.inl m2), ?_, hl⟩
    cases g with
    | nil => exact absurd rfl ne
    | one hc g =>
      cases g with
      | nil => exact .nil
      | one _ g => exact g
      | two g =>
        exfalso
        rename_i c r
        have h2 : [c, 33] ∈ twosL := h
        simp [twosL] at h2
    | two g => exact g
  · refine .inr ⟨h, ?_, ?_⟩
    · cases g with
      | nil => exact absurd rfl ne
      | two g => exact absurd (show [33, 61] ∈ twosL by decide) h
      | one hc g =>
        rename_i c r
        refine .sign (m := [c]) (by rcases hc with rfl | rfl | rfl <;> decide +kernel) (.inr ?_)
        cases r with
        | nil => exact .inl rfl
        | cons d r => exact .inr fun z => h (marks_twos _ z rfl)
    · cases g with
      | nil => exact absurd rfl ne
      | two g => exact absurd (show [33, 61] ∈ twosL by decide) h
      | one hc g => exact g
theorem okS_of {t : List Nat} (h : ∀ c ∈ t, c < 128) : okS (SX.S t) := by
  unfold okS
  have : (SX.S t).cps.all (fun c => decide (c < 0x110000)) = t.all fun c => decide (c < 0x110000) := by simp [SX.S]
  rw [this]
  exact List.all_eq_true.mpr fun c hc => decide_eq_true (Nat.lt_trans (h c hc) (by decide))
theorem _root_.Wc.Keep.put {p l : Addr} {H H1 : Hp} {o : HO} (k : Keep p H H1) (n : H l = none) : Keep p H (upd H1 l o) := fun c u e ne => by
  rw [upd_ne (ne_of_none e n)]
  exact k c u e ne
theorem good_ascii {r : List Nat} (g : Good r) : ∀ c ∈ r, c < 128 := by
  induction g with
  | nil => exact fun c h => nomatch h
  | one h g ih =>
    intro c hc
    rcases List.mem_cons.mp hc with rfl | hc
    · omega
    · exact ih c hc
  | two g ih =>
    intro c hc
    rcases List.mem_cons.mp hc with rfl | hc
    · decide
    · rcases List.mem_cons.mp hc with rfl | hc
      · decide
      · exact ih c hc
section
variable {P : Program} {w : World} {K : PySem.W.Frag} {mg : Str → Option Value} {base : Heap}
def spSigns : Sp := fun vs H Q _ => ∃ (p : Addr), vs = [.ref p] ∧ Bg H p ∧ ∀ H', Bg H' p → Keep p H H' → Q (.bl true) H'
theorem c_signs (T : Txt w K mg) : Cal P w K mg base 8 "_law_signs" spSigns [] := by
  have C__law_draw := c_draw (P := P) (w := w) (base := base) T
  have C__law_right := c_rightT (P := P) (w := w) (base := base) T
  have C_tokens := c_tokens (P := P) (w := w) (base := base) T
  refine calD T.d__law_signs T.g__law_signs (fun _ _ _ _ _ _ us hl => match us, hl with | [_], _ => rfl) sc__law_signs (fun vs H Q E h => ?_) (fun cdv A outer s H vs Q E hr h => ?_)
  · obtain ⟨p, rfl, _⟩ := h
    rfl
  · obtain ⟨p, rfl, bg, q⟩ := h
    refine ⟨_, (pss_cons (ps_set (i := 1) sc__law_signs.nd rfl (Or.inl rfl) (pe_bm PySem.F.plainAttrs_str PySem.F.slot_str_join PySem.F.type_str_join mt_join pe_str (pa_cons (pe_lc (own := [("k", 5)]) (g := gName 5) (tt := tYes) rfl sc__law_signs.nd (pi_range1 rfl T.n_range (pa_cons (pe_op op_add pe_int (pe_c C__law_draw hr (by decide) rfl (pa_cons (pv 0) (pa_cons pe_int pa_nil)))) pa_nil)) (blkOk_by (N := N__law_signs) (sc := defScope s__law_signs) (by decide +kernel)) (fun _ _ _ _ _ => pg_name (i := 5) sc__law_signs.nd rfl (Or.inl rfl)) (fun _ _ _ _ _ => pts_nil) (fun _ _ _ _ _ => (pe_ix (ixK (K := K) rfl) (pe_lst (pa_cons pe_str (pa_cons pe_str (pa_cons pe_str (pa_cons pe_str pa_nil))))) (pe_c C__law_draw hr (by decide) rfl (pa_cons (pv 0) (pa_cons pe_int pa_nil))) (fun _ _ => rfl)))) pa_nil)))
      (pss_cons (ps_set (i := 2) sc__law_signs.nd rfl (Or.inl rfl) (pe_lst pa_nil))
      (pss_cons (ps_set (i := 3) sc__law_signs.nd rfl (Or.inl rfl) pe_int)
      (pss_cons (ps_while PassesOwn.never (pt_cmpR op_lt (pv 3) (pe_callB call_len_str rfl T.n_len (by rfl) (pa_cons (pv 1) pa_nil)) (nomark _))
      (pss_cons (ps_set (i := 4) sc__law_signs.nd rfl (Or.inl rfl) (pe_op op_add pe_int (pe_callTy call_int1 rfl T.n_int (by rfl) (pa_cons (pe_cmpR op_in_seq (pe_slice C8.sl_txt (pv 1) (po_some (pv 3)) (po_some (pe_op op_add (pv 3) pe_int))) (pe_lst (pa_cons pe_str (pa_cons pe_str (pa_cons pe_str (pa_cons pe_str (pa_cons pe_str (pa_cons pe_str pa_nil))))))) rfl) pa_nil))))
      (pss_cons (ps_expr (pe_bm PySem.F.plainAttrs_list PySem.F.slot_list_append PySem.F.type_list_append mt_append (pv 2) (pa_cons (pe_tup (pa_cons pe_str (pa_cons (pe_slice C8.sl_txt (pv 1) (po_some (pv 3)) (po_some (pe_op op_add (pv 3) (pv 4)))) (pa_cons pe_int pa_nil)))) pa_nil)))
      (pss_one (ps_set (i := 3) sc__law_signs.nd rfl (Or.inl rfl) (pe_op op_add (pv 3) (pv 4)))))))
      (pss_one (ps_ret (pe_c C__law_right hr (by decide) rfl (pa_cons (pe_c C_tokens hr (by decide) rfl (pa_cons (pv 1) pa_nil)) (pa_cons (pv 2) pa_nil))))))))), ?_⟩
    refine ⟨rfl, _, rfl, p, 7, rfl, bg, by decide, by decide +kernel, fun m0 H0 m1 m2 bg k0 => ?_⟩
    obtain ⟨m, rfl⟩ := Int.eq_ofNat_of_zero_le m1
    refine ⟨_, _, rfl, rfl, _, rfl, by omega, by omega, fun D nD => ?_⟩
    have hm : (1 + (m : Int)).toNat = m + 1 := by omega
    refine lcBag (p := p) (fun z => z ∈ opsL) (by show (1 + (m : Int)).toNat ≤ 1000; omega) nD bg (fun _ => rfl) (fun i H1 Q1 hi b1 k1 z => ?_) (fun H1 ws h1 h2 h3 b1 k1 => ?_)
    · refine ⟨by show 4 ≤ sizeLine; decide, fun l nl => ?_⟩
      have npl := b1.ne nl
      refine ⟨_, rfl, p, 4, rfl, (Same_upd nl).bgw b1, by decide, by decide +kernel, fun d H2 d0 d1 b2 k2 => ?_⟩
      obtain ⟨y, hy, ha⟩ := menuS opsL d0 d1
      have hl : H2 l = some (.lst (opsL.map fun z => V.str (SX.S z))) := k2 _ _ upd_same (Ne.symm npl)
      exact ⟨l, _, _, _, rfl, rfl, SqL.of hl, ha, z y H2 hy b2 ((Same_upd nl).keepw.trans k2)⟩
    · have hm2 : (ws.map fun z => V.str (SX.S z)) = (ws.map SX.S).map V.str := by
        rw [List.map_map]
        rfl
      rw [hm2] at h3
      have h1' : ws.length = m + 1 := h1.trans hm
      have hle : ∀ z ∈ ws, z.length ≤ 2 := fun z hz => (show ∀ z ∈ opsL, z.length ≤ 2 by decide) z (h2 z hz)
      have hsum := le_sum hle
      refine ⟨_, _, ws.map SX.S, rfl, rfl, .inl (SqL.of h3), ?_, ?_⟩
      · rw [SX.lens, List.length_map, h1']
        rw [h1'] at hsum
        show _ + (m + 1) * 0 ≤ 16777216
        omega
      have hg := good_ops ws h2
      have hfl := flat_len ws
      show gName 1 (V.str (Txt.join (SX.S []) (ws.map SX.S))) _ _ _
      rw [SX.join_S, joinL_nil]
      have ht : ws.flatten.length ≤ 20 := by
        rw [h1'] at hsum
        omega
      generalize ws.flatten = t at hg ht
      have kk := k0.trans k1
      clear hsum hfl hm2 h3 h2 h1 h1' hle
      refine ⟨Nat.zero_le _, fun l nl => ?_⟩
      have npl := b1.ne nl
      have nlH : H l = none := kfree kk b1 nl
      have b2 := (Same_upd (o := .lst []) nl).bgw b1
      have k2 := kk.trans (Same_upd (o := .lst []) nl).keepw
      have hl2 : upd H1 l (.lst []) l = some (.lst []) := upd_same
      generalize upd H1 l (HO.lst []) = H2 at b2 k2 hl2
      refine ⟨fun m σ H3 => ∃ (a c : List Nat) (ts : List (Str × V)) (as : List V) (y z : Option V), t = a ++ c ∧ Good c ∧ (∀ ts2, Row c ts2 → Row t (ts ++ ts2)) ∧ m = c.length ∧
        σ = [some (V.ref p), some (V.str (SX.S t)), some (V.ref l), some (V.int a.length), y, z] ∧ H3 l = some (.lst as) ∧ Toks H3 as (onLine 1 ts) ∧ (∀ x ∈ ts, KV (x.1, x.2, 1)) ∧ ts.length ≤ a.length ∧ Bg H3 p ∧ Keep p H H3,
        ⟨_, [], t, [], [], none, none, rfl, hg, fun _ h => h, rfl, rfl, hl2, .nil, (by intro _ h; cases h), Nat.le_refl _, b2, k2⟩, ?_⟩
      rintro m3 σ H3 ⟨a, c, ts, as, y, z, rfl, gc, hrow, rfl, rfl, hl3, hk, hkv, htl, b3, k3⟩
      have hlen : (SX.S (a ++ c)).length = a.length + c.length := by rw [SX.S_len, List.length_append]
      have hlt : (SX.S (a ++ c)).length ≤ sizeLine := len_big (by omega)
      refine ⟨_, rfl, _, rfl, _, rfl, hlt, _, _, rfl, rfl, _, rfl, ?_⟩
      rw [hlen]
      by_cases hc : c = []
      · subst hc
        rw [decide_eq_false (by simp)]
        refine iteF ?_
        have hr0 := hrow [] .nil
        simp only [List.append_nil] at hr0 ht
        rw [List.append_nil]
        refine ⟨_, rfl, a, [a], onLine 1 ts ++ [], by rw [List.append_nil], by omega, rfl, List.cons_ne_nil _ _, .cons hr0 .nil, fun r H4 as2 nr hr4 kt s4 => ?_⟩
        rw [List.append_nil] at kt
        refine ⟨_, rfl, r, l, as2, as, onLine 1 ts, rfl, hr4, s4 _ _ hl3, kt, hk.same s4, fun x hx => ?_, by rw [onLine_len]; omega, q H4 (s4.bgw b3) (k3.trans s4.keepw)⟩
        unfold onLine at hx
        obtain ⟨x0, hx0, rfl⟩ := List.mem_map.mp hx
        exact hkv x0 hx0
      · have hc0 : 0 < c.length := List.length_pos_iff.mpr hc
        rw [decide_eq_true (by omega)]
        refine iteT ⟨_, fun σ' H' h => h, ?_⟩
        refine ⟨_, rfl, _, rfl, _, rfl, _, rfl, _, _, rfl, rfl, _, rfl, _, rfl, hlt, by show 6 ≤ sizeLine; decide, fun m nm => ?_⟩
        have npm := b3.ne nm
        have sm := Same_upd (o := .lst [V.str (Str.ofString "<<"), V.str (Str.ofString ">>"), V.str (Str.ofString "=="), V.str (Str.ofString "!="), V.str (Str.ofString "<="), V.str (Str.ofString ">=")]) nm
        refine ⟨m, twosL.map (fun z => V.str (SX.S z)), rfl, .inl (SqL.of upd_same), rfl, flat_strs, .inr ⟨_, rfl, _, _, rfl, rfl, ?_⟩⟩
        have hsl2 : Txt.slice (SX.S (a ++ c)) (some (a.length : Int)) (some ((a.length : Int) + 2)) = SX.S (c.take 2) := slice_take (k := 2) (i := (a.length : Int)) (j := (a.length : Int) + 2) rfl rfl
        have hin : (if false = true then !inV (V.str (Txt.slice (SX.S (a ++ c)) (some (a.length : Int)) (some ((a.length : Int) + 2)))) (twosL.map fun z => V.str (SX.S z)) else inV (V.str (Txt.slice (SX.S (a ++ c)) (some (a.length : Int)) (some ((a.length : Int) + 2)))) (twosL.map fun z => V.str (SX.S z))) = decide (c.take 2 ∈ twosL) := by
          rw [hsl2]
          exact in_strs
        obtain ⟨k, hk1, kpos, kle, khd, kgood⟩ : ∃ k : Nat, (1 + (if decide (c.take 2 ∈ twosL) = true then 1 else 0) : Int) = (k : Int) ∧ 1 ≤ k ∧ k ≤ c.length ∧ Hd (c.take k) (c.drop k) "sign" (.str (SX.S (c.take k))) ∧ Good (c.drop k) := by
          rcases good_cut gc hc with ⟨h1, h2, h3, h4⟩ | ⟨h1, h2, h3⟩
          · exact ⟨2, by rw [decide_eq_true h1]; rfl, by decide, h4, h2, h3⟩
          · exact ⟨1, by rw [decide_eq_false h1]; rfl, by decide, hc0, h2, h3⟩
        show gName 4 (V.int (1 + (if (if false = true then !inV (V.str (Txt.slice (SX.S (a ++ c)) (some (a.length : Int)) (some ((a.length : Int) + 2)))) (twosL.map fun z => V.str (SX.S z)) else inV (V.str (Txt.slice (SX.S (a ++ c)) (some (a.length : Int)) (some ((a.length : Int) + 2)))) (twosL.map fun z => V.str (SX.S z))) = true then 1 else 0))) _ _ _
        rw [hin, hk1]
        have hl4 := sm _ _ hl3
        have b4 := sm.bgw b3
        have k4 := k3.trans sm.keepw
        have hk4 := hk.same sm
        generalize upd H3 m (HO.lst [V.str (Str.ofString "<<"), V.str (Str.ofString ">>"), V.str (Str.ofString "=="), V.str (Str.ofString "!="), V.str (Str.ofString "<="), V.str (Str.ofString ">=")]) = H4 at hl4 b4 k4 hk4
        have hslk : Txt.slice (SX.S (a ++ c)) (some (a.length : Int)) (some ((a.length : Int) + (k : Int))) = SX.S (c.take k) := slice_take rfl rfl
        have hal : as.length < sizeLine := by
          rw [hk.len, onLine_len, sizeLine_eq]
          rw [List.length_append] at ht
          exact Nat.lt_of_le_of_lt (show ts.length ≤ 20 by omega) (by decide)
        refine ⟨_, rfl, .inl ⟨rfl, as, SqL.of hl4⟩, _, rfl, _, rfl, _, rfl, _, rfl, _, rfl, _, _, rfl, rfl, _, rfl, _, rfl, hlt, by show 3 ≤ sizeLine; decide, fun T2 nT2 => ?_⟩
        rw [hslk]
        have sT := Same_upd (o := .tup [.str "sign", .str (SX.S (c.take k)), .int 1]) nT2
        have npT := b4.ne nT2
        refine ⟨l, as, V.ref T2, rfl, rfl, sT _ _ hl4, hal, ?_⟩
        refine ⟨_, rfl, _, rfl, _, _, rfl, rfl, c.length - k, by omega, a ++ c.take k, c.drop k, ts ++ [(Str.ofString "sign", V.str (SX.S (c.take k)))], as ++ [V.ref T2], some (V.int k), z, ?_, kgood, fun ts2 h => ?_, List.length_drop.symm, ?_, upd_same, ?_, fun x hx => ?_, ?_, ?_, ?_⟩
        · rw [List.append_assoc, List.take_append_drop]
        · rw [List.append_assoc]
          refine hrow _ ?_
          have e := Row.tok khd h
          rw [List.take_append_drop] at e
          exact e
        · show [some (V.ref p), some (V.str (SX.S (a ++ c))), some (V.ref l), some (V.int ((a.length : Int) + (k : Int))), some (V.int k), z] = _
          rw [List.length_append, List.length_take, Nat.min_eq_left kle]
          rw [show ((a.length : Int) + (k : Int)) = ((a.length + k : Nat) : Int) by omega]
        · have e : onLine 1 (ts ++ [(Str.ofString "sign", V.str (SX.S (c.take k)))]) = onLine 1 ts ++ [(Str.ofString "sign", V.str (SX.S (c.take k)), 1)] := by
            unfold onLine
            rw [List.map_append]
            rfl
          rw [e]
          exact ((hk4.same sT).app (.cons (d := (Str.ofString "sign", V.str (SX.S (c.take k)), 1)) upd_same .nil)).upd (sT _ _ hl4)
        · rcases List.mem_append.mp hx with hx | hx
          · exact hkv x hx
          · rw [List.mem_singleton.mp hx]
            exact .inr ⟨show Str.ofString "sign" ≠ Str.ofString "number" by decide +kernel, show (Str.ofString "sign").cps.all (fun c => decide (c < 0x110000)) = true by decide +kernel, _, rfl, okS_of fun x hx => good_ascii gc x (List.mem_of_mem_take hx)⟩
        · rw [List.length_append, List.length_append, List.length_take, Nat.min_eq_left kle]
          show ts.length + 1 ≤ a.length + k
          omega
        · obtain ⟨x, okx, e⟩ := sT.bgw b4
          exact ⟨x, okx, (upd_ne npl).trans e⟩
        · exact (k4.trans sT.keepw).put nlH
end
end Pt
set_option Elab.async false
set_option linter.all false
set_option maxRecDepth 100000
set_option maxHeartbeats 4000000
namespace Pt
open PySem PySem.Spec PyProof.Rows L2 Wc
open C8 (Cal pe_c pe_gc)
/-! ### the law -/
theorem Gap.app {a b : List Nat} (h : Gap a) (g : Gap b) (l : a.length + b.length ≤ 40) : Gap (a ++ b) where
  lx := fun n t ds z => by
    rw [List.append_assoc]
    refine h.lx n _ ds (g.lx _ t ds ?_)
    rw [List.count_append] at z
    rw [show n + ((a.count 10 : Nat) : Int) + ((b.count 10 : Nat) : Int) = n + ((a.count 10 + b.count 10 : Nat) : Int) by omega]
    exact z
  hd := fun x e => by
    cases a with
    | nil => exact g.hd x e
    | cons y r => exact h.hd x e
  le := by rw [List.length_append]; exact l
def headL : List (List Nat) := [[], [32], [10], [35, 32, 104, 101, 97, 100, 10], [32, 10, 32, 32]]
theorem head_gap : ∀ z ∈ headL, Gap z := by
  intro z hz
  simp only [headL, List.mem_cons, List.not_mem_nil, or_false] at hz
  rcases hz with rfl | rfl | rfl | rfl | rfl
  · exact Gap.nil
  · exact gap_sp (k := 1) (by decide)
  · exact gap_nl (k := 1) (by decide)
  · exact gap_cm (k := 0) (c := [32, 104, 101, 97, 100]) (by decide) (by decide) (by decide)
  · exact (gap_sp (k := 1) (by decide)).app ((gap_nl (k := 1) (by decide)).app (gap_sp (k := 2) (by decide)) (by decide)) (by decide)
/-- what stands so far -/
structure Pre (tx last : List Nat) (ds : List (Str × V × Int)) : Prop where
  lx : ∀ c es, LexT (1 + (tx.count 10 : Nat)) c es → (last = [] ∨ sep last c) → LexT 1 (tx ++ c) (ds ++ es)
  kv : ∀ x ∈ ds, KV x
theorem sep_head {l c : List Nat} {x : Nat} (hx : c.head? = some x) (h : x = 32 ∨ x = 10 ∨ x = 35) : sep l c := by
  refine ⟨fun y e a z hz => ?_, fun e z hz => ?_⟩
  · rw [hx] at hz
    cases hz
    rcases h with rfl | rfl | rfl <;> decide
  · rw [hx] at hz
    cases hz
    rcases h with rfl | rfl | rfl <;> decide
theorem sep_same {l c d : List Nat} (h : c.head? = d.head?) (s : sep l c) : sep l d := by
  unfold sep cutA at *
  rw [← h]
  exact s
theorem pre_head {z : List Nat} (h : z ∈ headL) : Pre z [] [] where
  lx := fun c es l _ => (head_gap z h).lx 1 c es l
  kv := by intro _ h; cases h
theorem Pre.next {tx last g z : List Nat} {ds : List (Str × V × Int)} {k : Str} {v : V} {n : Int} (h : Pre tx last ds) (hg : Gap g) (s : g = [] → last = [] ∨ sep last z) (ok : TokOK z k v) (hn : n = 1 + (((tx ++ g).count 10 : Nat) : Int)) (kv : KV (k, v, n)) :
    Pre ((tx ++ g) ++ z) z (ds ++ [(k, v, n)]) where
  lx := fun c es l sz => by
    have cz : z.count 10 = 0 := pr_count ok.no
    have sz' : sep z c := sz.resolve_left ok.ne
    rw [List.count_append, cz, Nat.add_zero, ← hn] at l
    have e1 := LexT.tok ok sz' l
    have hn2 : n = (1 + ((tx.count 10 : Nat) : Int)) + ((g.count 10 : Nat) : Int) := by
      rw [hn, List.count_append]
      omega
    have e2 : LexT (1 + ((tx.count 10 : Nat) : Int)) (g ++ (z ++ c)) ((k, v, n) :: es) := hg.lx _ _ _ (by rw [← hn2]; exact e1)
    have e3 := h.lx _ _ e2 ?_
    · have e4 : (tx ++ g) ++ z ++ c = tx ++ (g ++ (z ++ c)) := by simp
      rw [e4, List.append_assoc]
      exact e3
    · cases g with
      | nil =>
        rcases s rfl with s | s
        · exact .inl s
        · refine .inr (sep_same ?_ s)
          cases z with
          | nil => exact absurd rfl ok.ne
          | cons y r => rfl
      | cons y r => exact .inr (sep_head (x := y) rfl (hg.hd y rfl))
  kv := fun x hx => by
    rcases List.mem_append.mp hx with hx | hx
    · exact h.kv x hx
    · rw [List.mem_singleton.mp hx]
      exact kv
/-- an end -/
def Tail (c : List Nat) : Prop := (∀ n : Int, LexT n c []) ∧ (∀ x, c.head? = some x → x = 32 ∨ x = 10 ∨ x = 35) ∧ c.length ≤ 30
theorem tail_text {t : List Nat} (h : t.all prB = true) (hl : t.length ≤ 16) : Tail (35 :: (t ++ [10, 35])) := by
  refine ⟨fun n => ?_, fun x e => ?_, ?_⟩
  · exact LexT.cm h (LexT.cmEnd (c := []) rfl)
  · cases e
    exact .inr (.inr rfl)
  · rw [List.length_cons, List.length_append, List.length_cons, List.length_cons, List.length_nil]
    omega
theorem tail_0 : Tail [] := ⟨fun n => LexT.nil, fun x e => (by cases e), by decide⟩
theorem tail_1 : Tail [32] := ⟨fun n => LexT.nil.sp, fun x e => (by cases e; exact .inl rfl), by decide⟩
theorem tail_2 : Tail [10] := ⟨fun n => LexT.nil.nl, fun x e => (by cases e; exact .inr (.inl rfl)), by decide⟩
theorem tail_3 : Tail [32, 35, 32, 101, 110, 100] := ⟨fun n => (LexT.cmEnd (c := [32, 101, 110, 100]) (by decide)).sp, fun x e => (by cases e; exact .inl rfl), by decide⟩
theorem tail_4 : Tail [35] := ⟨fun n => LexT.cmEnd (c := []) rfl, fun x e => (by cases e; exact .inr (.inr rfl)), by decide⟩
theorem Pre.done {tx last c : List Nat} {ds : List (Str × V × Int)} (h : Pre tx last ds) (t : Tail c) (ne : last = [] ∨ last ≠ []) : LexT 1 (tx ++ c) ds := by
  have e := h.lx c [] (t.1 _) ?_
  · rw [List.append_nil] at e
    exact e
  · refine .inr ?_
    cases c with
    | nil =>
      refine ⟨fun y _ _ x hx => ?_, fun _ x hx => ?_⟩ <;> cases hx
    | cons y r => exact sep_head (x := y) rfl (t.2.1 y rfl)
theorem kv_tok {z : List Nat} {k : Str} {v : V} {n : Int} (ok : TokOK z k v) : KV (k, v, n) := by
  have hd := ok.hd [] ⟨fun y _ _ x hx => (by cases hx), fun _ x hx => (by cases hx)⟩
  cases hd with
  | num h a => exact .inl ⟨rfl, _, rfl⟩
  | word h a =>
    refine .inr ⟨?_, ?_, _, rfl, okS_of fun c hc => al_lt (List.all_eq_true.mp (nameB_ok h).2.2.1 c hc)⟩
    · show kindW z ≠ "number"
      unfold kindW
      split <;> decide +kernel
    · show okS (kindW z)
      unfold kindW okS
      split <;> decide +kernel
  | text h =>
    rename_i t
    refine .inr ⟨show Str.ofString "text" ≠ Str.ofString "number" by decide +kernel, show (Str.ofString "text").cps.all (fun c => decide (c < 0x110000)) = true by decide +kernel, _, rfl, okS_of fun c hc => ?_⟩
    unfold textB at h
    simp only [Bool.and_eq_true] at h
    have := List.all_eq_true.mp h.1 c hc
    unfold prB at this
    simp only [Bool.and_eq_true, decide_eq_true_eq] at this
    omega
  | sign h a =>
    refine .inr ⟨show Str.ofString "sign" ≠ Str.ofString "number" by decide +kernel, show (Str.ofString "sign").cps.all (fun c => decide (c < 0x110000)) = true by decide +kernel, _, rfl, okS_of fun c hc => ?_⟩
    have := List.all_eq_true.mp (marks_pr _ h) c hc
    unfold prB at this
    simp only [Bool.and_eq_true, decide_eq_true_eq] at this
    omega
section
variable {P : Program} {w : World} {K : PySem.W.Frag} {mg : Str → Option Value} {base : Heap}
theorem Toks.keep {p : Addr} {H H' : Hp} {as : List V} {ds : List (Str × V × Int)} (k : Keep p H H') (b : Bg H p) (h : Toks H as ds) : Toks H' as ds := by
  induction h with
  | nil => exact .nil
  | cons h r ih =>
    refine .cons (k _ _ h fun e => ?_) ih
    subst e
    obtain ⟨x, _, e⟩ := b
    have e2 := e.symm.trans h
    cases e2
theorem ifs_join {tc : TT} {ta : TS} {D : Ends} {σ : L2.St} {H : Hp} (Pv : L2.St → Hp → Prop) (h1 : ∀ N : L2.St → Hp → Prop, (∀ σ' H', Pv σ' H' → N σ' H') → tIfS tc ta tNext { D with nx := N } σ H) (h2 : ∀ σ' H', Pv σ' H' → D.nx σ' H') : tIfS tc ta tNext D σ H := h1 _ h2
theorem wide_row : ∀ (n m : Nat), m < 5 → ∃ ts, Row (List.replicate n 32 ++ List.replicate m 120) ts ∧ ts.length = if 0 < m then 1 else 0
  | 0, m, h => by
    by_cases e : 0 < m
    · have hb : nameB (List.replicate m 120) = true := by
        have : ∀ m, m < 5 → 0 < m → nameB (List.replicate m 120) = true := by decide +kernel
        exact this m h e
      have hd := (tok_name hb).hd [] ⟨fun y _ _ x hx => (by cases hx), fun _ x hx => (by cases hx)⟩
      have r := Row.tok hd .nil
      rw [List.append_nil] at r
      exact ⟨_, r, by rw [if_pos e]; rfl⟩
    · obtain rfl : m = 0 := by omega
      exact ⟨[], .nil, rfl⟩
  | n + 1, m, h => by
    obtain ⟨ts, r, l⟩ := wide_row n m h
    exact ⟨ts, r.sp, l⟩
theorem count_S (t : List Nat) : Txt.count (SX.S t) (SX.S [10]) = ((t.count 10 : Nat) : Int) := by
  have e := PyProof.Rows.count_cnt (SX.S t) 10
  refine e.trans ?_
  show PyProof.Rows.cnt 10 t = _
  clear e
  induction t with
  | nil => rfl
  | cons c r ih =>
    rw [PyProof.Rows.cnt_cons, ih, List.count_cons]
    by_cases h : c = 10
    · subst h
      simp
      omega
    · simp [h]
def spLaw (K : PySem.W.Frag) : Sp := fun vs H Q _ => ∃ (a : Addr) (ns : List Int), vs = [.ref a] ∧ SqL K H a (ns.map V.int) ∧ ns.length ≤ 63 ∧ (∀ n ∈ ns, Builtin.Int.intBits n ≤ 1048576) ∧ ∀ H', Q (.bl true) H'
theorem c_law {fd : FuncData} (T : Txt w K mg) (F : FnP K "law" s_law (He.ga K "law") fd) : FnOk P w K mg base CX0 9 (He.ga K "law") fd ["script"] (spLaw K) := by
  have C__law_draw := c_draw (P := P) (w := w) (base := base) T
  have C__law_bag := c_bag (P := P) (w := w) (base := base) T
  have C__law_signs := c_signs (P := P) (w := w) (base := base) T
  have C__law_token := c_tok (P := P) (w := w) (base := base) T
  have C__law_gap := c_gap (P := P) (w := w) (base := base) T
  have C__law_text := c_ltext (P := P) (w := w) (base := base) T
  have C__law_right := c_rightT (P := P) (w := w) (base := base) T
  have C_tokens := c_tokens (P := P) (w := w) (base := base) T
  refine fnD F sc_law (fun vs H Q E h => ?_) (fun cdv A outer s H vs Q E hr h => ?_)
  · obtain ⟨p, ns, rfl, _⟩ := h
    rfl
  · obtain ⟨a, ns, rfl, hS, hlen, hb, q⟩ := h
    refine ⟨_, (pss_cons (ps_for PassesOwn.never rfl (pi_range1 rfl T.n_range (pa_cons (pe_callB (call_max2 rfl) rfl T.n_max (by rfl) (pa_cons pe_int (pa_cons (pe_callB (call_min2 rfl) rfl T.n_min (by rfl) (pa_cons pe_int (pa_cons (pe_callB call_len_seq rfl T.n_len (by rfl) (pa_cons (pv 0) pa_nil)) pa_nil))) pa_nil))) pa_nil)) (pg_name (i := 1) sc_law.nd rfl (Or.inl rfl))
      (pss_cons (ps_set (i := 2) sc_law.nd rfl (Or.inl rfl) (pe_c C__law_bag hr (by decide) rfl (pa_cons (pv 0) (pa_cons (pv 1) pa_nil))))
      (pss_cons (ps_if (pt_not (pt_val (pe_c C__law_signs hr (by decide) rfl (pa_cons (pv 2) pa_nil)))) (pss_one (ps_ret pe_bl)) pss_nil)
      (pss_cons (ps_set (i := 3) sc_law.nd rfl (Or.inl rfl) (pe_ix ix_list (pe_lst (pa_cons pe_str (pa_cons pe_str (pa_cons pe_str (pa_cons pe_str (pa_cons pe_str pa_nil)))))) (pe_c C__law_draw hr (by decide) rfl (pa_cons (pv 2) (pa_cons pe_int pa_nil))) (fun _ _ => rfl)))
      (pss_cons (ps_set (i := 4) sc_law.nd rfl (Or.inl rfl) (pe_lst pa_nil))
      (pss_cons (ps_set (i := 5) sc_law.nd rfl (Or.inl rfl) pe_str)
      (pss_cons (ps_for PassesOwn.never rfl (pi_range1 rfl T.n_range (pa_cons (pe_c C__law_draw hr (by decide) rfl (pa_cons (pv 2) (pa_cons pe_int pa_nil))) pa_nil)) (pg_name (i := 6) sc_law.nd rfl (Or.inl rfl))
      (pss_cons (ps_set (i := 7) sc_law.nd rfl (Or.inl rfl) (pe_c C__law_token hr (by decide) rfl (pa_cons (pv 2) pa_nil)))
      (pss_cons (ps_if (pt_cmpR op_ne (pv 5) pe_str (nomark _)) (pss_one (ps_set (i := 3) sc_law.nd rfl (Or.inl rfl) (pe_op op_add_str (pv 3) (pe_c C__law_gap hr (by decide) rfl (pa_cons (pv 2) (pa_cons (pv 5) (pa_cons (pe_ix ix_tup (pv 7) pe_int (fun _ _ => rfl)) pa_nil))))))) pss_nil)
      (pss_cons (ps_expr (pe_bm PySem.F.plainAttrs_list PySem.F.slot_list_append PySem.F.type_list_append mt_append (pv 4) (pa_cons (pe_tup (pa_cons (pe_ix ix_tup (pv 7) pe_int (fun _ _ => rfl)) (pa_cons (pe_ix ix_tup (pv 7) pe_int (fun _ _ => rfl)) (pa_cons (pe_op op_add pe_int (pe_bm PySem.F.plainAttrs_str PySem.F.slot_str_count PySem.F.type_str_count mt_count (pv 3) (pa_cons pe_str pa_nil))) pa_nil)))) pa_nil)))
      (pss_cons (ps_set (i := 3) sc_law.nd rfl (Or.inl rfl) (pe_op op_add_str (pv 3) (pe_ix ix_tup (pv 7) pe_int (fun _ _ => rfl))))
      (pss_one (ps_set (i := 5) sc_law.nd rfl (Or.inl rfl) (pe_ix ix_tup (pv 7) pe_int (fun _ _ => rfl)))))))))
      (pss_cons (ps_set (i := 3) sc_law.nd rfl (Or.inl rfl) (pe_op op_add_str (pv 3) (pe_ix ix_list (pe_lst (pa_cons pe_str (pa_cons pe_str (pa_cons pe_str (pa_cons pe_str (pa_cons pe_str (pa_cons (pe_op op_add_str (pe_op op_add_str pe_str (pe_c C__law_text hr (by decide) rfl (pa_cons (pv 2) pa_nil))) pe_str) pa_nil))))))) (pe_c C__law_draw hr (by decide) rfl (pa_cons (pv 2) (pa_cons pe_int pa_nil))) (fun _ _ => rfl))))
      (pss_one (ps_if (pt_not (pt_val (pe_c C__law_right hr (by decide) rfl (pa_cons (pe_c C_tokens hr (by decide) rfl (pa_cons (pv 3) pa_nil)) (pa_cons (pv 4) pa_nil))))) (pss_one (ps_ret pe_bl)) pss_nil))))))))))
      (pss_cons (ps_set (i := 8) sc_law.nd rfl (Or.inl rfl) (pe_op op_add_str (pe_op op_mulS pe_str (pe_op op_sub pe_int (pe_op op_mod (pe_callB call_len_seq rfl T.n_len (by rfl) (pa_cons (pv 0) pa_nil)) pe_int))) (pe_op op_mulS pe_str (pe_op op_mod (pe_callB call_len_seq rfl T.n_len (by rfl) (pa_cons (pv 0) pa_nil)) pe_int))))
      (pss_one (ps_ret (pe_and (pe_cmpR (op_eqD hr.units) (pe_c C_tokens hr (by decide) rfl (pa_cons pe_str pa_nil)) (pe_tup pa_nil) (nomark _)) (pe_one (pe_cmpR op_eq (pe_callB call_len_seq rfl T.n_len (by rfl) (pa_cons (pe_c C_tokens hr (by decide) rfl (pa_cons (pv 8) pa_nil)) pa_nil)) (pe_callTy call_int1 rfl T.n_int (by rfl) (pa_cons (pe_cmpR op_gt (pe_op op_mod (pe_callB call_len_seq rfl T.n_len (by rfl) (pa_cons (pv 0) pa_nil)) pe_int) pe_int (nomark _)) pa_nil)) (nomark _)))))))), ?_⟩
    have hl : (ns.map V.int).length = ns.length := List.length_map _
    refine ⟨_, rfl, a, _, rfl, .inl hS, _, _, rfl, _, _, rfl, _, rfl, ?_, ?_, ?_⟩
    · split <;> (try split) <;> omega
    · split <;> (try split) <;> omega
    generalize hJ : Int.toNat _ = J
    have hJ2 : J ≤ 63 := by
      rw [← hJ]
      split <;> (try split) <;> omega
    refine for_range (fun _ σ H0 => ∃ x1 x2 x3 x4 x5 x6 x7 x8, σ = [some (V.ref a), x1, x2, x3, x4, x5, x6, x7, x8] ∧ Same H H0) ⟨_, _, _, _, _, _, _, _, rfl, Same.refl _⟩ ?_ ?_
    · rintro i σ H0 hi ⟨x1, x2, x3, x4, x5, x6, x7, x8, rfl, s0⟩
      refine ⟨_, rfl, _, rfl, a, ns, _, rfl, s0.seq hS, hb, (by omega), (by omega), fun p H1 np bg s1 => ?_⟩
      have nH : H p = none := s0.free np
      refine ⟨_, rfl, p, rfl, bg, fun H2 b2 k2 => ⟨_, rfl, iteF ?_⟩⟩
      have sm2 : Same H H2 := Keep.same (s0.trans s1) nH k2
      refine ⟨by show 5 ≤ sizeLine; decide, fun l nl => ?_⟩
      have npl := b2.ne nl
      refine ⟨_, rfl, p, 5, rfl, (Same_upd nl).bgw b2, by decide, by decide +kernel, fun d H3 d0 d1 b3 k3 => ?_⟩
      obtain ⟨z0, hz0, ha0⟩ := menuS headL d0 d1
      have hl3 : H3 l = some (.lst (headL.map fun z => V.str (SX.S z))) := k3 _ _ upd_same (Ne.symm npl)
      have sm3 : Same H H3 := Keep.same (sm2.trans (Same_upd nl)) nH k3
      refine ⟨l, _, _, _, rfl, rfl, SqL.of hl3, ha0, Nat.zero_le _, fun dl ndl => ?_⟩
      have nHd : H dl = none := sm3.free ndl
      have npd := b3.ne ndl
      have b4 := (Same_upd (o := .lst []) ndl).bgw b3
      have sm4 := sm3.trans (Same_upd (o := .lst []) ndl)
      have hd4 : upd H3 dl (.lst []) dl = some (.lst []) := upd_same
      generalize upd H3 dl (HO.lst []) = H4 at b4 sm4 hd4
      refine ⟨_, rfl, p, 31, rfl, b4, by decide, by decide +kernel, fun jn H5 j0 j1 b5 k5 => ⟨_, rfl, by omega, by omega, ?_⟩⟩
      have sm5 : Same H H5 := Keep.same sm4 nH k5
      have hd5 := k5 _ _ hd4 (Ne.symm npd)
      have hz0l : z0.length ≤ 10 := (show ∀ z ∈ headL, z.length ≤ 10 by decide) z0 hz0
      refine for_range (fun j σ H6 => ∃ (tx last : List Nat) (ds : List (Str × V × Int)) (as : List V) (y6 y7 y8 : Option V), σ = [some (V.ref a), some (V.int (0 + (i : Int))), some (V.ref p), some (V.str (SX.S tx)), some (V.ref dl), some (V.str (SX.S last)), y6, y7, y8] ∧
        Pre tx last ds ∧ (last = [] ∨ ∃ l b, last = l ++ [b] ∧ l.length ≤ 100 ∧ b < 128) ∧ tx.length ≤ 10 + j * 60 ∧ ds.length = j ∧ H6 dl = some (.lst as) ∧ Toks H6 as ds ∧ Bg H6 p ∧ Same H H6)
        ⟨z0, [], [], [], _, _, _, rfl, pre_head hz0, .inl rfl, by omega, rfl, hd5, .nil, b5, sm5⟩ ?_ ?_
      · rintro j σ H6 hj ⟨tx, last, ds, as, y6, y7, y8, rfl, pre, hlast, htx, hds, hd6, hk6, b6, sm6⟩
        have hj31 : j < 31 := by omega
        refine ⟨_, rfl, p, rfl, b6, fun T1 z k v H7 nT hT ok b7 k7 => ?_⟩
        have hd7 := k7 _ _ hd6 (Ne.symm npd)
        have sm7 := Keep.same sm6 nH k7
        have npT : p ≠ T1 := b6.ne nT
        have ndT : dl ≠ T1 := ne_of_none hd6 nT
        obtain ⟨y, r, rfl⟩ : ∃ y r, z = y :: r := by
          cases z with
          | nil => exact absurd rfl ok.ne
          | cons y r => exact ⟨y, r, rfl⟩
        have hasc : ∀ c ∈ y :: r, c < 128 := fun c hc => by
          have := List.all_eq_true.mp ok.no c hc
          unfold prB at this
          simp only [Bool.and_eq_true, decide_eq_true_eq] at this
          omega
        have hzl := ok.le
        dsimp only [gName]
        refine ifs_join (fun σ' H' => ∃ g, σ' = [some (V.ref a), some (V.int (0 + (i : Int))), some (V.ref p), some (V.str (SX.S (tx ++ g))), some (V.ref dl), some (V.str (SX.S last)), some (V.int (0 + (j : Int))), some (V.ref T1), y8] ∧ Gap g ∧ (g = [] → last = [] ∨ sep last (y :: r)) ∧ Bg H' p ∧ Keep p H7 H') (fun N hN => ?_) ?_
        · refine ⟨_, rfl, rfl, _, rfl, ?_⟩
          rcases hlast with rfl | ⟨l0, b0, rfl, hl0, hb0⟩
          · refine ifNo (by rw [decide_eq_true (show V.str (SX.S []) = V.str (Str.ofString "") from rfl)]; rfl) (hN _ _ ⟨[], by rw [List.append_nil]; rfl, Gap.nil, fun _ => .inl rfl, b7, Keep.refl _ _⟩)
          · refine ifYes ?_ ?_
            · rw [decide_eq_false (fun e => ?_)]
              · rfl
              · have e2 : SX.S (l0 ++ [b0]) = SX.S [] := V.str.inj e
                have e3 := SX.S_inj e2
                simp at e3
            refine ⟨_, rfl, _, rfl, _, rfl, _, rfl, T1, _, _, _, rfl, rfl, SqT.of hT, atI_nat (j := 2) rfl, p, l0, r, y, b0, rfl, b7, hl0, by rw [List.length_cons] at hzl; omega, hb0, hasc y List.mem_cons_self, fun g H8 hg hgs b8 k8 => ⟨_, _, rfl, rfl, ?_, ?_⟩⟩
            · rw [SX.S_len, SX.S_len, sizeLine_eq]
              have := hg.le
              exact Nat.le_trans (show tx.length + g.length ≤ 10000 by omega) (by decide)
            · refine hN _ _ ⟨g, ?_, hg, fun e => .inr (hgs e), b8, k8⟩
              rw [← SX.S_cat tx g]
              rfl
        · rintro σ' H8 ⟨g, rfl, hg, hgs, b8, k8⟩
          have hT8 := k8 _ _ hT (Ne.symm npT)
          have hd8 := k8 _ _ hd7 (Ne.symm npd)
          have sm8 := Keep.same sm7 nH k8
          have hk8 : Toks H8 as ds := hk6.keep (k7.trans k8) b6
          have hcnt : Txt.count (SX.S (tx ++ g)) (Str.ofString "\n") = (((tx ++ g).count 10 : Nat) : Int) := count_S _
          have hgl := hg.le
          have hal : as.length < sizeLine := by
            rw [hk6.len, sizeLine_eq]
            exact Nat.lt_of_le_of_lt (show ds.length ≤ 40 by omega) (by decide)
          refine ⟨_, rfl, .inl ⟨rfl, as, SqL.of hd8⟩, _, rfl, T1, _, _, _, rfl, rfl, SqT.of hT8, atI_nat (j := 0) rfl, _, rfl, T1, _, _, _, rfl, rfl, SqT.of hT8, atI_nat (j := 1) rfl, _, rfl, rfl, _, _, rfl, rfl, _, _, rfl, rfl, by show 3 ≤ sizeLine; decide, fun T2 nT2 => ?_⟩
          rw [hcnt]
          have s9 := Same_upd (o := .tup [V.str k, v, V.int (1 + (((tx ++ g).count 10 : Nat) : Int))]) nT2
          refine ⟨dl, as, V.ref T2, rfl, rfl, s9 _ _ hd8, hal, ?_⟩
          have hT9 : upd (upd H8 T2 (.tup [V.str k, v, V.int (1 + (((tx ++ g).count 10 : Nat) : Int))])) dl (.lst (as ++ [V.ref T2])) T1 = some (.tup [.str k, v, .str (SX.S (y :: r))]) := by
            rw [upd_ne (Ne.symm ndT)]
            exact s9 _ _ hT8
          have hd9 : upd (upd H8 T2 (.tup [V.str k, v, V.int (1 + (((tx ++ g).count 10 : Nat) : Int))])) dl (.lst (as ++ [V.ref T2])) dl = some (.lst (as ++ [V.ref T2])) := upd_same
          have b9 : Bg (upd (upd H8 T2 (.tup [V.str k, v, V.int (1 + (((tx ++ g).count 10 : Nat) : Int))])) dl (.lst (as ++ [V.ref T2]))) p := by
            obtain ⟨x, okx, e⟩ := s9.bgw b8
            exact ⟨x, okx, (upd_ne npd).trans e⟩
          have sm9 : Same H (upd (upd H8 T2 (.tup [V.str k, v, V.int (1 + (((tx ++ g).count 10 : Nat) : Int))])) dl (.lst (as ++ [V.ref T2]))) := (sm8.trans s9).put nHd
          have hk9 : Toks (upd (upd H8 T2 (.tup [V.str k, v, V.int (1 + (((tx ++ g).count 10 : Nat) : Int))])) dl (.lst (as ++ [V.ref T2]))) (as ++ [V.ref T2]) (ds ++ [(k, v, 1 + (((tx ++ g).count 10 : Nat) : Int))]) :=
            ((hk8.same s9).app (.cons (d := (k, v, 1 + (((tx ++ g).count 10 : Nat) : Int))) upd_same .nil)).upd (s9 _ _ hd8)
          generalize upd (upd H8 T2 (HO.tup [V.str k, v, V.int (1 + (((tx ++ g).count 10 : Nat) : Int))])) dl (HO.lst (as ++ [V.ref T2])) = H9 at hT9 hd9 b9 sm9 hk9
          refine ⟨_, rfl, _, rfl, T1, _, _, _, rfl, rfl, SqT.of hT9, atI_nat (j := 2) rfl, _, _, rfl, rfl, ?_, ?_⟩
          · rw [SX.S_len, SX.S_len, List.length_append, sizeLine_eq]
            exact Nat.le_trans (show tx.length + g.length + (y :: r).length ≤ 10000 by omega) (by decide)
          refine ⟨_, rfl, T1, _, _, _, rfl, rfl, SqT.of hT9, atI_nat (j := 2) rfl, ?_⟩
          refine ⟨(tx ++ g) ++ (y :: r), y :: r, ds ++ [(k, v, 1 + (((tx ++ g).count 10 : Nat) : Int))], as ++ [V.ref T2], some (V.int (0 + (j : Int))), some (V.ref T1), y8, ?_, pre.next hg hgs ok rfl (kv_tok ok), .inr ?_, ?_, ?_, hd9, hk9, b9, sm9⟩
          · rw [← SX.S_cat (tx ++ g) (y :: r)]
            rfl
          · obtain ⟨l1, b1, e1⟩ : ∃ l1 b1, y :: r = l1 ++ [b1] := ⟨(y :: r).dropLast, (y :: r).getLast (List.cons_ne_nil _ _), (List.dropLast_concat_getLast _).symm⟩
            refine ⟨l1, b1, e1, ?_, hasc b1 (by rw [e1]; simp)⟩
            rw [e1, List.length_append] at hzl
            omega
          · rw [List.length_append, List.length_append]
            omega
          · rw [List.length_append, hds]
            rfl
      · rintro σ H6 ⟨tx, last, ds, as, y6, y7, y8, rfl, pre, hlast, htx, hds, hd6, hk6, b6, sm6⟩
        have hj31 : jn.toNat ≤ 31 := by omega
        refine ⟨_, rfl, _, rfl, p, rfl, b6, fun t H7 ht b7 k7 => ?_⟩
        have hd7 := k7 _ _ hd6 (Ne.symm npd)
        have sm7 := Keep.same sm6 nH k7
        have hk7 := hk6.keep k7 b6
        have ht2 : t.all prB = true ∧ t.length ≤ 16 := by
          unfold textB at ht
          simp only [Bool.and_eq_true, decide_eq_true_eq] at ht
          exact ⟨ht.1, ht.2.2.1⟩
        have e1 : Str.ofString "#" ++ SX.S t = SX.S ([35] ++ t) := SX.S_cat [35] t
        refine ⟨_, _, rfl, rfl, ?_, _, _, rfl, rfl, ?_, by show 6 ≤ sizeLine; decide, ?_⟩
        · rw [SX.S_len, sizeLine_eq]
          exact Nat.le_trans (show 1 + t.length ≤ 10000 by omega) (by decide)
        · rw [e1, SX.S_len, List.length_append, sizeLine_eq]
          exact Nat.le_trans (show 1 + t.length + 2 ≤ 10000 by omega) (by decide)
        have e2 : Str.ofString "#" ++ SX.S t ++ Str.ofString "\n#" = SX.S (35 :: (t ++ [10, 35])) := by
          rw [e1]
          exact SX.S_cat ([35] ++ t) [10, 35]
        rw [e2]
        intro l6 nl6
        have s8 := Same_upd (o := .lst ([[], [32], [10], [32, 35, 32, 101, 110, 100], [35], 35 :: (t ++ [10, 35])].map fun z => V.str (SX.S z))) nl6
        have npl6 := b7.ne nl6
        refine ⟨_, rfl, p, 6, rfl, s8.bgw b7, by decide, by decide +kernel, fun d2 H9 e0 e1 b9 k9 => ?_⟩
        obtain ⟨z, hz, ha⟩ := menuS [[], [32], [10], [32, 35, 32, 101, 110, 100], [35], 35 :: (t ++ [10, 35])] e0 e1
        have hl9 : H9 l6 = some (.lst ([[], [32], [10], [32, 35, 32, 101, 110, 100], [35], 35 :: (t ++ [10, 35])].map fun z => V.str (SX.S z))) := k9 _ _ upd_same (Ne.symm npl6)
        have htail : Tail z := by
          simp only [List.mem_cons, List.not_mem_nil, or_false] at hz
          rcases hz with rfl | rfl | rfl | rfl | rfl | rfl
          · exact tail_0
          · exact tail_1
          · exact tail_2
          · exact tail_3
          · exact tail_4
          · exact tail_text ht2.1 ht2.2
        have kk : Keep p H7 H9 := s8.keepw.trans k9
        have hd9 := kk _ _ hd7 (Ne.symm npd)
        have sm9 := Keep.same sm7 nH kk
        have hk9 := hk7.keep kk b7
        have hzl := htail.2.2
        have htl : (tx ++ z).length ≤ 3000 := by
          rw [List.length_append]
          omega
        refine ⟨l6, _, _, _, rfl, rfl, SqL.of hl9, ha, _, _, rfl, rfl, ?_, ?_⟩
        · rw [SX.S_len, SX.S_len, sizeLine_eq]
          rw [List.length_append] at htl
          exact Nat.le_trans htl (by decide)
        dsimp only [gName]
        rw [SX.S_cat]
        obtain ⟨r0, rs0, er, hlex⟩ := pre.done htail (by by_cases h : last = [] <;> simp [h])
        refine ⟨_, rfl, tx ++ z, r0 :: rs0, ds, rfl, by omega, er, List.cons_ne_nil _ _, hlex, fun r1 H10 as2 nr hr1 kt s10 => ?_⟩
        refine ⟨_, rfl, r1, dl, as2, as, ds, rfl, hr1, s10 _ _ hd9, kt, hk9.same s10, pre.kv, by omega, _, rfl, iteF ?_⟩
        exact ⟨_, _, _, _, _, _, _, _, rfl, sm9.trans s10⟩
    · rintro σ H0 ⟨x1, x2, x3, x4, x5, x6, x7, x8, rfl, s0⟩
      have hml : (((ns.map V.int).length : Nat) : Int) % 5 = ((ns.length % 5 : Nat) : Int) := by
        rw [hl]
        omega
      have hm5 : ns.length % 5 < 5 := Nat.mod_lt _ (by decide)
      generalize ns.length % 5 = m at hml hm5
      have hsub : (20000 : Int) - ((m : Nat) : Int) = ((20000 - m : Nat) : Int) := by omega
      refine ⟨_, rfl, a, _, rfl, .inl (s0.seq hS), _, _, rfl, rfl, (show (0 : Int) < 5 by decide), _, _, rfl, rfl, ?_⟩
      show ∃ x n, V.str (Str.ofString " ") = V.str x ∧ V.int (20000 - (((ns.map V.int).length : Nat) : Int) % 5) = V.int n ∧ MulOk x n ∧ _
      rw [hml, hsub]
      refine ⟨SX.S [32], _, rfl, rfl, mulOk (by show 1 * (20000 - m) ≤ 1000000; omega) (by omega), ?_⟩
      rw [mul_S, rep1]
      refine ⟨_, rfl, a, _, rfl, .inl (s0.seq hS), _, _, rfl, rfl, (show (0 : Int) < 5 by decide), ?_⟩
      show ∃ x n, V.str (Str.ofString "x") = V.str x ∧ V.int ((((ns.map V.int).length : Nat) : Int) % 5) = V.int n ∧ MulOk x n ∧ _
      rw [hml]
      refine ⟨SX.S [120], _, rfl, rfl, mulOk (by show 1 * m ≤ 1000000; omega) (by omega), ?_⟩
      rw [mul_S, rep1]
      refine ⟨_, _, rfl, rfl, ?_, ?_⟩
      · rw [SX.S_len, SX.S_len, List.length_replicate, List.length_replicate, sizeLine_eq]
        exact Nat.le_trans (show 20000 - m + m ≤ 20000 by omega) (by decide)
      dsimp only [gName]
      rw [SX.S_cat]
      have hrow : ∃ ts, Row (List.replicate (20000 - m) 32 ++ List.replicate m 120) ts ∧ ts.length = if 0 < m then 1 else 0 := wide_row _ _ (by omega)
      obtain ⟨ts, hrow, hts⟩ := hrow
      refine ⟨[], [[]], [], rfl, by decide, rfl, List.cons_ne_nil _ _, Lex.cons (ts := []) .nil .nil, fun r1 H1 as1 n1 hr1 k1 s1 => ?_⟩
      cases k1
      refine ⟨Nat.zero_le _, fun r2 n2 => ?_⟩
      have s2 := Same_upd (o := .tup []) n2
      refine ⟨.tuple [], .tuple [], Dp.tup (SqT.of (s2 _ _ hr1)) .nil, Dp.tup (SqT.of upd_same) .nil, by decide +kernel, by decide +kernel, _, rfl, ifYes (by decide +kernel) ?_⟩
      refine ⟨_, rfl, List.replicate (20000 - m) 32 ++ List.replicate m 120, [List.replicate (20000 - m) 32 ++ List.replicate m 120], onLine 1 ts ++ [], rfl, ?_, rfl, List.cons_ne_nil _ _, Lex.cons hrow .nil, fun r3 H3 as3 n3 hr3 k3 s3 => ?_⟩
      · rw [List.length_append, List.length_replicate, List.length_replicate]
        omega
      rw [List.append_nil] at k3
      have hla : as3.length = if 0 < m then 1 else 0 := by rw [k3.len, onLine_len, hts]
      refine ⟨r3, as3, rfl, .inr (SqT.of hr3), _, rfl, a, ns.map V.int, rfl, .inl ?_, _, _, rfl, rfl, (show (0 : Int) < 5 by decide), _, _, rfl, rfl, .inr ⟨_, rfl, rfl, ?_⟩⟩
      · exact ((s0.trans s1).trans s2 |>.trans s3).seq hS
      have hfin : decide (V.int (as3.length : Int) = V.int (if decide ((0 : Int) < (((ns.map V.int).length : Nat) : Int) % 5) = true then 1 else 0)) = true := by
        rw [hml, hla]
        by_cases e : 0 < m
        · rw [if_pos e, decide_eq_true (show (0 : Int) < ((m : Nat) : Int) by omega)]
          rfl
        · rw [if_neg e, decide_eq_false (show ¬ (0 : Int) < ((m : Nat) : Int) by omega)]
          rfl
      show Q (.bl (decide (V.int (as3.length : Int) = V.int (if decide ((0 : Int) < (((ns.map V.int).length : Nat) : Int) % 5) = true then 1 else 0)))) H3
      rw [hfin]
      exact q _
end
def dd__is_shown : He.DefD := ⟨("_is_shown", none), "_is_shown", "_is_shown", defArgs s__is_shown, defBody s__is_shown, defScope s__is_shown, [], []⟩
def dd_is_printable : He.DefD := ⟨("is_printable", none), "is_printable", "is_printable", defArgs s_is_printable, defBody s_is_printable, defScope s_is_printable, [], []⟩
def dd_is_name : He.DefD := ⟨("is_name", none), "is_name", "is_name", defArgs s_is_name, defBody s_is_name, defScope s_is_name, [], []⟩
def dd_is_text : He.DefD := ⟨("is_text", none), "is_text", "is_text", defArgs s_is_text, defBody s_is_text, defScope s_is_text, [], []⟩
def dd_tokens : He.DefD := ⟨("tokens", none), "tokens", "tokens", defArgs s_tokens, defBody s_tokens, defScope s_tokens, [], []⟩
def dd__row_tokens : He.DefD := ⟨("_row_tokens", none), "_row_tokens", "_row_tokens", defArgs s__row_tokens, defBody s__row_tokens, defScope s__row_tokens, [], []⟩
def dd__token : He.DefD := ⟨("_token", none), "_token", "_token", defArgs s__token, defBody s__token, defScope s__token, [], []⟩
def dd__word : He.DefD := ⟨("_word", none), "_word", "_word", defArgs s__word, defBody s__word, defScope s__word, [], []⟩
def dd__number : He.DefD := ⟨("_number", none), "_number", "_number", defArgs s__number, defBody s__number, defScope s__number, [], []⟩
def dd__text : He.DefD := ⟨("_text", none), "_text", "_text", defArgs s__text, defBody s__text, defScope s__text, [], []⟩
def dd__law_bag : He.DefD := ⟨("_law_bag", none), "_law_bag", "_law_bag", defArgs s__law_bag, defBody s__law_bag, defScope s__law_bag, [], []⟩
def dd__law_draw : He.DefD := ⟨("_law_draw", none), "_law_draw", "_law_draw", defArgs s__law_draw, defBody s__law_draw, defScope s__law_draw, [], []⟩
def dd__law_letters : He.DefD := ⟨("_law_letters", none), "_law_letters", "_law_letters", defArgs s__law_letters, defBody s__law_letters, defScope s__law_letters, [], []⟩
def dd__law_text : He.DefD := ⟨("_law_text", none), "_law_text", "_law_text", defArgs s__law_text, defBody s__law_text, defScope s__law_text, [], []⟩
def dd__law_keys : He.DefD := ⟨("_law_keys", none), "_law_keys", "_law_keys", defArgs s__law_keys, defBody s__law_keys, defScope s__law_keys, [], []⟩
def dd__law_name : He.DefD := ⟨("_law_name", none), "_law_name", "_law_name", defArgs s__law_name, defBody s__law_name, defScope s__law_name, [], []⟩
def dd__law_token : He.DefD := ⟨("_law_token", none), "_law_token", "_law_token", defArgs s__law_token, defBody s__law_token, defScope s__law_token, [], []⟩
def dd__law_is_word : He.DefD := ⟨("_law_is_word", none), "_law_is_word", "_law_is_word", defArgs s__law_is_word, defBody s__law_is_word, defScope s__law_is_word, [], []⟩
def dd__law_gap : He.DefD := ⟨("_law_gap", none), "_law_gap", "_law_gap", defArgs s__law_gap, defBody s__law_gap, defScope s__law_gap, [], []⟩
def dd__law_right : He.DefD := ⟨("_law_right", none), "_law_right", "_law_right", defArgs s__law_right, defBody s__law_right, defScope s__law_right, [], []⟩
def dd__law_signs : He.DefD := ⟨("_law_signs", none), "_law_signs", "_law_signs", defArgs s__law_signs, defBody s__law_signs, defScope s__law_signs, [], []⟩
def dd_law : He.DefD := ⟨("law", none), "law", "law", defArgs s_law, defBody s_law, defScope s_law, [], []⟩
def fns : List He.DefD := [dd__is_shown, dd_is_printable, dd_is_name, dd_is_text, dd_tokens, dd__row_tokens, dd__token, dd__word, dd__number, dd__text, dd__law_bag, dd__law_draw, dd__law_letters, dd__law_text, dd__law_keys, dd__law_name, dd__law_token, dd__law_is_word, dd__law_gap, dd__law_right, dd__law_signs, dd_law]
def facts : List He.Fa := [.glo "_is_shown", .glo "is_printable", .glo "is_name", .glo "is_text", .glo "tokens", .glo "_row_tokens", .glo "_token", .glo "_word", .glo "_number", .glo "_text", .glo "_law_bag", .glo "_law_draw", .glo "_law_letters", .glo "_law_text", .glo "_law_keys", .glo "_law_name", .glo "_law_token", .glo "_law_is_word", .glo "_law_gap", .glo "_law_right", .glo "_law_signs", .glo "law", .free "all", .free "bool", .free "enumerate", .free "int", .free "isinstance", .free "len", .free "max", .free "min", .free "ord", .free "range", .free "str", .free "tuple", .int "MOST_SOURCE" (20000), .int "MOST_NAME" (20), .int "MOST_TEXT" (16), .int "MOST_INT" (32767), .glo "KEYWORDS", .glo "MARKS", .glo "CardError", .glo "BadSource"]
def tabs : List He.Tab := []
def ex (K : PySem.W.Frag) : Bool := He.tupB K "KEYWORDS" v_KEYWORDS && (He.tupB K "MARKS" v_MARKS && (true))
theorem ex_0 {K : PySem.W.Frag} (h : ex K = true) : He.tupB K "KEYWORDS" v_KEYWORDS = true := (He.ba h).1
theorem ex_1 {K : PySem.W.Frag} (h : ex K = true) : He.tupB K "MARKS" v_MARKS = true := (He.ba (He.ba h).2).1
theorem txt_of {w : World} {K : PySem.W.Frag} {h : Heap} {mg : Str → Option Value} (X : K.In h) (G : h.Ns mainGlobals mg) (c : He.SaysX facts fns tabs [] ex w h K) : Txt w K mg where
  d__is_shown := c.t.d.def_ 0 (d := dd__is_shown) rfl
  g__is_shown := He.glo_ok X G (c.t.d.fact 0 (f := .glo "_is_shown") rfl)
  d_is_printable := c.t.d.def_ 1 (d := dd_is_printable) rfl
  g_is_printable := He.glo_ok X G (c.t.d.fact 1 (f := .glo "is_printable") rfl)
  d_is_name := c.t.d.def_ 2 (d := dd_is_name) rfl
  g_is_name := He.glo_ok X G (c.t.d.fact 2 (f := .glo "is_name") rfl)
  d_is_text := c.t.d.def_ 3 (d := dd_is_text) rfl
  g_is_text := He.glo_ok X G (c.t.d.fact 3 (f := .glo "is_text") rfl)
  d_tokens := c.t.d.def_ 4 (d := dd_tokens) rfl
  g_tokens := He.glo_ok X G (c.t.d.fact 4 (f := .glo "tokens") rfl)
  d__row_tokens := c.t.d.def_ 5 (d := dd__row_tokens) rfl
  g__row_tokens := He.glo_ok X G (c.t.d.fact 5 (f := .glo "_row_tokens") rfl)
  d__token := c.t.d.def_ 6 (d := dd__token) rfl
  g__token := He.glo_ok X G (c.t.d.fact 6 (f := .glo "_token") rfl)
  d__word := c.t.d.def_ 7 (d := dd__word) rfl
  g__word := He.glo_ok X G (c.t.d.fact 7 (f := .glo "_word") rfl)
  d__number := c.t.d.def_ 8 (d := dd__number) rfl
  g__number := He.glo_ok X G (c.t.d.fact 8 (f := .glo "_number") rfl)
  d__text := c.t.d.def_ 9 (d := dd__text) rfl
  g__text := He.glo_ok X G (c.t.d.fact 9 (f := .glo "_text") rfl)
  d__law_bag := c.t.d.def_ 10 (d := dd__law_bag) rfl
  g__law_bag := He.glo_ok X G (c.t.d.fact 10 (f := .glo "_law_bag") rfl)
  d__law_draw := c.t.d.def_ 11 (d := dd__law_draw) rfl
  g__law_draw := He.glo_ok X G (c.t.d.fact 11 (f := .glo "_law_draw") rfl)
  d__law_letters := c.t.d.def_ 12 (d := dd__law_letters) rfl
  g__law_letters := He.glo_ok X G (c.t.d.fact 12 (f := .glo "_law_letters") rfl)
  d__law_text := c.t.d.def_ 13 (d := dd__law_text) rfl
  g__law_text := He.glo_ok X G (c.t.d.fact 13 (f := .glo "_law_text") rfl)
  d__law_keys := c.t.d.def_ 14 (d := dd__law_keys) rfl
  g__law_keys := He.glo_ok X G (c.t.d.fact 14 (f := .glo "_law_keys") rfl)
  d__law_name := c.t.d.def_ 15 (d := dd__law_name) rfl
  g__law_name := He.glo_ok X G (c.t.d.fact 15 (f := .glo "_law_name") rfl)
  d__law_token := c.t.d.def_ 16 (d := dd__law_token) rfl
  g__law_token := He.glo_ok X G (c.t.d.fact 16 (f := .glo "_law_token") rfl)
  d__law_is_word := c.t.d.def_ 17 (d := dd__law_is_word) rfl
  g__law_is_word := He.glo_ok X G (c.t.d.fact 17 (f := .glo "_law_is_word") rfl)
  d__law_gap := c.t.d.def_ 18 (d := dd__law_gap) rfl
  g__law_gap := He.glo_ok X G (c.t.d.fact 18 (f := .glo "_law_gap") rfl)
  d__law_right := c.t.d.def_ 19 (d := dd__law_right) rfl
  g__law_right := He.glo_ok X G (c.t.d.fact 19 (f := .glo "_law_right") rfl)
  d__law_signs := c.t.d.def_ 20 (d := dd__law_signs) rfl
  g__law_signs := He.glo_ok X G (c.t.d.fact 20 (f := .glo "_law_signs") rfl)
  d_law := c.t.d.def_ 21 (d := dd_law) rfl
  g_law := He.glo_ok X G (c.t.d.fact 21 (f := .glo "law") rfl)
  n_all := He.free_ok X G (c.t.d.fact 22 (f := .free "all") rfl)
  n_bool := He.free_ok X G (c.t.d.fact 23 (f := .free "bool") rfl)
  n_enumerate := He.free_ok X G (c.t.d.fact 24 (f := .free "enumerate") rfl)
  n_int := He.free_ok X G (c.t.d.fact 25 (f := .free "int") rfl)
  n_isinstance := He.free_ok X G (c.t.d.fact 26 (f := .free "isinstance") rfl)
  n_len := He.free_ok X G (c.t.d.fact 27 (f := .free "len") rfl)
  n_max := He.free_ok X G (c.t.d.fact 28 (f := .free "max") rfl)
  n_min := He.free_ok X G (c.t.d.fact 29 (f := .free "min") rfl)
  n_ord := He.free_ok X G (c.t.d.fact 30 (f := .free "ord") rfl)
  n_range := He.free_ok X G (c.t.d.fact 31 (f := .free "range") rfl)
  n_str := He.free_ok X G (c.t.d.fact 32 (f := .free "str") rfl)
  n_tuple := He.free_ok X G (c.t.d.fact 33 (f := .free "tuple") rfl)
  c_MOST_SOURCE := int_rel (He.int_ok X G (c.t.d.fact 34 (f := .int "MOST_SOURCE" (20000)) rfl))
  c_MOST_NAME := int_rel (He.int_ok X G (c.t.d.fact 35 (f := .int "MOST_NAME" (20)) rfl))
  c_MOST_TEXT := int_rel (He.int_ok X G (c.t.d.fact 36 (f := .int "MOST_TEXT" (16)) rfl))
  c_MOST_INT := int_rel (He.int_ok X G (c.t.d.fact 37 (f := .int "MOST_INT" (32767)) rfl))
  g_KEYWORDS := He.glo_ok X G (c.t.d.fact 38 (f := .glo "KEYWORDS") rfl)
  t_KEYWORDS := He.tupB_ok (ex_0 c.more)
  g_MARKS := He.glo_ok X G (c.t.d.fact 39 (f := .glo "MARKS") rfl)
  t_MARKS := He.tupB_ok (ex_1 c.more)
  g_CardError := He.glo_ok X G (c.t.d.fact 40 (f := .glo "CardError") rfl)
  g_BadSource := He.glo_ok X G (c.t.d.fact 41 (f := .glo "BadSource") rfl)
abbrev loose : List Str := (["CardError", "BadSource", "_is_shown", "is_printable", "is_name", "is_text", "tokens", "_row_tokens", "_token", "_word", "_number", "_text", "_law_bag", "_law_draw", "_law_letters", "_law_text", "_law_keys", "_law_name", "_law_token", "_law_is_word", "_law_gap", "_law_right", "_law_signs", "MOST_SOURCE", "MOST_NAME", "MOST_TEXT", "MOST_INT", "KEYWORDS", "MARKS", "__name__"] : List Str)
abbrev Rr : PySem.W.OpenRow := PySem.W.OpenLaw.row PySem.Challenge.rw_warycard_k05_tokens
abbrev hk : PySem.W.Hook := He.hookX 4 facts fns tabs [] ex
def ob (s : PySem.W.SharedT) : He.AlX := He.obsX 4 facts fns tabs [] ex (HandSHeadRun.getT s)
theorem ob_eq (s : PySem.W.SharedT) : ob s = hk.obs s.abs := He.obsX_eq (HandSHeadRun.getT_eq s)
theorem run (w : World) : HandSHeadRun.RunEq Rr (PySem.W.view Rr.prog [33]) hk ob 6000 loose w := by
  refine PySem.W.byRow2 "special-get-raises" (P := fun w => HandSHeadRun.RunEq Rr (PySem.W.view Rr.prog [33]) hk ob 6000 loose w) (fun w => ?_) (fun w => ?_) w
  · intro os
    kernel_rfl
  · intro os
    kernel_rfl

theorem law_of {P : Program} {w : World} {K : PySem.W.Frag} {mg : Str → Option Value} {fa : Addr} (T : Txt w K mg) (h : mg ("law" : Str) = some (.ref fa)) :
    ∃ (fd : FuncData) (sp : Sp), (∀ (s : Shared) (u : Value), BindsTo s fd ⟨[u], []⟩ [("script", u)]) ∧
      (∀ (H : Hp) (a : Addr) (ns : List Int), ns.length ≤ 63 → (∀ z ∈ ns, Builtin.Int.intBits z ≤ 1048576) → SqL K H a (ns.map V.int) → sp [.ref a] H (fun v _ => v = .bl true) fun _ _ _ => False) ∧
      ∀ base : Heap, K.In base → base.Ns mainGlobals mg → FnOk P w K mg base CX0 9 fa fd ["script"] sp :=
  lawD T.d_law T.g_law h (fun base fd F => c_law T F) (fun _ _ _ _ _ _ us hl => match us, hl with | [_], _ => rfl) fun H a ns hl hb hS => ⟨a, ns, rfl, hS, hl, hb, fun _ => rfl⟩
end Pt
open PySem PySem.W PySem.Calls PyProof.Rows
set_option maxRecDepth 100000 in
set_option maxHeartbeats 0 in
theorem PySem.Challenge.cw_warycard_k05_tokens_holds : PySem.Challenge.rw_warycard_k05_tokens.Holds := by
  w_on; o_law
  refine HandSHeadRun.head_any (r := OpenLaw.row PySem.Challenge.rw_warycard_k05_tokens) (q := view (OpenLaw.row PySem.Challenge.rw_warycard_k05_tokens).prog [33]) (H := Pt.hk) (ob := Pt.ob) (M := 6000) (loose := Pt.loose) (d := HandSHeadRun.topDef (OpenLaw.row PySem.Challenge.rw_warycard_k05_tokens).prog 33) (kwd := []) Pt.ob_eq
    (by kernel_rfl) (fun s => by kernel_rfl) Pt.run (by kernel_rfl) (by kernel_rfl) (by kernel_rfl) (by rfl) (by first | assumption | decide +kernel) (by decide +kernel) ⟨rfl, rfl, rfl, rfl, rfl, by decide +kernel⟩ ?hw ?hc
  case hw => w_witness2
  case hc =>
    refine Wc.walk_bits (l := PySem.Challenge.rw_warycard_k05_tokens) (n := 63) (k := 9) (x := "script") rfl (by decide) (by kernel_rfl) ⟨rfl, by decide, by decide⟩ ?F
    intro w mg fa h Y G hmg0
    obtain ⟨K, KX, c⟩ := Y
    have hmg : mg ("law" : PySem.Str) = some (.ref fa) := by
      have e : (HandSHeadRun.topDef (OpenLaw.row PySem.Challenge.rw_warycard_k05_tokens).prog 33).name = ("law" : PySem.Str) := by kernel_rfl
      rw [← e]
      exact hmg0
    exact ⟨K, KX, Pt.law_of (w := w) (Pt.txt_of KX G c) hmg⟩
