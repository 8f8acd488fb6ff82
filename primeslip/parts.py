"""Parts: what a row stands on, slips that are cut out of others, slips laid together."""

from primeslip.errors import NoRow
from primeslip.rows import needs


def stands_on(slip, number):
    """The numbers of the rows on which the row of a number stands, rising."""
    rows = {row[0]: row for row in slip}
    if number not in rows:
        raise NoRow("there is no row of the number")
    found = {}
    asked = needs(rows[number])
    while len(asked) > 0:
        q = asked.pop()
        # In a slip that is not let by a row may be missing, or stand on itself.
        if q in rows and q not in found:
            found[q] = True
            asked.extend(needs(rows[q]))
    return sorted(found)


def cut(slip, number):
    """The row of a number and those on which it stands, in order."""
    kept = stands_on(slip, number)
    return tuple([row for row in slip if row[0] == number or row[0] in kept])


def merged(slips):
    """All rows of slips, by number; of several of one number that of the slip told first."""
    rows = {}
    for slip in slips:
        for row in slip:
            if row[0] not in rows:
                rows[row[0]] = row
    return tuple([rows[number] for number in sorted(rows)])
